/- MacBegins: the law's walk. -/
import Derived.Test.YtmedlgnllgldiaaDoorMc7
import Derived.Deep.QuietTactic
import Derived.BigQuiet
namespace Go.Proofs.YtmedlgnllgldiaaDoor
open Go.RowKit

theorem wf_u16 {a : Int} (h : (Lit.int .u16 a).wf = true) : 0 ≤ a ∧ a ≤ 65535 := by simpa [Lit.wf, IntKind.min, IntKind.max, IntKind.signed, IntKind.bits] using h
theorem exB_begins (key info : List UInt8) (n k : Nat) (hk : k ≤ n) : (exB key info n).extract 0 k = exB key info k := by
  apply ByteArray.ext
  apply Array.ext'
  rw [ext_toList, exB, exB, List.drop_zero, Nat.sub_zero]
  show List.take k (List.take n _) = List.take k _
  rw [List.take_take, Nat.min_eq_left hk]

set_option maxHeartbeats 2000000 in
set_option maxRecDepth 100000 in
theorem macBegins_walk (key info : ByteArray) (n m : Int) (_ : key.size ≤ maxLen) (_ : info.size ≤ maxLen) (hn : (Lit.int .u16 n).wf = true) (hm : (Lit.int .u16 m).wf = true) (W : World) (htab : Tab W) :
    Calls Tryd.prog 7 #[.string key, .string info, .int .u16 n, .int .u16 m] W fun e w' => e = .returned (.bool true) ∧ Below W.heap.size W w' := by
  have HA := Lib.hid (awake3_any W htab)
  have HT := Lib.hid htab
  clear htab
  have HL := Lib.hid (fun w => large2 w key info)
  have HLA := Lib.hid (largeB_all [key, info])
  generalize largeB [key, info] = L at *
  obtain ⟨hn0, hn1⟩ := wf_u16 hn
  obtain ⟨hm0, hm1⟩ := wf_u16 hm
  clear hn hm
  obtain ⟨n0, rfl⟩ : ∃ n0 : Nat, n = (n0 : Int) := ⟨n.toNat, by omega⟩
  obtain ⟨m0, rfl⟩ : ∃ m0 : Nat, m = (m0 : Int) := ⟨m.toNat, by omega⟩
  cases L
  · have h1 := HLA.out rfl key (by simp)
    have h2 := HLA.out rfl info (by simp)
    have CE := fun (k : Nat) (_ : k ≤ 8160) w ht => expand_any key info (k : Int) (by omega) (by omega) w ht
    have hex : ∀ k : Nat, k ≤ 8160 → exR key.data.toList info.data.toList (k : Int) = .tuple #[.string (exB key.data.toList info.data.toList k), .int .i64 0] := fun k hk => by
      rw [exR, if_neg (by omega), Int.toNat_natCast]
    obtain ⟨N, hN⟩ : ∃ N, N = n0 % 401 := ⟨_, rfl⟩
    obtain ⟨M, hM⟩ : ∃ M, M = m0 % 401 := ⟨_, rfl⟩
    have hN4 : N ≤ 400 := by omega
    have hM4 : M ≤ 400 := by omega
    have r1 : (n0 : Int).tmod 401 = (N : Int) := by rw [Int.tmod_eq_emod_of_nonneg (by omega)]; omega
    have r2 : (m0 : Int).tmod 401 = (M : Int) := by rw [Int.tmod_eq_emod_of_nonneg (by omega)]; omega
    have CA := fun w ht => CE N (by omega) w ht
    have CB := fun w ht => CE M (by omega) w ht
    rw [hex N (by omega)] at CA
    rw [hex M (by omega)] at CB
    have hA := exB_size key.data.toList info.data.toList N (by omega)
    have hB := exB_size key.data.toList info.data.toList M (by omega)
    have ha := exB_begins key.data.toList info.data.toList N (min N M) (by omega)
    have hb := exB_begins key.data.toList info.data.toList M (min N M) (by omega)
    generalize exB key.data.toList info.data.toList N = A at *
    generalize exB key.data.toList info.data.toList M = B at *
    generalize exB key.data.toList info.data.toList (min N M) = Cm at *
    have HCA := Lib.hid CA
    have HCB := Lib.hid CB
    have HAB := Lib.hid (And.intro ha hb)
    clear CE hex hN hM CA CB ha hb h1 h2
    go_enter Tryd.func7, Tryd.ntmps7
    go_wp2_with (first
      | (go_at_call 11; (with_reducible refine HA.out.mono ?_); rintro e w1 ⟨rfl, hb1⟩)
      | (go_at_call 12; (with_reducible refine (HL.out _).mono ?_); rintro e w2 ⟨rfl, rfl⟩))
    have HB1 := Lib.hid (hb1.alloc hb1.size (.cells #[.string key, .string info] 9))
    have HT1 := Lib.hid ((HT.out.next hb1).alloc (.cells #[.string key, .string info] 9))
    generalize (w1.alloc (.cells #[.string key, .string info] 9)) = w2 at *
    clear hb1
    refine (HCA.out _ HT1.out).mono ?_
    rintro e w3 ⟨rfl, hb⟩
    have HT3 := Lib.hid (HT1.out.next hb)
    have HB3 := Lib.hid (HB1.out.trans (hb.mono HB1.out.size))
    clear hb
    go_wp2_with fail
    refine (HCB.out _ HT3.out).mono ?_
    rintro e w4 ⟨rfl, hb⟩
    have HB4 := Lib.hid (HB3.out.trans (hb.mono HB3.out.size))
    clear hb
    obtain ⟨K, hK⟩ : ∃ K, K = min N M := ⟨_, rfl⟩
    have hKi : min (N : Int) (M : Int) = (K : Int) := by omega
    have hKN : K ≤ A.size := by omega
    have hKM : K ≤ B.size := by omega
    have hea : A.extract 0 K = Cm := by rw [hK]; exact HAB.out.1
    have heb : B.extract 0 K = Cm := by rw [hK]; exact HAB.out.2
    have HK := Lib.hid hK
    clear hK HAB
    go_wp2_with fail
    have hkn : (K : Int) ≤ (N : Int) := by omega
    have hkm : (K : Int) ≤ (M : Int) := by omega
    have hk0 : (0 : Int) ≤ (K : Int) := by omega
    clear hKi hKN hKM
    go_quiet (fail)
    have HB5 := Lib.hid (Below_drewN HB4.out nq)
    generalize w4.drewN nq = w5 at *
    go_wp2
    go_ret
    exact ⟨rfl, HB5.out⟩
  · clear hn0 hn1 hm0 hm1
    go_enter Tryd.func7, Tryd.ntmps7
    go_wp2_with (first
      | (go_at_call 11; (with_reducible refine HA.out.mono ?_); rintro e w1 ⟨rfl, hb1⟩)
      | (go_at_call 12; (with_reducible refine (HL.out _).mono ?_); rintro e w2 ⟨rfl, rfl⟩))
    go_ret
    exact ⟨rfl, hb1.alloc hb1.size _⟩
end Go.Proofs.YtmedlgnllgldiaaDoor
