/- MacFilled: the law's walk. -/
import Derived.Test.YtmedlgnllgldiaaDoorMc7
import Derived.Test.YtmedlgnllgldiaaDoorMrA
namespace Go.Proofs.YtmedlgnllgldiaaDoor
open Go.RowKit

theorem wf_u8n {a : Int} (h : (Lit.int .u8 a).wf = true) : ∃ n : Nat, a = (n : Int) ∧ n ≤ 255 := by
  have := wf_u8 h
  exact ⟨a.toNat, by omega, by omega⟩
theorem kbL_filled (key : List UInt8) (k : Nat) (h : key.length + k ≤ 64) : kbL (key ++ List.replicate k 0) = kbL key := by
  rw [kbL_short _ (by rw [List.length_append, List.length_replicate]; omega), kbL_short _ (by omega), List.length_append, List.length_replicate, List.append_assoc, List.replicate_append_replicate]
  congr 2
  omega
theorem kbL_digest (key : List UInt8) (h : 64 < key.length) : kbL (shaL key) = kbL key := by
  rw [kbL_long _ h, kbL_short _ (by rw [shaL_len]; omega), shaL_len]
theorem madeK (k : Nat) : madeCells #[Value.int .u8 0] k = row64 (List.replicate k 0) := by
  apply Array.ext'
  rw [u8s_zeros, row64]
theorem makeK (k : Nat) (h : k ≤ 64) (w : World) : (Instr.makeSlice 38 (.int .i64 (k : Int)) (.int .i64 (k : Int))).run Tryd.prog w = .ok (.slice (some ⟨w.heap.size, 0, none⟩) k k) (w.alloc (.cells (row64 (List.replicate k 0)) 5)) := by
  obtain ⟨i0, hi, hz0, hz1, hz2⟩ := info_parts Tryd.infoU8
  have := run_makeSlice (P := Tryd.prog) w 38 5 i0 (.int .u8 0) Tryd.underlying38 hi hz0 .i64 .i64 k k (by omega) (by omega) (by rw [hz1]; omega) (by rw [hz2]; omega) (by omega)
  rw [hz1, Int.toNat_natCast, Nat.mul_one] at this
  rw [← madeK]
  exact this
theorem convK (k : Nat) (w : World) : (convert 38 9 (.slice (some ⟨w.heap.size, 0, none⟩) k k)).run Tryd.prog (w.alloc (.cells (row64 (List.replicate k 0)) 5)) = .ok (.string ⟨(List.replicate k 0).toArray⟩) (w.alloc (.cells (row64 (List.replicate k 0)) 5)) := by
  have := conv_cells (w.alloc (.cells (row64 (List.replicate k 0)) 5)) ⟨w.heap.size, 0, none⟩ (List.replicate k 0) k (fun j v hv => by
    rw [addr_add, Nat.zero_add]
    exact (Arr.new w (row64 (List.replicate k 0)) 5).cell (by rw [row64, List.getElem?_toArray]; exact hv))
  rw [List.length_replicate] at this
  exact this

set_option maxHeartbeats 2000000 in
set_option maxRecDepth 100000 in
theorem macFilled_walk (key t : ByteArray) (n : Int) (_ : key.size ≤ maxLen) (_ : t.size ≤ maxLen) (hn : (Lit.int .u8 n).wf = true) (W : World) (htab : Tab W) :
    Calls Tryd.prog 6 #[.string key, .string t, .int .u8 n] W fun e w' => e = .returned (.bool true) ∧ Below W.heap.size W w' := by
  have HA := Lib.hid (awake3_any W htab)
  have HT := Lib.hid htab
  clear htab
  obtain ⟨n0, rfl, hn0⟩ := wf_u8n hn
  clear hn
  have HL := Lib.hid (fun w => large2 w key t)
  have HLA := Lib.hid (largeB_all [key, t])
  generalize largeB [key, t] = L at *
  cases L
  · have h1 := HLA.out rfl key (by simp)
    have h2 := HLA.out rfl t (by simp)
    have CS := fun w ht => msum_any key t (by omega) (by omega) w ht
    by_cases hl : 64 < key.size
    · have CR := fun w => rsum_any key (by omega) w
      have hKl : (ByteArray.mk (shaL key.data.toList).toArray).data.toList = shaL key.data.toList := rfl
      have hKs : (ByteArray.mk (shaL key.data.toList).toArray).size = 32 := by show (shaL key.data.toList).toArray.size = 32; rw [List.size_toArray, shaL_len]
      have CS2 := fun w ht => msum_any (ByteArray.mk (shaL key.data.toList).toArray) t (by omega) (by omega) w ht
      have hm : macB (shaL key.data.toList) t.data.toList = macB key.data.toList t.data.toList := by
        rw [macB, macB, macL, macL, kbL_digest _ (by simpa using hl)]
      rw [hKl, hm] at CS2
      generalize (ByteArray.mk (shaL key.data.toList).toArray) = K at *
      generalize macB key.data.toList t.data.toList = M at *
      have HCS := Lib.hid CS
      have HCR := Lib.hid CR
      have HCS2 := Lib.hid CS2
      have hli : (64 : Int) < (key.size : Int) := by omega
      clear CS CR CS2 hKl hm h1 h2
      go_enter Tryd.func6, Tryd.ntmps6
      go_wp2_with (first
        | (go_at_call 11; (with_reducible refine HA.out.mono ?_); rintro e w1 ⟨rfl, hb1⟩)
        | (go_at_call 12; (with_reducible refine (HL.out _).mono ?_); rintro e w2 ⟨rfl, rfl⟩))
      have HB1 := Lib.hid (hb1.alloc hb1.size (.cells #[.string key, .string t] 9))
      have HT1 := Lib.hid ((HT.out.next hb1).alloc (.cells #[.string key, .string t] 9))
      generalize (w1.alloc (.cells #[.string key, .string t] 9)) = w2 at *
      clear hb1
      refine (HCS.out _ HT1.out).mono ?_
      rintro e w3 ⟨rfl, hb⟩
      have HT3 := Lib.hid (HT1.out.next hb)
      have HB3 := Lib.hid (HB1.out.trans (hb.mono HB1.out.size))
      clear hb
      go_wp2_with fail
      refine (HCR.out _).mono ?_
      rintro e w4 ⟨rfl, hb⟩
      have HT4 := Lib.hid (HT3.out.next hb)
      have HB4 := Lib.hid (HB3.out.trans (hb.mono HB3.out.size))
      clear hb
      go_wp2_with fail
      refine (HCS2.out _ HT4.out).mono ?_
      rintro e w5 ⟨rfl, hb⟩
      have HB5 := Lib.hid (HB4.out.trans (hb.mono HB4.out.size))
      clear hb
      go_wp2_with fail
      go_ret
      exact ⟨rfl, HB5.out⟩
    · obtain ⟨k, hk⟩ : ∃ k, k = n0 % (65 - key.size) := ⟨_, rfl⟩
      have hkl : key.size + k ≤ 64 := by have := Nat.mod_lt n0 (show 0 < 65 - key.size by omega); omega
      have hrem : (n0 : Int).tmod ((65 : Int) - (key.size : Int)) = (k : Int) := by
        rw [Int.tmod_eq_emod_of_nonneg (by omega), hk, show (65 : Int) - (key.size : Int) = ((65 - key.size : Nat) : Int) by omega]; rfl
      have hw : IntKind.i64.wrap (65 - (key.size : Int)) = 65 - (key.size : Int) := by rw [IntWalk.i64_in _ (by omega)]
      have hnz : ((65 : Int) - (key.size : Int)) ≠ 0 := by omega
      have hmk := makeK k (by omega)
      have hcv := fun (w : World) (o : Obj) => by
        have := convK k (w.alloc o)
        rw [World.size_alloc] at this
        exact this
      obtain ⟨Z, hZ⟩ : ∃ Z : ByteArray, Z = ⟨(List.replicate k 0).toArray⟩ := ⟨_, rfl⟩
      have hZs : Z.size = k := by rw [hZ]; show (List.replicate k (0 : UInt8)).toArray.size = k; simp
      rw [← hZ] at hcv
      have hcat : ∀ w : World, (Op.stringOp .add key Z).run Tryd.prog w = .ok (.string (key ++ Z)) w := fun w => cat_run key Z (by omega) w
      obtain ⟨KZ, hKZ⟩ : ∃ KZ, KZ = key ++ Z := ⟨_, rfl⟩
      have hKZs : KZ.size = key.size + Z.size := by rw [hKZ, ByteArray.size_append]
      have hKZl : KZ.data.toList = key.data.toList ++ List.replicate k 0 := by rw [hKZ, hZ]; simp
      rw [← hKZ] at hcat
      have CS2 := fun w ht => msum_any KZ t (by omega) (by omega) w ht
      have hm : macB KZ.data.toList t.data.toList = macB key.data.toList t.data.toList := by
        rw [macB, macB, macL, macL, hKZl, kbL_filled _ _ (by simpa using hkl)]
      rw [hm] at CS2
      generalize macB key.data.toList t.data.toList = M at *
      have HCS := Lib.hid CS
      have HCS2 := Lib.hid CS2
      have hli : ¬ (64 : Int) < (key.size : Int) := by omega
      have HK := Lib.hid hk
      have HKL := Lib.hid hkl
      have hks : (key.size : Int) ≤ 64 := by omega
      clear CS CS2 hm h1 h2 hKZ hKZl hZ hk hkl hKZs hZs
      go_enter Tryd.func6, Tryd.ntmps6
      go_wp2_with (first
        | (go_at_call 11; (with_reducible refine HA.out.mono ?_); rintro e w1 ⟨rfl, hb1⟩)
        | (go_at_call 12; (with_reducible refine (HL.out _).mono ?_); rintro e w2 ⟨rfl, rfl⟩))
      have hbz := (hb1.alloc hb1.size (.cells #[.string key, .string t] 9)).alloc (by rw [World.size_alloc]; exact Nat.le_succ_of_le hb1.size) (.cells (row64 (List.replicate k 0)) 5)
      have HB1 := Lib.hid hbz
      have HT1 := Lib.hid (((HT.out.next hb1).alloc (.cells #[.string key, .string t] 9)).alloc (.cells (row64 (List.replicate k 0)) 5))
      clear hb1 hbz hcv hmk
      generalize ((w1.alloc (.cells #[.string key, .string t] 9)).alloc (.cells (row64 (List.replicate k 0)) 5)) = w2 at *
      refine (HCS2.out _ HT1.out).mono ?_
      rintro e w3 ⟨rfl, hb⟩
      have HT3 := Lib.hid (HT1.out.next hb)
      have HB3 := Lib.hid (HB1.out.trans (hb.mono HB1.out.size))
      clear hb
      go_wp2_with fail
      refine (HCS.out _ HT3.out).mono ?_
      rintro e w4 ⟨rfl, hb⟩
      have HB4 := Lib.hid (HB3.out.trans (hb.mono HB3.out.size))
      clear hb
      go_wp2_with fail
      go_ret
      exact ⟨rfl, HB4.out⟩
  · go_enter Tryd.func6, Tryd.ntmps6
    go_wp2_with (first
      | (go_at_call 11; (with_reducible refine HA.out.mono ?_); rintro e w1 ⟨rfl, hb1⟩)
      | (go_at_call 12; (with_reducible refine (HL.out _).mono ?_); rintro e w2 ⟨rfl, rfl⟩))
    go_ret
    exact ⟨rfl, hb1.alloc hb1.size _⟩
end Go.Proofs.YtmedlgnllgldiaaDoor
