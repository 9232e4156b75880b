/- MacExpands: the law's walk. -/
import Derived.Test.YtmedlgnllgldiaaDoorMc7
import Derived.Test.YtmedlgnllgldiaaDoorMrB
namespace Go.Proofs.YtmedlgnllgldiaaDoor
open Go.RowKit

set_option maxHeartbeats 4000000 in
set_option maxRecDepth 100000 in
theorem macExpands_walk (salt secret info : ByteArray) (n : Int) (_ : salt.size ≤ maxLen) (_ : secret.size ≤ maxLen) (_ : info.size ≤ maxLen) (_ : (Lit.int .i64 n).wf = true) (W : World) (htab : Tab W) :
    Calls Tryd.prog 4 #[.string salt, .string secret, .string info, .int .i64 n] W fun e w' => e = .returned (.bool true) ∧ Below W.heap.size W w' := by
  have HA := Lib.hid (awake3_any W htab)
  have HT := Lib.hid htab
  clear htab
  have HL := Lib.hid (fun w => large3 w salt secret info)
  have HLA := Lib.hid (largeB_all [salt, secret, info])
  generalize largeB [salt, secret, info] = L at *
  cases L
  · by_cases hmid : 300 < n ∧ n ≤ 8160
    · obtain ⟨hm1, hm2⟩ := hmid
      go_enter Tryd.func4, Tryd.ntmps4
      go_wp2_with (first
        | (go_at_call 11; (with_reducible refine HA.out.mono ?_); rintro e w1 ⟨rfl, hb1⟩)
        | (go_at_call 12; (with_reducible refine (HL.out _).mono ?_); rintro e w2 ⟨rfl, rfl⟩))
      go_ret
      exact ⟨rfl, hb1.alloc hb1.size _⟩
    · by_cases hbad : n < 0 ∨ 8160 < n
      · have hx : ∀ key info : List UInt8, exR key info n = .tuple #[.string ByteArray.empty, .int .i64 5] := fun key info => by rw [exR, if_pos hbad]
        have h1 := HLA.out rfl salt (by simp)
        have h2 := HLA.out rfl secret (by simp)
        have h3 := HLA.out rfl info (by simp)
        have CA := fun w ht => expand_any secret info n (by omega) (by omega) w ht
        have CB := fun w => rexpand_any secret info n (by omega) (by omega) w
        have CC := fun w ht => derive_any salt secret info n (by omega) (by omega) (by omega) w ht
        have CD := fun w => rderive_any salt secret info n (by omega) (by omega) (by omega) w
        rw [hx] at CA CB CC CD
        clear hx
        rcases hbad with hneg | hbig
        · have hm1 : ¬ 300 < n := by omega
          clear hmid hneg
          have HCA := Lib.hid CA
          have HCB := Lib.hid CB
          have HCC := Lib.hid CC
          have HCD := Lib.hid CD
          clear CA CB CC CD h1 h2 h3
          go_enter Tryd.func4, Tryd.ntmps4
          go_wp2_with (first
            | (go_at_call 11; (with_reducible refine HA.out.mono ?_); rintro e w1 ⟨rfl, hb1⟩)
            | (go_at_call 12; (with_reducible refine (HL.out _).mono ?_); rintro e w2 ⟨rfl, rfl⟩))
          have HB1 := Lib.hid (hb1.alloc hb1.size (.cells #[.string salt, .string secret, .string info] 9))
          have HT1 := Lib.hid ((HT.out.next hb1).alloc (.cells #[.string salt, .string secret, .string info] 9))
          generalize (w1.alloc (.cells #[.string salt, .string secret, .string info] 9)) = w2 at *
          clear hb1
          refine (HCA.out _ HT1.out).mono ?_
          rintro e w3 ⟨rfl, hb⟩
          have HT3 := Lib.hid (HT1.out.next hb)
          have HB3 := Lib.hid (HB1.out.trans (hb.mono HB1.out.size))
          clear hb
          go_wp2_with fail
          refine (HCB.out _).mono ?_
          rintro e w4 ⟨rfl, hb⟩
          have HT4 := Lib.hid (HT3.out.next hb)
          have HB4 := Lib.hid (HB3.out.trans (hb.mono HB3.out.size))
          clear hb
          go_wp2_with fail
          refine (HCC.out _ HT4.out).mono ?_
          rintro e w5 ⟨rfl, hb⟩
          have HB5 := Lib.hid (HB4.out.trans (hb.mono HB4.out.size))
          clear hb
          go_wp2_with fail
          refine (HCD.out _).mono ?_
          rintro e w6 ⟨rfl, hb⟩
          have HB6 := Lib.hid (HB5.out.trans (hb.mono HB5.out.size))
          clear hb
          go_wp2_with fail
          go_ret
          exact ⟨rfl, HB6.out⟩
        · have hm1 : 300 < n := by omega
          have hm2 : ¬ n ≤ 8160 := by omega
          clear hmid hbig
          have HCA := Lib.hid CA
          have HCB := Lib.hid CB
          have HCC := Lib.hid CC
          have HCD := Lib.hid CD
          clear CA CB CC CD h1 h2 h3
          go_enter Tryd.func4, Tryd.ntmps4
          go_wp2_with (first
            | (go_at_call 11; (with_reducible refine HA.out.mono ?_); rintro e w1 ⟨rfl, hb1⟩)
            | (go_at_call 12; (with_reducible refine (HL.out _).mono ?_); rintro e w2 ⟨rfl, rfl⟩))
          have HB1 := Lib.hid (hb1.alloc hb1.size (.cells #[.string salt, .string secret, .string info] 9))
          have HT1 := Lib.hid ((HT.out.next hb1).alloc (.cells #[.string salt, .string secret, .string info] 9))
          generalize (w1.alloc (.cells #[.string salt, .string secret, .string info] 9)) = w2 at *
          clear hb1
          refine (HCA.out _ HT1.out).mono ?_
          rintro e w3 ⟨rfl, hb⟩
          have HT3 := Lib.hid (HT1.out.next hb)
          have HB3 := Lib.hid (HB1.out.trans (hb.mono HB1.out.size))
          clear hb
          go_wp2_with fail
          refine (HCB.out _).mono ?_
          rintro e w4 ⟨rfl, hb⟩
          have HT4 := Lib.hid (HT3.out.next hb)
          have HB4 := Lib.hid (HB3.out.trans (hb.mono HB3.out.size))
          clear hb
          go_wp2_with fail
          refine (HCC.out _ HT4.out).mono ?_
          rintro e w5 ⟨rfl, hb⟩
          have HB5 := Lib.hid (HB4.out.trans (hb.mono HB4.out.size))
          clear hb
          go_wp2_with fail
          refine (HCD.out _).mono ?_
          rintro e w6 ⟨rfl, hb⟩
          have HB6 := Lib.hid (HB5.out.trans (hb.mono HB5.out.size))
          clear hb
          go_wp2_with fail
          go_ret
          exact ⟨rfl, HB6.out⟩
      · have hm1 : ¬ 300 < n := by omega
        obtain ⟨N, rfl⟩ : ∃ N : Nat, n = (N : Int) := ⟨n.toNat, by omega⟩
        have hx : ∀ key info : List UInt8, exR key info (N : Int) = .tuple #[.string (exB key info N), .int .i64 0] := fun key info => by rw [exR, if_neg hbad, Int.toNat_natCast]
        have h1 := HLA.out rfl salt (by simp)
        have h2 := HLA.out rfl secret (by simp)
        have h3 := HLA.out rfl info (by simp)
        have CA := fun w ht => expand_any secret info (N : Int) (by omega) (by omega) w ht
        have CB := fun w => rexpand_any secret info (N : Int) (by omega) (by omega) w
        have CC := fun w ht => derive_any salt secret info (N : Int) (by omega) (by omega) (by omega) w ht
        have CD := fun w => rderive_any salt secret info (N : Int) (by omega) (by omega) (by omega) w
        rw [hx] at CA CB CC CD
        clear hx hbad hmid
        generalize exB secret.data.toList info.data.toList N = X1 at *
        generalize exB (macL salt.data.toList secret.data.toList) info.data.toList N = X2 at *
        have HCA := Lib.hid CA
        have HCB := Lib.hid CB
        have HCC := Lib.hid CC
        have HCD := Lib.hid CD
        clear CA CB CC CD h1 h2 h3
        go_enter Tryd.func4, Tryd.ntmps4
        go_wp2_with (first
          | (go_at_call 11; (with_reducible refine HA.out.mono ?_); rintro e w1 ⟨rfl, hb1⟩)
          | (go_at_call 12; (with_reducible refine (HL.out _).mono ?_); rintro e w2 ⟨rfl, rfl⟩))
        have HB1 := Lib.hid (hb1.alloc hb1.size (.cells #[.string salt, .string secret, .string info] 9))
        have HT1 := Lib.hid ((HT.out.next hb1).alloc (.cells #[.string salt, .string secret, .string info] 9))
        generalize (w1.alloc (.cells #[.string salt, .string secret, .string info] 9)) = w2 at *
        clear hb1
        refine (HCA.out _ HT1.out).mono ?_
        rintro e w3 ⟨rfl, hb⟩
        have HT3 := Lib.hid (HT1.out.next hb)
        have HB3 := Lib.hid (HB1.out.trans (hb.mono HB1.out.size))
        clear hb
        go_wp2_with fail
        refine (HCB.out _).mono ?_
        rintro e w4 ⟨rfl, hb⟩
        have HT4 := Lib.hid (HT3.out.next hb)
        have HB4 := Lib.hid (HB3.out.trans (hb.mono HB3.out.size))
        clear hb
        go_wp2_with fail
        refine (HCC.out _ HT4.out).mono ?_
        rintro e w5 ⟨rfl, hb⟩
        have HB5 := Lib.hid (HB4.out.trans (hb.mono HB4.out.size))
        clear hb
        go_wp2_with fail
        refine (HCD.out _).mono ?_
        rintro e w6 ⟨rfl, hb⟩
        have HB6 := Lib.hid (HB5.out.trans (hb.mono HB5.out.size))
        clear hb
        go_wp2_with fail
        go_ret
        exact ⟨rfl, HB6.out⟩
  · go_enter Tryd.func4, Tryd.ntmps4
    go_wp2_with (first
      | (go_at_call 11; (with_reducible refine HA.out.mono ?_); rintro e w1 ⟨rfl, hb1⟩)
      | (go_at_call 12; (with_reducible refine (HL.out _).mono ?_); rintro e w2 ⟨rfl, rfl⟩))
    go_ret
    exact ⟨rfl, hb1.alloc hb1.size _⟩
end Go.Proofs.YtmedlgnllgldiaaDoor
