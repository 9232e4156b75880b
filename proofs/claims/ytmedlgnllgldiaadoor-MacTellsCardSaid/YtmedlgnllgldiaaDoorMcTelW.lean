/- MacTells: the law's walk. -/
import Derived.Test.YtmedlgnllgldiaaDoorMc7
import Derived.Test.YtmedlgnllgldiaaDoorMrA
namespace Go.Proofs.YtmedlgnllgldiaaDoor
open Go.RowKit

set_option maxHeartbeats 2000000 in
set_option maxRecDepth 100000 in
theorem macTells_walk (key t sum : ByteArray) (_ : key.size ≤ maxLen) (_ : t.size ≤ maxLen) (_ : sum.size ≤ maxLen) (W : World) (htab : Tab W) :
    Calls Tryd.prog 3 #[.string key, .string t, .string sum] W fun e w' => e = .returned (.bool true) ∧ Below W.heap.size W w' := by
  have HA := Lib.hid (awake3_any W htab)
  have HT := Lib.hid htab
  clear htab
  have HL := Lib.hid (fun w => large3 w key t sum)
  have HLA := Lib.hid (largeB_all [key, t, sum])
  generalize largeB [key, t, sum] = L at *
  cases L
  · have h1 := HLA.out rfl key (by simp)
    have h2 := HLA.out rfl t (by simp)
    have CR := fun w => rmac_any key t (by omega) (by omega) w
    have CS := fun w ht => msum_any key t (by omega) (by omega) w ht
    have CX := fun w ht => extract_any key t (by omega) (by omega) w ht
    have CC1 := fun w ht => check_any key t (macB key.data.toList t.data.toList) (by omega) (by omega) w ht
    have CC2 := fun w ht => check_any key t sum (by omega) (by omega) w ht
    generalize macB key.data.toList t.data.toList = M at *
    rw [beq_self_eq_true] at CC1
    obtain ⟨b, hb⟩ : ∃ b : Bool, b = (M.toList == sum.toList) := ⟨_, rfl⟩
    have hb2 : (sum.toList == M.toList) = b := by rw [hb]; exact Bool.eq_iff_iff.2 ⟨fun h => by simpa using (beq_iff_eq.1 h).symm, fun h => by simpa using (beq_iff_eq.1 h).symm⟩
    rw [← hb] at CC2
    clear hb h1 h2
    have HCR := Lib.hid CR
    have HCS := Lib.hid CS
    have HCX := Lib.hid CX
    have HCC1 := Lib.hid CC1
    have HCC2 := Lib.hid CC2
    clear CR CS CX CC1 CC2
    go_enter Tryd.func3, Tryd.ntmps3
    go_wp2_with (first
      | (go_at_call 11; (with_reducible refine HA.out.mono ?_); rintro e w1 ⟨rfl, hb1⟩)
      | (go_at_call 12; (with_reducible refine (HL.out _).mono ?_); rintro e w2 ⟨rfl, rfl⟩))
    have HB1 := Lib.hid (hb1.alloc hb1.size (.cells #[.string key, .string t, .string sum] 9))
    have HT1 := Lib.hid ((HT.out.next hb1).alloc (.cells #[.string key, .string t, .string sum] 9))
    generalize (w1.alloc (.cells #[.string key, .string t, .string sum] 9)) = w2 at *
    clear hb1
    refine (HCR.out _).mono ?_
    rintro e w3 ⟨rfl, hb⟩
    have HT3 := Lib.hid (HT1.out.next hb)
    have HB3 := Lib.hid (HB1.out.trans (hb.mono HB1.out.size))
    clear hb
    go_wp2_with fail
    refine (HCS.out _ HT3.out).mono ?_
    rintro e w4 ⟨rfl, hb⟩
    have HT4 := Lib.hid (HT3.out.next hb)
    have HB4 := Lib.hid (HB3.out.trans (hb.mono HB3.out.size))
    clear hb
    go_wp2_with fail
    refine (HCC1.out _ HT4.out).mono ?_
    rintro e w5 ⟨rfl, hb⟩
    have HT5 := Lib.hid (HT4.out.next hb)
    have HB5 := Lib.hid (HB4.out.trans (hb.mono HB4.out.size))
    clear hb
    go_wp2_with fail
    refine (HCC2.out _ HT5.out).mono ?_
    rintro e w6 ⟨rfl, hb⟩
    have HT6 := Lib.hid (HT5.out.next hb)
    have HB6 := Lib.hid (HB5.out.trans (hb.mono HB5.out.size))
    clear hb
    go_wp2_with fail
    refine (HCX.out _ HT6.out).mono ?_
    rintro e w7 ⟨rfl, hb⟩
    have HB7 := Lib.hid (HB6.out.trans (hb.mono HB6.out.size))
    clear hb
    go_wp2_with fail
    go_ret
    exact ⟨rfl, HB7.out⟩
  · go_enter Tryd.func3, Tryd.ntmps3
    go_wp2_with (first
      | (go_at_call 11; (with_reducible refine HA.out.mono ?_); rintro e w1 ⟨rfl, hb1⟩)
      | (go_at_call 12; (with_reducible refine (HL.out _).mono ?_); rintro e w2 ⟨rfl, rfl⟩))
    go_ret
    exact ⟨rfl, hb1.alloc hb1.size _⟩
end Go.Proofs.YtmedlgnllgldiaaDoor
