/- The document's own Modulo of layer 5. -/
import Derived.Test.YtjbhmdlgokoepaaDoorPr4
namespace Go.Proofs.YtjbhmdlgokoepaaDoor
open Go.RowKit

/-- The number that a slice value reads as. -/
def numAt (v : Value) (wr : World) : Nat :=
  match v with
  | .slice (some a) n _ => numD ((List.range n).map fun j => (intOf ((wr.cell? ⟨a.block, j, none⟩).getD undef)).toNat)
  | _ => 0
theorem numAt_of {w : World} {v : Value} {d : List Nat} (h : DV w v d) : numAt v w = numD d := by
  obtain ⟨g, a, cap, rfl, hr, ha⟩ := h
  by_cases hd : 0 < d.length
  · obtain ⟨rfl, _⟩ := ha hd
    simp only [numAt]
    congr 1
    apply List.ext_getElem?
    intro j
    rw [List.getElem?_map]
    by_cases hj : j < d.length
    · rw [List.getElem?_range hj, Option.map_some, hr j hj, List.getElem?_eq_getElem hj]; simp [intOf]
    · rw [List.getElem?_eq_none (by simpa using hj), List.getElem?_eq_none (by omega)]; rfl
  · have h0 : d = [] := List.eq_nil_of_length_eq_zero (by omega)
    subst h0
    cases a <;> rfl
theorem dv_five (w : World) : DV (w.alloc (.cells #[.int .i64 5] 3)) (.slice (some ⟨w.heap.size, 0, none⟩) 1 1) [5] :=
  ⟨w.heap.size, _, 1, rfl, RowI.ofArr (Arr.new w (i64s [5]).toArray 3), fun _ => ⟨rfl, by simp⟩⟩

set_option maxHeartbeats 2000000 in
set_option maxRecDepth 100000 in
theorem modulo_any (v : Value) (d : List Nat) (hd : ∀ x ∈ d, x < 256) (hl : d.length ≤ 60) (w : World) (hv : DV w v d) :
    Calls Tryd.prog 19 #[v] w fun e w' => (∃ v' c, e = .returned v' ∧ DV w' v' c ∧ (∀ x ∈ c, x < 256) ∧ numD c = numD d % PP ∧ c.length = 17) ∧ Below w.heap.size w w' := by
  have HV := Lib.hid hv
  have HD := Lib.hid hd
  have HL := Lib.hid hl
  clear hv hd hl
  go_enter Tryd.func19, Tryd.ntmps19
  go_wp2
  go_loopw [0] (fun v wr => ∃ d' : List Nat, DV wr v d' ∧ (∀ x ∈ d', x < 256) ∧ d'.length ≤ 60 ∧ numD d' % PP = numD d % PP ∧ Below w.heap.size w wr) (fun v wr => numAt v wr)
  case atStart => exact ⟨d, HV.out, HD.out, HL.out, rfl, Below.refl _ _⟩
  case round =>
    clear HV HD HL
    obtain ⟨c, hv, hd, hl, hn, hbel⟩ := hrel
    have HV := Lib.hid hv
    have HD := Lib.hid hd
    have HL := Lib.hid hl
    have HN := Lib.hid hn
    have HBel := Lib.hid hbel
    have hhl := highD_len c
    have HHl := Lib.hid (show (highD c).length ≤ 44 by rw [hhl]; omega)
    have HHd := Lib.hid (highD_lt c hd)
    have HLl := Lib.hid (lowD_len c)
    have HLd := Lib.hid (lowD_lt c hd)
    have HLH := Lib.hid (low_high c hd)
    have HM := Lib.hid (numAt_of hv)
    have HHn := Lib.hid (highD_num c hd)
    have HLn := Lib.hid (lowD_num c hd)
    have HHi := Lib.hid (fun vv wx h => high_any5 vv c hd (by omega) wx h)
    have HLo := Lib.hid (fun vv wx h => low_any5 vv c wx h)
    clear hv hd hl hn hbel hhl
    generalize highD c = H at *
    generalize lowD c = L at *
    by_cases hpos : 0 < numD H
    · have HPos := Lib.hid hpos
      have hdec : decide (0 < numD H) = true := decide_eq_true hpos
      have HDec := Lib.hid hdec
      clear hpos hdec
      go_wp2_with fail
      refine (HHi.out _ _ HV.out).mono ?_
      rintro e w1 ⟨⟨v1, rfl, hv1⟩, hb⟩
      have HV1 := Lib.hid (HV.out.next hb)
      have HB1 := Lib.hid (HBel.out.trans (hb.mono HBel.out.size))
      have HS := Lib.hid (some_any v1 H (by have := HHl.out; omega) w1 hv1)
      rw [HDec.out] at HS
      clear hb hv1
      go_wp2_with fail
      refine HS.out.mono ?_
      rintro e w2 ⟨rfl, rfl⟩
      clear HS
      go_wp2_with fail
      refine (HLo.out _ _ HV1.out).mono ?_
      rintro e w2 ⟨⟨v2, rfl, hv2⟩, hb⟩
      have HV2 := Lib.hid (HV1.out.next hb)
      have HL2 := Lib.hid hv2
      have HB2 := Lib.hid (HB1.out.trans (hb.mono HB1.out.size))
      clear hb hv2
      go_wp2_with fail
      refine (HHi.out _ _ (HV2.out.alloc _)).mono ?_
      rintro e w3 ⟨⟨v3, rfl, hv3⟩, hb⟩
      have HV3 := Lib.hid hv3
      have HL3 := Lib.hid ((HL2.out.alloc (.cells #[.int .i64 5] 3)).next hb)
      have HF3 := Lib.hid ((dv_five w2).next hb)
      have HB3 := Lib.hid ((HB2.out.alloc HB2.out.size (.cells #[.int .i64 5] 3)).trans (hb.mono (by have := HB2.out.size; simp; omega)))
      clear hb hv3
      go_wp2_with fail
      refine (times_any _ v3 [5] H (by simp) HHd.out (by decide) (by have := HHl.out; omega) w3 HF3.out HV3.out).mono ?_
      rintro e w4 ⟨⟨v4, c4, rfl, hv4, hd4, hn4, hl4⟩, hb⟩
      have HV4 := Lib.hid hv4
      have HD4 := Lib.hid hd4
      have HN4 := Lib.hid hn4
      have HLn4 := Lib.hid hl4
      have HL4 := Lib.hid (HL3.out.next hb)
      have HB4 := Lib.hid (HB3.out.trans (hb.mono HB3.out.size))
      clear hb hv4 hd4 hn4 hl4
      go_wp2_with fail
      refine (plus_any v2 v4 L c4 HLd.out HD4.out (by have := HLl.out; omega) (by have := HLn4.out; have := HHl.out; simp at *; omega) w4 HL4.out HV4.out).mono ?_
      rintro e w5 ⟨⟨v5, c5, rfl, hv5, hd5, hn5, hl5⟩, hb⟩
      have HB5 := Lib.hid (HB4.out.trans (hb.mono HB4.out.size))
      have hval : numD c5 = numD L + 5 * numD H := by rw [hn5, HN4.out]; simp [numD]
      have HV5 := Lib.hid hv5
      have HD5 := Lib.hid hd5
      have HN5 := Lib.hid (show numD c5 % PP = numD d % PP by rw [hval, fold_mod, ← HLH.out, HN.out])
      have HLn5 := Lib.hid (show c5.length ≤ 60 by have := HLn4.out; have := HHl.out; have := HLl.out; simp at *; omega)
      have HM5 := Lib.hid (show numAt v5 w5 < numD c by rw [numAt_of hv5, hval, HLH.out]; exact fold_lt _ _ HPos.out)
      clear hb hv5 hd5 hn5 hl5 hval
      go_wp2_with fail
      go_roundw
      case rel => exact ⟨c5, HV5.out, HD5.out, HLn5.out, HN5.out, HB5.out⟩
      case measure => rw [HM.out]; exact HM5.out
    · have hdec : decide (0 < numD H) = false := decide_eq_false hpos
      have hz : numD H = 0 := by omega
      have HDec := Lib.hid hdec
      have hval : numD c = numD L := by rw [HLH.out, hz]; simp
      have hlt : numD c < TB := by rw [hval, HLn.out]; exact Nat.mod_lt _ TB_pos
      have HVal := Lib.hid hval
      have HLast := Lib.hid (last_mod (numD c) hlt)
      clear hpos hdec hz hval hlt
      go_wp2_with fail
      refine (HHi.out _ _ HV.out).mono ?_
      rintro e w1 ⟨⟨v1, rfl, hv1⟩, hb⟩
      have HV1 := Lib.hid (HV.out.next hb)
      have HB1 := Lib.hid (HBel.out.trans (hb.mono HBel.out.size))
      have HS := Lib.hid (some_any v1 H (by have := HHl.out; omega) w1 hv1)
      rw [HDec.out] at HS
      clear hb hv1
      go_wp2_with fail
      refine HS.out.mono ?_
      rintro e w2 ⟨rfl, rfl⟩
      clear HS
      go_wp2_with fail
      refine (HLo.out _ _ HV1.out).mono ?_
      rintro e w2 ⟨⟨v2, rfl, hv2⟩, hb⟩
      have HV2 := Lib.hid (HV1.out.next hb)
      have HL2 := Lib.hid hv2
      have HB2 := Lib.hid (HB1.out.trans (hb.mono HB1.out.size))
      clear hb hv2
      go_wp2_with fail
      refine (plus_any v2 _ L [5] HLd.out (by simp) (by have := HLl.out; omega) (by decide) _ (HL2.out.alloc _) (dv_five w2)).mono ?_
      rintro e w3 ⟨⟨v3, c3, rfl, hv3, hd3, hn3, hl3⟩, hb⟩
      have HB3 := Lib.hid ((HB2.out.alloc HB2.out.size (.cells #[.int .i64 5] 3)).trans (hb.mono (by have := HB2.out.size; simp; omega)))
      have HV3 := Lib.hid ((HV2.out.alloc (.cells #[.int .i64 5] 3)).next hb)
      have HM3 := Lib.hid hv3
      have HD3 := Lib.hid hd3
      have HN3 := Lib.hid (show numD c3 = numD c + 5 by rw [hn3, HVal.out]; simp [numD])
      have HLn3 := Lib.hid (show c3.length ≤ 60 by have := HLl.out; simp at hl3; omega)
      clear hb hv3 hd3 hn3 hl3
      go_wp2_with fail
      refine (high_any5 v3 c3 HD3.out (by have := HLn3.out; omega) w3 HM3.out).mono ?_
      rintro e w4 ⟨⟨v4, rfl, hv4⟩, hb⟩
      have HV4 := Lib.hid (HV3.out.next hb)
      have HM4 := Lib.hid (HM3.out.next hb)
      have HB4 := Lib.hid (HB3.out.trans (hb.mono HB3.out.size))
      have HS4 := Lib.hid (some_any v4 (highD c3) (by rw [highD_len]; have := HLn3.out; omega) w4 hv4)
      clear hb hv4
      have hhn := highD_num c3 HD3.out
      rw [HN3.out] at hhn
      by_cases h3 : 0 < numD (highD c3)
      · have HDec3 := Lib.hid (show decide (0 < numD (highD c3)) = true from decide_eq_true h3)
        rw [HDec3.out] at HS4
        have HR := Lib.hid (show numD (lowD c3) = numD d % PP by
          rw [lowD_num c3 HD3.out, HN3.out, ← HN.out, HLast.out, if_neg (by rw [← hhn]; omega)])
        have HR1 := Lib.hid (lowD_lt c3 HD3.out)
        have HR2 := Lib.hid (lowD_len c3)
        clear h3 hhn HDec3
        go_wp2_with fail
        refine HS4.out.mono ?_
        rintro e w5 ⟨rfl, rfl⟩
        go_wp2_with fail
        refine (low_any5 v3 c3 _ HM4.out).mono ?_
        rintro e w5 ⟨⟨v5, rfl, hv5⟩, hb⟩
        have HV5 := Lib.hid hv5
        have HB5 := Lib.hid (HB4.out.trans (hb.mono HB4.out.size))
        clear hb hv5
        go_wp2_with fail
        go_ret
        exact ⟨⟨v5, lowD c3, rfl, HV5.out, HR1.out, HR.out, HR2.out⟩, HB5.out⟩
      · have HDec3 := Lib.hid (show decide (0 < numD (highD c3)) = false from decide_eq_false h3)
        rw [HDec3.out] at HS4
        have HR := Lib.hid (show numD L = numD d % PP by
          rw [← HVal.out, ← HN.out, HLast.out, if_pos (by rw [← hhn]; omega)])
        clear h3 hhn HDec3
        go_wp2_with fail
        refine HS4.out.mono ?_
        rintro e w5 ⟨rfl, rfl⟩
        go_wp2_with fail
        refine (HLo.out _ _ HV4.out).mono ?_
        rintro e w5 ⟨⟨v5, rfl, hv5⟩, hb⟩
        have HV5 := Lib.hid hv5
        have HB5 := Lib.hid (HB4.out.trans (hb.mono HB4.out.size))
        clear hb hv5
        go_wp2_with fail
        go_ret
        exact ⟨⟨v5, L, rfl, HV5.out, HLd.out, HR.out, HLl.out⟩, HB5.out⟩
end Go.Proofs.YtjbhmdlgokoepaaDoor
