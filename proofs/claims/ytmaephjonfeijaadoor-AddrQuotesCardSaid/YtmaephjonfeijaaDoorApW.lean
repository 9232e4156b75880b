/- AddrWrites: its walk over the record. -/
import Derived.Test.YtmaephjonfeijaaDoorApR
namespace Go.Proofs.YtmaephjonfeijaaDoor
open Go.RowKit

theorem wrR_form (b : BoxA) : ∃ X e, wrR b = .tuple #[.string X, .int .i64 e] := by
  unfold wrR
  split
  · exact ⟨_, _, rfl⟩
  · exact ⟨_, _, rfl⟩
theorem pathR_form (b : BoxA) : ∃ X e, pathR b = .tuple #[.string X, .int .i64 e] := by
  unfold pathR
  split
  · exact ⟨_, _, rfl⟩
  · exact ⟨_, _, rfl⟩

set_option maxHeartbeats 4000000 in
set_option maxRecDepth 100000 in
theorem addrWrites_walk (C : AddrC) (b : BoxA) (W : World) :
    Calls Tryd.prog 5 #[boxV b] W fun e w' => e = .returned (.bool true) ∧ Below W.heap.size W w' := by
  have hsl := ba_size b.loc
  have hsd := ba_size b.dom
  have HA := Lib.hid (fun w => C.awake w)
  have hLg := fun w => large2_any (ba b.loc) (ba b.dom) w
  have hB0 := below_one W (.cells #[.string (ba b.loc), .string (ba b.dom)] 25)
  have k0 := box_new W (.string (ba b.loc)) (.string (ba b.dom)) 25
  by_cases h1 : b.loc.length ≤ 2048 ∧ b.dom.length ≤ 2048
  · obtain ⟨h1, h2⟩ := h1
    rw [decide_eq_false (by omega : ¬ (2048 < (ba b.loc).size ∨ 2048 < (ba b.dom).size))] at hLg
    have hW1 := fun w => C.write b (by omega) (by omega) w
    have hW2 := fun w => rwrite_any b (by omega) (by omega) w
    have hP1 := fun w => C.path b (by omega) (by omega) w
    have hP2 := fun w => rpath_any b (by omega) (by omega) w
    have hM1 := fun w => C.may b (by omega) (by omega) w
    have hM2 := fun w => rmay_any b (by omega) (by omega) w
    obtain ⟨X, ex, he⟩ := wrR_form b
    obtain ⟨Y, ey, hf⟩ := pathR_form b
    rw [he] at hW1 hW2
    rw [hf] at hP1 hP2
    rw [boxV] at hW1 hW2 hP1 hP2 hM1 hM2 ⊢
    have HO := Lib.hid (fun w => own9_any (ba b.loc) (ba b.dom) w)
    have HLg := Lib.hid hLg
    have HW1 := Lib.hid hW1
    have HW2 := Lib.hid hW2
    have HP1 := Lib.hid hP1
    have HP2 := Lib.hid hP2
    have HM1 := Lib.hid hM1
    have HM2 := Lib.hid hM2
    clear hLg hW1 hW2 hP1 hP2 hM1 hM2 h1 h2 he hf hsl hsd
    generalize ba b.loc = L at *
    generalize ba b.dom = D at *
    generalize mayB b = MB at *
    go_enter Tryd.func5, Tryd.ntmps5
    go_wp2_with (first
      | (go_at_call 10; (with_reducible refine (HA.out _).mono ?_); rintro e w1 ⟨rfl, hb1⟩; obtain ⟨c10, c11⟩ := box_next k0 hb1; have hb1' := Below_next hB0 hb1; have d10 := cell_next c10 (below_one w1 (.cells #[.string L, .string D] 9)); have d11 := cell_next c11 (below_one w1 (.cells #[.string L, .string D] 9)))
      | (go_at_call 11; (with_reducible refine (HLg.out _).mono ?_); rintro e w2 ⟨rfl, rfl⟩; have hb2 := below_new hb1' (.cells #[.string L, .string D] 9))
      | (go_at_call 23; (with_reducible refine (HW1.out _).mono ?_); rintro e w3 ⟨rfl, hb3⟩; have hb3' := Below_next hb2 hb3; have c30 := cell_next d10 hb3; have c31 := cell_next d11 hb3)
      | (go_at_call 16; (with_reducible refine (HO.out w3).mono ?_); rintro e w4 ⟨rfl, hb4⟩; have hb4' := Below_next hb3' hb4; have c40 := cell_next c30 hb4; have c41 := cell_next c31 hb4)
      | (go_at_call 24; (with_reducible refine (HW2.out _).mono ?_); rintro e w5 ⟨rfl, hb5⟩; have hb5' := Below_next hb4' hb5; have c50 := cell_next c40 hb5; have c51 := cell_next c41 hb5)
      | (go_at_call 25; (with_reducible refine (HP1.out _).mono ?_); rintro e w6 ⟨rfl, hb6⟩; have hb6' := Below_next hb5' hb6; have c60 := cell_next c50 hb6; have c61 := cell_next c51 hb6)
      | (go_at_call 16; (with_reducible refine (HO.out w6).mono ?_); rintro e w7 ⟨rfl, hb7⟩; have hb7' := Below_next hb6' hb7; have c70 := cell_next c60 hb7; have c71 := cell_next c61 hb7)
      | (go_at_call 26; (with_reducible refine (HP2.out _).mono ?_); rintro e w8 ⟨rfl, hb8⟩; have hb8' := Below_next hb7' hb8; have c80 := cell_next c70 hb8; have c81 := cell_next c71 hb8))
    have hS : w8.cell? ⟨W.heap.size, 0, none⟩ = some (.string L) ∧ w8.cell? ⟨W.heap.size, 1, none⟩ = some (.string D) := ⟨c80, c81⟩
    have hSd := box_next hS (below_drew w8)
    have hbd := hb8'.drew
    clear c80 c81 c70 c71 c60 c61 c50 c51 c40 c41 c30 c31 c10 c11 k0 d10 d11 hb1 hb2 hb3 hb4 hb5 hb6 hb7 hb8 hb1' hb3' hb4' hb5' hb6' hb7' hB0
    go_region_held3 (fun w' => w'.cell? ⟨W.heap.size, 0, none⟩ = some (.string L) ∧ w'.cell? ⟨W.heap.size, 1, none⟩ = some (.string D)) (first | with_reducible exact hS | with_reducible exact hSd | with_reducible exact hS9 | with_reducible exact hSA | with_reducible exact hSB) (first
      | (go_at_call 27; (with_reducible refine (HM1.out _).mono ?_); rintro e w9 ⟨rfl, hb9⟩; have hS9 := box_next hSd hb9; have hb9' := Below_next hbd hb9)
      | (go_at_call 16; (with_reducible refine (HO.out _).mono ?_); rintro e wA ⟨rfl, hbA⟩; have hSA := box_next hS9 hbA; have hbA' := Below_next hb9' hbA)
      | (go_at_call 28; (with_reducible refine (HM2.out _).mono ?_); rintro e wB ⟨rfl, hbB⟩; have hSB := box_next hSA hbB; have hbB' := Below_next hbA' hbB))
    go_wp2
    go_ret
    exact ⟨rfl, hbB'⟩
  · rw [decide_eq_true (by omega : 2048 < (ba b.loc).size ∨ 2048 < (ba b.dom).size)] at hLg
    have HLg := Lib.hid hLg
    rw [boxV]
    clear hLg h1 hsl hsd
    generalize ba b.loc = L at *
    generalize ba b.dom = D at *
    go_enter Tryd.func5, Tryd.ntmps5
    go_wp2_with (first
      | (go_at_call 10; (with_reducible refine (HA.out _).mono ?_); rintro e w1 ⟨rfl, hb1⟩; obtain ⟨c10, c11⟩ := box_next k0 hb1; have hb1' := Below_next hB0 hb1)
      | (go_at_call 11; (with_reducible refine (HLg.out _).mono ?_); rintro e w2 ⟨rfl, rfl⟩))
    go_ret
    exact ⟨rfl, below_new hb1' _⟩
end Go.Proofs.YtmaephjonfeijaaDoor
