/- AddrReads: its walk over the record. -/
import Derived.Test.YtmaephjonfeijaaDoorApT
import Derived.Deep.RegionHeld3
namespace Go.Proofs.YtmaephjonfeijaaDoor
open Go.RowKit

theorem readV_form (o : Option (BoxA × List UInt8)) : ∃ A B R e, readV o = .tuple #[.agg #[.string A, .string B], .string R, .int .i64 e] := by
  cases o with
  | none => exact ⟨_, _, _, _, rfl⟩
  | some p => exact ⟨_, _, _, _, rfl⟩
theorem parseV_form (o : Option BoxA) : ∃ A B e, parseV o = .tuple #[.agg #[.string A, .string B], .int .i64 e] := by
  cases o with
  | none => exact ⟨_, _, _, rfl⟩
  | some p => exact ⟨_, _, _, rfl⟩
theorem cell_next {w w' : World} {a : Addr} {v : Value} (h : w.cell? a = some v) (hb : Below w.heap.size w w') : w'.cell? a = some v := (hb.cell (World.block_lt_of_cell? _ _ h)).trans h
theorem box_next {w w' : World} {g : Nat} {u v : Value} (h : w.cell? ⟨g, 0, none⟩ = some u ∧ w.cell? ⟨g, 1, none⟩ = some v) (hb : Below w.heap.size w w') : w'.cell? ⟨g, 0, none⟩ = some u ∧ w'.cell? ⟨g, 1, none⟩ = some v := ⟨cell_next h.1 hb, cell_next h.2 hb⟩
theorem box_new (w : World) (u v : Value) (t : TypeId) : (w.alloc (.cells #[u, v] t)).cell? ⟨w.heap.size, 0, none⟩ = some u ∧ (w.alloc (.cells #[u, v] t)).cell? ⟨w.heap.size, 1, none⟩ = some v := ⟨(Arr.new w _ t).cell rfl, (Arr.new w _ t).cell rfl⟩
theorem below_one (w : World) (o : Obj) : Below w.heap.size w (w.alloc o) := (Below.refl _ _).alloc (Nat.le_refl _) o
theorem below_drew (w : World) : Below w.heap.size w w.drew := (Below.refl _ _).drew

theorem and4 {a b c d : Prop} (ha : a) (hb : b) (hc : c) (hd : d) : a ∧ b ∧ c ∧ d := ⟨ha, hb, hc, hd⟩
theorem four_next {w w' : World} {g1 g2 g3 g4 : Nat} {a b c d e f u v : Value} (h : (w.cell? ⟨g1, 0, none⟩ = some a ∧ w.cell? ⟨g1, 1, none⟩ = some b) ∧ (w.cell? ⟨g2, 0, none⟩ = some c ∧ w.cell? ⟨g2, 1, none⟩ = some d) ∧ (w.cell? ⟨g3, 0, none⟩ = some e ∧ w.cell? ⟨g3, 1, none⟩ = some f) ∧ (w.cell? ⟨g4, 0, none⟩ = some u ∧ w.cell? ⟨g4, 1, none⟩ = some v)) (hb : Below w.heap.size w w') :
    (w'.cell? ⟨g1, 0, none⟩ = some a ∧ w'.cell? ⟨g1, 1, none⟩ = some b) ∧ (w'.cell? ⟨g2, 0, none⟩ = some c ∧ w'.cell? ⟨g2, 1, none⟩ = some d) ∧ (w'.cell? ⟨g3, 0, none⟩ = some e ∧ w'.cell? ⟨g3, 1, none⟩ = some f) ∧ (w'.cell? ⟨g4, 0, none⟩ = some u ∧ w'.cell? ⟨g4, 1, none⟩ = some v) :=
  ⟨box_next h.1 hb, box_next h.2.1 hb, box_next h.2.2.1 hb, box_next h.2.2.2 hb⟩

set_option maxHeartbeats 4000000 in
set_option maxRecDepth 100000 in
theorem addrReads_walk (C : AddrC) (s : ByteArray) (W : World) :
    Calls Tryd.prog 3 #[.string s] W fun e w' => e = .returned (.bool true) ∧ Below W.heap.size W w' := by
  have HA := Lib.hid (C.awake W)
  have hLg := fun w => large1_any s w
  by_cases h1 : s.size ≤ 2048
  · rw [decide_eq_false (by omega : ¬ 2048 < s.size)] at hLg
    have HLg := Lib.hid hLg
    have hR1 := fun w => C.read s (by omega) w
    have hR2 := fun w => rread_any s (by omega) w
    have hP1 := fun w => C.parse s (by omega) w
    have hP2 := fun w => rparse_any s (by omega) w
    obtain ⟨A, B, R, er, he⟩ := readV_form (readL s.data.toList)
    obtain ⟨C', D, fr, hf⟩ := parseV_form (parseL s.data.toList)
    rw [he] at hR1 hR2
    rw [hf] at hP1 hP2
    have HR1 := Lib.hid hR1
    have HR2 := Lib.hid hR2
    have HP1 := Lib.hid hP1
    have HP2 := Lib.hid hP2
    have HO := Lib.hid (fun l d w => own9_any l d w)
    clear hLg hR1 hR2 hP1 hP2 h1 he hf
    go_enter Tryd.func3, Tryd.ntmps3
    go_wp2_with (first
      | (go_at_call 10; (with_reducible refine HA.out.mono ?_); rintro e w1 ⟨rfl, hb1⟩)
      | (go_at_call 11; (with_reducible refine (HLg.out _).mono ?_); rintro e w2 ⟨rfl, rfl⟩; have hb2 := below_new hb1 (.cells #[.string s] 9))
      | (go_at_call 12; (with_reducible refine (HR1.out _).mono ?_); rintro e w3 ⟨rfl, hb3⟩; have hb3' := Below_next hb2 hb3; have k3 := box_new w3 (.string A) (.string B) 25)
      | (go_at_call 13; (with_reducible refine (HR2.out _).mono ?_); rintro e w4 ⟨rfl, hb4⟩; have hb4' := Below_next (below_new hb3' _) hb4; have k34 := box_next k3 hb4; have k4 := box_new w4 (.string A) (.string B) 29)
      | (go_at_call 14; (with_reducible refine (HP1.out _).mono ?_); rintro e w5 ⟨rfl, hb5⟩; have hb5' := Below_next (below_new hb4' _) hb5; have k35 := box_next (box_next k34 (below_one w4 (.cells #[.string A, .string B] 29))) hb5; have k45 := box_next k4 hb5; have k5 := box_new w5 (.string C') (.string D) 25)
      | (go_at_call 15; (with_reducible refine (HP2.out _).mono ?_); rintro e w6 ⟨rfl, hb6⟩; have hb6' := Below_next (below_new hb5' _) hb6; have k36 := box_next (box_next k35 (below_one w5 (.cells #[.string C', .string D] 25))) hb6; have k46 := box_next (box_next k45 (below_one w5 (.cells #[.string C', .string D] 25))) hb6; have k56 := box_next k5 hb6))
    have hbF := below_new hb6' (.cells #[.string C', .string D] 29)
    have hS := and4 (box_next k36 (below_one w6 (.cells #[.string C', .string D] 29))) (box_next k46 (below_one w6 (.cells #[.string C', .string D] 29))) (box_next k56 (below_one w6 (.cells #[.string C', .string D] 29))) (box_new w6 (.string C') (.string D) 29)
    clear hb6' k36 k46 k56 k35 k45 k34 k3 k4 k5 hb1 hb2 hb3 hb3' hb4 hb4' hb5 hb5' hb6
    generalize w6.alloc (.cells #[.string C', .string D] 29) = wF at *
    generalize w6.heap.size = g6 at *
    generalize w5.heap.size = g5 at *
    generalize w4.heap.size = g4 at *
    generalize w3.heap.size = g3 at *
    have hSd := four_next hS (below_drew wF)
    have hbd := hbF.drew
    go_region_held3 (fun w' => (w'.cell? ⟨g3, 0, none⟩ = some (.string A) ∧ w'.cell? ⟨g3, 1, none⟩ = some (.string B)) ∧ (w'.cell? ⟨g4, 0, none⟩ = some (.string A) ∧ w'.cell? ⟨g4, 1, none⟩ = some (.string B)) ∧ (w'.cell? ⟨g5, 0, none⟩ = some (.string C') ∧ w'.cell? ⟨g5, 1, none⟩ = some (.string D)) ∧ (w'.cell? ⟨g6, 0, none⟩ = some (.string C') ∧ w'.cell? ⟨g6, 1, none⟩ = some (.string D))) (first | with_reducible exact hS | with_reducible exact hSd | with_reducible exact hS7 | with_reducible exact hS8) (first
      | (go_at_call 16; (with_reducible refine (HO.out _ _ wF.drew).mono ?_); rintro e w7 ⟨rfl, hb7⟩; have hS7 := four_next hSd hb7; have hb7' := Below_next hbd hb7)
      | (go_at_call 16; (with_reducible refine (HO.out _ _ _).mono ?_); rintro e w8 ⟨rfl, hb8⟩; have hS8 := four_next hS7 hb8; have hb8' := Below_next hb7' hb8))
    go_wp2
    go_ret
    exact ⟨rfl, hb8'⟩
  · rw [decide_eq_true (by omega : 2048 < s.size)] at hLg
    have HLg := Lib.hid hLg
    clear hLg h1
    go_enter Tryd.func3, Tryd.ntmps3
    go_wp2_with (first
      | (go_at_call 10; (with_reducible refine HA.out.mono ?_); rintro e w1 ⟨rfl, hb1⟩)
      | (go_at_call 11; (with_reducible refine (HLg.out _).mono ?_); rintro e w2 ⟨rfl, rfl⟩))
    go_ret
    exact ⟨rfl, below_new hb1 _⟩
end Go.Proofs.YtmaephjonfeijaaDoor
