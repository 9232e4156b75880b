/- CmdBack: its walk over the record. -/
import Derived.Test.YtahbbnimoogapaaGreatDoorMU
import Derived.Test.YtahbbnimoogapaaGreatDoorMX
namespace Go.Proofs.YtahbbnimoogapaaGreatDoor
open Go.RowKit


set_option maxHeartbeats 8000000 in
set_option maxRecDepth 100000 in
theorem cmdBack_ME (C : CmdC) (c : CmdA) (s : ByteArray) (W : World) (ht : Tb W) (hi : I64 c.size) (h1 : c.text.length ≤ 2048) (h2 : c.box.loc.length ≤ 2048) (h3 : c.box.dom.length ≤ 2048) (h4 : s.size ≤ 2048) (p : List UInt8) (hw : wriV c = .tuple #[.string (ba p), .int .i64 0]) (hl : lineC c = some p) (hv : 1 ≤ c.verb ∧ c.verb ≤ 9) (h3v : c.verb = 3) (fr : Int) (hp : parV s.data.toList = .tuple #[cmdV cmd0, .int .i64 fr]) (hf : (fr == 0) = false) :
    Calls Tryz.prog 6 #[cmdV c, .string s] W fun e w' => e = .returned (.bool true) ∧ Below W.heap.size W w' := by
  have hA := Arr.new W (cmdZ c) 26
  have hb := Lib.hid (below_one W (.cells (cmdZ c) 26))
  have HAw := Lib.hid (fun w h => C.awake w h)
  have HTb := Lib.hid ht
  clear ht
  have hs1 := ba_size c.text
  have hs2 := ba_size c.box.loc
  have hs3 := ba_size c.box.dom
  have h4i : ¬ (2048 : Int) < (s.size : Int) := by omega
  have hLg := fun w => large10_any c.verb c.size (ba c.text) (ba c.box.loc) (ba c.box.dom) c.eight w
  rw [decide_eq_false (by omega)] at hLg
  have HLg := Lib.hid hLg
  have hW1 := fun w h => C.write c (by omega) (by omega) (by omega) hi w h
  have hPs := fun w h => C.parse s (by omega) w h
  rw [hw] at hW1
  rw [hp] at hPs
  rw [show cmdV cmd0 = .agg #[.int .i64 0, .string ⟨#[]⟩, .string ⟨#[]⟩, .string ⟨#[]⟩, .int .i64 0, .bool false] from rfl] at hPs
  have hfn : (fr != 0) = true := by rw [bne, hf]; rfl
  have hPp := fun w h => C.parse (ba p) (by have := line_len hl hv; rw [ba_size]; omega) w h
  rw [ba_list, par_of_line hl hv, fixC, if_pos h3v, cmdV] at hPp
  unfold cmdZ at hPp
  have e3 : (c.verb != 3) = false := by rw [h3v]; rfl
  rw [cmdV] at hW1 ⊢
  unfold cmdZ at hA hb hW1 ⊢
  have HA := Lib.hid hA
  have HW1 := Lib.hid hW1
  have HPs := Lib.hid hPs
  have HPp := Lib.hid hPp
  clear hPp hl hv h3v
  clear hA hW1 hPs hs1 hs2 hs3 h1 h2 h3 h4 hw hp hLg hi
  generalize ba c.text = T at *
  generalize ba c.box.loc = L at *
  generalize ba c.box.dom = D at *
  generalize c.size = S at *
  generalize c.eight = E at *
  generalize c.verb = V at *
  generalize ba p = P at *
  go_enter Tryz.func6, Tryz.ntmps6
  go_wp2_with (first
    | (go_at_call 9; (with_reducible refine (HAw.out _ (HTb.out.next hb.out)).mono ?_); rintro e w1 ⟨rfl, hb1⟩; have HA1 := Lib.hid (HA.out.next hb1); obtain ⟨b0, b1, b2, b3, b4, b5⟩ := six_cells HA1.out)
    | (go_at_call 13; (with_reducible refine (HLg.out _).mono ?_); rintro e w2 ⟨rfl, hb2⟩; have HB2 := Lib.hid (Below_next (Below_next hb.out hb1) hb2); have HA2 := Lib.hid (HA1.out.next hb2); obtain ⟨d0, d1, d2, d3, d4, d5⟩ := six_cells HA2.out)
    | (go_at_call 14; (with_reducible refine (HW1.out _ (HTb.out.next HB2.out)).mono ?_); rintro e w3 ⟨rfl, hb3⟩; have HB3 := Lib.hid (Below_next HB2.out hb3); have HA3 := Lib.hid (HA2.out.next hb3); obtain ⟨e0, e1, e2, e3', e4, e5⟩ := six_cells HA3.out; obtain ⟨_, _, _, _, f4, _⟩ := six_free HA3.out)
    | (go_at_call 10; (with_reducible refine (HPp.out _ (HTb.out.next HB3.out)).mono ?_); rintro e w4 ⟨rfl, hb4⟩; have o4 := below_one w4 (.cells #[.int .i64 V, .string T, .string L, .string D, .int .i64 S, .bool E] 26); have HA4 := Lib.hid ((HA3.out.next hb4).next o4); obtain ⟨g0, g1, g2, g3, g4, g5⟩ := six_cells HA4.out; have HB4 := Lib.hid (Below_next (Below_next HB3.out hb4) o4))
    | (go_at_call 10; (with_reducible refine (HPs.out _ (HTb.out.next HB4.out)).mono ?_); rintro e w5 ⟨rfl, hb5⟩; have o5 := below_one w5 (.cells #[.int .i64 0, .string ⟨#[]⟩, .string ⟨#[]⟩, .string ⟨#[]⟩, .int .i64 0, .bool false] 26); have HB5 := Lib.hid (Below_next (Below_next HB4.out hb5) o5); have HD5 := Lib.hid (Arr.new w5 #[.int .i64 0, .string ⟨#[]⟩, .string ⟨#[]⟩, .string ⟨#[]⟩, .int .i64 0, .bool false] 26)))
  go_ret
  exact ⟨rfl, HB5.out⟩

set_option maxHeartbeats 8000000 in
set_option maxRecDepth 100000 in
theorem cmdBack_MD (C : CmdC) (c : CmdA) (s : ByteArray) (W : World) (ht : Tb W) (hi : I64 c.size) (h1 : c.text.length ≤ 2048) (h2 : c.box.loc.length ≤ 2048) (h3 : c.box.dom.length ≤ 2048) (h4 : s.size ≤ 2048) (p : List UInt8) (hw : wriV c = .tuple #[.string (ba p), .int .i64 0]) (hl : lineC c = some p) (hv : 1 ≤ c.verb ∧ c.verb ≤ 9) (h3v : c.verb = 3) (d : CmdA) (q : List UInt8) (hp : parV s.data.toList = .tuple #[cmdV d, .int .i64 0]) (hq : wriV d = .tuple #[.string (ba q), .int .i64 0]) (hq2 : parV q = .tuple #[cmdV d, .int .i64 0]) (k1 : d.text.length ≤ 2048) (k2 : d.box.loc.length ≤ 255) (k3 : d.box.dom.length ≤ 255) (k4 : q.length ≤ 4000) (k5 : I64 d.size) :
    Calls Tryz.prog 6 #[cmdV c, .string s] W fun e w' => e = .returned (.bool true) ∧ Below W.heap.size W w' := by
  have hA := Arr.new W (cmdZ c) 26
  have hb := Lib.hid (below_one W (.cells (cmdZ c) 26))
  have HAw := Lib.hid (fun w h => C.awake w h)
  have HTb := Lib.hid ht
  clear ht
  have hs1 := ba_size c.text
  have hs2 := ba_size c.box.loc
  have hs3 := ba_size c.box.dom
  have h4i : ¬ (2048 : Int) < (s.size : Int) := by omega
  have hLg := fun w => large10_any c.verb c.size (ba c.text) (ba c.box.loc) (ba c.box.dom) c.eight w
  rw [decide_eq_false (by omega)] at hLg
  have HLg := Lib.hid hLg
  have hW1 := fun w h => C.write c (by omega) (by omega) (by omega) hi w h
  have hPs := fun w h => C.parse s (by omega) w h
  rw [hw] at hW1
  rw [hp] at hPs
  have hW2 := fun w h => C.write d (by omega) (by omega) (by omega) k5 w h
  rw [hq] at hW2
  have hPq := fun w h => C.parse (ba q) (by rw [ba_size]; omega) w h
  rw [ba_list, hq2] at hPq
  rw [cmdV] at hW2 hPq hPs
  unfold cmdZ at hW2 hPq hPs
  have hPp := fun w h => C.parse (ba p) (by have := line_len hl hv; rw [ba_size]; omega) w h
  rw [ba_list, par_of_line hl hv, fixC, if_pos h3v, cmdV] at hPp
  unfold cmdZ at hPp
  have e3 : (c.verb != 3) = false := by rw [h3v]; rfl
  rw [cmdV] at hW1 ⊢
  unfold cmdZ at hA hb hW1 ⊢
  have HA := Lib.hid hA
  have HW1 := Lib.hid hW1
  have HPs := Lib.hid hPs
  have HW2 := Lib.hid hW2
  have HPq := Lib.hid hPq
  clear hW2 hPq hq hq2 k1 k2 k3 k4 k5
  have HPp := Lib.hid hPp
  clear hPp hl hv h3v
  clear hA hW1 hPs hs1 hs2 hs3 h1 h2 h3 h4 hw hp hLg hi
  generalize ba c.text = T at *
  generalize ba c.box.loc = L at *
  generalize ba c.box.dom = D at *
  generalize c.size = S at *
  generalize c.eight = E at *
  generalize c.verb = V at *
  generalize ba p = P at *
  generalize ba d.text = T2 at *
  generalize ba d.box.loc = L2 at *
  generalize ba d.box.dom = D2 at *
  generalize d.verb = V2 at *
  generalize d.size = S2 at *
  generalize d.eight = E2 at *
  generalize ba q = Q at *
  go_enter Tryz.func6, Tryz.ntmps6
  go_wp2_with (first
    | (go_at_call 9; (with_reducible refine (HAw.out _ (HTb.out.next hb.out)).mono ?_); rintro e w1 ⟨rfl, hb1⟩; have HA1 := Lib.hid (HA.out.next hb1); obtain ⟨b0, b1, b2, b3, b4, b5⟩ := six_cells HA1.out)
    | (go_at_call 13; (with_reducible refine (HLg.out _).mono ?_); rintro e w2 ⟨rfl, hb2⟩; have HB2 := Lib.hid (Below_next (Below_next hb.out hb1) hb2); have HA2 := Lib.hid (HA1.out.next hb2); obtain ⟨d0, d1, d2, d3, d4, d5⟩ := six_cells HA2.out)
    | (go_at_call 14; (with_reducible refine (HW1.out _ (HTb.out.next HB2.out)).mono ?_); rintro e w3 ⟨rfl, hb3⟩; have HB3 := Lib.hid (Below_next HB2.out hb3); have HA3 := Lib.hid (HA2.out.next hb3); obtain ⟨e0, e1, e2, e3', e4, e5⟩ := six_cells HA3.out; obtain ⟨_, _, _, _, f4, _⟩ := six_free HA3.out)
    | (go_at_call 10; (with_reducible refine (HPp.out _ (HTb.out.next HB3.out)).mono ?_); rintro e w4 ⟨rfl, hb4⟩; have o4 := below_one w4 (.cells #[.int .i64 V, .string T, .string L, .string D, .int .i64 S, .bool E] 26); have HA4 := Lib.hid ((HA3.out.next hb4).next o4); obtain ⟨g0, g1, g2, g3, g4, g5⟩ := six_cells HA4.out; have HB4 := Lib.hid (Below_next (Below_next HB3.out hb4) o4))
    | (go_at_call 10; (with_reducible refine (HPs.out _ (HTb.out.next HB4.out)).mono ?_); rintro e w5 ⟨rfl, hb5⟩; have o5 := below_one w5 (.cells #[.int .i64 V2, .string T2, .string L2, .string D2, .int .i64 S2, .bool E2] 26); have HB5 := Lib.hid (Below_next (Below_next HB4.out hb5) o5); have HD5 := Lib.hid (Arr.new w5 #[.int .i64 V2, .string T2, .string L2, .string D2, .int .i64 S2, .bool E2] 26))
    | (go_at_call 14; (with_reducible refine (HW2.out _ (HTb.out.next HB5.out)).mono ?_); rintro e w6 ⟨rfl, hb6⟩; have HB6 := Lib.hid (Below_next HB5.out hb6); have HD6 := Lib.hid (HD5.out.next hb6))
    | (go_at_call 10; (with_reducible refine (HPq.out _ (HTb.out.next HB6.out)).mono ?_); rintro e w7 ⟨rfl, hb7⟩; have o7 := below_one w7 (.cells #[.int .i64 V2, .string T2, .string L2, .string D2, .int .i64 S2, .bool E2] 26); have HB7 := Lib.hid (Below_next (Below_next HB6.out hb7) o7); have HD7 := Lib.hid ((HD6.out.next hb7).next o7); obtain ⟨i0, i1, i2, i3, i4, i5⟩ := six_cells HD7.out))
  go_ret
  exact ⟨rfl, HB7.out⟩

set_option maxHeartbeats 8000000 in
set_option maxRecDepth 100000 in
theorem cmdBack_OE (C : CmdC) (c : CmdA) (s : ByteArray) (W : World) (ht : Tb W) (hi : I64 c.size) (h1 : c.text.length ≤ 2048) (h2 : c.box.loc.length ≤ 2048) (h3 : c.box.dom.length ≤ 2048) (h4 : s.size ≤ 2048) (p : List UInt8) (hw : wriV c = .tuple #[.string (ba p), .int .i64 0]) (hl : lineC c = some p) (hv : 1 ≤ c.verb ∧ c.verb ≤ 9) (h3v : ¬ c.verb = 3) (fr : Int) (hp : parV s.data.toList = .tuple #[cmdV cmd0, .int .i64 fr]) (hf : (fr == 0) = false) :
    Calls Tryz.prog 6 #[cmdV c, .string s] W fun e w' => e = .returned (.bool true) ∧ Below W.heap.size W w' := by
  have hA := Arr.new W (cmdZ c) 26
  have hb := Lib.hid (below_one W (.cells (cmdZ c) 26))
  have HAw := Lib.hid (fun w h => C.awake w h)
  have HTb := Lib.hid ht
  clear ht
  have hs1 := ba_size c.text
  have hs2 := ba_size c.box.loc
  have hs3 := ba_size c.box.dom
  have h4i : ¬ (2048 : Int) < (s.size : Int) := by omega
  have hLg := fun w => large10_any c.verb c.size (ba c.text) (ba c.box.loc) (ba c.box.dom) c.eight w
  rw [decide_eq_false (by omega)] at hLg
  have HLg := Lib.hid hLg
  have hW1 := fun w h => C.write c (by omega) (by omega) (by omega) hi w h
  have hPs := fun w h => C.parse s (by omega) w h
  rw [hw] at hW1
  rw [hp] at hPs
  rw [show cmdV cmd0 = .agg #[.int .i64 0, .string ⟨#[]⟩, .string ⟨#[]⟩, .string ⟨#[]⟩, .int .i64 0, .bool false] from rfl] at hPs
  have hfn : (fr != 0) = true := by rw [bne, hf]; rfl
  have hPp := fun w h => C.parse (ba p) (by have := line_len hl hv; rw [ba_size]; omega) w h
  rw [ba_list, par_of_line hl hv, fixC, if_neg h3v, cmdV] at hPp
  unfold cmdZ at hPp
  have e3 : (c.verb != 3) = true := by rw [bne, beq_false_of_ne h3v]; rfl
  rw [cmdV] at hW1 ⊢
  unfold cmdZ at hA hb hW1 ⊢
  have HA := Lib.hid hA
  have HW1 := Lib.hid hW1
  have HPs := Lib.hid hPs
  have HPp := Lib.hid hPp
  clear hPp hl hv h3v
  clear hA hW1 hPs hs1 hs2 hs3 h1 h2 h3 h4 hw hp hLg hi
  generalize ba c.text = T at *
  generalize ba c.box.loc = L at *
  generalize ba c.box.dom = D at *
  generalize c.size = S at *
  generalize c.eight = E at *
  generalize c.verb = V at *
  generalize ba p = P at *
  go_enter Tryz.func6, Tryz.ntmps6
  go_wp2_with (first
    | (go_at_call 9; (with_reducible refine (HAw.out _ (HTb.out.next hb.out)).mono ?_); rintro e w1 ⟨rfl, hb1⟩; have HA1 := Lib.hid (HA.out.next hb1); obtain ⟨b0, b1, b2, b3, b4, b5⟩ := six_cells HA1.out)
    | (go_at_call 13; (with_reducible refine (HLg.out _).mono ?_); rintro e w2 ⟨rfl, hb2⟩; have HB2 := Lib.hid (Below_next (Below_next hb.out hb1) hb2); have HA2 := Lib.hid (HA1.out.next hb2); obtain ⟨d0, d1, d2, d3, d4, d5⟩ := six_cells HA2.out)
    | (go_at_call 14; (with_reducible refine (HW1.out _ (HTb.out.next HB2.out)).mono ?_); rintro e w3 ⟨rfl, hb3⟩; have HB3 := Lib.hid (Below_next HB2.out hb3); have HA3 := Lib.hid (HA2.out.next hb3); obtain ⟨e0, e1, e2, e3', e4, e5⟩ := six_cells HA3.out; obtain ⟨_, _, _, _, f4, _⟩ := six_free HA3.out)
    | (go_at_call 10; (with_reducible refine (HPp.out _ (HTb.out.next (HB3.out.setCell (p := ⟨W.heap.size, 4, none⟩) (Nat.le_refl _) _))).mono ?_); rintro e w4 ⟨rfl, hb4⟩; have o4 := below_one w4 (.cells #[.int .i64 V, .string T, .string L, .string D, .int .i64 (-1), .bool E] 26); have HA4 := Lib.hid (((show Arr (w3.setCell ⟨W.heap.size, 4, none⟩ (.int .i64 (-1))) W.heap.size #[.int .i64 V, .string T, .string L, .string D, .int .i64 (-1), .bool E] 26 from HA3.out.set 4 _).next hb4).next o4); obtain ⟨g0, g1, g2, g3, g4, g5⟩ := six_cells HA4.out; have HB4 := Lib.hid (Below_next (Below_next (HB3.out.setCell (p := ⟨W.heap.size, 4, none⟩) (Nat.le_refl _) _) hb4) o4))
    | (go_at_call 10; (with_reducible refine (HPs.out _ (HTb.out.next HB4.out)).mono ?_); rintro e w5 ⟨rfl, hb5⟩; have o5 := below_one w5 (.cells #[.int .i64 0, .string ⟨#[]⟩, .string ⟨#[]⟩, .string ⟨#[]⟩, .int .i64 0, .bool false] 26); have HB5 := Lib.hid (Below_next (Below_next HB4.out hb5) o5); have HD5 := Lib.hid (Arr.new w5 #[.int .i64 0, .string ⟨#[]⟩, .string ⟨#[]⟩, .string ⟨#[]⟩, .int .i64 0, .bool false] 26)))
  go_ret
  exact ⟨rfl, HB5.out⟩

set_option maxHeartbeats 8000000 in
set_option maxRecDepth 100000 in
theorem cmdBack_OD (C : CmdC) (c : CmdA) (s : ByteArray) (W : World) (ht : Tb W) (hi : I64 c.size) (h1 : c.text.length ≤ 2048) (h2 : c.box.loc.length ≤ 2048) (h3 : c.box.dom.length ≤ 2048) (h4 : s.size ≤ 2048) (p : List UInt8) (hw : wriV c = .tuple #[.string (ba p), .int .i64 0]) (hl : lineC c = some p) (hv : 1 ≤ c.verb ∧ c.verb ≤ 9) (h3v : ¬ c.verb = 3) (d : CmdA) (q : List UInt8) (hp : parV s.data.toList = .tuple #[cmdV d, .int .i64 0]) (hq : wriV d = .tuple #[.string (ba q), .int .i64 0]) (hq2 : parV q = .tuple #[cmdV d, .int .i64 0]) (k1 : d.text.length ≤ 2048) (k2 : d.box.loc.length ≤ 255) (k3 : d.box.dom.length ≤ 255) (k4 : q.length ≤ 4000) (k5 : I64 d.size) :
    Calls Tryz.prog 6 #[cmdV c, .string s] W fun e w' => e = .returned (.bool true) ∧ Below W.heap.size W w' := by
  have hA := Arr.new W (cmdZ c) 26
  have hb := Lib.hid (below_one W (.cells (cmdZ c) 26))
  have HAw := Lib.hid (fun w h => C.awake w h)
  have HTb := Lib.hid ht
  clear ht
  have hs1 := ba_size c.text
  have hs2 := ba_size c.box.loc
  have hs3 := ba_size c.box.dom
  have h4i : ¬ (2048 : Int) < (s.size : Int) := by omega
  have hLg := fun w => large10_any c.verb c.size (ba c.text) (ba c.box.loc) (ba c.box.dom) c.eight w
  rw [decide_eq_false (by omega)] at hLg
  have HLg := Lib.hid hLg
  have hW1 := fun w h => C.write c (by omega) (by omega) (by omega) hi w h
  have hPs := fun w h => C.parse s (by omega) w h
  rw [hw] at hW1
  rw [hp] at hPs
  have hW2 := fun w h => C.write d (by omega) (by omega) (by omega) k5 w h
  rw [hq] at hW2
  have hPq := fun w h => C.parse (ba q) (by rw [ba_size]; omega) w h
  rw [ba_list, hq2] at hPq
  rw [cmdV] at hW2 hPq hPs
  unfold cmdZ at hW2 hPq hPs
  have hPp := fun w h => C.parse (ba p) (by have := line_len hl hv; rw [ba_size]; omega) w h
  rw [ba_list, par_of_line hl hv, fixC, if_neg h3v, cmdV] at hPp
  unfold cmdZ at hPp
  have e3 : (c.verb != 3) = true := by rw [bne, beq_false_of_ne h3v]; rfl
  rw [cmdV] at hW1 ⊢
  unfold cmdZ at hA hb hW1 ⊢
  have HA := Lib.hid hA
  have HW1 := Lib.hid hW1
  have HPs := Lib.hid hPs
  have HW2 := Lib.hid hW2
  have HPq := Lib.hid hPq
  clear hW2 hPq hq hq2 k1 k2 k3 k4 k5
  have HPp := Lib.hid hPp
  clear hPp hl hv h3v
  clear hA hW1 hPs hs1 hs2 hs3 h1 h2 h3 h4 hw hp hLg hi
  generalize ba c.text = T at *
  generalize ba c.box.loc = L at *
  generalize ba c.box.dom = D at *
  generalize c.size = S at *
  generalize c.eight = E at *
  generalize c.verb = V at *
  generalize ba p = P at *
  generalize ba d.text = T2 at *
  generalize ba d.box.loc = L2 at *
  generalize ba d.box.dom = D2 at *
  generalize d.verb = V2 at *
  generalize d.size = S2 at *
  generalize d.eight = E2 at *
  generalize ba q = Q at *
  go_enter Tryz.func6, Tryz.ntmps6
  go_wp2_with (first
    | (go_at_call 9; (with_reducible refine (HAw.out _ (HTb.out.next hb.out)).mono ?_); rintro e w1 ⟨rfl, hb1⟩; have HA1 := Lib.hid (HA.out.next hb1); obtain ⟨b0, b1, b2, b3, b4, b5⟩ := six_cells HA1.out)
    | (go_at_call 13; (with_reducible refine (HLg.out _).mono ?_); rintro e w2 ⟨rfl, hb2⟩; have HB2 := Lib.hid (Below_next (Below_next hb.out hb1) hb2); have HA2 := Lib.hid (HA1.out.next hb2); obtain ⟨d0, d1, d2, d3, d4, d5⟩ := six_cells HA2.out)
    | (go_at_call 14; (with_reducible refine (HW1.out _ (HTb.out.next HB2.out)).mono ?_); rintro e w3 ⟨rfl, hb3⟩; have HB3 := Lib.hid (Below_next HB2.out hb3); have HA3 := Lib.hid (HA2.out.next hb3); obtain ⟨e0, e1, e2, e3', e4, e5⟩ := six_cells HA3.out; obtain ⟨_, _, _, _, f4, _⟩ := six_free HA3.out)
    | (go_at_call 10; (with_reducible refine (HPp.out _ (HTb.out.next (HB3.out.setCell (p := ⟨W.heap.size, 4, none⟩) (Nat.le_refl _) _))).mono ?_); rintro e w4 ⟨rfl, hb4⟩; have o4 := below_one w4 (.cells #[.int .i64 V, .string T, .string L, .string D, .int .i64 (-1), .bool E] 26); have HA4 := Lib.hid (((show Arr (w3.setCell ⟨W.heap.size, 4, none⟩ (.int .i64 (-1))) W.heap.size #[.int .i64 V, .string T, .string L, .string D, .int .i64 (-1), .bool E] 26 from HA3.out.set 4 _).next hb4).next o4); obtain ⟨g0, g1, g2, g3, g4, g5⟩ := six_cells HA4.out; have HB4 := Lib.hid (Below_next (Below_next (HB3.out.setCell (p := ⟨W.heap.size, 4, none⟩) (Nat.le_refl _) _) hb4) o4))
    | (go_at_call 10; (with_reducible refine (HPs.out _ (HTb.out.next HB4.out)).mono ?_); rintro e w5 ⟨rfl, hb5⟩; have o5 := below_one w5 (.cells #[.int .i64 V2, .string T2, .string L2, .string D2, .int .i64 S2, .bool E2] 26); have HB5 := Lib.hid (Below_next (Below_next HB4.out hb5) o5); have HD5 := Lib.hid (Arr.new w5 #[.int .i64 V2, .string T2, .string L2, .string D2, .int .i64 S2, .bool E2] 26))
    | (go_at_call 14; (with_reducible refine (HW2.out _ (HTb.out.next HB5.out)).mono ?_); rintro e w6 ⟨rfl, hb6⟩; have HB6 := Lib.hid (Below_next HB5.out hb6); have HD6 := Lib.hid (HD5.out.next hb6))
    | (go_at_call 10; (with_reducible refine (HPq.out _ (HTb.out.next HB6.out)).mono ?_); rintro e w7 ⟨rfl, hb7⟩; have o7 := below_one w7 (.cells #[.int .i64 V2, .string T2, .string L2, .string D2, .int .i64 S2, .bool E2] 26); have HB7 := Lib.hid (Below_next (Below_next HB6.out hb7) o7); have HD7 := Lib.hid ((HD6.out.next hb7).next o7); obtain ⟨i0, i1, i2, i3, i4, i5⟩ := six_cells HD7.out))
  go_ret
  exact ⟨rfl, HB7.out⟩

set_option maxHeartbeats 8000000 in
set_option maxRecDepth 100000 in
theorem cmdBack_NE (C : CmdC) (c : CmdA) (s : ByteArray) (W : World) (ht : Tb W) (hi : I64 c.size) (h1 : c.text.length ≤ 2048) (h2 : c.box.loc.length ≤ 2048) (h3 : c.box.dom.length ≤ 2048) (h4 : s.size ≤ 2048) (er : Int) (hw : wriV c = .tuple #[.string ⟨#[]⟩, .int .i64 er]) (he : (er == 0) = false) (fr : Int) (hp : parV s.data.toList = .tuple #[cmdV cmd0, .int .i64 fr]) (hf : (fr == 0) = false) :
    Calls Tryz.prog 6 #[cmdV c, .string s] W fun e w' => e = .returned (.bool true) ∧ Below W.heap.size W w' := by
  have hA := Arr.new W (cmdZ c) 26
  have hb := Lib.hid (below_one W (.cells (cmdZ c) 26))
  have HAw := Lib.hid (fun w h => C.awake w h)
  have HTb := Lib.hid ht
  clear ht
  have hs1 := ba_size c.text
  have hs2 := ba_size c.box.loc
  have hs3 := ba_size c.box.dom
  have h4i : ¬ (2048 : Int) < (s.size : Int) := by omega
  have hLg := fun w => large10_any c.verb c.size (ba c.text) (ba c.box.loc) (ba c.box.dom) c.eight w
  rw [decide_eq_false (by omega)] at hLg
  have HLg := Lib.hid hLg
  have hW1 := fun w h => C.write c (by omega) (by omega) (by omega) hi w h
  have hPs := fun w h => C.parse s (by omega) w h
  rw [hw] at hW1
  rw [hp] at hPs
  rw [show cmdV cmd0 = .agg #[.int .i64 0, .string ⟨#[]⟩, .string ⟨#[]⟩, .string ⟨#[]⟩, .int .i64 0, .bool false] from rfl] at hPs
  have hfn : (fr != 0) = true := by rw [bne, hf]; rfl
  rw [cmdV] at hW1 ⊢
  unfold cmdZ at hA hb hW1 ⊢
  have HA := Lib.hid hA
  have HW1 := Lib.hid hW1
  have HPs := Lib.hid hPs
  clear hA hW1 hPs hs1 hs2 hs3 h1 h2 h3 h4 hw hp hLg hi
  generalize ba c.text = T at *
  generalize ba c.box.loc = L at *
  generalize ba c.box.dom = D at *
  generalize c.size = S at *
  generalize c.eight = E at *
  generalize c.verb = V at *
  go_enter Tryz.func6, Tryz.ntmps6
  go_wp2_with (first
    | (go_at_call 9; (with_reducible refine (HAw.out _ (HTb.out.next hb.out)).mono ?_); rintro e w1 ⟨rfl, hb1⟩; have HA1 := Lib.hid (HA.out.next hb1); obtain ⟨b0, b1, b2, b3, b4, b5⟩ := six_cells HA1.out)
    | (go_at_call 13; (with_reducible refine (HLg.out _).mono ?_); rintro e w2 ⟨rfl, hb2⟩; have HB2 := Lib.hid (Below_next (Below_next hb.out hb1) hb2); have HA2 := Lib.hid (HA1.out.next hb2); obtain ⟨d0, d1, d2, d3, d4, d5⟩ := six_cells HA2.out)
    | (go_at_call 14; (with_reducible refine (HW1.out _ (HTb.out.next HB2.out)).mono ?_); rintro e w3 ⟨rfl, hb3⟩; have HB3 := Lib.hid (Below_next HB2.out hb3))
    | (go_at_call 10; (with_reducible refine (HPs.out _ (HTb.out.next HB3.out)).mono ?_); rintro e w5 ⟨rfl, hb5⟩; have o5 := below_one w5 (.cells #[.int .i64 0, .string ⟨#[]⟩, .string ⟨#[]⟩, .string ⟨#[]⟩, .int .i64 0, .bool false] 26); have HB5 := Lib.hid (Below_next (Below_next HB3.out hb5) o5); have HD5 := Lib.hid (Arr.new w5 #[.int .i64 0, .string ⟨#[]⟩, .string ⟨#[]⟩, .string ⟨#[]⟩, .int .i64 0, .bool false] 26)))
  go_ret
  exact ⟨rfl, HB5.out⟩

set_option maxHeartbeats 8000000 in
set_option maxRecDepth 100000 in
theorem cmdBack_ND (C : CmdC) (c : CmdA) (s : ByteArray) (W : World) (ht : Tb W) (hi : I64 c.size) (h1 : c.text.length ≤ 2048) (h2 : c.box.loc.length ≤ 2048) (h3 : c.box.dom.length ≤ 2048) (h4 : s.size ≤ 2048) (er : Int) (hw : wriV c = .tuple #[.string ⟨#[]⟩, .int .i64 er]) (he : (er == 0) = false) (d : CmdA) (q : List UInt8) (hp : parV s.data.toList = .tuple #[cmdV d, .int .i64 0]) (hq : wriV d = .tuple #[.string (ba q), .int .i64 0]) (hq2 : parV q = .tuple #[cmdV d, .int .i64 0]) (k1 : d.text.length ≤ 2048) (k2 : d.box.loc.length ≤ 255) (k3 : d.box.dom.length ≤ 255) (k4 : q.length ≤ 4000) (k5 : I64 d.size) :
    Calls Tryz.prog 6 #[cmdV c, .string s] W fun e w' => e = .returned (.bool true) ∧ Below W.heap.size W w' := by
  have hA := Arr.new W (cmdZ c) 26
  have hb := Lib.hid (below_one W (.cells (cmdZ c) 26))
  have HAw := Lib.hid (fun w h => C.awake w h)
  have HTb := Lib.hid ht
  clear ht
  have hs1 := ba_size c.text
  have hs2 := ba_size c.box.loc
  have hs3 := ba_size c.box.dom
  have h4i : ¬ (2048 : Int) < (s.size : Int) := by omega
  have hLg := fun w => large10_any c.verb c.size (ba c.text) (ba c.box.loc) (ba c.box.dom) c.eight w
  rw [decide_eq_false (by omega)] at hLg
  have HLg := Lib.hid hLg
  have hW1 := fun w h => C.write c (by omega) (by omega) (by omega) hi w h
  have hPs := fun w h => C.parse s (by omega) w h
  rw [hw] at hW1
  rw [hp] at hPs
  have hW2 := fun w h => C.write d (by omega) (by omega) (by omega) k5 w h
  rw [hq] at hW2
  have hPq := fun w h => C.parse (ba q) (by rw [ba_size]; omega) w h
  rw [ba_list, hq2] at hPq
  rw [cmdV] at hW2 hPq hPs
  unfold cmdZ at hW2 hPq hPs
  rw [cmdV] at hW1 ⊢
  unfold cmdZ at hA hb hW1 ⊢
  have HA := Lib.hid hA
  have HW1 := Lib.hid hW1
  have HPs := Lib.hid hPs
  have HW2 := Lib.hid hW2
  have HPq := Lib.hid hPq
  clear hW2 hPq hq hq2 k1 k2 k3 k4 k5
  clear hA hW1 hPs hs1 hs2 hs3 h1 h2 h3 h4 hw hp hLg hi
  generalize ba c.text = T at *
  generalize ba c.box.loc = L at *
  generalize ba c.box.dom = D at *
  generalize c.size = S at *
  generalize c.eight = E at *
  generalize c.verb = V at *
  generalize ba d.text = T2 at *
  generalize ba d.box.loc = L2 at *
  generalize ba d.box.dom = D2 at *
  generalize d.verb = V2 at *
  generalize d.size = S2 at *
  generalize d.eight = E2 at *
  generalize ba q = Q at *
  go_enter Tryz.func6, Tryz.ntmps6
  go_wp2_with (first
    | (go_at_call 9; (with_reducible refine (HAw.out _ (HTb.out.next hb.out)).mono ?_); rintro e w1 ⟨rfl, hb1⟩; have HA1 := Lib.hid (HA.out.next hb1); obtain ⟨b0, b1, b2, b3, b4, b5⟩ := six_cells HA1.out)
    | (go_at_call 13; (with_reducible refine (HLg.out _).mono ?_); rintro e w2 ⟨rfl, hb2⟩; have HB2 := Lib.hid (Below_next (Below_next hb.out hb1) hb2); have HA2 := Lib.hid (HA1.out.next hb2); obtain ⟨d0, d1, d2, d3, d4, d5⟩ := six_cells HA2.out)
    | (go_at_call 14; (with_reducible refine (HW1.out _ (HTb.out.next HB2.out)).mono ?_); rintro e w3 ⟨rfl, hb3⟩; have HB3 := Lib.hid (Below_next HB2.out hb3))
    | (go_at_call 10; (with_reducible refine (HPs.out _ (HTb.out.next HB3.out)).mono ?_); rintro e w5 ⟨rfl, hb5⟩; have o5 := below_one w5 (.cells #[.int .i64 V2, .string T2, .string L2, .string D2, .int .i64 S2, .bool E2] 26); have HB5 := Lib.hid (Below_next (Below_next HB3.out hb5) o5); have HD5 := Lib.hid (Arr.new w5 #[.int .i64 V2, .string T2, .string L2, .string D2, .int .i64 S2, .bool E2] 26))
    | (go_at_call 14; (with_reducible refine (HW2.out _ (HTb.out.next HB5.out)).mono ?_); rintro e w6 ⟨rfl, hb6⟩; have HB6 := Lib.hid (Below_next HB5.out hb6); have HD6 := Lib.hid (HD5.out.next hb6))
    | (go_at_call 10; (with_reducible refine (HPq.out _ (HTb.out.next HB6.out)).mono ?_); rintro e w7 ⟨rfl, hb7⟩; have o7 := below_one w7 (.cells #[.int .i64 V2, .string T2, .string L2, .string D2, .int .i64 S2, .bool E2] 26); have HB7 := Lib.hid (Below_next (Below_next HB6.out hb7) o7); have HD7 := Lib.hid ((HD6.out.next hb7).next o7); obtain ⟨i0, i1, i2, i3, i4, i5⟩ := six_cells HD7.out))
  go_ret
  exact ⟨rfl, HB7.out⟩

set_option maxHeartbeats 4000000 in
set_option maxRecDepth 100000 in
theorem cmdBack_large (C : CmdC) (c : CmdA) (s : ByteArray) (W : World) (ht : Tb W) (h : ¬ (c.text.length ≤ 2048 ∧ c.box.loc.length ≤ 2048 ∧ c.box.dom.length ≤ 2048 ∧ s.size ≤ 2048)) :
    Calls Tryz.prog 6 #[cmdV c, .string s] W fun e w' => e = .returned (.bool true) ∧ Below W.heap.size W w' := by
  have hA := Arr.new W (cmdZ c) 26
  have hb := Lib.hid (below_one W (.cells (cmdZ c) 26))
  have HAw := Lib.hid (fun w h => C.awake w h)
  have HTb := Lib.hid ht
  clear ht
  have hs1 := ba_size c.text
  have hs2 := ba_size c.box.loc
  have hs3 := ba_size c.box.dom
  have HLg := Lib.hid (fun w => large10_any c.verb c.size (ba c.text) (ba c.box.loc) (ba c.box.dom) c.eight w)
  rw [cmdV]
  unfold cmdZ at hA hb ⊢
  have HA := Lib.hid hA
  clear hA
  by_cases hlg : 2048 < (ba c.text).size ∨ 2048 < (ba c.box.loc).size ∨ 2048 < (ba c.box.dom).size
  · rw [decide_eq_true hlg] at HLg
    clear hs1 hs2 hs3 hlg h
    generalize ba c.text = T at *
    generalize ba c.box.loc = L at *
    generalize ba c.box.dom = D at *
    generalize c.size = S at *
    generalize c.eight = E at *
    generalize c.verb = V at *
    go_enter Tryz.func6, Tryz.ntmps6
    go_wp2_with (first
      | (go_at_call 9; (with_reducible refine (HAw.out _ (HTb.out.next hb.out)).mono ?_); rintro e w1 ⟨rfl, hb1⟩; have HA1 := Lib.hid (HA.out.next hb1); obtain ⟨b0, b1, b2, b3, b4, b5⟩ := six_cells HA1.out)
      | (go_at_call 13; (with_reducible refine (HLg.out _).mono ?_); rintro e w2 ⟨rfl, hb2⟩; have HB2 := Lib.hid (Below_next (Below_next hb.out hb1) hb2); have HA2 := Lib.hid (HA1.out.next hb2); obtain ⟨d0, d1, d2, d3, d4, d5⟩ := six_cells HA2.out))
    go_ret
    exact ⟨rfl, HB2.out⟩
  · have h4i : (2048 : Int) < (s.size : Int) := by omega
    rw [decide_eq_false hlg] at HLg
    clear hs1 hs2 hs3 hlg h
    generalize ba c.text = T at *
    generalize ba c.box.loc = L at *
    generalize ba c.box.dom = D at *
    generalize c.size = S at *
    generalize c.eight = E at *
    generalize c.verb = V at *
    go_enter Tryz.func6, Tryz.ntmps6
    go_wp2_with (first
      | (go_at_call 9; (with_reducible refine (HAw.out _ (HTb.out.next hb.out)).mono ?_); rintro e w1 ⟨rfl, hb1⟩; have HA1 := Lib.hid (HA.out.next hb1); obtain ⟨b0, b1, b2, b3, b4, b5⟩ := six_cells HA1.out)
      | (go_at_call 13; (with_reducible refine (HLg.out _).mono ?_); rintro e w2 ⟨rfl, hb2⟩; have HB2 := Lib.hid (Below_next (Below_next hb.out hb1) hb2); have HA2 := Lib.hid (HA1.out.next hb2); obtain ⟨d0, d1, d2, d3, d4, d5⟩ := six_cells HA2.out))
    go_ret
    exact ⟨rfl, HB2.out⟩
theorem cmdBack_walk (C : CmdC) (c : CmdA) (s : ByteArray) (W : World) (ht : Tb W) (hi : I64 c.size) :
    Calls Tryz.prog 6 #[cmdV c, .string s] W fun e w' => e = .returned (.bool true) ∧ Below W.heap.size W w' := by
  by_cases h : c.text.length ≤ 2048 ∧ c.box.loc.length ≤ 2048 ∧ c.box.dom.length ≤ 2048 ∧ s.size ≤ 2048
  · obtain ⟨h1, h2, h3, h4⟩ := h
    have hsl : s.data.toList.length = s.size := by simp
    rcases wri_ways c with ⟨er, hw, he⟩ | ⟨p, hw, hl, hv⟩
    · rcases par_ways s.data.toList with ⟨fr, hp, hf⟩ | ⟨d, q, hp, hq, hq2, k1, k2, k3, k4, k5⟩
      · exact cmdBack_NE C c s W ht hi h1 h2 h3 h4 er hw he fr hp hf
      · exact cmdBack_ND C c s W ht hi h1 h2 h3 h4 er hw he d q hp hq hq2 (by omega) k2 k3 (by omega) k5
    · by_cases h3v : c.verb = 3
      · rcases par_ways s.data.toList with ⟨fr, hp, hf⟩ | ⟨d, q, hp, hq, hq2, k1, k2, k3, k4, k5⟩
        · exact cmdBack_ME C c s W ht hi h1 h2 h3 h4 p hw hl hv h3v fr hp hf
        · exact cmdBack_MD C c s W ht hi h1 h2 h3 h4 p hw hl hv h3v d q hp hq hq2 (by omega) k2 k3 (by omega) k5
      · rcases par_ways s.data.toList with ⟨fr, hp, hf⟩ | ⟨d, q, hp, hq, hq2, k1, k2, k3, k4, k5⟩
        · exact cmdBack_OE C c s W ht hi h1 h2 h3 h4 p hw hl hv h3v fr hp hf
        · exact cmdBack_OD C c s W ht hi h1 h2 h3 h4 p hw hl hv h3v d q hp hq hq2 (by omega) k2 k3 (by omega) k5
  · exact cmdBack_large C c s W ht h
end Go.Proofs.YtahbbnimoogapaaGreatDoor
