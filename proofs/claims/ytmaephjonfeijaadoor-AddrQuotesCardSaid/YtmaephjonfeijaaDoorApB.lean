/- AddrBack: its walk over the record. -/
import Derived.Test.YtmaephjonfeijaaDoorApW
namespace Go.Proofs.YtmaephjonfeijaaDoor
open Go.RowKit

theorem path_len {b : BoxA} {p : List UInt8} (h : pathL b = some p) : p.length ≤ 2 * b.loc.length + b.dom.length + 5 := by
  unfold pathL at h
  split at h
  · cases h; simp
  · split at h
    · cases h
      have := wrL_len b
      simp only [List.length_cons, List.length_append, List.length_nil]
      omega
    · cases h
theorem may_len {c : BoxA} (h : mayB c = true) : 1 ≤ c.loc.length ∧ c.loc.length ≤ 64 ∧ c.dom.length ≤ 255 := by
  rw [mayB, Bool.and_eq_true, Bool.and_eq_true] at h
  obtain ⟨⟨hd, _⟩, hl⟩ := h
  rw [domB, Bool.and_eq_true] at hd
  rw [locB, Bool.and_eq_true, Bool.and_eq_true] at hl
  exact ⟨of_decide_eq_true hl.1.2, of_decide_eq_true hl.2, of_decide_eq_true hd.2⟩
theorem path_none {b : BoxA} (h : pathL b = none) : mayB b = false := by
  unfold pathL at h
  split at h
  · cases h
  · split at h
    · cases h
    · rename_i hm; exact Bool.eq_false_iff.2 hm
theorem pathR_some {b : BoxA} {p : List UInt8} (h : pathL b = some p) : pathR b = .tuple #[.string (ba p), .int .i64 0] := by rw [pathR, h]
theorem pathR_none {b : BoxA} (h : pathL b = none) : pathR b = .tuple #[.string ⟨#[]⟩, .int .i64 2] := by rw [pathR, h]
theorem not_empty {s : ByteArray} (h : 1 ≤ s.size) : (s.toList == []) = false := toList_lit _ _ _ (decide_eq_false fun e => by
  have : s.data.toList.length = s.size := by simp
  rw [e] at this
  simp at this
  omega)
theorem nil_zero : boxV ⟨[], []⟩ = .agg #[.string ⟨#[]⟩, .string ⟨#[]⟩] := rfl
/-- Two boxes' cells, on. -/
theorem cells_on {w w' : World} {g : Nat} {u v : Value} (h : w.cell? ⟨g, 0, none⟩ = some u ∧ w.cell? ⟨g, 1, none⟩ = some v) (hb : Below w.heap.size w w') (o : Obj) :
    (w'.cell? ⟨g, 0, none⟩ = some u ∧ w'.cell? ⟨g, 1, none⟩ = some v) ∧ ((w'.alloc o).cell? ⟨g, 0, none⟩ = some u ∧ (w'.alloc o).cell? ⟨g, 1, none⟩ = some v) :=
  ⟨box_next h hb, box_next (box_next h hb) (below_one w' o)⟩

set_option maxHeartbeats 4000000 in
set_option maxRecDepth 100000 in
theorem addrBack_P0 (C : AddrC) (b : BoxA) (s : ByteArray) (W : World) (h1 : b.loc.length ≤ 2048) (h2 : b.dom.length ≤ 2048) (h3 : s.size ≤ 2048) (p : List UInt8) (hp : pathL b = some p) (hr : readL s.data.toList = none) :
    Calls Tryd.prog 6 #[boxV b, .string s] W fun e w' => e = .returned (.bool true) ∧ Below W.heap.size W w' := by
  have hsl := ba_size b.loc
  have hsd := ba_size b.dom
  have HA := Lib.hid (fun w => C.awake w)
  have hLg := fun w => large3_any (ba b.loc) (ba b.dom) s w
  have hB0 := below_one W (.cells #[.string (ba b.loc), .string (ba b.dom)] 25)
  have k0 := box_new W (.string (ba b.loc)) (.string (ba b.dom)) 25
  rw [decide_eq_false (by omega : ¬ (2048 < (ba b.loc).size ∨ 2048 < (ba b.dom).size ∨ 2048 < s.size))] at hLg
  have HLg := Lib.hid hLg
  have hPa := fun w => C.path b (by omega) (by omega) w
  rw [pathR_some hp] at hPa
  have hpl := path_len hp
  have hX := ba_size p
  have s1 := cat_run (ba p) s (by omega)
  have hN : (ba p ++ s).data.toList = p ++ s.data.toList := by rw [ByteArray.data_append, Array.toList_append, ba_list]
  have hRd1 := fun w => C.read (ba p ++ s) (by rw [ByteArray.size_append]; omega) w
  rw [hN, back_path hp, readV, boxV, ba_of] at hRd1
  have HRd1 := Lib.hid hRd1
  have hRd2 := fun w => C.read s (by omega) w
  rw [hr, readV] at hRd2
  have HRd2 := Lib.hid hRd2
  rw [boxV] at hPa ⊢
  have HPa := Lib.hid hPa
  clear hLg hPa h1 h2 hp hsl hsd hr hRd2 hpl hX hN hRd1
  generalize ba b.loc = L at *
  generalize ba b.dom = D at *
  generalize ba p ++ s = N at *
  generalize ba p = X at *
  go_enter Tryd.func6, Tryd.ntmps6
  go_wp2_with (first
    | (go_at_call 10; (with_reducible refine (HA.out _).mono ?_); rintro e w1 ⟨rfl, hb1⟩; have hb1' := Below_next hB0 hb1; obtain ⟨⟨c10, c11⟩, ⟨d10, d11⟩⟩ := cells_on k0 hb1 (.cells #[.string L, .string D, .string s] 9))
    | (go_at_call 11; (with_reducible refine (HLg.out _).mono ?_); rintro e w2 ⟨rfl, rfl⟩; have hb2 := below_new hb1' (.cells #[.string L, .string D, .string s] 9))
    | (go_at_call 25; (with_reducible refine (HPa.out _).mono ?_); rintro e w3 ⟨rfl, hb3⟩; have hb3' := Below_next hb2 hb3; obtain ⟨⟨c30, c31⟩, _⟩ := cells_on ⟨d10, d11⟩ hb3 (.cells #[] 9))
    | (go_at_call 12; (with_reducible refine (HRd1.out _).mono ?_); rintro e w4 ⟨rfl, hb4⟩; have hb4' := below_new (Below_next hb3' hb4) (.cells #[.string L, .string D] 25); obtain ⟨⟨c40, c41⟩, ⟨d40, d41⟩⟩ := cells_on ⟨c30, c31⟩ hb4 (.cells #[.string L, .string D] 25))
    | (go_at_call 12; (with_reducible refine (HRd2.out _).mono ?_); rintro e w5 ⟨rfl, hb5⟩; have hb5' := below_new (Below_next hb4' hb5) (.cells #[.string ⟨#[]⟩, .string ⟨#[]⟩] 25)))
  go_ret
  exact ⟨rfl, hb5'⟩

set_option maxHeartbeats 4000000 in
set_option maxRecDepth 100000 in
theorem addrBack_P1 (C : AddrC) (b : BoxA) (s : ByteArray) (W : World) (h1 : b.loc.length ≤ 2048) (h2 : b.dom.length ≤ 2048) (h3 : s.size ≤ 2048) (p : List UInt8) (hp : pathL b = some p) (r : List UInt8) (hr : readL s.data.toList = some (⟨[], []⟩, r)) :
    Calls Tryd.prog 6 #[boxV b, .string s] W fun e w' => e = .returned (.bool true) ∧ Below W.heap.size W w' := by
  have hsl := ba_size b.loc
  have hsd := ba_size b.dom
  have HA := Lib.hid (fun w => C.awake w)
  have hLg := fun w => large3_any (ba b.loc) (ba b.dom) s w
  have hB0 := below_one W (.cells #[.string (ba b.loc), .string (ba b.dom)] 25)
  have k0 := box_new W (.string (ba b.loc)) (.string (ba b.dom)) 25
  rw [decide_eq_false (by omega : ¬ (2048 < (ba b.loc).size ∨ 2048 < (ba b.dom).size ∨ 2048 < s.size))] at hLg
  have HLg := Lib.hid hLg
  have hPa := fun w => C.path b (by omega) (by omega) w
  rw [pathR_some hp] at hPa
  have hpl := path_len hp
  have hX := ba_size p
  have s1 := cat_run (ba p) s (by omega)
  have hN : (ba p ++ s).data.toList = p ++ s.data.toList := by rw [ByteArray.data_append, Array.toList_append, ba_list]
  have hRd1 := fun w => C.read (ba p ++ s) (by rw [ByteArray.size_append]; omega) w
  rw [hN, back_path hp, readV, boxV, ba_of] at hRd1
  have HRd1 := Lib.hid hRd1
  have hRd2 := fun w => C.read s (by omega) w
  rw [hr, readV] at hRd2
  have hll : s.data.toList.length = s.size := by simp
  have hrs := ba_size r
  obtain ⟨_, pre, hpre, hsuf⟩ := read_back hr
  have hdr := suf_drop hsuf
  have hlt : r.length < s.size := by
    rw [← hll, hsuf, List.length_append]
    have := List.length_pos_iff.2 hpre
    omega
  rw [hll] at hdr
  have hsl2 := slice_from s (s.size - r.length) (by omega)
  rw [ext_all, ← hdr, show ((s.size - r.length : Nat) : Int) = (s.size : Int) - ((ba r).size : Int) by omega] at hsl2
  have hge : ¬ (s.size : Int) ≤ ((ba r).size : Int) := by omega
  have hw : IntKind.i64.wrap ((s.size : Int) - ((ba r).size : Int)) = (s.size : Int) - ((ba r).size : Int) := by rw [IntKind.wrap_i64]; omega
  rw [nil_zero] at hRd2
  have HRd2 := Lib.hid hRd2
  have hPc := fun w => C.path ⟨[], []⟩ (by decide) (by decide) w
  rw [show pathR ⟨[], []⟩ = .tuple #[.string (ba [60, 62]), .int .i64 0] from rfl, nil_zero] at hPc
  have HPc := Lib.hid hPc
  have hPs := fun w => C.parse (ba [60, 62]) (by rw [ba_size]; decide) w
  rw [ba_list, show parseL [60, 62] = some ⟨[], []⟩ from rfl, parseV, nil_zero] at hPs
  have HPs := Lib.hid hPs
  rw [boxV] at hPa ⊢
  have HPa := Lib.hid hPa
  clear hLg hPa h1 h2 hp hsl hsd hr hRd2 hpl hX hN hRd1 hll hrs hpre hsuf hdr hlt hPc hPs
  generalize ba b.loc = L at *
  generalize ba b.dom = D at *
  generalize ba p ++ s = N at *
  generalize ba p = X at *
  generalize ba r = RS at *
  generalize ba [60, 62] = Q at *
  go_enter Tryd.func6, Tryd.ntmps6
  go_wp2_with (first
    | (go_at_call 10; (with_reducible refine (HA.out _).mono ?_); rintro e w1 ⟨rfl, hb1⟩; have hb1' := Below_next hB0 hb1; obtain ⟨⟨c10, c11⟩, ⟨d10, d11⟩⟩ := cells_on k0 hb1 (.cells #[.string L, .string D, .string s] 9))
    | (go_at_call 11; (with_reducible refine (HLg.out _).mono ?_); rintro e w2 ⟨rfl, rfl⟩; have hb2 := below_new hb1' (.cells #[.string L, .string D, .string s] 9))
    | (go_at_call 25; (with_reducible refine (HPa.out _).mono ?_); rintro e w3 ⟨rfl, hb3⟩; have hb3' := Below_next hb2 hb3; obtain ⟨⟨c30, c31⟩, _⟩ := cells_on ⟨d10, d11⟩ hb3 (.cells #[] 9))
    | (go_at_call 12; (with_reducible refine (HRd1.out _).mono ?_); rintro e w4 ⟨rfl, hb4⟩; have hb4' := below_new (Below_next hb3' hb4) (.cells #[.string L, .string D] 25); obtain ⟨⟨c40, c41⟩, ⟨d40, d41⟩⟩ := cells_on ⟨c30, c31⟩ hb4 (.cells #[.string L, .string D] 25))
    | (go_at_call 12; (with_reducible refine (HRd2.out _).mono ?_); rintro e w5 ⟨rfl, hb5⟩; have hb5' := below_new (Below_next hb4' hb5) (.cells #[.string ⟨#[]⟩, .string ⟨#[]⟩] 25); have k5 := box_new w5 (.string ⟨#[]⟩) (.string ⟨#[]⟩) 25)
    | (go_at_call 25; (with_reducible refine (HPc.out _).mono ?_); rintro e w7 ⟨rfl, hb7⟩; have hb7' := Below_next hb5' hb7; obtain ⟨⟨c70, c71⟩, _⟩ := cells_on k5 hb7 (.cells #[] 9))
    | (go_at_call 14; (with_reducible refine (HPs.out _).mono ?_); rintro e w8 ⟨rfl, hb8⟩; have hb8' := below_new (Below_next hb7' hb8) (.cells #[.string ⟨#[]⟩, .string ⟨#[]⟩] 25); obtain ⟨⟨c80, c81⟩, ⟨d80, d81⟩⟩ := cells_on ⟨c70, c71⟩ hb8 (.cells #[.string ⟨#[]⟩, .string ⟨#[]⟩] 25)))
  go_ret
  exact ⟨rfl, hb8'⟩

set_option maxHeartbeats 4000000 in
set_option maxRecDepth 100000 in
theorem addrBack_P2 (C : AddrC) (b : BoxA) (s : ByteArray) (W : World) (h1 : b.loc.length ≤ 2048) (h2 : b.dom.length ≤ 2048) (h3 : s.size ≤ 2048) (p : List UInt8) (hp : pathL b = some p) (c : BoxA) (r : List UInt8) (hr : readL s.data.toList = some (c, r)) (hm : mayB c = true) :
    Calls Tryd.prog 6 #[boxV b, .string s] W fun e w' => e = .returned (.bool true) ∧ Below W.heap.size W w' := by
  have hsl := ba_size b.loc
  have hsd := ba_size b.dom
  have HA := Lib.hid (fun w => C.awake w)
  have hLg := fun w => large3_any (ba b.loc) (ba b.dom) s w
  have hB0 := below_one W (.cells #[.string (ba b.loc), .string (ba b.dom)] 25)
  have k0 := box_new W (.string (ba b.loc)) (.string (ba b.dom)) 25
  rw [decide_eq_false (by omega : ¬ (2048 < (ba b.loc).size ∨ 2048 < (ba b.dom).size ∨ 2048 < s.size))] at hLg
  have HLg := Lib.hid hLg
  have hPa := fun w => C.path b (by omega) (by omega) w
  rw [pathR_some hp] at hPa
  have hpl := path_len hp
  have hX := ba_size p
  have s1 := cat_run (ba p) s (by omega)
  have hN : (ba p ++ s).data.toList = p ++ s.data.toList := by rw [ByteArray.data_append, Array.toList_append, ba_list]
  have hRd1 := fun w => C.read (ba p ++ s) (by rw [ByteArray.size_append]; omega) w
  rw [hN, back_path hp, readV, boxV, ba_of] at hRd1
  have HRd1 := Lib.hid hRd1
  have hRd2 := fun w => C.read s (by omega) w
  rw [hr, readV] at hRd2
  have hll : s.data.toList.length = s.size := by simp
  have hrs := ba_size r
  obtain ⟨_, pre, hpre, hsuf⟩ := read_back hr
  have hdr := suf_drop hsuf
  have hlt : r.length < s.size := by
    rw [← hll, hsuf, List.length_append]
    have := List.length_pos_iff.2 hpre
    omega
  rw [hll] at hdr
  have hsl2 := slice_from s (s.size - r.length) (by omega)
  rw [ext_all, ← hdr, show ((s.size - r.length : Nat) : Int) = (s.size : Int) - ((ba r).size : Int) by omega] at hsl2
  have hge : ¬ (s.size : Int) ≤ ((ba r).size : Int) := by omega
  have hw : IntKind.i64.wrap ((s.size : Int) - ((ba r).size : Int)) = (s.size : Int) - ((ba r).size : Int) := by rw [IntKind.wrap_i64]; omega
  obtain ⟨ml1, ml2, ml3⟩ := may_len hm
  obtain ⟨q, hq⟩ := may_path (.inr hm)
  have hql := path_len hq
  have hqs := ba_size q
  rw [boxV] at hRd2
  have HRd2 := Lib.hid hRd2
  have hMc := fun w => C.may c (by omega) (by omega) w
  rw [hm, boxV] at hMc
  have HMc := Lib.hid hMc
  have hPc := fun w => C.path c (by omega) (by omega) w
  rw [pathR_some hq, boxV] at hPc
  have HPc := Lib.hid hPc
  have hPs := fun w => C.parse (ba q) (by omega) w
  rw [ba_list, back_parse hq, parseV, boxV] at hPs
  have HPs := Lib.hid hPs
  have hne := not_empty (s := ba c.loc) (by rw [ba_size]; exact ml1)
  rw [boxV] at hPa ⊢
  have HPa := Lib.hid hPa
  clear hLg hPa h1 h2 hp hsl hsd hr hRd2 hpl hX hN hRd1 hll hrs hpre hsuf hdr hlt hPc hPs ml1 ml2 ml3 hq hql hqs hMc hm
  generalize ba b.loc = L at *
  generalize ba b.dom = D at *
  generalize ba p ++ s = N at *
  generalize ba p = X at *
  generalize ba r = RS at *
  generalize ba q = Q at *
  generalize ba c.loc = CL at *
  generalize ba c.dom = CD at *
  go_enter Tryd.func6, Tryd.ntmps6
  go_wp2_with (first
    | (go_at_call 10; (with_reducible refine (HA.out _).mono ?_); rintro e w1 ⟨rfl, hb1⟩; have hb1' := Below_next hB0 hb1; obtain ⟨⟨c10, c11⟩, ⟨d10, d11⟩⟩ := cells_on k0 hb1 (.cells #[.string L, .string D, .string s] 9))
    | (go_at_call 11; (with_reducible refine (HLg.out _).mono ?_); rintro e w2 ⟨rfl, rfl⟩; have hb2 := below_new hb1' (.cells #[.string L, .string D, .string s] 9))
    | (go_at_call 25; (with_reducible refine (HPa.out _).mono ?_); rintro e w3 ⟨rfl, hb3⟩; have hb3' := Below_next hb2 hb3; obtain ⟨⟨c30, c31⟩, _⟩ := cells_on ⟨d10, d11⟩ hb3 (.cells #[] 9))
    | (go_at_call 12; (with_reducible refine (HRd1.out _).mono ?_); rintro e w4 ⟨rfl, hb4⟩; have hb4' := below_new (Below_next hb3' hb4) (.cells #[.string L, .string D] 25); obtain ⟨⟨c40, c41⟩, ⟨d40, d41⟩⟩ := cells_on ⟨c30, c31⟩ hb4 (.cells #[.string L, .string D] 25))
    | (go_at_call 12; (with_reducible refine (HRd2.out _).mono ?_); rintro e w5 ⟨rfl, hb5⟩; have hb5' := below_new (Below_next hb4' hb5) (.cells #[.string CL, .string CD] 25); have k5 := box_new w5 (.string CL) (.string CD) 25)
    | (go_at_call 27; (with_reducible refine (HMc.out _).mono ?_); rintro e w6 ⟨rfl, hb6⟩; have hb6' := Below_next hb5' hb6; obtain ⟨⟨c60, c61⟩, _⟩ := cells_on k5 hb6 (.cells #[] 9))
    | (go_at_call 25; (with_reducible refine (HPc.out _).mono ?_); rintro e w7 ⟨rfl, hb7⟩; have hb7' := Below_next hb6' hb7; obtain ⟨⟨c70, c71⟩, _⟩ := cells_on ⟨c60, c61⟩ hb7 (.cells #[] 9))
    | (go_at_call 14; (with_reducible refine (HPs.out _).mono ?_); rintro e w8 ⟨rfl, hb8⟩; have hb8' := below_new (Below_next hb7' hb8) (.cells #[.string CL, .string CD] 25); obtain ⟨⟨c80, c81⟩, ⟨d80, d81⟩⟩ := cells_on ⟨c70, c71⟩ hb8 (.cells #[.string CL, .string CD] 25)))
  go_ret
  exact ⟨rfl, hb8'⟩

set_option maxHeartbeats 4000000 in
set_option maxRecDepth 100000 in
theorem addrBack_N0 (C : AddrC) (b : BoxA) (s : ByteArray) (W : World) (h1 : b.loc.length ≤ 2048) (h2 : b.dom.length ≤ 2048) (h3 : s.size ≤ 2048) (hp : pathL b = none) (hr : readL s.data.toList = none) :
    Calls Tryd.prog 6 #[boxV b, .string s] W fun e w' => e = .returned (.bool true) ∧ Below W.heap.size W w' := by
  have hsl := ba_size b.loc
  have hsd := ba_size b.dom
  have HA := Lib.hid (fun w => C.awake w)
  have hLg := fun w => large3_any (ba b.loc) (ba b.dom) s w
  have hB0 := below_one W (.cells #[.string (ba b.loc), .string (ba b.dom)] 25)
  have k0 := box_new W (.string (ba b.loc)) (.string (ba b.dom)) 25
  rw [decide_eq_false (by omega : ¬ (2048 < (ba b.loc).size ∨ 2048 < (ba b.dom).size ∨ 2048 < s.size))] at hLg
  have HLg := Lib.hid hLg
  have hPa := fun w => C.path b (by omega) (by omega) w
  rw [pathR_none hp] at hPa
  have hMb := fun w => C.may b (by omega) (by omega) w
  rw [path_none hp, boxV] at hMb
  have HMb := Lib.hid hMb
  have hRd2 := fun w => C.read s (by omega) w
  rw [hr, readV] at hRd2
  have HRd2 := Lib.hid hRd2
  rw [boxV] at hPa ⊢
  have HPa := Lib.hid hPa
  clear hLg hPa h1 h2 hp hsl hsd hr hRd2 hMb
  generalize ba b.loc = L at *
  generalize ba b.dom = D at *
  go_enter Tryd.func6, Tryd.ntmps6
  go_wp2_with (first
    | (go_at_call 10; (with_reducible refine (HA.out _).mono ?_); rintro e w1 ⟨rfl, hb1⟩; have hb1' := Below_next hB0 hb1; obtain ⟨⟨c10, c11⟩, ⟨d10, d11⟩⟩ := cells_on k0 hb1 (.cells #[.string L, .string D, .string s] 9))
    | (go_at_call 11; (with_reducible refine (HLg.out _).mono ?_); rintro e w2 ⟨rfl, rfl⟩; have hb2 := below_new hb1' (.cells #[.string L, .string D, .string s] 9))
    | (go_at_call 25; (with_reducible refine (HPa.out _).mono ?_); rintro e w3 ⟨rfl, hb3⟩; have hb3' := Below_next hb2 hb3; obtain ⟨⟨c30, c31⟩, _⟩ := cells_on ⟨d10, d11⟩ hb3 (.cells #[] 9))
    | (go_at_call 27; (with_reducible refine (HMb.out _).mono ?_); rintro e w4 ⟨rfl, hb4⟩; have hb4' := Below_next hb3' hb4)
    | (go_at_call 12; (with_reducible refine (HRd2.out _).mono ?_); rintro e w5 ⟨rfl, hb5⟩; have hb5' := below_new (Below_next hb4' hb5) (.cells #[.string ⟨#[]⟩, .string ⟨#[]⟩] 25)))
  go_ret
  exact ⟨rfl, hb5'⟩

set_option maxHeartbeats 4000000 in
set_option maxRecDepth 100000 in
theorem addrBack_N1 (C : AddrC) (b : BoxA) (s : ByteArray) (W : World) (h1 : b.loc.length ≤ 2048) (h2 : b.dom.length ≤ 2048) (h3 : s.size ≤ 2048) (hp : pathL b = none) (r : List UInt8) (hr : readL s.data.toList = some (⟨[], []⟩, r)) :
    Calls Tryd.prog 6 #[boxV b, .string s] W fun e w' => e = .returned (.bool true) ∧ Below W.heap.size W w' := by
  have hsl := ba_size b.loc
  have hsd := ba_size b.dom
  have HA := Lib.hid (fun w => C.awake w)
  have hLg := fun w => large3_any (ba b.loc) (ba b.dom) s w
  have hB0 := below_one W (.cells #[.string (ba b.loc), .string (ba b.dom)] 25)
  have k0 := box_new W (.string (ba b.loc)) (.string (ba b.dom)) 25
  rw [decide_eq_false (by omega : ¬ (2048 < (ba b.loc).size ∨ 2048 < (ba b.dom).size ∨ 2048 < s.size))] at hLg
  have HLg := Lib.hid hLg
  have hPa := fun w => C.path b (by omega) (by omega) w
  rw [pathR_none hp] at hPa
  have hMb := fun w => C.may b (by omega) (by omega) w
  rw [path_none hp, boxV] at hMb
  have HMb := Lib.hid hMb
  have hRd2 := fun w => C.read s (by omega) w
  rw [hr, readV] at hRd2
  have hll : s.data.toList.length = s.size := by simp
  have hrs := ba_size r
  obtain ⟨_, pre, hpre, hsuf⟩ := read_back hr
  have hdr := suf_drop hsuf
  have hlt : r.length < s.size := by
    rw [← hll, hsuf, List.length_append]
    have := List.length_pos_iff.2 hpre
    omega
  rw [hll] at hdr
  have hsl2 := slice_from s (s.size - r.length) (by omega)
  rw [ext_all, ← hdr, show ((s.size - r.length : Nat) : Int) = (s.size : Int) - ((ba r).size : Int) by omega] at hsl2
  have hge : ¬ (s.size : Int) ≤ ((ba r).size : Int) := by omega
  have hw : IntKind.i64.wrap ((s.size : Int) - ((ba r).size : Int)) = (s.size : Int) - ((ba r).size : Int) := by rw [IntKind.wrap_i64]; omega
  rw [nil_zero] at hRd2
  have HRd2 := Lib.hid hRd2
  have hPc := fun w => C.path ⟨[], []⟩ (by decide) (by decide) w
  rw [show pathR ⟨[], []⟩ = .tuple #[.string (ba [60, 62]), .int .i64 0] from rfl, nil_zero] at hPc
  have HPc := Lib.hid hPc
  have hPs := fun w => C.parse (ba [60, 62]) (by rw [ba_size]; decide) w
  rw [ba_list, show parseL [60, 62] = some ⟨[], []⟩ from rfl, parseV, nil_zero] at hPs
  have HPs := Lib.hid hPs
  rw [boxV] at hPa ⊢
  have HPa := Lib.hid hPa
  clear hLg hPa h1 h2 hp hsl hsd hr hRd2 hMb hll hrs hpre hsuf hdr hlt hPc hPs
  generalize ba b.loc = L at *
  generalize ba b.dom = D at *
  generalize ba r = RS at *
  generalize ba [60, 62] = Q at *
  go_enter Tryd.func6, Tryd.ntmps6
  go_wp2_with (first
    | (go_at_call 10; (with_reducible refine (HA.out _).mono ?_); rintro e w1 ⟨rfl, hb1⟩; have hb1' := Below_next hB0 hb1; obtain ⟨⟨c10, c11⟩, ⟨d10, d11⟩⟩ := cells_on k0 hb1 (.cells #[.string L, .string D, .string s] 9))
    | (go_at_call 11; (with_reducible refine (HLg.out _).mono ?_); rintro e w2 ⟨rfl, rfl⟩; have hb2 := below_new hb1' (.cells #[.string L, .string D, .string s] 9))
    | (go_at_call 25; (with_reducible refine (HPa.out _).mono ?_); rintro e w3 ⟨rfl, hb3⟩; have hb3' := Below_next hb2 hb3; obtain ⟨⟨c30, c31⟩, _⟩ := cells_on ⟨d10, d11⟩ hb3 (.cells #[] 9))
    | (go_at_call 27; (with_reducible refine (HMb.out _).mono ?_); rintro e w4 ⟨rfl, hb4⟩; have hb4' := Below_next hb3' hb4)
    | (go_at_call 12; (with_reducible refine (HRd2.out _).mono ?_); rintro e w5 ⟨rfl, hb5⟩; have hb5' := below_new (Below_next hb4' hb5) (.cells #[.string ⟨#[]⟩, .string ⟨#[]⟩] 25); have k5 := box_new w5 (.string ⟨#[]⟩) (.string ⟨#[]⟩) 25)
    | (go_at_call 25; (with_reducible refine (HPc.out _).mono ?_); rintro e w7 ⟨rfl, hb7⟩; have hb7' := Below_next hb5' hb7; obtain ⟨⟨c70, c71⟩, _⟩ := cells_on k5 hb7 (.cells #[] 9))
    | (go_at_call 14; (with_reducible refine (HPs.out _).mono ?_); rintro e w8 ⟨rfl, hb8⟩; have hb8' := below_new (Below_next hb7' hb8) (.cells #[.string ⟨#[]⟩, .string ⟨#[]⟩] 25); obtain ⟨⟨c80, c81⟩, ⟨d80, d81⟩⟩ := cells_on ⟨c70, c71⟩ hb8 (.cells #[.string ⟨#[]⟩, .string ⟨#[]⟩] 25)))
  go_ret
  exact ⟨rfl, hb8'⟩

set_option maxHeartbeats 4000000 in
set_option maxRecDepth 100000 in
theorem addrBack_N2 (C : AddrC) (b : BoxA) (s : ByteArray) (W : World) (h1 : b.loc.length ≤ 2048) (h2 : b.dom.length ≤ 2048) (h3 : s.size ≤ 2048) (hp : pathL b = none) (c : BoxA) (r : List UInt8) (hr : readL s.data.toList = some (c, r)) (hm : mayB c = true) :
    Calls Tryd.prog 6 #[boxV b, .string s] W fun e w' => e = .returned (.bool true) ∧ Below W.heap.size W w' := by
  have hsl := ba_size b.loc
  have hsd := ba_size b.dom
  have HA := Lib.hid (fun w => C.awake w)
  have hLg := fun w => large3_any (ba b.loc) (ba b.dom) s w
  have hB0 := below_one W (.cells #[.string (ba b.loc), .string (ba b.dom)] 25)
  have k0 := box_new W (.string (ba b.loc)) (.string (ba b.dom)) 25
  rw [decide_eq_false (by omega : ¬ (2048 < (ba b.loc).size ∨ 2048 < (ba b.dom).size ∨ 2048 < s.size))] at hLg
  have HLg := Lib.hid hLg
  have hPa := fun w => C.path b (by omega) (by omega) w
  rw [pathR_none hp] at hPa
  have hMb := fun w => C.may b (by omega) (by omega) w
  rw [path_none hp, boxV] at hMb
  have HMb := Lib.hid hMb
  have hRd2 := fun w => C.read s (by omega) w
  rw [hr, readV] at hRd2
  have hll : s.data.toList.length = s.size := by simp
  have hrs := ba_size r
  obtain ⟨_, pre, hpre, hsuf⟩ := read_back hr
  have hdr := suf_drop hsuf
  have hlt : r.length < s.size := by
    rw [← hll, hsuf, List.length_append]
    have := List.length_pos_iff.2 hpre
    omega
  rw [hll] at hdr
  have hsl2 := slice_from s (s.size - r.length) (by omega)
  rw [ext_all, ← hdr, show ((s.size - r.length : Nat) : Int) = (s.size : Int) - ((ba r).size : Int) by omega] at hsl2
  have hge : ¬ (s.size : Int) ≤ ((ba r).size : Int) := by omega
  have hw : IntKind.i64.wrap ((s.size : Int) - ((ba r).size : Int)) = (s.size : Int) - ((ba r).size : Int) := by rw [IntKind.wrap_i64]; omega
  obtain ⟨ml1, ml2, ml3⟩ := may_len hm
  obtain ⟨q, hq⟩ := may_path (.inr hm)
  have hql := path_len hq
  have hqs := ba_size q
  rw [boxV] at hRd2
  have HRd2 := Lib.hid hRd2
  have hMc := fun w => C.may c (by omega) (by omega) w
  rw [hm, boxV] at hMc
  have HMc := Lib.hid hMc
  have hPc := fun w => C.path c (by omega) (by omega) w
  rw [pathR_some hq, boxV] at hPc
  have HPc := Lib.hid hPc
  have hPs := fun w => C.parse (ba q) (by omega) w
  rw [ba_list, back_parse hq, parseV, boxV] at hPs
  have HPs := Lib.hid hPs
  have hne := not_empty (s := ba c.loc) (by rw [ba_size]; exact ml1)
  rw [boxV] at hPa ⊢
  have HPa := Lib.hid hPa
  clear hLg hPa h1 h2 hp hsl hsd hr hRd2 hMb hll hrs hpre hsuf hdr hlt hPc hPs ml1 ml2 ml3 hq hql hqs hMc hm
  generalize ba b.loc = L at *
  generalize ba b.dom = D at *
  generalize ba r = RS at *
  generalize ba q = Q at *
  generalize ba c.loc = CL at *
  generalize ba c.dom = CD at *
  go_enter Tryd.func6, Tryd.ntmps6
  go_wp2_with (first
    | (go_at_call 10; (with_reducible refine (HA.out _).mono ?_); rintro e w1 ⟨rfl, hb1⟩; have hb1' := Below_next hB0 hb1; obtain ⟨⟨c10, c11⟩, ⟨d10, d11⟩⟩ := cells_on k0 hb1 (.cells #[.string L, .string D, .string s] 9))
    | (go_at_call 11; (with_reducible refine (HLg.out _).mono ?_); rintro e w2 ⟨rfl, rfl⟩; have hb2 := below_new hb1' (.cells #[.string L, .string D, .string s] 9))
    | (go_at_call 25; (with_reducible refine (HPa.out _).mono ?_); rintro e w3 ⟨rfl, hb3⟩; have hb3' := Below_next hb2 hb3; obtain ⟨⟨c30, c31⟩, _⟩ := cells_on ⟨d10, d11⟩ hb3 (.cells #[] 9))
    | (go_at_call 27; (with_reducible refine (HMb.out _).mono ?_); rintro e w4 ⟨rfl, hb4⟩; have hb4' := Below_next hb3' hb4)
    | (go_at_call 12; (with_reducible refine (HRd2.out _).mono ?_); rintro e w5 ⟨rfl, hb5⟩; have hb5' := below_new (Below_next hb4' hb5) (.cells #[.string CL, .string CD] 25); have k5 := box_new w5 (.string CL) (.string CD) 25)
    | (go_at_call 27; (with_reducible refine (HMc.out _).mono ?_); rintro e w6 ⟨rfl, hb6⟩; have hb6' := Below_next hb5' hb6; obtain ⟨⟨c60, c61⟩, _⟩ := cells_on k5 hb6 (.cells #[] 9))
    | (go_at_call 25; (with_reducible refine (HPc.out _).mono ?_); rintro e w7 ⟨rfl, hb7⟩; have hb7' := Below_next hb6' hb7; obtain ⟨⟨c70, c71⟩, _⟩ := cells_on ⟨c60, c61⟩ hb7 (.cells #[] 9))
    | (go_at_call 14; (with_reducible refine (HPs.out _).mono ?_); rintro e w8 ⟨rfl, hb8⟩; have hb8' := below_new (Below_next hb7' hb8) (.cells #[.string CL, .string CD] 25); obtain ⟨⟨c80, c81⟩, ⟨d80, d81⟩⟩ := cells_on ⟨c70, c71⟩ hb8 (.cells #[.string CL, .string CD] 25)))
  go_ret
  exact ⟨rfl, hb8'⟩

set_option maxHeartbeats 4000000 in
set_option maxRecDepth 100000 in
theorem addrBack_large (C : AddrC) (b : BoxA) (s : ByteArray) (W : World) (h : ¬ (b.loc.length ≤ 2048 ∧ b.dom.length ≤ 2048 ∧ s.size ≤ 2048)) :
    Calls Tryd.prog 6 #[boxV b, .string s] W fun e w' => e = .returned (.bool true) ∧ Below W.heap.size W w' := by
  have hsl := ba_size b.loc
  have hsd := ba_size b.dom
  have HA := Lib.hid (fun w => C.awake w)
  have hLg := fun w => large3_any (ba b.loc) (ba b.dom) s w
  have hB0 := below_one W (.cells #[.string (ba b.loc), .string (ba b.dom)] 25)
  have k0 := box_new W (.string (ba b.loc)) (.string (ba b.dom)) 25
  rw [decide_eq_true (by omega : 2048 < (ba b.loc).size ∨ 2048 < (ba b.dom).size ∨ 2048 < s.size)] at hLg
  have HLg := Lib.hid hLg
  rw [boxV]
  clear hLg h hsl hsd
  generalize ba b.loc = L at *
  generalize ba b.dom = D at *
  go_enter Tryd.func6, Tryd.ntmps6
  go_wp2_with (first
    | (go_at_call 10; (with_reducible refine (HA.out _).mono ?_); rintro e w1 ⟨rfl, hb1⟩; obtain ⟨c10, c11⟩ := box_next k0 hb1; have hb1' := Below_next hB0 hb1)
    | (go_at_call 11; (with_reducible refine (HLg.out _).mono ?_); rintro e w2 ⟨rfl, rfl⟩))
  go_ret
  exact ⟨rfl, below_new hb1' _⟩
theorem addrBack_walk (C : AddrC) (b : BoxA) (s : ByteArray) (W : World) :
    Calls Tryd.prog 6 #[boxV b, .string s] W fun e w' => e = .returned (.bool true) ∧ Below W.heap.size W w' := by
  by_cases h : b.loc.length ≤ 2048 ∧ b.dom.length ≤ 2048 ∧ s.size ≤ 2048
  · obtain ⟨h1, h2, h3⟩ := h
    cases hp : pathL b with
    | none =>
      cases hr : readL s.data.toList with
      | none => exact addrBack_N0 C b s W h1 h2 h3 hp hr
      | some cr =>
        obtain ⟨c, r⟩ := cr
        rcases (read_back hr).1 with rfl | hm
        · exact addrBack_N1 C b s W h1 h2 h3 hp r hr
        · exact addrBack_N2 C b s W h1 h2 h3 hp c r hr hm
    | some p =>
      cases hr : readL s.data.toList with
      | none => exact addrBack_P0 C b s W h1 h2 h3 p hp hr
      | some cr =>
        obtain ⟨c, r⟩ := cr
        rcases (read_back hr).1 with rfl | hm
        · exact addrBack_P1 C b s W h1 h2 h3 p hp r hr
        · exact addrBack_P2 C b s W h1 h2 h3 p hp c r hr hm
  · exact addrBack_large C b s W h
end Go.Proofs.YtmaephjonfeijaaDoor
