/- cmd, landed: what stands behind a verb. -/
import Derived.Test.YtahbbnimoogapaaGreatDoorMS
import Derived.Test.YtahbbnimoogapaaGreatDoorMJ
import Derived.Deep.RegionHeld3
import Derived.BigGuard
import Derived.BigCall
namespace Go.Proofs.YtahbbnimoogapaaGreatDoor
open Go.RowKit

/-- What stands behind a verb; none: it may not. -/
def sayB (v : Nat) (c : CmdA) : Option (List UInt8) :=
  if v = 1 ∨ v = 2 then (if domB c.text = true ∧ smL c.text = c.text then some (32 :: c.text) else none)
  else if v = 3 then match pathL c.box with
    | none => none
    | some p => if -1 ≤ c.size ∧ c.size ≤ 999999999999 then some (32 :: (froW ++ (p ++ (szT c.size ++ bodT c.eight)))) else none
  else if v = 4 then match pathL c.box with
    | none => none
    | some p => if mayB c.box = true then some (32 :: (toW ++ p)) else none
  else if v = 7 then (if c.text = [] then some [] else if prB c.text = true ∧ trL c.text = c.text then some (32 :: c.text) else none)
  else if v = 9 then (if c.text ≠ [] ∧ prB c.text = true ∧ trL c.text = c.text then some (32 :: c.text) else none)
  else some []
/-- What said answers. -/
def SayW (o : Option (List UInt8)) (e : Ending) : Prop := match o with
  | none => ∃ X, e = .returned (.tuple #[.string X, .bool false])
  | some t => e = .returned (.tuple #[.string (ba t), .bool true])
theorem SayW.no {o : Option (List UInt8)} (h : o = none) (X : ByteArray) : SayW o (.returned (.tuple #[.string X, .bool false])) := by subst h; exact ⟨X, rfl⟩
theorem SayW.yes {o : Option (List UInt8)} {t : List UInt8} {X : ByteArray} (h : o = some t) (hX : X = ba t) : SayW o (.returned (.tuple #[.string X, .bool true])) := by subst h hX; rfl
theorem ba_same (a b : List UInt8) : ((ba a).toList == (ba b).toList) = decide (a = b) := by
  rw [tl8]
  by_cases h : a = b
  · rw [h, decide_eq_true rfl, decide_eq_true rfl]
  · rw [decide_eq_false h, decide_eq_false fun e => h (ba_inj e)]
theorem ba_empty (l : List UInt8) : (ba l).toList.isEmpty = decide (l = []) := by
  rw [Lib.toList_data, ba_list]
  cases l <;> rfl
/-- The cells of a command handed in. -/
def CmC (w : World) (g : Nat) (cs : Array Value) : Prop := Arr w g cs 26
theorem CmC.next {w w' : World} {g : Nat} {cs : Array Value} (h : CmC w g cs) (hb : Below w.heap.size w w') : CmC w' g cs := Arr.next h hb
theorem path_len {b : BoxA} {p : List UInt8} (h : pathL b = some p) : p.length ≤ 2 * b.loc.length + b.dom.length + 10 := by
  rw [pathL] at h
  split at h
  · rw [← Option.some.inj h]; show 2 ≤ _; omega
  · split at h
    · rw [← Option.some.inj h]
      have := wrL_len b
      simp only [List.length_cons, List.length_append, List.length_nil]; omega
    · cases h

set_option maxHeartbeats 8000000 in
set_option maxRecDepth 100000 in
theorem lsayB_1 (c : CmdA) (h0 : c.text.length ≤ 65536) (_h1 : c.box.loc.length ≤ 65536) (_h2 : c.box.dom.length ≤ 65536) (_hS : I64 c.size) (w : World) (_ht : Tb w) :
    Calls Tryz.prog 37 #[.agg #[.int .i64 1, .string (ba c.text), .string (ba c.box.loc), .string (ba c.box.dom), .int .i64 c.size, .bool c.eight]] w fun e w' => SayW (sayB 1 c) e ∧ Below w.heap.size w w' := by
  have HB := Lib.hid (below_one w (.cells #[.int .i64 1, .string (ba c.text), .string (ba c.box.loc), .string (ba c.box.dom), .int .i64 c.size, .bool c.eight] 26))
  have HA := Lib.hid (Arr.new w #[.int .i64 1, .string (ba c.text), .string (ba c.box.loc), .string (ba c.box.dom), .int .i64 c.size, .bool c.eight] 26)
  obtain ⟨o, ho⟩ : ∃ o, o = sayB 1 c := ⟨_, rfl⟩
  rw [← ho]
  rw [sayB] at ho
  rw [if_pos (by decide)] at ho
  have s1 := cat_run ⟨#[32]⟩ (ba c.text) (by have : (⟨#[32]⟩ : ByteArray).size = 1 := rfl; rw [ba_size]; omega)
  rw [show (⟨#[32]⟩ : ByteArray) ++ ba c.text = ba (32 :: c.text) from ba_append [32] _] at s1
  have hD := fun w => lDomain_any (ba c.text) w
  rw [ba_list, domR] at hD
  by_cases hd : domB c.text = true
  · rw [if_pos hd] at hD
    have q := ba_same (smL c.text) c.text
    by_cases hs : smL c.text = c.text
    · rw [decide_eq_true hs] at q
      rw [if_pos ⟨hd, hs⟩] at ho
      have HD := Lib.hid hD
      have HO := Lib.hid ho
      clear h0 hd hs hD ho
      generalize hU : ba (32 :: c.text) = U at *
      generalize ba (smL c.text) = M at *
      generalize ba c.text = T at *
      generalize ba c.box.loc = L at *
      generalize ba c.box.dom = D at *
      generalize c.size = S at *
      generalize c.eight = E at *
      go_enter Tryz.func37, Tryz.ntmps37
      go_wp2_with (first
        | (go_at_call 54; (with_reducible refine (HD.out _).mono ?_); rintro e w1 ⟨rfl, hb1⟩; have HA1 := Lib.hid (HA.out.next hb1); obtain ⟨b0, b1, b2, b3, b4, b5⟩ := six_cells HA1.out; have HB1 := Lib.hid (Below_next HB.out hb1)))
      go_quiet (fail)
      go_wp2
      go_ret2
      exact ⟨SayW.yes HO.out hU.symm, Below_drewN HB1.out _⟩
    · rw [decide_eq_false hs] at q
      rw [if_neg (fun e => hs e.2)] at ho
      have HD := Lib.hid hD
      have HO := Lib.hid ho
      clear h0 hd hs hD ho
      generalize hU : ba (32 :: c.text) = U at *
      generalize ba (smL c.text) = M at *
      generalize ba c.text = T at *
      generalize ba c.box.loc = L at *
      generalize ba c.box.dom = D at *
      generalize c.size = S at *
      generalize c.eight = E at *
      go_enter Tryz.func37, Tryz.ntmps37
      go_wp2_with (first
        | (go_at_call 54; (with_reducible refine (HD.out _).mono ?_); rintro e w1 ⟨rfl, hb1⟩; have HA1 := Lib.hid (HA.out.next hb1); obtain ⟨b0, b1, b2, b3, b4, b5⟩ := six_cells HA1.out; have HB1 := Lib.hid (Below_next HB.out hb1)))
      go_quiet (fail)
      go_wp2
      go_ret2
      exact ⟨SayW.no HO.out _, Below_drewN HB1.out _⟩
  · rw [if_neg hd] at hD
    rw [if_neg (fun e => hd e.1)] at ho
    have HD := Lib.hid hD
    have HO := Lib.hid ho
    clear h0 hd hD ho
    generalize hU : ba (32 :: c.text) = U at *
    generalize ba c.text = T at *
    generalize ba c.box.loc = L at *
    generalize ba c.box.dom = D at *
    generalize c.size = S at *
    generalize c.eight = E at *
    go_enter Tryz.func37, Tryz.ntmps37
    go_wp2_with (first
      | (go_at_call 54; (with_reducible refine (HD.out _).mono ?_); rintro e w1 ⟨rfl, hb1⟩; have HA1 := Lib.hid (HA.out.next hb1); obtain ⟨b0, b1, b2, b3, b4, b5⟩ := six_cells HA1.out; have HB1 := Lib.hid (Below_next HB.out hb1)))
    go_quiet (fail)
    go_wp2
    go_ret2
    exact ⟨SayW.no HO.out _, Below_drewN HB1.out _⟩

set_option maxHeartbeats 8000000 in
set_option maxRecDepth 100000 in
theorem lsayB_2 (c : CmdA) (h0 : c.text.length ≤ 65536) (_h1 : c.box.loc.length ≤ 65536) (_h2 : c.box.dom.length ≤ 65536) (_hS : I64 c.size) (w : World) (_ht : Tb w) :
    Calls Tryz.prog 37 #[.agg #[.int .i64 2, .string (ba c.text), .string (ba c.box.loc), .string (ba c.box.dom), .int .i64 c.size, .bool c.eight]] w fun e w' => SayW (sayB 2 c) e ∧ Below w.heap.size w w' := by
  have HB := Lib.hid (below_one w (.cells #[.int .i64 2, .string (ba c.text), .string (ba c.box.loc), .string (ba c.box.dom), .int .i64 c.size, .bool c.eight] 26))
  have HA := Lib.hid (Arr.new w #[.int .i64 2, .string (ba c.text), .string (ba c.box.loc), .string (ba c.box.dom), .int .i64 c.size, .bool c.eight] 26)
  obtain ⟨o, ho⟩ : ∃ o, o = sayB 2 c := ⟨_, rfl⟩
  rw [← ho]
  rw [sayB] at ho
  rw [if_pos (by decide)] at ho
  have s1 := cat_run ⟨#[32]⟩ (ba c.text) (by have : (⟨#[32]⟩ : ByteArray).size = 1 := rfl; rw [ba_size]; omega)
  rw [show (⟨#[32]⟩ : ByteArray) ++ ba c.text = ba (32 :: c.text) from ba_append [32] _] at s1
  have hD := fun w => lDomain_any (ba c.text) w
  rw [ba_list, domR] at hD
  by_cases hd : domB c.text = true
  · rw [if_pos hd] at hD
    have q := ba_same (smL c.text) c.text
    by_cases hs : smL c.text = c.text
    · rw [decide_eq_true hs] at q
      rw [if_pos ⟨hd, hs⟩] at ho
      have HD := Lib.hid hD
      have HO := Lib.hid ho
      clear h0 hd hs hD ho
      generalize hU : ba (32 :: c.text) = U at *
      generalize ba (smL c.text) = M at *
      generalize ba c.text = T at *
      generalize ba c.box.loc = L at *
      generalize ba c.box.dom = D at *
      generalize c.size = S at *
      generalize c.eight = E at *
      go_enter Tryz.func37, Tryz.ntmps37
      go_wp2_with (first
        | (go_at_call 54; (with_reducible refine (HD.out _).mono ?_); rintro e w1 ⟨rfl, hb1⟩; have HA1 := Lib.hid (HA.out.next hb1); obtain ⟨b0, b1, b2, b3, b4, b5⟩ := six_cells HA1.out; have HB1 := Lib.hid (Below_next HB.out hb1)))
      go_quiet (fail)
      go_wp2
      go_ret2
      exact ⟨SayW.yes HO.out hU.symm, Below_drewN HB1.out _⟩
    · rw [decide_eq_false hs] at q
      rw [if_neg (fun e => hs e.2)] at ho
      have HD := Lib.hid hD
      have HO := Lib.hid ho
      clear h0 hd hs hD ho
      generalize hU : ba (32 :: c.text) = U at *
      generalize ba (smL c.text) = M at *
      generalize ba c.text = T at *
      generalize ba c.box.loc = L at *
      generalize ba c.box.dom = D at *
      generalize c.size = S at *
      generalize c.eight = E at *
      go_enter Tryz.func37, Tryz.ntmps37
      go_wp2_with (first
        | (go_at_call 54; (with_reducible refine (HD.out _).mono ?_); rintro e w1 ⟨rfl, hb1⟩; have HA1 := Lib.hid (HA.out.next hb1); obtain ⟨b0, b1, b2, b3, b4, b5⟩ := six_cells HA1.out; have HB1 := Lib.hid (Below_next HB.out hb1)))
      go_quiet (fail)
      go_wp2
      go_ret2
      exact ⟨SayW.no HO.out _, Below_drewN HB1.out _⟩
  · rw [if_neg hd] at hD
    rw [if_neg (fun e => hd e.1)] at ho
    have HD := Lib.hid hD
    have HO := Lib.hid ho
    clear h0 hd hD ho
    generalize hU : ba (32 :: c.text) = U at *
    generalize ba c.text = T at *
    generalize ba c.box.loc = L at *
    generalize ba c.box.dom = D at *
    generalize c.size = S at *
    generalize c.eight = E at *
    go_enter Tryz.func37, Tryz.ntmps37
    go_wp2_with (first
      | (go_at_call 54; (with_reducible refine (HD.out _).mono ?_); rintro e w1 ⟨rfl, hb1⟩; have HA1 := Lib.hid (HA.out.next hb1); obtain ⟨b0, b1, b2, b3, b4, b5⟩ := six_cells HA1.out; have HB1 := Lib.hid (Below_next HB.out hb1)))
    go_quiet (fail)
    go_wp2
    go_ret2
    exact ⟨SayW.no HO.out _, Below_drewN HB1.out _⟩

set_option maxHeartbeats 8000000 in
set_option maxRecDepth 100000 in
theorem lsayB_3 (c : CmdA) (_h0 : c.text.length ≤ 65536) (h1 : c.box.loc.length ≤ 65536) (h2 : c.box.dom.length ≤ 65536) (hS : I64 c.size) (w : World) (ht : Tb w) :
    Calls Tryz.prog 37 #[.agg #[.int .i64 3, .string (ba c.text), .string (ba c.box.loc), .string (ba c.box.dom), .int .i64 c.size, .bool c.eight]] w fun e w' => SayW (sayB 3 c) e ∧ Below w.heap.size w w' := by
  have HB := Lib.hid (below_one w (.cells #[.int .i64 3, .string (ba c.text), .string (ba c.box.loc), .string (ba c.box.dom), .int .i64 c.size, .bool c.eight] 26))
  have HA := Lib.hid (Arr.new w #[.int .i64 3, .string (ba c.text), .string (ba c.box.loc), .string (ba c.box.dom), .int .i64 c.size, .bool c.eight] 26)
  obtain ⟨o, ho⟩ : ∃ o, o = sayB 3 c := ⟨_, rfl⟩
  rw [← ho]
  rw [sayB] at ho
  rw [if_neg (by decide), if_pos rfl] at ho
  have hP := fun w => lpath_any c.box (Nat.le_trans h1 (by decide)) (Nat.le_trans h2 (by decide)) w
  rw [boxV, pathR] at hP
  have HTb := Lib.hid (fun w1 (hb : Below w.heap.size w w1) => ht.next hb)
  have HO2 := Lib.hid (fun w h => loptS_any 3 c.size (ba c.text) (ba c.box.loc) (ba c.box.dom) c.eight hS w h)
  have hol := szT_len hS
  have hol2 := bodT_len c.eight
  cases hp : pathL c.box with
  | none =>
    rw [hp] at hP ho
    dsimp only at hP
    have s1 := cat_run ⟨#[32, 70, 82, 79, 77, 58]⟩ ⟨#[]⟩ (by decide)
    rw [show (⟨#[32, 70, 82, 79, 77, 58]⟩ : ByteArray) ++ ⟨#[]⟩ = ba (32 :: (froW ++ [])) from ba_append [32, 70, 82, 79, 77, 58] []] at s1
    have s2 := cat_run (ba (32 :: (froW ++ []))) (ba (szT c.size ++ bodT c.eight)) (by rw [ba_size, ba_size, List.length_append, List.length_cons, List.length_append]; have e : froW.length = 5 := rfl; simp only [List.length_nil]; omega)
    rw [ba_append] at s2
    have HP := Lib.hid hP
    have HO := Lib.hid ho
    generalize ba (32 :: (froW ++ []) ++ (szT c.size ++ bodT c.eight)) = U at *
    generalize ba (32 :: (froW ++ [])) = M at *
    generalize ba (szT c.size ++ bodT c.eight) = N at *
    clear ht hS h1 h2 hP ho hp hol hol2
    generalize ba c.text = T at *
    generalize ba c.box.loc = L at *
    generalize ba c.box.dom = D at *
    generalize c.size = S at *
    generalize c.eight = E at *
    go_enter Tryz.func37, Tryz.ntmps37
    go_wp2_with (first
      | (go_at_call 64; (with_reducible refine (HP.out _).mono ?_); rintro e w1 ⟨rfl, hb1⟩; have HA1 := Lib.hid (HA.out.next hb1); obtain ⟨b0, b1, b2, b3, b4, b5⟩ := six_cells HA1.out; have HB1 := Lib.hid (Below_next HB.out hb1); have t1 := HTb.out _ HB1.out))
    clear b0 b1 b2 b3 b4 b5
    have HD1 := Lib.hid (HA1.out.next (below_drew w1))
    have HTd := Lib.hid (t1.next (below_drew w1))
    obtain ⟨b0, b1, b2, b3, b4, b5⟩ := six_cells HD1.out
    first
      | (go_region_with (first
        | (go_at_call 65; (with_reducible refine (HO2.out _ HTd.out).mono ?_); rintro e w5 ⟨rfl, hb5⟩; obtain ⟨p0, p1, p2, p3, p4, p5⟩ := six_cells (HD1.out.next hb5))))
      | fail
    all_goals
      go_wp2
      go_ret2
      exact ⟨SayW.no HO.out _, Below_next HB1.out.drew hb5⟩
  | some p =>
    rw [hp] at hP ho
    dsimp only at hP
    have hpl := path_len hp
    have s1 := cat_run ⟨#[32, 70, 82, 79, 77, 58]⟩ (ba p) (by have : (⟨#[32, 70, 82, 79, 77, 58]⟩ : ByteArray).size = 6 := rfl; rw [ba_size]; omega)
    rw [show (⟨#[32, 70, 82, 79, 77, 58]⟩ : ByteArray) ++ ba p = ba (32 :: (froW ++ p)) from ba_append [32, 70, 82, 79, 77, 58] _] at s1
    have s2 := cat_run (ba (32 :: (froW ++ p))) (ba (szT c.size ++ bodT c.eight)) (by rw [ba_size, ba_size, List.length_append, List.length_cons, List.length_append]; have e : froW.length = 5 := rfl; omega)
    rw [ba_append] at s2
    have HP := Lib.hid hP
    simp only at ho
    have hU : ba (32 :: (froW ++ p) ++ (szT c.size ++ bodT c.eight)) = ba (32 :: (froW ++ (p ++ (szT c.size ++ bodT c.eight)))) := by rw [List.cons_append, List.append_assoc]
    rw [hU] at s2
    clear hU
    by_cases hm : -1 ≤ c.size
    · by_cases hx : c.size ≤ 999999999999
      · rw [if_pos ⟨hm, hx⟩] at ho
        have HO := Lib.hid ho
        generalize hU : ba (32 :: (froW ++ (p ++ (szT c.size ++ bodT c.eight)))) = U at *
        generalize ba (32 :: (froW ++ p)) = M at *
        generalize ba (szT c.size ++ bodT c.eight) = N at *
        generalize ba p = P at *
        clear ht hS h1 h2 hP ho hp hol hol2 hpl
        generalize ba c.text = T at *
        generalize ba c.box.loc = L at *
        generalize ba c.box.dom = D at *
        generalize c.size = S at *
        generalize c.eight = E at *
        go_enter Tryz.func37, Tryz.ntmps37
        go_wp2_with (first
          | (go_at_call 64; (with_reducible refine (HP.out _).mono ?_); rintro e w1 ⟨rfl, hb1⟩; have HA1 := Lib.hid (HA.out.next hb1); obtain ⟨b0, b1, b2, b3, b4, b5⟩ := six_cells HA1.out; have HB1 := Lib.hid (Below_next HB.out hb1); have t1 := HTb.out _ HB1.out))
        clear b0 b1 b2 b3 b4 b5
        have HD1 := Lib.hid (HA1.out.next (below_drew w1))
        have HTd := Lib.hid (t1.next (below_drew w1))
        go_region_held3 (fun w' => (w'.cell? ⟨w.heap.size, 0, none⟩ = some (.int .i64 3) ∧ w'.cell? ⟨w.heap.size, 1, none⟩ = some (.string T) ∧ w'.cell? ⟨w.heap.size, 2, none⟩ = some (.string L) ∧ w'.cell? ⟨w.heap.size, 3, none⟩ = some (.string D) ∧ w'.cell? ⟨w.heap.size, 4, none⟩ = some (.int .i64 S) ∧ w'.cell? ⟨w.heap.size, 5, none⟩ = some (.bool E)))
          (first | with_reducible exact six_cells HA1.out | with_reducible exact six_cells HD1.out | with_reducible exact six_cells (HD1.out.next hb5))
          (first
            | (go_at_call 65; (with_reducible refine (HO2.out _ HTd.out).mono ?_); rintro e w5 ⟨rfl, hb5⟩))
        go_wp2
        go_ret2
        exact ⟨SayW.yes HO.out hU.symm, Below_next HB1.out.drew hb5⟩
      · rw [if_neg (fun e => hx e.2)] at ho
        have HO := Lib.hid ho
        generalize hU : ba (32 :: (froW ++ (p ++ (szT c.size ++ bodT c.eight)))) = U at *
        generalize ba (32 :: (froW ++ p)) = M at *
        generalize ba (szT c.size ++ bodT c.eight) = N at *
        generalize ba p = P at *
        clear ht hS h1 h2 hP ho hp hol hol2 hpl
        generalize ba c.text = T at *
        generalize ba c.box.loc = L at *
        generalize ba c.box.dom = D at *
        generalize c.size = S at *
        generalize c.eight = E at *
        go_enter Tryz.func37, Tryz.ntmps37
        go_wp2_with (first
          | (go_at_call 64; (with_reducible refine (HP.out _).mono ?_); rintro e w1 ⟨rfl, hb1⟩; have HA1 := Lib.hid (HA.out.next hb1); obtain ⟨b0, b1, b2, b3, b4, b5⟩ := six_cells HA1.out; have HB1 := Lib.hid (Below_next HB.out hb1); have t1 := HTb.out _ HB1.out))
        clear b0 b1 b2 b3 b4 b5
        have HD1 := Lib.hid (HA1.out.next (below_drew w1))
        have HTd := Lib.hid (t1.next (below_drew w1))
        go_region_held3 (fun w' => (w'.cell? ⟨w.heap.size, 0, none⟩ = some (.int .i64 3) ∧ w'.cell? ⟨w.heap.size, 1, none⟩ = some (.string T) ∧ w'.cell? ⟨w.heap.size, 2, none⟩ = some (.string L) ∧ w'.cell? ⟨w.heap.size, 3, none⟩ = some (.string D) ∧ w'.cell? ⟨w.heap.size, 4, none⟩ = some (.int .i64 S) ∧ w'.cell? ⟨w.heap.size, 5, none⟩ = some (.bool E)))
          (first | with_reducible exact six_cells HA1.out | with_reducible exact six_cells HD1.out | with_reducible exact six_cells (HD1.out.next hb5))
          (first
            | (go_at_call 65; (with_reducible refine (HO2.out _ HTd.out).mono ?_); rintro e w5 ⟨rfl, hb5⟩))
        go_wp2
        go_ret2
        refine ⟨?_, Below_next HB1.out.drew hb5⟩
        show SayW o (.returned (.tuple #[.string U, .bool (decide (S ≤ 999999999999))]))
        rw [decide_eq_false (show ¬ S ≤ 999999999999 by omega)]
        exact SayW.no HO.out _
    · rw [if_neg (fun e => hm e.1)] at ho
      have HO := Lib.hid ho
      generalize hU : ba (32 :: (froW ++ (p ++ (szT c.size ++ bodT c.eight)))) = U at *
      generalize ba (32 :: (froW ++ p)) = M at *
      generalize ba (szT c.size ++ bodT c.eight) = N at *
      generalize ba p = P at *
      clear ht hS h1 h2 hP ho hp hol hol2 hpl
      generalize ba c.text = T at *
      generalize ba c.box.loc = L at *
      generalize ba c.box.dom = D at *
      generalize c.size = S at *
      generalize c.eight = E at *
      go_enter Tryz.func37, Tryz.ntmps37
      go_wp2_with (first
        | (go_at_call 64; (with_reducible refine (HP.out _).mono ?_); rintro e w1 ⟨rfl, hb1⟩; have HA1 := Lib.hid (HA.out.next hb1); obtain ⟨b0, b1, b2, b3, b4, b5⟩ := six_cells HA1.out; have HB1 := Lib.hid (Below_next HB.out hb1); have t1 := HTb.out _ HB1.out))
      clear b0 b1 b2 b3 b4 b5
      have HD1 := Lib.hid (HA1.out.next (below_drew w1))
      have HTd := Lib.hid (t1.next (below_drew w1))
      obtain ⟨b0, b1, b2, b3, b4, b5⟩ := six_cells HD1.out
      first
        | (go_region_with (first
          | (go_at_call 65; (with_reducible refine (HO2.out _ HTd.out).mono ?_); rintro e w5 ⟨rfl, hb5⟩; obtain ⟨p0, p1, p2, p3, p4, p5⟩ := six_cells (HD1.out.next hb5))))
        | fail
      all_goals
        go_wp2
        go_ret2
        exact ⟨SayW.no HO.out _, Below_next HB1.out.drew hb5⟩

set_option maxHeartbeats 8000000 in
set_option maxRecDepth 100000 in
theorem lsayB_4 (c : CmdA) (_h0 : c.text.length ≤ 65536) (h1 : c.box.loc.length ≤ 65536) (h2 : c.box.dom.length ≤ 65536) (_hS : I64 c.size) (w : World) (ht : Tb w) :
    Calls Tryz.prog 37 #[.agg #[.int .i64 4, .string (ba c.text), .string (ba c.box.loc), .string (ba c.box.dom), .int .i64 c.size, .bool c.eight]] w fun e w' => SayW (sayB 4 c) e ∧ Below w.heap.size w w' := by
  have HB := Lib.hid (below_one w (.cells #[.int .i64 4, .string (ba c.text), .string (ba c.box.loc), .string (ba c.box.dom), .int .i64 c.size, .bool c.eight] 26))
  have HA := Lib.hid (Arr.new w #[.int .i64 4, .string (ba c.text), .string (ba c.box.loc), .string (ba c.box.dom), .int .i64 c.size, .bool c.eight] 26)
  obtain ⟨o, ho⟩ : ∃ o, o = sayB 4 c := ⟨_, rfl⟩
  rw [← ho]
  rw [sayB] at ho
  rw [if_neg (by decide), if_neg (by decide), if_pos rfl] at ho
  have hP := fun w => lpath_any c.box (Nat.le_trans h1 (by decide)) (Nat.le_trans h2 (by decide)) w
  rw [boxV, pathR] at hP
  have HTb := Lib.hid (fun w1 (hb : Below w.heap.size w w1) => ht.next hb)
  have HM := Lib.hid (fun w => lmay_any c.box (Nat.le_trans h1 (by decide)) w)
  rw [boxV] at HM
  cases hp : pathL c.box with
  | none =>
    rw [hp] at hP ho
    dsimp only at hP
    have s1 := cat_run ⟨#[32, 84, 79, 58]⟩ ⟨#[]⟩ (by decide)
    rw [show (⟨#[32, 84, 79, 58]⟩ : ByteArray) ++ ⟨#[]⟩ = ba (32 :: (toW ++ [])) from ba_append [32, 84, 79, 58] []] at s1
    have HP := Lib.hid hP
    have HO := Lib.hid ho
    generalize ba (32 :: (toW ++ [])) = M at *
    clear ht h1 h2 hP ho hp
    generalize ba c.text = T at *
    generalize ba c.box.loc = L at *
    generalize ba c.box.dom = D at *
    generalize c.size = S at *
    generalize c.eight = E at *
    go_enter Tryz.func37, Tryz.ntmps37
    go_wp2_with (first
      | (go_at_call 64; (with_reducible refine (HP.out _).mono ?_); rintro e w1 ⟨rfl, hb1⟩; have HA1 := Lib.hid (HA.out.next hb1); obtain ⟨b0, b1, b2, b3, b4, b5⟩ := six_cells HA1.out; have HB1 := Lib.hid (Below_next HB.out hb1); have t1 := HTb.out _ HB1.out))
    go_ret2
    exact ⟨SayW.no HO.out _, HB1.out⟩
  | some p =>
    rw [hp] at hP ho
    dsimp only at hP
    have hpl := path_len hp
    have s1 := cat_run ⟨#[32, 84, 79, 58]⟩ (ba p) (by have : (⟨#[32, 84, 79, 58]⟩ : ByteArray).size = 4 := rfl; rw [ba_size]; omega)
    rw [show (⟨#[32, 84, 79, 58]⟩ : ByteArray) ++ ba p = ba (32 :: (toW ++ p)) from ba_append [32, 84, 79, 58] _] at s1
    have HP := Lib.hid hP
    simp only at ho
    cases hm : mayB c.box with
    | true =>
      rw [hm] at HM
      rw [if_pos hm] at ho
      have HO := Lib.hid ho
      generalize hU : ba (32 :: (toW ++ p)) = U at *
      generalize ba p = P at *
      clear ht h1 h2 hP ho hp hpl hm
      generalize ba c.text = T at *
      generalize ba c.box.loc = L at *
      generalize ba c.box.dom = D at *
      generalize c.size = S at *
      generalize c.eight = E at *
      go_enter Tryz.func37, Tryz.ntmps37
      go_wp2_with (first
        | (go_at_call 64; (with_reducible refine (HP.out _).mono ?_); rintro e w1 ⟨rfl, hb1⟩; have HA1 := Lib.hid (HA.out.next hb1); obtain ⟨b0, b1, b2, b3, b4, b5⟩ := six_cells HA1.out; have HB1 := Lib.hid (Below_next HB.out hb1); have t1 := HTb.out _ HB1.out)
        | (go_at_call 66; (with_reducible refine (HM.out _).mono ?_); rintro e w2 ⟨rfl, hb2⟩; have HB2 := Lib.hid (Below_next HB1.out hb2)))
      go_ret2
      exact ⟨SayW.yes HO.out hU.symm, HB2.out⟩
    | false =>
      rw [hm] at HM
      rw [if_neg (by rw [hm]; decide)] at ho
      have HO := Lib.hid ho
      generalize hU : ba (32 :: (toW ++ p)) = U at *
      generalize ba p = P at *
      clear ht h1 h2 hP ho hp hpl hm
      generalize ba c.text = T at *
      generalize ba c.box.loc = L at *
      generalize ba c.box.dom = D at *
      generalize c.size = S at *
      generalize c.eight = E at *
      go_enter Tryz.func37, Tryz.ntmps37
      go_wp2_with (first
        | (go_at_call 64; (with_reducible refine (HP.out _).mono ?_); rintro e w1 ⟨rfl, hb1⟩; have HA1 := Lib.hid (HA.out.next hb1); obtain ⟨b0, b1, b2, b3, b4, b5⟩ := six_cells HA1.out; have HB1 := Lib.hid (Below_next HB.out hb1); have t1 := HTb.out _ HB1.out)
        | (go_at_call 66; (with_reducible refine (HM.out _).mono ?_); rintro e w2 ⟨rfl, hb2⟩; have HB2 := Lib.hid (Below_next HB1.out hb2)))
      go_ret2
      exact ⟨SayW.no HO.out _, HB2.out⟩

set_option maxHeartbeats 8000000 in
set_option maxRecDepth 100000 in
theorem lsayB_5 (c : CmdA) (_h0 : c.text.length ≤ 65536) (_h1 : c.box.loc.length ≤ 65536) (_h2 : c.box.dom.length ≤ 65536) (_hS : I64 c.size) (w : World) (_ht : Tb w) :
    Calls Tryz.prog 37 #[.agg #[.int .i64 5, .string (ba c.text), .string (ba c.box.loc), .string (ba c.box.dom), .int .i64 c.size, .bool c.eight]] w fun e w' => SayW (sayB 5 c) e ∧ Below w.heap.size w w' := by
  have HB := Lib.hid (below_one w (.cells #[.int .i64 5, .string (ba c.text), .string (ba c.box.loc), .string (ba c.box.dom), .int .i64 c.size, .bool c.eight] 26))
  have HA := Lib.hid (Arr.new w #[.int .i64 5, .string (ba c.text), .string (ba c.box.loc), .string (ba c.box.dom), .int .i64 c.size, .bool c.eight] 26)
  obtain ⟨o, ho⟩ : ∃ o, o = sayB 5 c := ⟨_, rfl⟩
  rw [← ho]
  rw [sayB] at ho
  rw [if_neg (by decide), if_neg (by decide), if_neg (by decide), if_neg (by decide), if_neg (by decide)] at ho
  have HO := Lib.hid ho
  clear ho
  go_enter Tryz.func37, Tryz.ntmps37
  go_wp2
  go_ret2
  exact ⟨SayW.yes HO.out rfl, HB.out⟩

set_option maxHeartbeats 8000000 in
set_option maxRecDepth 100000 in
theorem lsayB_6 (c : CmdA) (_h0 : c.text.length ≤ 65536) (_h1 : c.box.loc.length ≤ 65536) (_h2 : c.box.dom.length ≤ 65536) (_hS : I64 c.size) (w : World) (_ht : Tb w) :
    Calls Tryz.prog 37 #[.agg #[.int .i64 6, .string (ba c.text), .string (ba c.box.loc), .string (ba c.box.dom), .int .i64 c.size, .bool c.eight]] w fun e w' => SayW (sayB 6 c) e ∧ Below w.heap.size w w' := by
  have HB := Lib.hid (below_one w (.cells #[.int .i64 6, .string (ba c.text), .string (ba c.box.loc), .string (ba c.box.dom), .int .i64 c.size, .bool c.eight] 26))
  have HA := Lib.hid (Arr.new w #[.int .i64 6, .string (ba c.text), .string (ba c.box.loc), .string (ba c.box.dom), .int .i64 c.size, .bool c.eight] 26)
  obtain ⟨o, ho⟩ : ∃ o, o = sayB 6 c := ⟨_, rfl⟩
  rw [← ho]
  rw [sayB] at ho
  rw [if_neg (by decide), if_neg (by decide), if_neg (by decide), if_neg (by decide), if_neg (by decide)] at ho
  have HO := Lib.hid ho
  clear ho
  go_enter Tryz.func37, Tryz.ntmps37
  go_wp2
  go_ret2
  exact ⟨SayW.yes HO.out rfl, HB.out⟩

set_option maxHeartbeats 8000000 in
set_option maxRecDepth 100000 in
theorem lsayB_7 (c : CmdA) (h0 : c.text.length ≤ 65536) (_h1 : c.box.loc.length ≤ 65536) (_h2 : c.box.dom.length ≤ 65536) (_hS : I64 c.size) (w : World) (_ht : Tb w) :
    Calls Tryz.prog 37 #[.agg #[.int .i64 7, .string (ba c.text), .string (ba c.box.loc), .string (ba c.box.dom), .int .i64 c.size, .bool c.eight]] w fun e w' => SayW (sayB 7 c) e ∧ Below w.heap.size w w' := by
  have HB := Lib.hid (below_one w (.cells #[.int .i64 7, .string (ba c.text), .string (ba c.box.loc), .string (ba c.box.dom), .int .i64 c.size, .bool c.eight] 26))
  have HA := Lib.hid (Arr.new w #[.int .i64 7, .string (ba c.text), .string (ba c.box.loc), .string (ba c.box.dom), .int .i64 c.size, .bool c.eight] 26)
  obtain ⟨o, ho⟩ : ∃ o, o = sayB 7 c := ⟨_, rfl⟩
  rw [← ho]
  rw [sayB] at ho
  rw [if_neg (by decide), if_neg (by decide), if_neg (by decide), if_pos rfl] at ho
  have s1 := cat_run ⟨#[32]⟩ (ba c.text) (by have : (⟨#[32]⟩ : ByteArray).size = 1 := rfl; rw [ba_size]; omega)
  rw [show (⟨#[32]⟩ : ByteArray) ++ ba c.text = ba (32 :: c.text) from ba_append [32] _] at s1
  have z := ba_empty c.text
  have HI := Lib.hid (fun w => lisText_any c.text (Nat.le_trans h0 (by decide)) w)
  by_cases h : c.text = []
  · rw [if_pos h] at ho
    rw [decide_eq_true h] at z
    have HO := Lib.hid ho
    clear h0 h ho HI s1
    generalize ba c.text = T at *
    go_enter Tryz.func37, Tryz.ntmps37
    go_wp2
    go_ret2
    exact ⟨SayW.yes HO.out rfl, HB.out⟩
  · rw [if_neg h] at ho
    rw [decide_eq_false h] at z
    obtain ⟨R, hR⟩ : ∃ R, R = (prB c.text && decide (trL c.text = c.text)) := ⟨_, rfl⟩
    rw [← hR] at HI
    cases R with
    | true =>
      have hR2 := hR.symm
      rw [Bool.and_eq_true, decide_eq_true_eq] at hR2
      rw [if_pos hR2] at ho
      have HO := Lib.hid ho
      clear h0 h ho hR hR2
      generalize hU : ba (32 :: c.text) = U at *
      generalize ba c.text = T at *
      go_enter Tryz.func37, Tryz.ntmps37
      go_wp2
      go_quiet (first | (go_at_call 67; refine (HI.out _).mono ?_; rintro _ _ ⟨rfl, hd⟩; exact ⟨rfl, drw_of hd⟩))
      go_wp2
      go_ret2
      exact ⟨SayW.yes HO.out hU.symm, Below_drewN HB.out _⟩
    | false =>
      rw [if_neg (fun e => by rw [e.1, decide_eq_true e.2] at hR; cases hR)] at ho
      have HO := Lib.hid ho
      clear h0 h ho hR
      generalize hU : ba (32 :: c.text) = U at *
      generalize ba c.text = T at *
      go_enter Tryz.func37, Tryz.ntmps37
      go_wp2
      go_quiet (first | (go_at_call 67; refine (HI.out _).mono ?_; rintro _ _ ⟨rfl, hd⟩; exact ⟨rfl, drw_of hd⟩))
      go_wp2
      go_ret2
      exact ⟨SayW.no HO.out _, Below_drewN HB.out _⟩

set_option maxHeartbeats 8000000 in
set_option maxRecDepth 100000 in
theorem lsayB_8 (c : CmdA) (_h0 : c.text.length ≤ 65536) (_h1 : c.box.loc.length ≤ 65536) (_h2 : c.box.dom.length ≤ 65536) (_hS : I64 c.size) (w : World) (_ht : Tb w) :
    Calls Tryz.prog 37 #[.agg #[.int .i64 8, .string (ba c.text), .string (ba c.box.loc), .string (ba c.box.dom), .int .i64 c.size, .bool c.eight]] w fun e w' => SayW (sayB 8 c) e ∧ Below w.heap.size w w' := by
  have HB := Lib.hid (below_one w (.cells #[.int .i64 8, .string (ba c.text), .string (ba c.box.loc), .string (ba c.box.dom), .int .i64 c.size, .bool c.eight] 26))
  have HA := Lib.hid (Arr.new w #[.int .i64 8, .string (ba c.text), .string (ba c.box.loc), .string (ba c.box.dom), .int .i64 c.size, .bool c.eight] 26)
  obtain ⟨o, ho⟩ : ∃ o, o = sayB 8 c := ⟨_, rfl⟩
  rw [← ho]
  rw [sayB] at ho
  rw [if_neg (by decide), if_neg (by decide), if_neg (by decide), if_neg (by decide), if_neg (by decide)] at ho
  have HO := Lib.hid ho
  clear ho
  go_enter Tryz.func37, Tryz.ntmps37
  go_wp2
  go_ret2
  exact ⟨SayW.yes HO.out rfl, HB.out⟩

set_option maxHeartbeats 8000000 in
set_option maxRecDepth 100000 in
theorem lsayB_9 (c : CmdA) (h0 : c.text.length ≤ 65536) (_h1 : c.box.loc.length ≤ 65536) (_h2 : c.box.dom.length ≤ 65536) (_hS : I64 c.size) (w : World) (_ht : Tb w) :
    Calls Tryz.prog 37 #[.agg #[.int .i64 9, .string (ba c.text), .string (ba c.box.loc), .string (ba c.box.dom), .int .i64 c.size, .bool c.eight]] w fun e w' => SayW (sayB 9 c) e ∧ Below w.heap.size w w' := by
  have HB := Lib.hid (below_one w (.cells #[.int .i64 9, .string (ba c.text), .string (ba c.box.loc), .string (ba c.box.dom), .int .i64 c.size, .bool c.eight] 26))
  have HA := Lib.hid (Arr.new w #[.int .i64 9, .string (ba c.text), .string (ba c.box.loc), .string (ba c.box.dom), .int .i64 c.size, .bool c.eight] 26)
  obtain ⟨o, ho⟩ : ∃ o, o = sayB 9 c := ⟨_, rfl⟩
  rw [← ho]
  rw [sayB] at ho
  rw [if_neg (by decide), if_neg (by decide), if_neg (by decide), if_neg (by decide), if_pos rfl] at ho
  have s1 := cat_run ⟨#[32]⟩ (ba c.text) (by have : (⟨#[32]⟩ : ByteArray).size = 1 := rfl; rw [ba_size]; omega)
  rw [show (⟨#[32]⟩ : ByteArray) ++ ba c.text = ba (32 :: c.text) from ba_append [32] _] at s1
  have z := ba_empty c.text
  have HI := Lib.hid (fun w => lisText_any c.text (Nat.le_trans h0 (by decide)) w)
  by_cases h : c.text = []
  · rw [if_neg (fun e => e.1 h)] at ho
    rw [decide_eq_true h] at z
    have HO := Lib.hid ho
    clear h0 h ho HI
    generalize ba (32 :: c.text) = U at *
    generalize ba c.text = T at *
    go_enter Tryz.func37, Tryz.ntmps37
    go_wp2
    go_quiet (fail)
    go_wp2
    go_ret2
    exact ⟨SayW.no HO.out _, Below_drewN HB.out _⟩
  · rw [decide_eq_false h] at z
    obtain ⟨R, hR⟩ : ∃ R, R = (prB c.text && decide (trL c.text = c.text)) := ⟨_, rfl⟩
    rw [← hR] at HI
    cases R with
    | true =>
      have hR2 := hR.symm
      rw [Bool.and_eq_true, decide_eq_true_eq] at hR2
      rw [if_pos ⟨h, hR2⟩] at ho
      have HO := Lib.hid ho
      clear h0 h ho hR hR2
      generalize hU : ba (32 :: c.text) = U at *
      generalize ba c.text = T at *
      go_enter Tryz.func37, Tryz.ntmps37
      go_wp2
      go_quiet (first | (go_at_call 67; refine (HI.out _).mono ?_; rintro _ _ ⟨rfl, hd⟩; exact ⟨rfl, drw_of hd⟩))
      go_wp2
      go_ret2
      exact ⟨SayW.yes HO.out hU.symm, Below_drewN HB.out _⟩
    | false =>
      rw [if_neg (fun e => by rw [e.2.1, decide_eq_true e.2.2] at hR; cases hR)] at ho
      have HO := Lib.hid ho
      clear h0 h ho hR
      generalize hU : ba (32 :: c.text) = U at *
      generalize ba c.text = T at *
      go_enter Tryz.func37, Tryz.ntmps37
      go_wp2
      go_quiet (first | (go_at_call 67; refine (HI.out _).mono ?_; rintro _ _ ⟨rfl, hd⟩; exact ⟨rfl, drw_of hd⟩))
      go_wp2
      go_ret2
      exact ⟨SayW.no HO.out _, Below_drewN HB.out _⟩
end Go.Proofs.YtahbbnimoogapaaGreatDoor
