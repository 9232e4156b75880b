/- line: the plain functions: lines, what stands behind them, dots; what follows of them. -/
import Derived.Test.YtahbbnimoogapaaGreatDoorM1
namespace Go.Proofs.YtahbbnimoogapaaGreatDoor
open Go.RowKit

/-- Does a line end at a place? -/
def endAt (l : List UInt8) (i : Nat) : Prop := l[i]? = some 13 ∧ l[i + 1]? = some 10
instance (l : List UInt8) (i : Nat) : Decidable (endAt l i) := by unfold endAt; infer_instance
/-- Where the first line ends. -/
def firstE (l : List UInt8) : Option Nat := (List.range l.length).find? fun i => decide (endAt l i)
theorem endAt_lt {l : List UInt8} {i : Nat} (h : endAt l i) : i + 1 < l.length := (List.getElem?_eq_some_iff.1 h.2).1
theorem firstE_none {l : List UInt8} : firstE l = none ↔ ∀ i, ¬ endAt l i := by
  rw [firstE, List.find?_eq_none]
  constructor
  · intro h i hi
    exact h i (List.mem_range.2 (by have := endAt_lt hi; omega)) (decide_eq_true hi)
  · intro h i _ hd
    exact h i (of_decide_eq_true hd)
theorem firstE_some {l : List UInt8} {i : Nat} : firstE l = some i ↔ endAt l i ∧ ∀ j, j < i → ¬ endAt l j := by
  rw [firstE, List.find?_eq_some_iff_getElem]
  constructor
  · rintro ⟨h1, k, hk, he, hb⟩
    rw [List.getElem_range] at he
    subst he
    refine ⟨of_decide_eq_true h1, fun j hj hd => ?_⟩
    have := hb j hj
    rw [List.getElem_range, decide_eq_true hd] at this
    exact absurd this (by decide)
  · rintro ⟨h1, h2⟩
    have hlt := endAt_lt h1
    refine ⟨decide_eq_true h1, i, by rw [List.length_range]; omega, List.getElem_range _, fun j hj => ?_⟩
    rw [List.getElem_range, decide_eq_false (h2 j hj)]
    rfl
theorem firstE_lt {l : List UInt8} {i : Nat} (h : firstE l = some i) : i + 1 < l.length := endAt_lt (firstE_some.1 h).1

/-- The lines of bytes, and what stands behind them. -/
def linesF : Nat → List UInt8 → List (List UInt8) × List UInt8
  | 0, l => ([], l)
  | n + 1, l => match firstE l with
    | none => ([], l)
    | some i => (l.take i :: (linesF n (l.drop (i + 2))).1, (linesF n (l.drop (i + 2))).2)
def linesL (l : List UInt8) : List (List UInt8) × List UInt8 := linesF l.length l
theorem linesF_more : ∀ (n m : Nat) (l : List UInt8), l.length ≤ n → l.length ≤ m → linesF n l = linesF m l
  | 0, 0, _, _, _ => rfl
  | 0, m + 1, l, h, _ => by
    obtain rfl : l = [] := List.length_eq_zero_iff.1 (by omega)
    rfl
  | n + 1, 0, l, _, h => by
    obtain rfl : l = [] := List.length_eq_zero_iff.1 (by omega)
    rfl
  | n + 1, m + 1, l, h, h2 => by
    rw [linesF, linesF]
    cases hf : firstE l with
    | none => rfl
    | some i =>
      have hlt := firstE_lt hf
      have e := linesF_more n m (l.drop (i + 2)) (by rw [List.length_drop]; omega) (by rw [List.length_drop]; omega)
      simp only [e]
theorem linesL_none {l : List UInt8} (h : firstE l = none) : linesL l = ([], l) := by
  cases hl : l.length with
  | zero => rw [linesL, hl]; rfl
  | succ n => rw [linesL, hl, linesF, h]
theorem linesL_some {l : List UInt8} {i : Nat} (h : firstE l = some i) : linesL l = (l.take i :: (linesL (l.drop (i + 2))).1, (linesL (l.drop (i + 2))).2) := by
  have hlt := firstE_lt h
  cases hl : l.length with
  | zero => omega
  | succ n =>
    rw [linesL, hl, linesF, h]
    have e := linesF_more n (l.drop (i + 2)).length (l.drop (i + 2)) (by rw [List.length_drop]; omega) (Nat.le_refl _)
    simp only [e]
    rfl

theorem endAt_drop {l : List UInt8} {f j : Nat} : endAt (l.drop f) j ↔ endAt l (f + j) := by unfold endAt; rw [List.getElem?_drop, List.getElem?_drop]; rfl
theorem split_step {l : List UInt8} {f k : Nat} (hf : f ≤ k) (he : endAt l k) (hno : ∀ j, f ≤ j → j < k → ¬ endAt l j) : linesL (l.drop f) = ((l.drop f).take (k - f) :: (linesL (l.drop (k + 2))).1, (linesL (l.drop (k + 2))).2) := by
  have h1 : firstE (l.drop f) = some (k - f) := firstE_some.2 ⟨endAt_drop.2 (by rw [show f + (k - f) = k by omega]; exact he), fun j hj e => hno (f + j) (by omega) (by omega) (endAt_drop.1 e)⟩
  rw [linesL_some h1, List.drop_drop, show f + (k - f + 2) = k + 2 by omega]
theorem split_end {l : List UInt8} {f : Nat} (hno : ∀ j, f ≤ j → j < l.length → ¬ endAt l j) : linesL (l.drop f) = ([], l.drop f) :=
  linesL_none (firstE_none.2 fun i e => hno (f + i) (by omega) (by have := endAt_lt (endAt_drop.1 e); omega) (endAt_drop.1 e))

/-- Lines ended, one behind the other. -/
def joinL : List (List UInt8) → List UInt8
  | [] => []
  | x :: L => x ++ 13 :: 10 :: joinL L
theorem joinL_append (K L : List (List UInt8)) : joinL (K ++ L) = joinL K ++ joinL L := by
  induction K with
  | nil => rfl
  | cons x K ih => rw [List.cons_append, joinL, joinL, ih]; simp
theorem cut_first {l : List UInt8} {i : Nat} (h : endAt l i) : l = l.take i ++ 13 :: 10 :: l.drop (i + 2) := by
  obtain ⟨h1, h2⟩ := h
  obtain ⟨a, ha⟩ := List.getElem?_eq_some_iff.1 h1
  obtain ⟨b, hb⟩ := List.getElem?_eq_some_iff.1 h2
  conv => lhs; rw [← List.take_append_drop i l]
  rw [List.drop_eq_getElem_cons a, ha, List.drop_eq_getElem_cons b, hb]
theorem join_lines : ∀ (n : Nat) (l : List UInt8), l.length ≤ n → joinL (linesL l).1 ++ (linesL l).2 = l
  | n, l, hn => by
    cases hf : firstE l with
    | none => rw [linesL_none hf]; rfl
    | some i =>
      have hlt := firstE_lt hf
      rw [linesL_some hf]
      match n with
      | 0 => omega
      | n + 1 =>
        have ih := join_lines n (l.drop (i + 2)) (by rw [List.length_drop]; omega)
        show (l.take i ++ 13 :: 10 :: joinL (linesL (l.drop (i + 2))).1) ++ (linesL (l.drop (i + 2))).2 = l
        rw [List.append_assoc, List.cons_append, List.cons_append, ih]
        exact (cut_first (firstE_some.1 hf).1).symm
/-- The first end stays the first one, whatever stands behind. -/
theorem endAt_append {l : List UInt8} (m : List UInt8) {i : Nat} (h : i + 1 < l.length) : endAt (l ++ m) i ↔ endAt l i := by
  unfold endAt
  rw [List.getElem?_append_left (by omega), List.getElem?_append_left h]
theorem firstE_append {l : List UInt8} (m : List UInt8) {i : Nat} (h : firstE l = some i) : firstE (l ++ m) = some i := by
  have hlt := firstE_lt h
  obtain ⟨h1, h2⟩ := firstE_some.1 h
  exact firstE_some.2 ⟨(endAt_append m hlt).2 h1, fun j hj e => h2 j hj ((endAt_append m (by omega)).1 e)⟩
/-- A line has no end in it, also behind its own. -/
def OneL (x : List UInt8) : Prop := firstE (x ++ [13, 10]) = some x.length
theorem OneL.cut {x : List UInt8} (h : OneL x) (m : List UInt8) : firstE (x ++ 13 :: 10 :: m) = some x.length := by
  have := firstE_append m h
  rwa [List.append_assoc] at this
theorem take_line (x m : List UInt8) : (x ++ 13 :: 10 :: m).take x.length = x := by rw [List.take_left]
theorem drop_line (x m : List UInt8) : (x ++ 13 :: 10 :: m).drop (x.length + 2) = m := by
  rw [← List.drop_drop, List.drop_left]; rfl
theorem OneL.lines {x : List UInt8} (h : OneL x) (m : List UInt8) : linesL (x ++ 13 :: 10 :: m) = (x :: (linesL m).1, (linesL m).2) := by
  rw [linesL_some (h.cut m), take_line, drop_line]
theorem lines_joined {L : List (List UInt8)} (h : ∀ x ∈ L, OneL x) {r : List UInt8} (hr : firstE r = none) : linesL (joinL L ++ r) = (L, r) := by
  induction L with
  | nil => exact linesL_none hr
  | cons x L ih =>
    rw [joinL, List.append_assoc, List.cons_append, List.cons_append, (h x List.mem_cons_self).lines, ih fun y hy => h y (List.mem_cons_of_mem _ hy)]
theorem lines_joined2 {L : List (List UInt8)} (h : ∀ x ∈ L, OneL x) (r : List UInt8) : linesL (joinL L ++ r) = (L ++ (linesL r).1, (linesL r).2) := by
  induction L with
  | nil => rfl
  | cons x L ih =>
    rw [joinL, List.append_assoc, List.cons_append, List.cons_append, (h x List.mem_cons_self).lines, ih fun y hy => h y (List.mem_cons_of_mem _ hy)]
    rfl
/-- Which line alone has no end in it: its split tells it. -/
theorem OneL.of_lines {x : List UInt8} {L : List (List UInt8)} {r : List UInt8} (h : linesL (x ++ [13, 10]) = (L, r)) (h1 : L.length = 1) (h2 : L[0]? = some x) : OneL x := by
  cases hf : firstE (x ++ [13, 10]) with
  | none =>
    rw [linesL_none hf] at h
    cases h
    simp at h1
  | some i =>
    rw [linesL_some hf] at h
    have hlt := firstE_lt hf
    injection h with ha hb
    subst ha
    have e : (x ++ [13, 10]).take i = x := by simpa using h2
    have := congrArg List.length e
    rw [List.length_take] at this
    rw [List.length_append] at this hlt
    simp only [List.length_cons, List.length_nil] at this hlt
    rw [OneL, hf]
    congr 1
    omega

/-- A dot ahead, if it begins with one. -/
def dotL (x : List UInt8) : List UInt8 := if x[0]? = some 46 then 46 :: x else x
def stuffL (L : List (List UInt8)) : List UInt8 := joinL (L.map dotL ++ [[46]])
/-- A dot is taken away; is it the end? -/
def undotL (x : List UInt8) : List UInt8 × Bool := if x = [46] then ([], true) else if x[0]? = some 46 then (x.drop 1, false) else (x, false)
theorem undot_dot (x : List UInt8) : undotL (dotL x) = (x, false) := by
  unfold dotL undotL
  split
  · rename_i h
    have : ¬ 46 :: x = [46] := fun e => by injection e with _ e; rw [e] at h; cases h
    rw [if_neg this, if_pos (show (46 :: x)[0]? = some 46 from rfl)]
    rfl
  · rename_i h
    have : ¬ x = [46] := fun e => h (by rw [e]; rfl)
    rw [if_neg this]
/-- What stands ahead of the first line that is one dot, each without its dot; how many bytes there are up to behind it. -/
def unstuffG : List (List UInt8) → Option (List (List UInt8) × Nat)
  | [] => none
  | x :: L => if (undotL x).2 = true then some ([], x.length + 2) else (unstuffG L).map fun p => ((undotL x).1 :: p.1, x.length + 2 + p.2)
/-- The lines up to the end, what stands behind it, is there one? -/
def unstuffL (l : List UInt8) : List (List UInt8) × List UInt8 × Bool := match unstuffG (linesL l).1 with
  | none => ([], [], false)
  | some p => (p.1, l.drop p.2, true)
theorem unstuffG_dots (L K : List (List UInt8)) : unstuffG (L.map dotL ++ [46] :: K) = some (L, (joinL (L.map dotL)).length + 3) := by
  induction L with
  | nil => rfl
  | cons x L ih =>
    rw [List.map_cons, List.cons_append, unstuffG, undot_dot, if_neg (show ¬ (x, false).2 = true from fun e => by cases e), ih]
    simp only [Option.map_some, Option.some.injEq, Prod.mk.injEq, true_and, joinL, List.length_append, List.length_cons]
    omega
theorem endAt_cons {b : UInt8} {x : List UInt8} {i : Nat} : endAt (b :: x) (i + 1) ↔ endAt x i := by unfold endAt; rw [List.getElem?_cons_succ, List.getElem?_cons_succ]
theorem OneL.dot {x : List UInt8} (h : OneL x) : OneL (dotL x) := by
  unfold dotL
  split
  · obtain ⟨h1, h2⟩ := firstE_some.1 h
    refine firstE_some.2 ⟨endAt_cons.2 h1, fun j hj e => ?_⟩
    cases j with
    | zero => exact absurd (show some (46 : UInt8) = some 13 from e.1) (by decide)
    | succ j => exact h2 j (by rw [List.length_cons] at hj; omega) (endAt_cons.1 e)
  · exact h
theorem oneL_dot1 : OneL [46] := by unfold OneL; decide
theorem unstuff_stuff {L : List (List UInt8)} (h : ∀ x ∈ L, OneL x) (m : List UInt8) : unstuffL (stuffL L ++ m) = (L, m, true) := by
  have h1 : ∀ x ∈ L.map dotL ++ [[46]], OneL x := fun x hx => by
    rcases List.mem_append.1 hx with hx | hx
    · obtain ⟨y, hy, rfl⟩ := List.mem_map.1 hx
      exact (h y hy).dot
    · obtain rfl := List.mem_singleton.1 hx
      exact oneL_dot1
  have e := lines_joined2 h1 m
  rw [unstuffL, stuffL, e, show ((L.map dotL ++ [[46]] ++ (linesL m).1, (linesL m).2) : List (List UInt8) × List UInt8).1 = L.map dotL ++ [46] :: (linesL m).1 by simp, unstuffG_dots]
  refine Prod.ext rfl (Prod.ext ?_ rfl)
  show (joinL (L.map dotL ++ [[46]]) ++ m).drop _ = m
  rw [joinL_append, List.append_assoc, ← List.drop_drop, List.drop_left]
  rfl
/-- Without its last byte there is no end. -/
theorem unstuffG_map (L : List (List UInt8)) : unstuffG (L.map dotL) = none := by
  induction L with
  | nil => rfl
  | cons x L ih => rw [List.map_cons, unstuffG, undot_dot, if_neg (show ¬ (x, false).2 = true from fun e => by cases e), ih]; rfl
theorem early {L : List (List UInt8)} (h : ∀ x ∈ L, OneL x) : (unstuffL ((stuffL L).dropLast)).2.2 = false := by
  have e : (stuffL L).dropLast = joinL (L.map dotL) ++ [46, 13] := by
    rw [stuffL, joinL_append, List.dropLast_append_of_ne_nil (by decide)]
    rfl
  have h1 : ∀ x ∈ L.map dotL, OneL x := fun x hx => by
    obtain ⟨y, hy, rfl⟩ := List.mem_map.1 hx
    exact (h y hy).dot
  rw [e, unstuffL, lines_joined h1 (by decide), unstuffG_map]

/-- A reader's next line: bytes, error, is there one, what is left. -/
def nextL (most : Nat) (l : List UInt8) : List UInt8 × Int × Bool × List UInt8 := match firstE l with
  | none => ([], 0, false, l)
  | some i => if most < i then ([], 5, true, l.drop (i + 2)) else (l.take i, 0, true, l.drop (i + 2))
theorem nextL_append (most : Nat) {l : List UInt8} (m : List UInt8) (h : (nextL most l).2.2.1 = true) : nextL most (l ++ m) = ((nextL most l).1, (nextL most l).2.1, true, (nextL most l).2.2.2 ++ m) := by
  unfold nextL at h ⊢
  cases hf : firstE l with
  | none => rw [hf] at h; cases h
  | some i =>
    have hlt := firstE_lt hf
    rw [firstE_append m hf]
    dsimp only
    rw [List.drop_append_of_le_length (by omega), List.take_append_of_le_length (by omega)]
    split <;> rfl
theorem nextL_none (m : Nat) {l : List UInt8} (h : firstE l = none) : nextL m l = ([], 0, false, l) := by rw [nextL, h]
theorem nextL_some (m : Nat) {l : List UInt8} {i : Nat} (h : firstE l = some i) : (nextL m l).2.2.1 = true ∧ (nextL m l).2.2.2.length < l.length := by
  have hlt := firstE_lt h
  rw [nextL, h]
  dsimp only
  split
  · exact ⟨rfl, by show (l.drop (i + 2)).length < _; rw [List.length_drop]; omega⟩
  · exact ⟨rfl, by show (l.drop (i + 2)).length < _; rw [List.length_drop]; omega⟩
end Go.Proofs.YtahbbnimoogapaaGreatDoor
