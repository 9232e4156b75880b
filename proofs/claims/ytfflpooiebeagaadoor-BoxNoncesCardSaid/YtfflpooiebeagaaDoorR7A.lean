/- The document's own layer 7: a box's rows in memory; find. -/
import Derived.Test.YtfflpooiebeagaaDoorBxC
import Derived.Deep.MidRow
namespace Go.Proofs.YtfflpooiebeagaaDoor
open Go.RowKit

/-- A row's cells; rows', one behind the other. -/
def rowC (r : RowB) : List Value := [.string r.k, .string r.n, .string r.d, .string r.t, .string r.s]
def rowsC : List RowB → List Value
  | [] => []
  | r :: T => rowC r ++ rowsC T
theorem rowsC_len (T : List RowB) : (rowsC T).length = T.length * 5 := by
  induction T with
  | nil => rfl
  | cons r T ih => rw [rowsC, List.length_append, ih, List.length_cons]; show 5 + _ = _; omega
theorem rowsC_append (T U : List RowB) : rowsC (T ++ U) = rowsC T ++ rowsC U := by
  induction T with
  | nil => rfl
  | cons r T ih => rw [List.cons_append, rowsC, rowsC, ih, List.append_assoc]
theorem rowsC_get {T : List RowB} {i : Nat} {r : RowB} (h : T[i]? = some r) {f : Nat} (hf : f < 5) : (rowsC T)[i * 5 + f]? = (rowC r)[f]? := by
  induction T generalizing i with
  | nil => simp at h
  | cons a T ih =>
    cases i with
    | zero =>
      simp only [List.getElem?_cons_zero, Option.some.injEq] at h
      subst h
      rw [rowsC, Nat.zero_mul, Nat.zero_add, List.getElem?_append_left (by show f < 5; exact hf)]
    | succ i =>
      rw [rowsC, List.getElem?_append_right (by show 5 ≤ _; omega)]
      have e : (i + 1) * 5 + f - (rowC a).length = i * 5 + f := by show (i + 1) * 5 + f - 5 = _; omega
      rw [e]
      exact ih (by simpa using h)
theorem rowsC_one (T : List RowB) : ∀ u ∈ rowsC T, u.oneCell' = true := by
  induction T with
  | nil => intro u h; cases h
  | cons r T ih =>
    intro u h
    rw [rowsC] at h
    rcases List.mem_append.1 h with h | h
    · simp only [rowC, List.mem_cons, List.not_mem_nil, or_false] at h
      rcases h with rfl | rfl | rfl | rfl | rfl <;> rfl
    · exact ih u h

theorem ownsRow_of5 {w w' : World} {B n : Nat} {v : Value} {xs : List Value} {e : TypeId} (h : w.ownsRow B e 5 v n xs) (hk : ∀ g, v.ownBlock = some g → w'.heap[g]? = w.heap[g]?) : w'.ownsRow B e 5 v n xs := by
  refine ⟨h.1, ?_⟩
  rcases h.2 with hn | ⟨g, cap, cur, rfl, hb, hgg, rest⟩
  · exact .inl hn
  · exact .inr ⟨g, cap, cur, rfl, hb, (hk g rfl).trans hgg, rest⟩
/-- Where the row of a key and a nonce is; below 0: there is none. -/
def idxB (T : List RowB) (k n : ByteArray) : Int := match T.findIdx? (sameB k n) with
  | some i => (i : Int)
  | none => -1
theorem idxB_some {T : List RowB} {k n : ByteArray} {r : RowB} (h : findB T k n = some r) : ∃ i : Nat, idxB T k n = (i : Int) ∧ T[i]? = some r ∧ i < T.length := by
  unfold findB at h
  cases hi : T.findIdx? (sameB k n) with
  | none =>
    rw [List.findIdx?_eq_none_iff] at hi
    have := List.mem_of_find?_eq_some h
    have h2 := hi r this
    rw [List.find?_some h] at h2
    cases h2
  | some i =>
    refine ⟨i, by rw [idxB, hi], ?_⟩
    rw [List.findIdx?_eq_some_iff_getElem] at hi
    obtain ⟨hlt, h1, h2⟩ := hi
    refine ⟨?_, hlt⟩
    rw [List.find?_eq_some_iff_getElem] at h
    obtain ⟨hs, j, hj, he, hb⟩ := h
    have hij : i = j := by
      rcases Nat.lt_trichotomy i j with h3 | h3 | h3
      · have := hb i h3
        simp [h1] at this
      · exact h3
      · have := h2 j h3
        rw [he, hs] at this
        exact absurd rfl this
    subst hij
    rw [List.getElem?_eq_getElem hlt, he]
theorem idxB_none {T : List RowB} {k n : ByteArray} (h : findB T k n = none) : idxB T k n = -1 := by
  unfold findB at h
  have : T.findIdx? (sameB k n) = none := by
    rw [List.findIdx?_eq_none_iff]
    intro x hx
    have := List.find?_eq_none.1 h x hx
    simpa using this
  rw [idxB, this]
theorem idxB_at {T : List RowB} {k n : ByteArray} {i : Nat} (hi : i < T.length) (h : sameB k n T[i] = true) (hb : ∀ j (hj : j < i), sameB k n (T[j]'(by omega)) = false) : idxB T k n = (i : Int) := by
  have : T.findIdx? (sameB k n) = some i := by
    rw [List.findIdx?_eq_some_iff_getElem]
    exact ⟨hi, h, fun j hj => by rw [hb j hj]; decide⟩
  rw [idxB, this]
theorem idxB_not {T : List RowB} {k n : ByteArray} (hb : ∀ j (hj : j < T.length), sameB k n T[j] = false) : idxB T k n = -1 := by
  have : T.findIdx? (sameB k n) = none := by
    rw [List.findIdx?_eq_none_iff]
    intro x hx
    obtain ⟨j, hj, rfl⟩ := List.getElem_of_mem hx
    exact hb j hj
  rw [idxB, this]
theorem tl7r {a b : ByteArray} : (a.toList == b.toList) = decide (a = b) := by
  have e : ∀ s : ByteArray, s.toList = s.data.toList := fun s => by
    obtain ⟨⟨l⟩⟩ := s
    exact ByteArray.toList_mk l
  rw [e, e]
  by_cases h : a = b
  · subst h; rw [beq_self_eq_true, decide_eq_true rfl]
  · rw [decide_eq_false h]; exact beq_false_of_ne fun e => h (ba_ext e)

end Go.Proofs.YtfflpooiebeagaaDoor
