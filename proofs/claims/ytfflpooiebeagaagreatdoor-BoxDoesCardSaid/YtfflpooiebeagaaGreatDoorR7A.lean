/- The document's own layer 7: a box's rows in memory; find. -/
import Derived.Test.YtfflpooiebeagaaGreatDoorBxC
import Derived.Deep.MidRow
namespace Go.Proofs.YtfflpooiebeagaaGreatDoor
open Go.RowKit

/-- A row's cells; rows', one behind the other. -/
def rowC (r : RowB) : List Value := [.string r.k, .string r.n, .string r.d, .string r.t, .string r.s]
def rowsC : List RowB → List Value
  | [] => []
  | r :: T => rowC r ++ rowsC T
theorem rowsC_len (T : List RowB) : (rowsC T).length = T.length * 5 := by
  induction T with
  | nil => rfl
  | cons r T ih => rw [rowsC, List.length_append, ih, List.length_cons]; show 5 + _ = _; omega
theorem rowsC_append (T U : List RowB) : rowsC (T ++ U) = rowsC T ++ rowsC U := by
  induction T with
  | nil => rfl
  | cons r T ih => rw [List.cons_append, rowsC, rowsC, ih, List.append_assoc]
theorem rowsC_get {T : List RowB} {i : Nat} {r : RowB} (h : T[i]? = some r) {f : Nat} (hf : f < 5) : (rowsC T)[i * 5 + f]? = (rowC r)[f]? := by
  induction T generalizing i with
  | nil => simp at h
  | cons a T ih =>
    cases i with
    | zero =>
      simp only [List.getElem?_cons_zero, Option.some.injEq] at h
      subst h
      rw [rowsC, Nat.zero_mul, Nat.zero_add, List.getElem?_append_left (by show f < 5; exact hf)]
    | succ i =>
      rw [rowsC, List.getElem?_append_right (by show 5 ≤ _; omega)]
      have e : (i + 1) * 5 + f - (rowC a).length = i * 5 + f := by show (i + 1) * 5 + f - 5 = _; omega
      rw [e]
      exact ih (by simpa using h)
theorem rowsC_one (T : List RowB) : ∀ u ∈ rowsC T, u.oneCell' = true := by
  induction T with
  | nil => intro u h; cases h
  | cons r T ih =>
    intro u h
    rw [rowsC] at h
    rcases List.mem_append.1 h with h | h
    · simp only [rowC, List.mem_cons, List.not_mem_nil, or_false] at h
      rcases h with rfl | rfl | rfl | rfl | rfl <;> rfl
    · exact ih u h

/-- The reference's box in block g: its draws, its rows; own: its block and theirs. -/
def RBx (w : World) (own : Nat → Prop) (g : Nat) (st : StB) : Prop :=
  own g ∧ ∃ tv, Arr w g #[.bool st.ideal, .string st.draws, tv] 29 ∧ w.ownsRow 0 55 5 tv st.T.length (rowsC st.T) ∧ (st.T = [] → tv = .slice none 0 0) ∧ ∀ h, tv.ownBlock = some h → own h
theorem ownsRow_of5 {w w' : World} {B n : Nat} {v : Value} {xs : List Value} {e : TypeId} (h : w.ownsRow B e 5 v n xs) (hk : ∀ g, v.ownBlock = some g → w'.heap[g]? = w.heap[g]?) : w'.ownsRow B e 5 v n xs := by
  refine ⟨h.1, ?_⟩
  rcases h.2 with hn | ⟨g, cap, cur, rfl, hb, hgg, rest⟩
  · exact .inl hn
  · exact .inr ⟨g, cap, cur, rfl, hb, (hk g rfl).trans hgg, rest⟩
theorem RBx.keep {w w' : World} {own : Nat → Prop} {g : Nat} {st : StB} (h : RBx w own g st) (hk : ∀ h, own h → w'.heap[h]? = w.heap[h]?) : RBx w' own g st := by
  obtain ⟨h0, tv, h1, h2, h3⟩ := h
  exact ⟨h0, tv, (hk g h0).trans h1, ownsRow_of5 h2 fun b hb => hk b (h3.2 b hb), h3⟩

/-- Where the row of a key and a nonce is; below 0: there is none. -/
def idxB (T : List RowB) (k n : ByteArray) : Int := match T.findIdx? (sameB k n) with
  | some i => (i : Int)
  | none => -1
theorem idxB_some {T : List RowB} {k n : ByteArray} {r : RowB} (h : findB T k n = some r) : ∃ i : Nat, idxB T k n = (i : Int) ∧ T[i]? = some r ∧ i < T.length := by
  unfold findB at h
  cases hi : T.findIdx? (sameB k n) with
  | none =>
    rw [List.findIdx?_eq_none_iff] at hi
    have := List.mem_of_find?_eq_some h
    have h2 := hi r this
    rw [List.find?_some h] at h2
    cases h2
  | some i =>
    refine ⟨i, by rw [idxB, hi], ?_⟩
    rw [List.findIdx?_eq_some_iff_getElem] at hi
    obtain ⟨hlt, h1, h2⟩ := hi
    refine ⟨?_, hlt⟩
    rw [List.find?_eq_some_iff_getElem] at h
    obtain ⟨hs, j, hj, he, hb⟩ := h
    have hij : i = j := by
      rcases Nat.lt_trichotomy i j with h3 | h3 | h3
      · have := hb i h3
        simp [h1] at this
      · exact h3
      · have := h2 j h3
        rw [he, hs] at this
        exact absurd rfl this
    subst hij
    rw [List.getElem?_eq_getElem hlt, he]
theorem idxB_none {T : List RowB} {k n : ByteArray} (h : findB T k n = none) : idxB T k n = -1 := by
  unfold findB at h
  have : T.findIdx? (sameB k n) = none := by
    rw [List.findIdx?_eq_none_iff]
    intro x hx
    have := List.find?_eq_none.1 h x hx
    simpa using this
  rw [idxB, this]
theorem idxB_at {T : List RowB} {k n : ByteArray} {i : Nat} (hi : i < T.length) (h : sameB k n T[i] = true) (hb : ∀ j (hj : j < i), sameB k n (T[j]'(by omega)) = false) : idxB T k n = (i : Int) := by
  have : T.findIdx? (sameB k n) = some i := by
    rw [List.findIdx?_eq_some_iff_getElem]
    exact ⟨hi, h, fun j hj => by rw [hb j hj]; decide⟩
  rw [idxB, this]
theorem idxB_not {T : List RowB} {k n : ByteArray} (hb : ∀ j (hj : j < T.length), sameB k n T[j] = false) : idxB T k n = -1 := by
  have : T.findIdx? (sameB k n) = none := by
    rw [List.findIdx?_eq_none_iff]
    intro x hx
    obtain ⟨j, hj, rfl⟩ := List.getElem_of_mem hx
    exact hb j hj
  rw [idxB, this]
theorem tl7r {a b : ByteArray} : (a.toList == b.toList) = decide (a = b) := by
  have e : ∀ s : ByteArray, s.toList = s.data.toList := fun s => by
    obtain ⟨⟨l⟩⟩ := s
    exact ByteArray.toList_mk l
  rw [e, e]
  by_cases h : a = b
  · subst h; rw [beq_self_eq_true, decide_eq_true rfl]
  · rw [decide_eq_false h]; exact beq_false_of_ne fun e => h (ba_ext e)

set_option maxHeartbeats 1000000 in
theorem rfind_any (own : Nat → Prop) (g : Nat) (st : StB) (hlen : st.T.length ≤ 1000) (key nonce : ByteArray) (w : World) (h : RBx w own g st) :
    Calls Tryz.prog 23 #[.pointer (some ⟨g, 0, none⟩), .string key, .string nonce] w fun e w' => e = .returned (.int .i64 (idxB st.T key nonce)) ∧ w = w' := by
  obtain ⟨h0, tv, hg, hown, _⟩ := h
  have c2 := hg.cell (j := 2) (v := tv) rfl
  rcases hown.2 with ⟨rfl, h0⟩ | ⟨hb, cap, cur, rfl, hbg, hgg, hnc, hcm, hcs, htake⟩
  · have hT : st.T = [] := List.length_eq_zero_iff.1 h0
    have hi : idxB st.T key nonce = -1 := by rw [hT]; rfl
    rw [hi]
    clear hown
    go_enter Tryz.func23, Tryz.ntmps23
    go_wp2
    go_loopw [7] (fun i wr => i = .int .i64 0 ∧ w = wr) (fun i _ => 1)
    case atStart => exact ⟨rfl, rfl⟩
    case round =>
      obtain ⟨rfl, rfl⟩ := hrel
      go_wp2
      go_ret
      exact ⟨rfl, rfl⟩
  · have hcell := hown.cells (g := hb) rfl
    have hrow : ∀ (i : Nat) (hi : i < st.T.length), w.cell? ⟨hb, i * 5, none⟩ = some (.string st.T[i].k) ∧ w.cell? ⟨hb, i * 5 + 1, none⟩ = some (.string st.T[i].n) := by
      intro i hi
      have h1 := rowsC_get (List.getElem?_eq_getElem hi) (f := 0) (by omega)
      have h2 := rowsC_get (List.getElem?_eq_getElem hi) (f := 1) (by omega)
      have e1 := hcell (i * 5 + 0) _ h1
      have e2 := hcell (i * 5 + 1) _ h2
      rw [Addr.add_mid, Nat.zero_add] at e1 e2
      exact ⟨e1, e2⟩
    have HR := Lib.hid hrow
    have HI := Lib.hid (fun i hi h hb => idxB_at (T := st.T) (k := key) (n := nonce) (i := i) hi h hb)
    have HN := Lib.hid (fun hb => idxB_not (T := st.T) (k := key) (n := nonce) hb)
    have hTl : st.T.length ≤ 1000 := hlen
    clear hown hcell hrow htake
    go_enter Tryz.func23, Tryz.ntmps23
    go_wp2
    go_loopw [7] (fun i wr => ∃ k : Nat, i = .int .i64 (k : Int) ∧ k ≤ st.T.length ∧ (∀ j (hj : j < k) (hjl : j < st.T.length), sameB key nonce st.T[j] = false) ∧ w = wr) (fun i _ => 1001 - (intOf i).toNat)
    case atStart => exact ⟨0, rfl, Nat.zero_le _, fun j hj => absurd hj (by omega), rfl⟩
    case round =>
      obtain ⟨k, rfl, hk, hno, rfl⟩ := hrel
      by_cases hlt : k < st.T.length
      · have hli : (k : Int) < (st.T.length : Int) := by omega
        have hk0 : (0 : Int) ≤ (k : Int) := by omega
        obtain ⟨r1, r2⟩ := HR.out k hlt
        have HNO := Lib.hid hno
        by_cases e1 : st.T[k].k = key
        · have q1 : (st.T[k].k.toList == key.toList) = true := by rw [tl7r]; exact decide_eq_true e1
          by_cases e2 : st.T[k].n = nonce
          · have q2 : (st.T[k].n.toList == nonce.toList) = true := by rw [tl7r]; exact decide_eq_true e2
            have hidx := HI.out k hlt (sameB_iff.2 ⟨e1, e2⟩) (fun j hj => hno j hj (by omega))
            have HX := Lib.hid hidx
            clear hno e1 e2 hidx
            go_wp2
            go_ret
            exact ⟨by rw [HX.out]; rfl, rfl⟩
          · have q2 : (st.T[k].n.toList == nonce.toList) = false := by rw [tl7r]; exact decide_eq_false e2
            clear hno
            go_wp2
            refine ⟨⟨k + 1, by simp, by omega, fun j hj hjl => ?_, trivial⟩, by simp only [intOf]; omega⟩
            by_cases hjk : j = k
            · subst hjk; exact Bool.eq_false_iff.2 fun h => e2 (sameB_iff.1 h).2
            · exact HNO.out j (by omega) hjl
        · have q1 : (st.T[k].k.toList == key.toList) = false := by rw [tl7r]; exact decide_eq_false e1
          clear hno
          go_wp2
          refine ⟨⟨k + 1, by simp, by omega, fun j hj hjl => ?_, trivial⟩, by simp only [intOf]; omega⟩
          by_cases hjk : j = k
          · subst hjk; exact Bool.eq_false_iff.2 fun h => e1 (sameB_iff.1 h).1
          · exact HNO.out j (by omega) hjl
      · have hli : ¬ (k : Int) < (st.T.length : Int) := by omega
        have HX := Lib.hid (HN.out (fun j hj => hno j (by omega) hj))
        clear hno
        go_wp2
        go_ret
        exact ⟨by rw [HX.out]; rfl, rfl⟩
end Go.Proofs.YtfflpooiebeagaaGreatDoor
