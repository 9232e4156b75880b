/- PolyOne: what its loops know, in plain lists. -/
import Derived.Test.YtjbhmdlgokoepaaDoorPmV
namespace Go.Proofs.YtjbhmdlgokoepaaDoor
open Go.RowKit

/-- What is known behind k sums by place. -/
structure In1 (d b out : List Nat) (k : Nat) : Prop where
  len : out.length = 18
  at' : ∀ j, out.getD j 0 = if j < k then d.getD j 0 + b.getD j 0 else 0
theorem In1.start (d b : List Nat) : In1 d b (List.replicate 18 0) 0 := ⟨by simp, fun j => by
  rw [if_neg (by omega), List.getD_eq_getElem?_getD, List.getElem?_replicate]; split <;> rfl⟩
theorem In1.zero {d b out : List Nat} {k : Nat} (h : In1 d b out k) : out.getD k 0 = 0 := by rw [h.at' k, if_neg (by omega)]
theorem In1.step {d b out : List Nat} {k : Nat} (h : In1 d b out k) (hk : k < 18) (x : Nat) (hx : x = d.getD k 0 + b.getD k 0) : In1 d b (out.set k x) (k + 1) := by
  refine ⟨by simp [h.len], fun j => ?_⟩
  rw [getD_sets _ _ _ _ (by rw [h.len]; exact hk)]
  by_cases e : j = k
  · subst e; rw [if_pos rfl, if_pos (by omega), hx]
  · rw [if_neg e, h.at' j]
    by_cases hj : j < k
    · rw [if_pos hj, if_pos (by omega)]
    · rw [if_neg hj, if_neg (by omega)]
theorem set_same (l : List Nat) (k : Nat) (h : l.getD k 0 = 0) : l.set k 0 = l := by
  apply List.ext_getElem?
  intro i
  rw [List.getElem?_set]
  by_cases hi : k = i
  · subst hi
    rw [if_pos rfl]
    by_cases hk : k < l.length
    · rw [List.getD_eq_getElem?_getD, List.getElem?_eq_getElem hk] at h
      rw [if_pos hk, List.getElem?_eq_getElem hk, ← h]; rfl
    · rw [if_neg hk, List.getElem?_eq_none (by omega)]
  · rw [if_neg hi]
theorem In1.skip {d b out : List Nat} {k : Nat} (h : In1 d b out k) (hk : k < 18) (hx : d.getD k 0 + b.getD k 0 = 0) : In1 d b out (k + 1) := by
  have := h.step hk 0 hx.symm
  rwa [set_same _ _ h.zero] at this
theorem getD_none (l : List Nat) (k : Nat) (h : l.length ≤ k) : l.getD k 0 = 0 := by rw [List.getD_eq_getElem?_getD, List.getElem?_eq_none h]; rfl
theorem In1.fin {d b out : List Nat} (hd : ∀ x ∈ d, x < 256) (hb : ∀ x ∈ b, x < 256) (ld : d.length ≤ 17) (lb : b.length ≤ 17) (h : In1 d b out 18) : numD out = numD d + numD b ∧ (∀ j, out.getD j 0 ≤ 510) ∧ numD out < 2 * 256 ^ 17 := by
  have e : numD out = numD d + numD b := sum_place d b out 18 hd hb (by omega) (by omega) h.len (fun j hj => by rw [h.at' j, if_pos hj])
  refine ⟨e, fun j => ?_, ?_⟩
  · rw [h.at' j]
    have h1 := getD_lt d hd j
    have h2 := getD_lt b hb j
    split <;> omega
  · have h1 := Nat.lt_of_lt_of_le (numD_lt d hd) (Nat.pow_le_pow_right (by decide : 0 < 256) ld)
    have h2 := Nat.lt_of_lt_of_le (numD_lt b hb) (Nat.pow_le_pow_right (by decide : 0 < 256) lb)
    omega
/-- What is known behind j carries. -/
structure In2 (N : Nat) (out : List Nat) (j : Nat) : Prop where
  len : out.length = 18
  num : numD out = N
  lo : ∀ i, i < j → out.getD i 0 < 256
  at' : out.getD j 0 ≤ 515
  hi : ∀ i, j < i → out.getD i 0 ≤ 510
theorem In2.start {N : Nat} {out : List Nat} (hl : out.length = 18) (hn : numD out = N) (hb : ∀ j, out.getD j 0 ≤ 510) : In2 N out 0 :=
  ⟨hl, hn, fun i hi => absurd hi (by omega), by have := hb 0; omega, fun i _ => hb i⟩
theorem In2.step {N j : Nat} {out : List Nat} (h : In2 N out j) (hj : j + 1 < 18) : In2 N ((out.set (j + 1) (out.getD (j + 1) 0 + out.getD j 0 / 256)).set j (out.getD j 0 % 256)) (j + 1) := by
  have g : ∀ i, ((out.set (j + 1) (out.getD (j + 1) 0 + out.getD j 0 / 256)).set j (out.getD j 0 % 256)).getD i 0 = if i = j then out.getD j 0 % 256 else if i = j + 1 then out.getD (j + 1) 0 + out.getD j 0 / 256 else out.getD i 0 := fun i => by
    rw [getD_sets _ _ _ _ (by rw [List.length_set, h.len]; omega), getD_sets _ _ _ _ (by rw [h.len]; omega)]
  have h1 := h.at'
  have h2 := h.hi (j + 1) (by omega)
  refine ⟨by simp [h.len], by rw [carry_place _ _ (by rw [h.len]; exact hj), h.num], fun i hi => ?_, ?_, fun i hi => ?_⟩
  · rw [g i]
    by_cases e : i = j
    · rw [if_pos e]; omega
    · rw [if_neg e, if_neg (by omega)]; exact h.lo i (by omega)
  · rw [g (j + 1), if_neg (by omega), if_pos rfl]; omega
  · rw [g i, if_neg (by omega), if_neg (by omega)]; exact h.hi i (by omega)
theorem In2.fin {N : Nat} {out : List Nat} (h : In2 N out 17) (hN : N < 2 * 256 ^ 17) : ∀ x ∈ out, x < 256 := by
  have e := numD_take_succ out 17 (by rw [h.len]; decide)
  rw [List.take_of_length_le (by rw [h.len]; decide), h.num] at e
  have h17 : out.getD 17 0 < 2 := by
    rcases (show out.getD 17 0 < 2 ∨ 2 ≤ out.getD 17 0 by omega) with h' | h'
    · exact h'
    · have := Nat.mul_le_mul_left (256 ^ 17) h'; omega
  refine all_of_getD _ _ fun j hj => ?_
  rw [h.len] at hj
  by_cases e17 : j = 17
  · rw [e17]; omega
  · exact h.lo j (by omega)
/-- What the bytes are behind k of them. -/
structure In3 (d : List Nat) (out : List UInt8) (k : Nat) : Prop where
  len : out.length = 16
  at' : ∀ j, (out.getD j 0).toNat = if j < k then d.getD j 0 else 0
theorem In3.start (d : List Nat) : In3 d (List.replicate 16 0) 0 := ⟨by simp, fun j => by
  rw [if_neg (by omega), List.getD_eq_getElem?_getD, List.getElem?_replicate]; split <;> rfl⟩
theorem In3.zero {d : List Nat} {out : List UInt8} {k : Nat} (h : In3 d out k) : out.getD k 0 = 0 := by
  have := h.at' k
  rw [if_neg (by omega)] at this
  exact UInt8.toNat_inj.mp this
theorem In3.step {d : List Nat} {out : List UInt8} {k : Nat} (h : In3 d out k) (hk : k < 16) (x : UInt8) (hx : x.toNat = d.getD k 0) : In3 d (out.set k x) (k + 1) := by
  refine ⟨by simp [h.len], fun j => ?_⟩
  rw [getD_setU _ _ _ _ (by rw [h.len]; exact hk)]
  by_cases e : j = k
  · subst e; rw [if_pos rfl, if_pos (by omega), hx]
  · rw [if_neg e, h.at' j]
    by_cases hj : j < k
    · rw [if_pos hj, if_pos (by omega)]
    · rw [if_neg hj, if_neg (by omega)]
theorem In3.skip {d : List Nat} {out : List UInt8} {k : Nat} (h : In3 d out k) (hx : d.getD k 0 = 0) : In3 d out (k + 1) :=
  ⟨h.len, fun j => by
    rw [h.at' j]
    by_cases e : j = k
    · subst e; rw [if_neg (by omega), if_pos (by omega), hx]
    · by_cases hj : j < k
      · rw [if_pos hj, if_pos (by omega)]
      · rw [if_neg hj, if_neg (by omega)]⟩
theorem In3.fin {d : List Nat} {out : List UInt8} (hd : ∀ x ∈ d, x < 256) (h : In3 d out 16) : numLow out = numD d % 256 ^ 16 := by
  rw [← natL_num, ← digL_num d hd]
  congr 1
  refine eq_of_getD _ _ (by rw [natL_len, h.len, digL_len]) fun j hj => ?_
  rw [natL_len, h.len] at hj
  have := h.at' j
  rw [if_pos hj] at this
  rw [digL, List.getD_eq_getElem?_getD (l := List.map _ _), List.getElem?_map, List.getElem?_range hj, Option.map_some, Option.getD_some, ← this, natL, List.getD_eq_getElem?_getD, List.getElem?_map, List.getD_eq_getElem?_getD, List.getElem?_eq_getElem (by rw [h.len]; exact hj)]; rfl
theorem one_fin {d : List Nat} {out mb : List UInt8} {A : Nat} (h : numLow out = numD d % 256 ^ 16) (hn : numD d = A) : lowL (numLow out + numLow mb) 16 = lowL (A + numLow mb) 16 := by
  rw [h, hn]; exact lowL_congr (by rw [Nat.mod_add_mod])
theorem Arr.setI {w : World} {g : Nat} {x : List Nat} (h : Arr w g (i64s x).toArray 3) (k n : Nat) : Arr (w.setCell ⟨g, k, none⟩ (.int .i64 (n : Int))) g (i64s (x.set k n)).toArray 3 := by
  rw [← i64s_set]; exact h.set k _
theorem Arr.setI2 {w : World} {g : Nat} {x : List Nat} (h : Arr w g (i64s x).toArray 3) (k n : Nat) (v : Value) : Arr (((w.setCell ⟨g, k, none⟩ v).drew).setCell ⟨g, k, none⟩ (.int .i64 (n : Int))) g (i64s (x.set k n)).toArray 3 := by
  have := (h.set k v).drew.set k (.int .i64 (n : Int))
  rw [show ((i64s x).toArray.setIfInBounds k v).setIfInBounds k (.int .i64 (n : Int)) = (i64s x).toArray.setIfInBounds k (.int .i64 (n : Int)) by simp, i64s_set] at this
  exact this
theorem Arr.atI {w : World} {g : Nat} {x : List Nat} (h : Arr w g (i64s x).toArray 3) (k : Nat) (hk : k < x.length) : w.cell? ⟨g, k, none⟩ = some (.int .i64 ((x.getD k 0 : Nat) : Int)) := (RowI.ofArr h).at k hk
end Go.Proofs.YtjbhmdlgokoepaaDoor
