/- Numbers as digits: a sum by place, a carry by place. For PolyOne. The example of the law's awake. -/
import Derived.Test.YtjbhmdlgokoepaaDoorPrT
namespace Go.Proofs.YtjbhmdlgokoepaaDoor
open Go.RowKit

theorem getD_set' (l : List Nat) (k x j : Nat) (h : k < l.length) : (l.set k x).getD j 0 = if j = k then x else l.getD j 0 := by
  rw [List.getD_eq_getElem?_getD, List.getElem?_set]
  by_cases hj : k = j
  · subst hj; simp [h]
  · rw [if_neg hj, if_neg (Ne.symm hj), ← List.getD_eq_getElem?_getD]
/-- Digits by a rule of their place. -/
def digF (f : Nat → Nat) (n : Nat) : List Nat := (List.range n).map f
theorem digF_succ (f : Nat → Nat) (n : Nat) : digF f (n + 1) = digF f n ++ [f n] := by simp [digF, List.range_succ]
theorem digF_len (f : Nat → Nat) (n : Nat) : (digF f n).length = n := by simp [digF]
theorem digF_add (f g : Nat → Nat) (n : Nat) : numD (digF (fun j => f j + g j) n) = numD (digF f n) + numD (digF g n) := by
  induction n with
  | zero => rfl
  | succ n ih => rw [digF_succ, digF_succ, digF_succ, numD_snoc, numD_snoc, numD_snoc, ih, digF_len, digF_len, digF_len, Nat.mul_add]; omega
theorem digF_of (l : List Nat) (f : Nat → Nat) (n : Nat) (hl : l.length = n) (h : ∀ j, j < n → l.getD j 0 = f j) : l = digF f n := by
  apply List.ext_getElem?
  intro j
  by_cases hj : j < n
  · have := h j hj
    rw [List.getD_eq_getElem?_getD, List.getElem?_eq_getElem (by omega)] at this
    rw [List.getElem?_eq_getElem (by omega), digF, List.getElem?_map, List.getElem?_range hj, Option.map_some, ← this]; rfl
  · rw [List.getElem?_eq_none (by omega), List.getElem?_eq_none (by rw [digF_len]; omega)]
theorem digF_digL (d : List Nat) (n : Nat) : digF (fun j => d.getD j 0) n = digL d n := rfl
/-- A sum by place is the sum. -/
theorem sum_place (a b l : List Nat) (n : Nat) (ha : ∀ x ∈ a, x < 256) (hb : ∀ x ∈ b, x < 256) (la : a.length ≤ n) (lb : b.length ≤ n) (hl : l.length = n) (h : ∀ j, j < n → l.getD j 0 = a.getD j 0 + b.getD j 0) : numD l = numD a + numD b := by
  have h1 := Nat.lt_of_lt_of_le (numD_lt a ha) (Nat.pow_le_pow_right (by decide : 0 < 256) la)
  have h2 := Nat.lt_of_lt_of_le (numD_lt b hb) (Nat.pow_le_pow_right (by decide : 0 < 256) lb)
  rw [digF_of l (fun j => a.getD j 0 + b.getD j 0) n hl h, digF_add, digF_digL, digF_digL, digL_num a ha, digL_num b hb, Nat.mod_eq_of_lt h1, Nat.mod_eq_of_lt h2]
/-- A carry by place leaves the number. -/
theorem carry_place (l : List Nat) (j : Nat) (h : j + 1 < l.length) : numD ((l.set (j + 1) (l.getD (j + 1) 0 + l.getD j 0 / 256)).set j (l.getD j 0 % 256)) = numD l := by
  have hj : j < l.length := by omega
  obtain ⟨x, hx⟩ : ∃ x, x = l.getD j 0 := ⟨_, rfl⟩
  obtain ⟨M, hM⟩ : ∃ M, M = l.set (j + 1) (l.getD (j + 1) 0 + x / 256) := ⟨_, rfl⟩
  have hMl : M.length = l.length := by rw [hM, List.length_set]
  have e1 : numD M = numD l + 256 ^ (j + 1) * (x / 256) := by rw [hM, numD_set _ _ _ h]
  have e2 : M.getD j 0 = x := by rw [hM, getD_set' _ _ _ _ h, if_neg (by omega), hx]
  have e3 := numD_set (M.set j (x % 256)) j (256 * (x / 256)) (by rw [List.length_set]; omega)
  rw [getD_set' _ _ _ _ (by omega), if_pos rfl, List.set_set, Nat.mod_add_div] at e3
  have e4 : M.set j x = M := by
    rw [← e2]
    apply List.ext_getElem?
    intro i
    rw [List.getElem?_set]
    by_cases hi : j = i
    · subst hi; rw [if_pos rfl, if_pos (by omega), List.getD_eq_getElem?_getD, List.getElem?_eq_getElem (by omega)]; rfl
    · rw [if_neg hi]
  rw [e4, e1, Nat.pow_succ, ← Nat.mul_assoc] at e3
  rw [← hx, ← hM]
  omega

/-- The number of a part with its byte behind. -/
theorem part_num (X : List UInt8) : numD (natL X ++ [1]) = numLow X + 256 ^ X.length := by
  rw [numD_snoc, natL_num, natL_len, Nat.mul_one]

def exKey : List UInt8 := [0x85, 0xd6, 0xbe, 0x78, 0x57, 0x55, 0x6d, 0x33, 0x7f, 0x44, 0x52, 0xfe, 0x42, 0xd5, 0x06, 0xa8, 0x01, 0x03, 0x80, 0x8a, 0xfb, 0x0d, 0xb2, 0xfd, 0x4a, 0xbf, 0xf6, 0xaf, 0x41, 0x49, 0xf5, 0x1b]
def exText : List UInt8 := [67, 114, 121, 112, 116, 111, 103, 114, 97, 112, 104, 105, 99, 32, 70, 111, 114, 117, 109, 32, 82, 101, 115, 101, 97, 114, 99, 104, 32, 71, 114, 111, 117, 112]
def exTag : List UInt8 := [0xa8, 0x06, 0x1d, 0xc1, 0x30, 0x51, 0x36, 0xc6, 0xc2, 0x2b, 0x8b, 0xaf, 0x0c, 0x01, 0x27, 0xa9]
theorem tag_ex : tagL exKey exText = exTag := by decide +kernel
theorem tag_ex0 : ¬ exTag = tagL exKey [] := by decide +kernel
theorem clamp_ex : clampL (List.replicate 16 255) = [0xff, 0xff, 0xff, 0x0f, 0xfc, 0xff, 0xff, 0x0f, 0xfc, 0xff, 0xff, 0x0f, 0xfc, 0xff, 0xff, 0x0f] := by decide +kernel
end Go.Proofs.YtjbhmdlgokoepaaDoor
