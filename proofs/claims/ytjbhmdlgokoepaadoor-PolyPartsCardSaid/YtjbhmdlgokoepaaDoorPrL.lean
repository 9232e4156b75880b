/- A tag as a number: what the laws of layer 5 say of it. -/
import Derived.Test.YtjbhmdlgokoepaaDoorPr7
namespace Go.Proofs.YtjbhmdlgokoepaaDoor
open Go.RowKit

theorem clampB_idem (i : Nat) (c : UInt8) : clampB i (clampB i c) = clampB i c := by
  apply UInt8.toNat_inj.mp
  have hc := c.toNat_lt
  by_cases h : i = 3 ∨ i = 7 ∨ i = 11 ∨ i = 15
  · simp only [clampB, if_pos h, UInt8.toNat_mod]; show c.toNat % 16 % 16 = c.toNat % 16; omega
  · by_cases h2 : i = 4 ∨ i = 8 ∨ i = 12
    · simp only [clampB, if_neg h, if_pos h2, UInt8.toNat_mul, UInt8.toNat_div]
      show c.toNat / 4 * 4 % 256 / 4 * 4 % 256 = c.toNat / 4 * 4 % 256
      omega
    · simp only [clampB, if_neg h, if_neg h2]
theorem clampK_get (r : List UInt8) (k i : Nat) (h : i < k) : (clampK r k).getD i 0 = clampB i (r.getD i 0) := by
  rw [clampK, List.getD_eq_getElem?_getD, List.getElem?_map, List.getElem?_range h]; rfl
theorem clampL_idem (r : List UInt8) : clampL (clampL r) = clampL r := by
  show clampK (clampL r) 16 = clampK r 16
  rw [clampK, clampK]
  apply List.map_congr_left
  intro i hi
  rw [List.mem_range] at hi
  rw [clampL, clampK_get _ _ _ hi, clampB_idem]
theorem clampL_take (r : List UInt8) : clampL (r.take 16) = clampL r := by
  show clampK (r.take 16) 16 = clampK r 16
  rw [clampK, clampK]
  apply List.map_congr_left
  intro i hi
  rw [List.mem_range] at hi
  congr 1
  rw [List.getD_eq_getElem?_getD, List.getElem?_take_of_lt hi, List.getD_eq_getElem?_getD]

theorem keyR_app (r s : List UInt8) (hr : r.length = 16) : keyR (r ++ s) = numLow (clampL r) := by
  rw [keyR, List.take_append_of_le_length (by omega), List.take_of_length_le (by omega)]
theorem keyS_app (r s : List UInt8) (hr : r.length = 16) : keyS (r ++ s) = numLow s := by
  rw [keyS, List.drop_append_of_le_length (by omega), List.drop_eq_nil_of_le (by omega), List.nil_append]
theorem tagL_len (key text : List UInt8) : (tagL key text).length = 16 := lowL_len _ _
/-- Bits that are taken away are no matter. -/
theorem tagL_clamp (r s text : List UInt8) (hr : r.length = 16) : tagL (clampL r ++ s) text = tagL (r ++ s) text := by
  rw [tagL, tagL, keyR_app _ _ (clampL_len r), keyR_app _ _ hr, keyS_app _ _ (clampL_len r), keyS_app _ _ hr, clampL_idem]
/-- Another s. -/
theorem tagL_sum (r s text : List UInt8) (hr : r.length = 16) : tagL (r ++ s) text = lowL (accN (numLow (clampL r)) text ((text.length + 15) / 16) + numLow s) 16 := by
  rw [tagL, keyR_app _ _ hr, keyS_app _ _ hr]
theorem accN_zero (text : List UInt8) (m : Nat) : accN 0 text m = 0 := by
  cases m with
  | zero => rfl
  | succ m => rw [accN, Nat.mul_zero, Nat.zero_mod]
theorem accN_nil (r m : Nat) (h : m = 0) : accN r [] m = 0 := by rw [h]; rfl
theorem accN_one (text : List UInt8) (m : Nat) : accN 1 text (m + 1) = (accN 1 text m + (numLow (partL text m) + 256 ^ (partL text m).length)) % PP := by rw [accN, Nat.mul_one]

theorem byteAt_mod (x n k : Nat) (h : k < n) : byteAt (x % 256 ^ n) k = byteAt x k := by
  apply UInt8.toNat_inj.mp
  have e : ∀ y, (byteAt y k).toNat = y / 256 ^ k % 256 := fun y => by rw [byteAt, ← p256]; simp
  rw [e, e]
  obtain ⟨j, rfl⟩ : ∃ j, n = k + 1 + j := ⟨n - (k + 1), by omega⟩
  rw [Nat.pow_add, Nat.pow_succ, Nat.mul_assoc, Nat.mod_mul_right_div_self, Nat.mod_mul_right_mod]
theorem lowL_mod (x n : Nat) : lowL (x % 256 ^ n) n = lowL x n := by
  rw [lowL, lowL]
  apply List.map_congr_left
  intro k hk
  rw [List.mem_range] at hk
  exact byteAt_mod x n k hk
theorem lowL_congr {x y n : Nat} (h : x % 256 ^ n = y % 256 ^ n) : lowL x n = lowL y n := by rw [← lowL_mod, h, lowL_mod]
theorem lowL_inj {x y n : Nat} (h : lowL x n = lowL y n) : x % 256 ^ n = y % 256 ^ n := by rw [← numLow_lowL, h, numLow_lowL]
theorem numLow_inj {l m : List UInt8} (hl : l.length = m.length) (h : numLow l = numLow m) : l = m := by
  induction l generalizing m with
  | nil => cases m with
    | nil => rfl
    | cons => simp at hl
  | cons b l ih => cases m with
    | nil => simp at hl
    | cons c m =>
      rw [numLow, numLow] at h
      have hb := b.toNat_lt
      have hc := c.toNat_lt
      have h1 : b = c := UInt8.toNat_inj.mp (by omega)
      rw [h1, ih (by simpa using hl) (by omega)]
theorem lowL_numLow (l : List UInt8) : lowL (numLow l) l.length = l := by
  apply numLow_inj (lowL_len _ _)
  rw [numLow_lowL, Nat.mod_eq_of_lt (numLow_lt l)]
/-- A sum of 16 bytes, without what goes beyond. -/
def sumL (a b : List UInt8) : List UInt8 := lowL (numLow a + numLow b) 16
theorem sumL_low (x : Nat) (b : List UInt8) : sumL (lowL x 16) b = lowL (x + numLow b) 16 := by
  rw [sumL, numLow_lowL]
  exact lowL_congr (by rw [Nat.mod_add_mod])
theorem numLow_zeros (n : Nat) : numLow (List.replicate n 0) = 0 := by
  induction n with
  | zero => rfl
  | succ n ih => rw [List.replicate_succ, numLow, ih]; rfl
theorem clampL_zeros : clampL (List.replicate 16 0) = List.replicate 16 0 := by decide
theorem clampL_one : clampL (1 :: List.replicate 15 0) = 1 :: List.replicate 15 0 := by decide
theorem numLow_oneL : numLow (1 :: List.replicate 15 0) = 1 := by rw [numLow, numLow_zeros]; rfl

theorem tagL_s (r s text : List UInt8) (hr : r.length = 16) : tagL (r ++ s) text = sumL (tagL (r ++ List.replicate 16 0) text) s := by
  rw [tagL_sum _ _ _ hr, tagL_sum _ _ _ hr, sumL_low, numLow_zeros]; rfl
theorem tagL_more (r s m text : List UInt8) (hr : r.length = 16) : tagL (r ++ sumL s m) text = sumL (tagL (r ++ s) text) m := by
  rw [tagL_sum _ _ _ hr, tagL_sum _ _ _ hr, sumL_low, sumL, numLow_lowL]
  exact lowL_congr (by rw [Nat.add_mod_mod, Nat.add_assoc])
theorem tagL_zero (s text : List UInt8) (hs : s.length = 16) : tagL (List.replicate 16 0 ++ s) text = s := by
  rw [tagL_sum _ _ _ (by simp), clampL_zeros, numLow_zeros, accN_zero, Nat.zero_add, ← hs, lowL_numLow]
theorem tagL_nil (r s : List UInt8) (hr : r.length = 16) (hs : s.length = 16) : tagL (r ++ s) [] = s := by
  rw [tagL_sum _ _ _ hr, show ([] : List UInt8).length = 0 from rfl, accN_nil _ ((0 + 15) / 16) rfl, Nat.zero_add, ← hs, lowL_numLow]
theorem tagL_r1 (s text : List UInt8) : tagL (1 :: List.replicate 15 0 ++ s) text = lowL (accN 1 text ((text.length + 15) / 16) + numLow s) 16 := by
  rw [tagL_sum _ _ _ (by simp), clampL_one, numLow_oneL]
theorem accN_lt (r : Nat) (text : List UInt8) (m : Nat) : accN r text m < PP := by
  cases m with
  | zero => exact (by decide : 0 < PP)
  | succ m => exact Nat.mod_lt _ (by decide)
end Go.Proofs.YtjbhmdlgokoepaaDoor
