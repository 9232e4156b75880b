/- Words turned round: the plain laws. -/
import Derived.Test.YtanaingknbjgdaaOc1
namespace Go.Proofs.Ytanaingknbjgdaa
open Go.RowKit

theorem bit_hi {x : Nat} (h : x < 4294967296) {i : Nat} (hi : 32 ≤ i) : x.testBit i = false :=
  Nat.testBit_lt_two_pow (Nat.lt_of_lt_of_le h (Nat.pow_le_pow_right (n := 2) (i := 32) (by decide) hi))

theorem bit_rotl {x : Nat} (h : x < 4294967296) {k : Nat} (hk : k < 32) (i : Nat) : (rotl x k).testBit i = (decide (i < 32) && x.testBit ((i + 32 - k) % 32)) := by
  unfold rotl
  rw [Nat.testBit_or, show (4294967296 : Nat) = 2 ^ 32 from rfl, Nat.testBit_mod_two_pow, Nat.testBit_mul_two_pow, Nat.testBit_div_two_pow]
  by_cases hi : i < 32
  · simp only [hi, decide_true, Bool.true_and]
    by_cases hki : k ≤ i
    · rw [show (i + 32 - k) % 32 = i - k from by omega]
      have : x.testBit (i + (32 - k)) = false := bit_hi h (by omega)
      simp [this, hki]
    · rw [show (i + 32 - k) % 32 = i + (32 - k) from by omega]
      simp [hki]
  · have : x.testBit (i + (32 - k)) = false := bit_hi h (by omega)
    simp [hi, this]

theorem bit_rotr {x : Nat} (h : x < 4294967296) {k : Nat} (hk : k < 32) (i : Nat) : (rotr x k).testBit i = (decide (i < 32) && x.testBit ((i + k) % 32)) := by
  unfold rotr
  rw [Nat.testBit_or, show (4294967296 : Nat) = 2 ^ 32 from rfl, Nat.testBit_mod_two_pow, Nat.testBit_mul_two_pow, Nat.testBit_div_two_pow]
  by_cases hi : i < 32
  · simp only [hi, decide_true, Bool.true_and]
    by_cases hki : i + k < 32
    · rw [show (i + k) % 32 = i + k from by omega]
      simp; intro h; omega
    · rw [show (i + k) % 32 = i - (32 - k) from by omega]
      have : x.testBit (i + k) = false := bit_hi h (by omega)
      simp [this]; intro _; omega
  · have : x.testBit (i + k) = false := bit_hi h (by omega)
    simp [hi, this]

theorem rotl_rotl {x : Nat} (h : x < 4294967296) {j k : Nat} (hj : j < 32) (hk : k < 32) : rotl (rotl x j) k = rotl x ((j + k) % 32) := by
  apply Nat.eq_of_testBit_eq
  intro i
  rw [bit_rotl (rotl_lt h j) hk, bit_rotl h hj, bit_rotl h (Nat.mod_lt _ (by decide))]
  by_cases hi : i < 32
  · simp only [hi, decide_true, Bool.true_and]
    rw [show decide ((i + 32 - k) % 32 < 32) = true from by simp; omega, Bool.true_and]
    congr 1; omega
  · simp [hi]
theorem rotl_zero {x : Nat} (h : x < 4294967296) : rotl x 0 = x := by
  apply Nat.eq_of_testBit_eq
  intro i
  rw [bit_rotl h (by decide)]
  by_cases hi : i < 32
  · rw [show (i + 32 - 0) % 32 = i from by omega]; simp [hi]
  · simp [hi, bit_hi h (show 32 ≤ i by omega)]
theorem rotr_eq {x : Nat} (h : x < 4294967296) {k : Nat} (hk : k < 32) : rotr x k = rotl x ((32 - k) % 32) := by
  apply Nat.eq_of_testBit_eq
  intro i
  rw [bit_rotr h hk, bit_rotl h (Nat.mod_lt _ (by decide))]
  by_cases hi : i < 32
  · simp only [hi, decide_true, Bool.true_and]
    congr 1; omega
  · simp [hi]
theorem rotr_rotl {x : Nat} (h : x < 4294967296) {k : Nat} (hk : k < 32) : rotr (rotl x k) k = x := by
  rw [rotr_eq (rotl_lt h k) hk, rotl_rotl h hk (Nat.mod_lt _ (by decide))]
  rw [show (k + (32 - k) % 32) % 32 = 0 from by omega, rotl_zero h]
/-- One turn, as the document's own answer makes it. -/
theorem rotl_one {x : Nat} (h : x < 4294967296) : rotl x 1 = (x * 2 % 4294967296 + x / 2147483648) % 4294967296 := by
  unfold rotl
  have e : x * 2 ^ 1 % 4294967296 = 2 * (x % 2147483648) := by omega
  have hb : x / 2 ^ (32 - 1) < 2 ^ 1 := by show x / 2147483648 < 2; omega
  rw [e]
  have := Nat.two_pow_add_eq_or_of_lt hb (x % 2147483648)
  rw [show 2 ^ 1 * (x % 2147483648) = 2 * (x % 2147483648) from rfl] at this
  rw [← this]
  show _ + x / 2147483648 = _
  omega
end Go.Proofs.Ytanaingknbjgdaa
