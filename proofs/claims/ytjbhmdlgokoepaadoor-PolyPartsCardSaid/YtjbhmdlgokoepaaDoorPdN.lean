/- Numbers as digits of 256: the plain functions; what is above and below 130 bits; the prime. -/
import Derived.Test.YtjbhmdlgokoepaaDoorArr
import Derived.KernelRfl
namespace Go.Proofs.YtjbhmdlgokoepaaDoor
open Go.RowKit

/-- The number of digits, the lowest one first. -/
def numD : List Nat → Nat
  | [] => 0
  | d :: l => d + 256 * numD l
theorem numD_append (l m : List Nat) : numD (l ++ m) = numD l + 256 ^ l.length * numD m := by
  induction l with
  | nil => simp [numD]
  | cons d l ih => rw [List.cons_append, numD, numD, ih, List.length_cons, Nat.pow_succ, Nat.mul_add, Nat.add_assoc, ← Nat.mul_assoc, Nat.mul_comm (256 ^ l.length) 256]
theorem numD_snoc (l : List Nat) (d : Nat) : numD (l ++ [d]) = numD l + 256 ^ l.length * d := by rw [numD_append]; simp [numD]
theorem numD_lt (l : List Nat) (h : ∀ d ∈ l, d < 256) : numD l < 256 ^ l.length := by
  induction l with
  | nil => simp [numD]
  | cons d l ih =>
    have h1 := ih (fun x hx => h x (by simp [hx]))
    have h2 := h d (by simp)
    rw [numD, List.length_cons, Nat.pow_succ]; omega
theorem numD_zeros (n : Nat) : numD (List.replicate n 0) = 0 := by
  induction n with
  | zero => rfl
  | succ n ih => rw [List.replicate_succ, numD, ih]
theorem numD_set (l : List Nat) (k x : Nat) (h : k < l.length) : numD (l.set k (l.getD k 0 + x)) = numD l + 256 ^ k * x := by
  induction l generalizing k with
  | nil => simp at h
  | cons d l ih =>
    cases k with
    | zero => simp [numD]; omega
    | succ k =>
      have := ih k (by simpa using h)
      simp only [List.set_cons_succ, List.getD_cons_succ, numD, this, Nat.pow_succ, Nat.mul_add]
      rw [← Nat.mul_assoc, Nat.mul_comm (256 ^ k) 256]; omega
theorem numD_take_succ (l : List Nat) (k : Nat) (h : k < l.length) : numD (l.take (k + 1)) = numD (l.take k) + 256 ^ k * l.getD k 0 := by
  rw [List.take_succ_eq_append_getElem h, numD_snoc, List.length_take, Nat.min_eq_left (by omega), List.getD_eq_getElem?_getD, List.getElem?_eq_getElem h]; rfl
theorem numD_drop (l : List Nat) (k : Nat) (h : k < l.length) : numD (l.drop k) = l.getD k 0 + 256 * numD (l.drop (k + 1)) := by
  rw [List.drop_eq_getElem_cons h, numD, List.getD_eq_getElem?_getD, List.getElem?_eq_getElem h]; rfl
theorem numD_map (l : List UInt8) : numD (l.map (·.toNat)) = numLow l := by
  induction l with
  | nil => rfl
  | cons b l ih => rw [List.map_cons, numD, numLow, ih]

/-- Digits by place; a number's digits. -/
def digL (d : List Nat) (m : Nat) : List Nat := (List.range m).map fun j => d.getD j 0
theorem digL_len (d : List Nat) (m : Nat) : (digL d m).length = m := by simp [digL]
theorem digL_succ (d : List Nat) (m : Nat) : digL d (m + 1) = digL d m ++ [d.getD m 0] := by simp [digL, List.range_succ]
theorem getD_lt (d : List Nat) (h : ∀ x ∈ d, x < 256) (j : Nat) : d.getD j 0 < 256 := by
  by_cases hj : j < d.length
  · rw [List.getD_eq_getElem?_getD, List.getElem?_eq_getElem hj]; exact h _ (List.getElem_mem hj)
  · rw [List.getD_eq_getElem?_getD, List.getElem?_eq_none (by omega)]; decide
theorem numD_getD (d : List Nat) (h : ∀ x ∈ d, x < 256) (j : Nat) : numD d / 256 ^ j % 256 = d.getD j 0 := by
  induction d generalizing j with
  | nil => simp [numD]
  | cons x d ih =>
    have hx := h x (by simp)
    have hd := fun j => ih (fun y hy => h y (by simp [hy])) j
    cases j with
    | zero => simp [numD]; omega
    | succ j =>
      rw [List.getD_cons_succ, ← hd j, numD, Nat.pow_succ, Nat.mul_comm (256 ^ j) 256, ← Nat.div_div_eq_div_mul, show (x + 256 * numD d) / 256 = numD d by omega]
theorem digL_num (d : List Nat) (h : ∀ x ∈ d, x < 256) (m : Nat) : numD (digL d m) = numD d % 256 ^ m := by
  induction m with
  | zero => simp [digL, numD, Nat.mod_one]
  | succ m ih => rw [digL_succ, numD_snoc, ih, digL_len, ← numD_getD d h m, Nat.pow_succ, Nat.mod_mul]

/-- What is above 130 bits, what is below. -/
def quarter : List Nat → List Nat
  | [] => []
  | x :: l => (x / 4 + l.getD 0 0 % 4 * 64) :: quarter l
theorem quarter_len (l : List Nat) : (quarter l).length = l.length := by
  induction l with
  | nil => rfl
  | cons x l ih => rw [quarter, List.length_cons, ih, List.length_cons]
theorem quarter_num (l : List Nat) : numD (quarter l) = numD l / 4 := by
  induction l with
  | nil => rfl
  | cons x l ih =>
    rw [quarter, numD, numD, ih]
    have hm : numD l % 4 = l.getD 0 0 % 4 := by
      cases l with
      | nil => rfl
      | cons y l => rw [numD, List.getD_cons_zero]; omega
    omega
theorem quarter_get (l : List Nat) (k : Nat) (h : k < l.length) : (quarter l).getD k 0 = l.getD k 0 / 4 + l.getD (k + 1) 0 % 4 * 64 := by
  induction l generalizing k with
  | nil => simp at h
  | cons x l ih =>
    cases k with
    | zero => rfl
    | succ k => rw [quarter, List.getD_cons_succ, ih k (by simpa using h), List.getD_cons_succ, List.getD_cons_succ]
theorem quarter_lt (l : List Nat) (h : ∀ x ∈ l, x < 256) : ∀ x ∈ quarter l, x < 256 := by
  induction l with
  | nil => simp [quarter]
  | cons x l ih =>
    intro y hy
    rw [quarter, List.mem_cons] at hy
    rcases hy with rfl | hy
    · have := h x (by simp); have := Nat.mod_lt (l.getD 0 0) (show 0 < 4 by decide); omega
    · exact ih (fun z hz => h z (by simp [hz])) y hy
def highD (d : List Nat) : List Nat := quarter (d.drop 16)
theorem p130 : 256 ^ 16 * 4 = 1361129467683753853853498429727072845824 := by decide
def lowD (d : List Nat) : List Nat := digL d 16 ++ [d.getD 16 0 % 4]
def TB : Nat := 1361129467683753853853498429727072845824
theorem TB_eq : TB = 256 ^ 16 * 4 := by decide
theorem TB_pos : 0 < TB := by decide
theorem highD_len (d : List Nat) : (highD d).length = d.length - 16 := by rw [highD, quarter_len, List.length_drop]
theorem highD_lt (d : List Nat) (h : ∀ x ∈ d, x < 256) : ∀ x ∈ highD d, x < 256 := quarter_lt _ fun x hx => h x (List.mem_of_mem_drop hx)
theorem highD_get (d : List Nat) (k : Nat) (h : 16 + k < d.length) : (highD d).getD k 0 = d.getD (16 + k) 0 / 4 + d.getD (16 + k + 1) 0 % 4 * 64 := by
  rw [highD, quarter_get _ _ (by rw [List.length_drop]; omega)]
  simp only [List.getD_eq_getElem?_getD, List.getElem?_drop]
  rfl
theorem highD_num (d : List Nat) (h : ∀ x ∈ d, x < 256) : numD (highD d) = numD d / TB := by
  have e : numD d = numD (d.take 16) + 256 ^ (d.take 16).length * numD (d.drop 16) := by
    conv => lhs; rw [← List.take_append_drop 16 d]
    rw [numD_append]
  have hl := numD_lt (d.take 16) (fun x hx => h x (List.mem_of_mem_take hx))
  rw [highD, quarter_num]
  by_cases hd : d.length ≤ 16
  · have h0 : d.drop 16 = [] := List.drop_eq_nil_of_le hd
    have hlt := numD_lt d h
    have h2 : (256 : Nat) ^ d.length ≤ 256 ^ 16 := Nat.pow_le_pow_right (by decide) hd
    have h3 : (256 : Nat) ^ 16 ≤ TB := by decide
    rw [h0, Nat.div_eq_of_lt (a := numD d) (by omega)]; rfl
  · have h16 : (d.take 16).length = 16 := by rw [List.length_take]; omega
    rw [h16] at e hl
    rw [e, TB_eq, ← Nat.div_div_eq_div_mul]
    congr 1
    generalize 256 ^ 16 = M at *
    generalize numD (d.take 16) = x at *
    generalize numD (d.drop 16) = y at *
    rw [Nat.add_mul_div_left _ _ (by omega), Nat.div_eq_of_lt hl, Nat.zero_add]
theorem lowD_len (d : List Nat) : (lowD d).length = 17 := by rw [lowD, List.length_append, digL_len]; rfl
theorem lowD_lt (d : List Nat) (h : ∀ x ∈ d, x < 256) : ∀ x ∈ lowD d, x < 256 := by
  intro x hx
  rw [lowD, List.mem_append] at hx
  rcases hx with hx | hx
  · rw [digL, List.mem_map] at hx
    obtain ⟨j, _, rfl⟩ := hx
    exact getD_lt d h j
  · rw [List.mem_singleton] at hx; subst hx; omega
theorem lowD_num (d : List Nat) (h : ∀ x ∈ d, x < 256) : numD (lowD d) = numD d % TB := by
  rw [lowD, numD_snoc, digL_num d h, digL_len, TB_eq, Nat.mod_mul, ← numD_getD d h 16]
  congr 2
  generalize numD d / 256 ^ 16 = y
  omega
theorem low_high (d : List Nat) (h : ∀ x ∈ d, x < 256) : numD d = numD (lowD d) + TB * numD (highD d) := by
  rw [lowD_num d h, highD_num d h]; exact (Nat.mod_add_div _ _).symm

/-- The prime. -/
def PP : Nat := 1361129467683753853853498429727072845819
theorem PP_TB : TB = PP + 5 := by decide
theorem fold_mod (l h : Nat) : (l + 5 * h) % PP = (l + TB * h) % PP := by
  rw [PP_TB, Nat.add_mul, ← Nat.add_assoc, Nat.add_right_comm, Nat.add_mul_mod_self_left]
theorem fold_lt (l h : Nat) (hh : 0 < h) : l + 5 * h < l + TB * h := by
  have : 5 < TB := by decide
  have := Nat.mul_lt_mul_of_pos_right this hh
  omega
/-- What is below 130 bits, made less than the prime. -/
theorem last_mod (n : Nat) (h : n < TB) : n % PP = if (n + 5) / TB = 0 then n else (n + 5) % TB := by
  rw [PP_TB] at h ⊢
  have hp : 5 < PP := by decide
  generalize PP = P at *
  by_cases hl : n < P
  · rw [Nat.mod_eq_of_lt hl, if_pos (Nat.div_eq_of_lt (by omega))]
  · have e : n + 5 = (n - P) + (P + 5) := by omega
    rw [if_neg (by rw [e, Nat.add_div_right _ (by omega)]; exact Nat.succ_ne_zero _), e, Nat.add_mod_right, Nat.mod_eq_of_lt (show n - P < P + 5 by omega), Nat.mod_eq_sub_mod (by omega), Nat.mod_eq_of_lt (by omega)]
end Go.Proofs.YtjbhmdlgokoepaaDoor
