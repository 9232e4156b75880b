/- Numbers as parts of 26 bits: the plain functions. -/
import Derived.Test.YtjbhmdlgokoepaaDoorPdN
namespace Go.Proofs.YtjbhmdlgokoepaaDoor
open Go.RowKit

/-- The number of parts of 26 bits, the lowest one first. -/
def numP : List Nat → Nat
  | [] => 0
  | d :: l => d + 67108864 * numP l
theorem numP_append (l m : List Nat) : numP (l ++ m) = numP l + 67108864 ^ l.length * numP m := by
  induction l with
  | nil => simp [numP]
  | cons d l ih => rw [List.cons_append, numP, numP, ih, List.length_cons, Nat.pow_succ, Nat.mul_add, Nat.add_assoc, ← Nat.mul_assoc, Nat.mul_comm (67108864 ^ l.length) 67108864]
theorem numP_snoc (l : List Nat) (d : Nat) : numP (l ++ [d]) = numP l + 67108864 ^ l.length * d := by rw [numP_append]; simp [numP]
theorem numP_lt (l : List Nat) (h : ∀ d ∈ l, d < 67108864) : numP l < 67108864 ^ l.length := by
  induction l with
  | nil => simp [numP]
  | cons d l ih =>
    have h1 := ih (fun x hx => h x (by simp [hx]))
    have h2 := h d (by simp)
    rw [numP, List.length_cons, Nat.pow_succ]; omega
theorem numP_set (l : List Nat) (k x : Nat) (h : k < l.length) : numP (l.set k (l.getD k 0 + x)) = numP l + 67108864 ^ k * x := by
  induction l generalizing k with
  | nil => simp at h
  | cons d l ih =>
    cases k with
    | zero => simp [numP]; omega
    | succ k =>
      have := ih k (by simpa using h)
      simp only [List.set_cons_succ, List.getD_cons_succ, numP, this, Nat.pow_succ, Nat.mul_add]
      rw [← Nat.mul_assoc, Nat.mul_comm (67108864 ^ k) 67108864]; omega
theorem numP_take_succ (l : List Nat) (k : Nat) (h : k < l.length) : numP (l.take (k + 1)) = numP (l.take k) + 67108864 ^ k * l.getD k 0 := by
  rw [List.take_succ_eq_append_getElem h, numP_snoc, List.length_take, Nat.min_eq_left (by omega), List.getD_eq_getElem?_getD, List.getElem?_eq_getElem h]; rfl
theorem numP_drop (l : List Nat) (k : Nat) (h : k < l.length) : numP (l.drop k) = l.getD k 0 + 67108864 * numP (l.drop (k + 1)) := by
  rw [List.drop_eq_getElem_cons h, numP, List.getD_eq_getElem?_getD, List.getElem?_eq_getElem h]; rfl
theorem numP_zeros (n : Nat) : numP (List.replicate n 0) = 0 := by
  induction n with
  | zero => rfl
  | succ n ih => rw [List.replicate_succ, numP, ih]
theorem numP_inj (l m : List Nat) (hl : ∀ x ∈ l, x < 67108864) (hm : ∀ x ∈ m, x < 67108864) (he : l.length = m.length) (h : numP l = numP m) : l = m := by
  induction l generalizing m with
  | nil => cases m with
    | nil => rfl
    | cons => simp at he
  | cons b l ih => cases m with
    | nil => simp at he
    | cons c m =>
      rw [numP, numP] at h
      have hb := hl b (by simp)
      have hc := hm c (by simp)
      have h1 : b = c := by omega
      rw [h1, ih m (fun x hx => hl x (by simp [hx])) (fun x hx => hm x (by simp [hx])) (by simpa using he) (by omega)]
theorem MB5 : (67108864 : Nat) ^ 5 = TB := by decide

/-- A list by place. -/
theorem getD_sets (l : List Nat) (k x j : Nat) (h : k < l.length) : (l.set k x).getD j 0 = if j = k then x else l.getD j 0 := by
  rw [List.getD_eq_getElem?_getD, List.getElem?_set]
  by_cases hj : k = j
  · subst hj; simp [h]
  · rw [if_neg hj, if_neg (Ne.symm hj), ← List.getD_eq_getElem?_getD]
theorem all_of_getD (l : List Nat) (B : Nat) (h : ∀ j, j < l.length → l.getD j 0 < B) : ∀ x ∈ l, x < B := by
  intro x hx
  obtain ⟨j, hj, rfl⟩ := List.getElem_of_mem hx
  have := h j hj
  rwa [List.getD_eq_getElem?_getD, List.getElem?_eq_getElem hj] at this
theorem getD_of_all (l : List Nat) (B : Nat) (h : ∀ x ∈ l, x < B) (j : Nat) (hj : j < l.length) : l.getD j 0 < B := by
  rw [List.getD_eq_getElem?_getD, List.getElem?_eq_getElem hj]; exact h _ (List.getElem_mem hj)
theorem eq_of_getD (l m : List Nat) (hl : l.length = m.length) (h : ∀ j, j < l.length → l.getD j 0 = m.getD j 0) : l = m := by
  apply List.ext_getElem hl
  intro i h1 h2
  have := h i h1
  rwa [List.getD_eq_getElem?_getD, List.getElem?_eq_getElem h1, List.getD_eq_getElem?_getD, List.getElem?_eq_getElem h2] at this
theorem take_set_succ (l : List Nat) (k x : Nat) (h : k < l.length) : (l.set k x).take (k + 1) = l.take k ++ [x] := by
  rw [List.take_succ_eq_append_getElem (by simpa using h), List.take_set_of_le (by omega)]; simp
theorem numP_le_getD (l : List Nat) : l.getD 0 0 ≤ numP l := by
  cases l with
  | nil => simp
  | cons d l => rw [numP]; simp
/-- Five parts, by name. -/
theorem five (l : List Nat) (h : l.length = 5) : ∃ a b c d e, l = [a, b, c, d, e] := by
  match l, h with
  | [a, b, c, d, e], _ => exact ⟨a, b, c, d, e, rfl⟩

/-- One step of the carrying. -/
theorem carry_step (o M A q r rest : Nat) (h : A = r + 67108864 * q) : o + M * r + M * 67108864 * (q + rest) = o + M * (A + 67108864 * rest) := by
  subst h
  rw [Nat.mul_assoc, Nat.add_assoc, ← Nat.mul_add, Nat.mul_add 67108864]
  congr 2; omega

/-- What is known behind k rounds of the carrying. -/
structure Car (x out : List Nat) (C k : Nat) : Prop where
  len : out.length = 5
  hi : ∀ j, k ≤ j → out.getD j 0 = x.getD j 0
  lo : ∀ j, j < k → out.getD j 0 < 67108864
  c : C < 274877906944
  num : numP (out.take k) + 67108864 ^ k * (C + numP (x.drop k)) = numP x
theorem Car.start (x : List Nat) (h : x.length = 5) : Car x x 0 0 := ⟨h, fun _ _ => rfl, fun _ h => absurd h (by omega), by omega, by simp [numP]⟩
theorem Car.step {x out : List Nat} {C k : Nat} (hx : x.length = 5) (hb : ∀ z ∈ x, z < 9223372036854775808) (h : Car x out C k) (hk : k < 5) :
    Car x ((out.set k (out.getD k 0 + C)).set k ((out.getD k 0 + C) % 67108864)) ((out.getD k 0 + C) / 67108864) (k + 1) ∧ out.getD k 0 < 9223372036854775808 := by
  have hbk : out.getD k 0 < 9223372036854775808 := by rw [h.hi k (Nat.le_refl _)]; exact getD_of_all x _ hb k (by omega)
  have hc := h.c
  refine ⟨⟨by simp [h.len], ?_, ?_, by omega, ?_⟩, hbk⟩
  · intro j hj
    rw [List.set_set, getD_sets _ _ _ _ (by rw [h.len]; omega), if_neg (by omega), h.hi j (by omega)]
  · intro j hj
    rw [List.set_set, getD_sets _ _ _ _ (by rw [h.len]; omega)]
    by_cases e : j = k
    · rw [if_pos e]; omega
    · rw [if_neg e]; exact h.lo j (by omega)
  · rw [List.set_set, take_set_succ _ _ _ (by rw [h.len]; omega), numP_snoc, List.length_take, h.len, Nat.min_eq_left (by omega), Nat.pow_succ,
      carry_step _ _ (out.getD k 0 + C) _ _ _ (by omega), ← h.num, numP_drop x k (by omega), h.hi k (Nat.le_refl _)]
    congr 2; omega
theorem Car.fin {x out : List Nat} {C : Nat} (hx : x.length = 5) (h : Car x out C 5) : (∀ z ∈ out, z < 67108864) ∧ numP out + TB * C = numP x := by
  refine ⟨all_of_getD _ _ fun j hj => h.lo j (by rw [h.len] at hj; exact hj), ?_⟩
  have := h.num
  rw [List.take_of_length_le (by rw [h.len]; omega), List.drop_eq_nil_of_le (by omega), MB5] at this
  simpa [numP] using this

/-- What goes beyond 130 bits comes round five times. -/
theorem round_mod {x y n : List Nat} {C : Nat} (hy : y.length = 5) (h : numP y + TB * C = numP x) (hn : n = y.set 0 (y.getD 0 0 + 5 * C)) : numP n % PP = numP x % PP ∧ numP n = numP y + 5 * C := by
  have e : numP n = numP y + 5 * C := by rw [hn, numP_set _ _ _ (by omega)]; simp
  exact ⟨by rw [e, ← h, fold_mod], e⟩
/-- What is known behind m rounds. -/
def Wra (x X : List Nat) : Nat → Prop
  | 0 => X = x
  | 1 => X.length = 5 ∧ numP X % PP = numP x % PP ∧ numP X < TB + 1374389534720 ∧ X.getD 0 0 < 1374456643584 ∧ ∀ j, 0 < j → j < 5 → X.getD j 0 < 67108864
  | 2 => X.length = 5 ∧ numP X % PP = numP x % PP ∧ numP X < TB ∧ X.getD 0 0 < 67108869 ∧ ∀ j, 0 < j → j < 5 → X.getD j 0 < 67108864
  | _ => X.length = 5 ∧ numP X % PP = numP x % PP ∧ ∀ z ∈ X, z < 67108864
theorem Wra.bound {x X : List Nat} {m : Nat} (hx : x.length = 5) (hb : ∀ z ∈ x, z < 9223372036854775808) (h : Wra x X m) : X.length = 5 ∧ ∀ z ∈ X, z < 9223372036854775808 := by
  match m, h with
  | 0, h => exact h ▸ ⟨hx, hb⟩
  | 1, ⟨h1, _, _, h2, h3⟩ | 2, ⟨h1, _, _, h2, h3⟩ =>
    refine ⟨h1, all_of_getD _ _ fun j hj => ?_⟩
    by_cases e : j = 0
    · rw [e]; omega
    · have := h3 j (by omega) (by omega); omega
  | m + 3, ⟨h1, _, h2⟩ => exact ⟨h1, fun z hz => by have := h2 z hz; omega⟩
theorem Wra.next {x X y : List Nat} {m C : Nat} (_ : x.length = 5) (_ : ∀ z ∈ x, z < 9223372036854775808) (h : Wra x X m) (hm : m < 3) (hy : y.length = 5) (hl : ∀ z ∈ y, z < 67108864) (hC : C < 274877906944) (hn : numP y + TB * C = numP X) :
    Wra x (y.set 0 (y.getD 0 0 + 5 * C)) (m + 1) := by
  obtain ⟨e1, e2⟩ := round_mod hy hn rfl
  have hlt : numP y < TB := by have := numP_lt y hl; rwa [hy, MB5] at this
  have h0 : y.getD 0 0 < 67108864 := getD_of_all y _ hl 0 (by omega)
  have g0 : (y.set 0 (y.getD 0 0 + 5 * C)).getD 0 0 = y.getD 0 0 + 5 * C := by rw [getD_sets _ _ _ _ (by omega), if_pos rfl]
  have gj : ∀ j, 0 < j → j < 5 → (y.set 0 (y.getD 0 0 + 5 * C)).getD j 0 < 67108864 := fun j h1 h2 => by
    rw [getD_sets _ _ _ _ (by omega), if_neg (by omega)]; exact getD_of_all y _ hl j (by omega)
  have hlen : (y.set 0 (y.getD 0 0 + 5 * C)).length = 5 := by simp [hy]
  have hT : 1374389534800 < TB := by decide
  match m, h, hm with
  | 0, h, _ => subst h; exact ⟨hlen, e1, by rw [e2]; omega, by rw [g0]; omega, gj⟩
  | 1, ⟨_, hmod, hX, _, _⟩, _ =>
    have hc1 : C ≤ 1 := by
      rcases (show C ≤ 1 ∨ 2 ≤ C by omega) with h | h
      · exact h
      · have := Nat.mul_le_mul_left TB h; omega
    refine ⟨hlen, by rw [e1, hmod], ?_, by rw [g0]; omega, gj⟩
    rw [e2]
    rcases (show C = 0 ∨ C = 1 by omega) with h | h <;> subst h <;> omega
  | 2, ⟨_, hmod, hX, _, _⟩, _ =>
    have hc0 : C = 0 := by
      rcases (show C = 0 ∨ 1 ≤ C by omega) with h | h
      · exact h
      · have := Nat.mul_le_mul_left TB h; omega
    subst hc0
    refine ⟨hlen, by rw [e1, hmod], all_of_getD _ _ fun j hj => ?_⟩
    by_cases e : j = 0
    · rw [e, g0]; omega
    · exact gj j (by omega) (by omega)

/-- Products: what is known ahead of x's part i and y's part k. -/
structure Tim (x y z : List Nat) (i k : Nat) : Prop where
  len : z.length = 5
  lt : ∀ j, j < 5 → z.getD j 0 ≤ (5 * i + k) * 45035996273704960
  num : numP z % PP = (numP (x.take i) * numP y + 67108864 ^ i * x.getD i 0 * numP (y.take k)) % PP
theorem Tim.start (x y : List Nat) : Tim x y [0, 0, 0, 0, 0] 0 0 := ⟨rfl, fun j hj => by
  rcases (show j = 0 ∨ j = 1 ∨ j = 2 ∨ j = 3 ∨ j = 4 by omega) with h | h | h | h | h <;> subst h <;> simp, by simp [numP]⟩
theorem Tim.row {x y z : List Nat} {i : Nat} (hx : i < x.length) (hy : y.length = 5) (h : Tim x y z i 5) : Tim x y z (i + 1) 0 :=
  ⟨h.len, fun j hj => by have := h.lt j hj; omega, by
    rw [h.num, List.take_of_length_le (by omega : y.length ≤ 5), numP_take_succ x i hx, List.take_zero, numP, Nat.mul_zero, Nat.add_zero, Nat.add_mul]⟩
theorem tim_fold (n m a b i k : Nat) (h : n % PP = m % PP) (hik : 5 ≤ i + k) : (n + 67108864 ^ (i + k - 5) * (a * b * 5)) % PP = (m + 67108864 ^ i * a * (67108864 ^ k * b)) % PP := by
  obtain ⟨d, hd⟩ : ∃ d, i + k = d + 5 := ⟨i + k - 5, by omega⟩
  have e : 67108864 ^ i * a * (67108864 ^ k * b) = TB * (67108864 ^ d * (a * b)) := by
    rw [Nat.mul_assoc (67108864 ^ i), ← Nat.mul_assoc a, Nat.mul_comm a, Nat.mul_assoc (67108864 ^ k), ← Nat.mul_assoc, ← Nat.pow_add, hd, Nat.pow_add, MB5, Nat.mul_comm (67108864 ^ d), Nat.mul_assoc]
  rw [hd, Nat.add_sub_cancel, e, ← fold_mod m, Nat.add_mod, h, ← Nat.add_mod]
  congr 2
  rw [← Nat.mul_assoc, Nat.mul_comm _ 5]
theorem tim_flat (n m a b i k : Nat) (h : n % PP = m % PP) : (n + 67108864 ^ (i + k) * (a * b)) % PP = (m + 67108864 ^ i * a * (67108864 ^ k * b)) % PP := by
  have e : 67108864 ^ i * a * (67108864 ^ k * b) = 67108864 ^ (i + k) * (a * b) := by
    rw [Nat.mul_assoc (67108864 ^ i), ← Nat.mul_assoc a, Nat.mul_comm a, Nat.mul_assoc (67108864 ^ k), ← Nat.mul_assoc, ← Nat.pow_add]
  rw [e, Nat.add_mod, h, ← Nat.add_mod]
theorem prod_lt {a b : Nat} (ha : a ≤ 134217727) (hb : b < 67108864) : a * b ≤ 9007199254740992 := by
  have h1 := Nat.mul_le_mul ha (show b ≤ 67108863 by omega)
  exact Nat.le_trans h1 (by decide)
theorem Tim.step {x y z : List Nat} {i k : Nat} (hy : y.length = 5) (hi : i < 5) (hk : k < 5) (hxb : x.getD i 0 ≤ 134217727) (hyb : y.getD k 0 < 67108864) (h : Tim x y z i k) (P : Nat)
    (hP : P = if 5 ≤ i + k then x.getD i 0 * y.getD k 0 * 5 else x.getD i 0 * y.getD k 0) :
    Tim x y (z.set ((i + k) % 5) (z.getD ((i + k) % 5) 0 + P)) i (k + 1) ∧ z.getD ((i + k) % 5) 0 ≤ 1125899906842624000 ∧ P ≤ 45035996273704960 := by
  have hp := prod_lt hxb hyb
  have hPb : P ≤ 45035996273704960 := by rw [hP]; split <;> omega
  have hz := h.lt ((i + k) % 5) (Nat.mod_lt _ (by decide))
  have hb : (5 * i + k) * 45035996273704960 ≤ 24 * 45035996273704960 := Nat.mul_le_mul_right _ (by omega)
  refine ⟨⟨by simp [h.len], fun j hj => ?_, ?_⟩, by omega, hPb⟩
  · rw [getD_sets _ _ _ _ (by rw [h.len]; exact Nat.mod_lt _ (by decide))]
    have h1 := h.lt j hj
    have e : (5 * i + (k + 1)) * 45035996273704960 = (5 * i + k) * 45035996273704960 + 45035996273704960 := by rw [← Nat.add_assoc, Nat.add_mul]
    rw [e]
    clear e hb
    generalize (5 * i + k) * 45035996273704960 = B at *
    split
    · rename_i hj2
      subst hj2
      exact Nat.add_le_add hz hPb
    · exact Nat.le_add_right_of_le h1
  · have hsum := numP_set z ((i + k) % 5) P (by rw [h.len]; exact Nat.mod_lt _ (by decide))
    rw [hsum, numP_take_succ y k (by omega), Nat.mul_add, ← Nat.add_assoc]
    clear hsum
    by_cases hik : 5 ≤ i + k
    · rw [hP, if_pos hik, show (i + k) % 5 = i + k - 5 by omega]
      exact tim_fold _ _ _ _ _ _ h.num hik
    · rw [hP, if_neg hik, show (i + k) % 5 = i + k by omega]
      exact tim_flat _ _ _ _ _ _ h.num
theorem Tim.fin {x y z : List Nat} (hx : x.length = 5) (h : Tim x y z 5 0) : (∀ v ∈ z, v < 9223372036854775808) ∧ numP z % PP = numP x * numP y % PP := by
  refine ⟨all_of_getD _ _ fun j hj => by have := h.lt j (by rw [h.len] at hj; exact hj); omega, ?_⟩
  rw [h.num, List.take_of_length_le (by omega), List.take_zero, numP, Nat.mul_zero, Nat.add_zero]

/-- Sums part by part: what is known behind k of them. -/
def sumP (x y : List Nat) : List Nat := List.zipWith (· + ·) x y
theorem sumP_num (x y : List Nat) (h : x.length = y.length) : numP (sumP x y) = numP x + numP y := by
  induction x generalizing y with
  | nil => cases y with
    | nil => rfl
    | cons => simp at h
  | cons a x ih => cases y with
    | nil => simp at h
    | cons b y =>
      have := ih y (by simpa using h)
      rw [sumP] at this ⊢
      rw [List.zipWith_cons_cons, numP, numP, numP, this]; omega
theorem sumP_len (x y : List Nat) (h : x.length = y.length) : (sumP x y).length = x.length := by simp [sumP, h]
theorem sumP_get (x y : List Nat) (k : Nat) (h1 : k < x.length) (h2 : k < y.length) : (sumP x y).getD k 0 = x.getD k 0 + y.getD k 0 := by
  simp only [sumP, List.getD_eq_getElem?_getD, List.getElem?_zipWith, List.getElem?_eq_getElem h1, List.getElem?_eq_getElem h2]; rfl

/-- A number's parts. -/
def partsP (n m : Nat) : List Nat := (List.range m).map fun i => n / 67108864 ^ i % 67108864
theorem partsP_len (n m : Nat) : (partsP n m).length = m := by simp [partsP]
theorem partsP_lt (n m : Nat) : ∀ x ∈ partsP n m, x < 67108864 := by
  intro x hx
  rw [partsP, List.mem_map] at hx
  obtain ⟨i, _, rfl⟩ := hx
  exact Nat.mod_lt _ (by decide)
theorem partsP_get (n m i : Nat) (h : i < m) : (partsP n m).getD i 0 = n / 67108864 ^ i % 67108864 := by
  rw [partsP, List.getD_eq_getElem?_getD, List.getElem?_map, List.getElem?_range h]; rfl
theorem partsP_num (n m : Nat) : numP (partsP n m) = n % 67108864 ^ m := by
  induction m with
  | zero => simp [partsP, numP, Nat.mod_one]
  | succ m ih =>
    have e : partsP n (m + 1) = partsP n m ++ [n / 67108864 ^ m % 67108864] := by simp [partsP, List.range_succ]
    rw [e, numP_snoc, ih, partsP_len, Nat.pow_succ, Nat.mod_mul]
theorem partsP_of (n : Nat) (h : n < TB) : numP (partsP n 5) = n := by rw [partsP_num, MB5, Nat.mod_eq_of_lt h]
end Go.Proofs.YtjbhmdlgokoepaaDoor
