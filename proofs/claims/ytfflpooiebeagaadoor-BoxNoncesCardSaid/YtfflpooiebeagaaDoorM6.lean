/- Numbers as parts of 26 bits: the plain functions. poly: its arrays whole. poly: the contracts of plus, carried. poly: the contracts of wrapped, times. poly: the contracts of least, told. poly: the contract of read. poly: a Poly in memory; the contract of next. poly: the table of bits that are kept; the contract of Clamp. poly: a Poly of a key and a text; the contract of New. poly: what a Poly's cells become; the contract of Add. poly: the contract of Add. poly: the contract of a Poly's Tag. PolyTells over the contracts' record. Numbers as digits: a sum by place, a carry by place. For PolyOne. The example of the law's awake. poly: the contracts of Tag and Check; awake; the record of layer 5. -/
import Derived.Test.YtfflpooiebeagaaDoorM5
import Derived.Outline
import Derived.Test.YtfflpooiebeagaaDoorM2
import Derived.Deep.MidRow
import Derived.Deep.RegionHeld3
import Derived.Laws.BitsAllLaws
import Derived.Deep.RegionLaw
import Derived.Deep.DeepCutAuto
namespace Go.Proofs.YtfflpooiebeagaaDoor
open Go.RowKit

/-- The number of parts of 26 bits, the lowest one first. -/
def numP : List Nat → Nat
  | [] => 0
  | d :: l => d + 67108864 * numP l
theorem numP_append (l m : List Nat) : numP (l ++ m) = numP l + 67108864 ^ l.length * numP m := by
  induction l with
  | nil => simp [numP]
  | cons d l ih => rw [List.cons_append, numP, numP, ih, List.length_cons, Nat.pow_succ, Nat.mul_add, Nat.add_assoc, ← Nat.mul_assoc, Nat.mul_comm (67108864 ^ l.length) 67108864]
theorem numP_snoc (l : List Nat) (d : Nat) : numP (l ++ [d]) = numP l + 67108864 ^ l.length * d := by rw [numP_append]; simp [numP]
theorem numP_lt (l : List Nat) (h : ∀ d ∈ l, d < 67108864) : numP l < 67108864 ^ l.length := by
  induction l with
  | nil => simp [numP]
  | cons d l ih =>
    have h1 := ih (fun x hx => h x (by simp [hx]))
    have h2 := h d (by simp)
    rw [numP, List.length_cons, Nat.pow_succ]; omega
theorem numP_set (l : List Nat) (k x : Nat) (h : k < l.length) : numP (l.set k (l.getD k 0 + x)) = numP l + 67108864 ^ k * x := by
  induction l generalizing k with
  | nil => simp at h
  | cons d l ih =>
    cases k with
    | zero => simp [numP]; omega
    | succ k =>
      have := ih k (by simpa using h)
      simp only [List.set_cons_succ, List.getD_cons_succ, numP, this, Nat.pow_succ, Nat.mul_add]
      rw [← Nat.mul_assoc, Nat.mul_comm (67108864 ^ k) 67108864]; omega
theorem numP_take_succ (l : List Nat) (k : Nat) (h : k < l.length) : numP (l.take (k + 1)) = numP (l.take k) + 67108864 ^ k * l.getD k 0 := by
  rw [List.take_succ_eq_append_getElem h, numP_snoc, List.length_take, Nat.min_eq_left (by omega), List.getD_eq_getElem?_getD, List.getElem?_eq_getElem h]; rfl
theorem numP_drop (l : List Nat) (k : Nat) (h : k < l.length) : numP (l.drop k) = l.getD k 0 + 67108864 * numP (l.drop (k + 1)) := by
  rw [List.drop_eq_getElem_cons h, numP, List.getD_eq_getElem?_getD, List.getElem?_eq_getElem h]; rfl
theorem numP_zeros (n : Nat) : numP (List.replicate n 0) = 0 := by
  induction n with
  | zero => rfl
  | succ n ih => rw [List.replicate_succ, numP, ih]
theorem numP_inj (l m : List Nat) (hl : ∀ x ∈ l, x < 67108864) (hm : ∀ x ∈ m, x < 67108864) (he : l.length = m.length) (h : numP l = numP m) : l = m := by
  induction l generalizing m with
  | nil => cases m with
    | nil => rfl
    | cons => simp at he
  | cons b l ih => cases m with
    | nil => simp at he
    | cons c m =>
      rw [numP, numP] at h
      have hb := hl b (by simp)
      have hc := hm c (by simp)
      have h1 : b = c := by omega
      rw [h1, ih m (fun x hx => hl x (by simp [hx])) (fun x hx => hm x (by simp [hx])) (by simpa using he) (by omega)]
theorem MB5 : (67108864 : Nat) ^ 5 = TB := by decide

/-- A list by place. -/
theorem getD_sets (l : List Nat) (k x j : Nat) (h : k < l.length) : (l.set k x).getD j 0 = if j = k then x else l.getD j 0 := by
  rw [List.getD_eq_getElem?_getD, List.getElem?_set]
  by_cases hj : k = j
  · subst hj; simp [h]
  · rw [if_neg hj, if_neg (Ne.symm hj), ← List.getD_eq_getElem?_getD]
theorem all_of_getD (l : List Nat) (B : Nat) (h : ∀ j, j < l.length → l.getD j 0 < B) : ∀ x ∈ l, x < B := by
  intro x hx
  obtain ⟨j, hj, rfl⟩ := List.getElem_of_mem hx
  have := h j hj
  rwa [List.getD_eq_getElem?_getD, List.getElem?_eq_getElem hj] at this
theorem getD_of_all (l : List Nat) (B : Nat) (h : ∀ x ∈ l, x < B) (j : Nat) (hj : j < l.length) : l.getD j 0 < B := by
  rw [List.getD_eq_getElem?_getD, List.getElem?_eq_getElem hj]; exact h _ (List.getElem_mem hj)
theorem eq_of_getD (l m : List Nat) (hl : l.length = m.length) (h : ∀ j, j < l.length → l.getD j 0 = m.getD j 0) : l = m := by
  apply List.ext_getElem hl
  intro i h1 h2
  have := h i h1
  rwa [List.getD_eq_getElem?_getD, List.getElem?_eq_getElem h1, List.getD_eq_getElem?_getD, List.getElem?_eq_getElem h2] at this
theorem take_set_succ (l : List Nat) (k x : Nat) (h : k < l.length) : (l.set k x).take (k + 1) = l.take k ++ [x] := by
  rw [List.take_succ_eq_append_getElem (by simpa using h), List.take_set_of_le (by omega)]; simp
theorem numP_le_getD (l : List Nat) : l.getD 0 0 ≤ numP l := by
  cases l with
  | nil => simp
  | cons d l => rw [numP]; simp
/-- Five parts, by name. -/
theorem five (l : List Nat) (h : l.length = 5) : ∃ a b c d e, l = [a, b, c, d, e] := by
  match l, h with
  | [a, b, c, d, e], _ => exact ⟨a, b, c, d, e, rfl⟩

/-- One step of the carrying. -/
theorem carry_step (o M A q r rest : Nat) (h : A = r + 67108864 * q) : o + M * r + M * 67108864 * (q + rest) = o + M * (A + 67108864 * rest) := by
  subst h
  rw [Nat.mul_assoc, Nat.add_assoc, ← Nat.mul_add, Nat.mul_add 67108864]
  congr 2; omega

/-- What is known behind k rounds of the carrying. -/
structure Car (x out : List Nat) (C k : Nat) : Prop where
  len : out.length = 5
  hi : ∀ j, k ≤ j → out.getD j 0 = x.getD j 0
  lo : ∀ j, j < k → out.getD j 0 < 67108864
  c : C < 274877906944
  num : numP (out.take k) + 67108864 ^ k * (C + numP (x.drop k)) = numP x
theorem Car.start (x : List Nat) (h : x.length = 5) : Car x x 0 0 := ⟨h, fun _ _ => rfl, fun _ h => absurd h (by omega), by omega, by simp [numP]⟩
theorem Car.step {x out : List Nat} {C k : Nat} (hx : x.length = 5) (hb : ∀ z ∈ x, z < 9223372036854775808) (h : Car x out C k) (hk : k < 5) :
    Car x ((out.set k (out.getD k 0 + C)).set k ((out.getD k 0 + C) % 67108864)) ((out.getD k 0 + C) / 67108864) (k + 1) ∧ out.getD k 0 < 9223372036854775808 := by
  have hbk : out.getD k 0 < 9223372036854775808 := by rw [h.hi k (Nat.le_refl _)]; exact getD_of_all x _ hb k (by omega)
  have hc := h.c
  refine ⟨⟨by simp [h.len], ?_, ?_, by omega, ?_⟩, hbk⟩
  · intro j hj
    rw [List.set_set, getD_sets _ _ _ _ (by rw [h.len]; omega), if_neg (by omega), h.hi j (by omega)]
  · intro j hj
    rw [List.set_set, getD_sets _ _ _ _ (by rw [h.len]; omega)]
    by_cases e : j = k
    · rw [if_pos e]; omega
    · rw [if_neg e]; exact h.lo j (by omega)
  · rw [List.set_set, take_set_succ _ _ _ (by rw [h.len]; omega), numP_snoc, List.length_take, h.len, Nat.min_eq_left (by omega), Nat.pow_succ,
      carry_step _ _ (out.getD k 0 + C) _ _ _ (by omega), ← h.num, numP_drop x k (by omega), h.hi k (Nat.le_refl _)]
    congr 2; omega
theorem Car.fin {x out : List Nat} {C : Nat} (hx : x.length = 5) (h : Car x out C 5) : (∀ z ∈ out, z < 67108864) ∧ numP out + TB * C = numP x := by
  refine ⟨all_of_getD _ _ fun j hj => h.lo j (by rw [h.len] at hj; exact hj), ?_⟩
  have := h.num
  rw [List.take_of_length_le (by rw [h.len]; omega), List.drop_eq_nil_of_le (by omega), MB5] at this
  simpa [numP] using this

/-- What goes beyond 130 bits comes round five times. -/
theorem round_mod {x y n : List Nat} {C : Nat} (hy : y.length = 5) (h : numP y + TB * C = numP x) (hn : n = y.set 0 (y.getD 0 0 + 5 * C)) : numP n % PP = numP x % PP ∧ numP n = numP y + 5 * C := by
  have e : numP n = numP y + 5 * C := by rw [hn, numP_set _ _ _ (by omega)]; simp
  exact ⟨by rw [e, ← h, fold_mod], e⟩
/-- What is known behind m rounds. -/
def Wra (x X : List Nat) : Nat → Prop
  | 0 => X = x
  | 1 => X.length = 5 ∧ numP X % PP = numP x % PP ∧ numP X < TB + 1374389534720 ∧ X.getD 0 0 < 1374456643584 ∧ ∀ j, 0 < j → j < 5 → X.getD j 0 < 67108864
  | 2 => X.length = 5 ∧ numP X % PP = numP x % PP ∧ numP X < TB ∧ X.getD 0 0 < 67108869 ∧ ∀ j, 0 < j → j < 5 → X.getD j 0 < 67108864
  | _ => X.length = 5 ∧ numP X % PP = numP x % PP ∧ ∀ z ∈ X, z < 67108864
theorem Wra.bound {x X : List Nat} {m : Nat} (hx : x.length = 5) (hb : ∀ z ∈ x, z < 9223372036854775808) (h : Wra x X m) : X.length = 5 ∧ ∀ z ∈ X, z < 9223372036854775808 := by
  match m, h with
  | 0, h => exact h ▸ ⟨hx, hb⟩
  | 1, ⟨h1, _, _, h2, h3⟩ | 2, ⟨h1, _, _, h2, h3⟩ =>
    refine ⟨h1, all_of_getD _ _ fun j hj => ?_⟩
    by_cases e : j = 0
    · rw [e]; omega
    · have := h3 j (by omega) (by omega); omega
  | m + 3, ⟨h1, _, h2⟩ => exact ⟨h1, fun z hz => by have := h2 z hz; omega⟩
theorem Wra.next {x X y : List Nat} {m C : Nat} (_ : x.length = 5) (_ : ∀ z ∈ x, z < 9223372036854775808) (h : Wra x X m) (hm : m < 3) (hy : y.length = 5) (hl : ∀ z ∈ y, z < 67108864) (hC : C < 274877906944) (hn : numP y + TB * C = numP X) :
    Wra x (y.set 0 (y.getD 0 0 + 5 * C)) (m + 1) := by
  obtain ⟨e1, e2⟩ := round_mod hy hn rfl
  have hlt : numP y < TB := by have := numP_lt y hl; rwa [hy, MB5] at this
  have h0 : y.getD 0 0 < 67108864 := getD_of_all y _ hl 0 (by omega)
  have g0 : (y.set 0 (y.getD 0 0 + 5 * C)).getD 0 0 = y.getD 0 0 + 5 * C := by rw [getD_sets _ _ _ _ (by omega), if_pos rfl]
  have gj : ∀ j, 0 < j → j < 5 → (y.set 0 (y.getD 0 0 + 5 * C)).getD j 0 < 67108864 := fun j h1 h2 => by
    rw [getD_sets _ _ _ _ (by omega), if_neg (by omega)]; exact getD_of_all y _ hl j (by omega)
  have hlen : (y.set 0 (y.getD 0 0 + 5 * C)).length = 5 := by simp [hy]
  have hT : 1374389534800 < TB := by decide
  match m, h, hm with
  | 0, h, _ => subst h; exact ⟨hlen, e1, by rw [e2]; omega, by rw [g0]; omega, gj⟩
  | 1, ⟨_, hmod, hX, _, _⟩, _ =>
    have hc1 : C ≤ 1 := by
      rcases (show C ≤ 1 ∨ 2 ≤ C by omega) with h | h
      · exact h
      · have := Nat.mul_le_mul_left TB h; omega
    refine ⟨hlen, by rw [e1, hmod], ?_, by rw [g0]; omega, gj⟩
    rw [e2]
    rcases (show C = 0 ∨ C = 1 by omega) with h | h <;> subst h <;> omega
  | 2, ⟨_, hmod, hX, _, _⟩, _ =>
    have hc0 : C = 0 := by
      rcases (show C = 0 ∨ 1 ≤ C by omega) with h | h
      · exact h
      · have := Nat.mul_le_mul_left TB h; omega
    subst hc0
    refine ⟨hlen, by rw [e1, hmod], all_of_getD _ _ fun j hj => ?_⟩
    by_cases e : j = 0
    · rw [e, g0]; omega
    · exact gj j (by omega) (by omega)

/-- Products: what is known ahead of x's part i and y's part k. -/
structure Tim (x y z : List Nat) (i k : Nat) : Prop where
  len : z.length = 5
  lt : ∀ j, j < 5 → z.getD j 0 ≤ (5 * i + k) * 45035996273704960
  num : numP z % PP = (numP (x.take i) * numP y + 67108864 ^ i * x.getD i 0 * numP (y.take k)) % PP
theorem Tim.start (x y : List Nat) : Tim x y [0, 0, 0, 0, 0] 0 0 := ⟨rfl, fun j hj => by
  rcases (show j = 0 ∨ j = 1 ∨ j = 2 ∨ j = 3 ∨ j = 4 by omega) with h | h | h | h | h <;> subst h <;> simp, by simp [numP]⟩
theorem Tim.row {x y z : List Nat} {i : Nat} (hx : i < x.length) (hy : y.length = 5) (h : Tim x y z i 5) : Tim x y z (i + 1) 0 :=
  ⟨h.len, fun j hj => by have := h.lt j hj; omega, by
    rw [h.num, List.take_of_length_le (by omega : y.length ≤ 5), numP_take_succ x i hx, List.take_zero, numP, Nat.mul_zero, Nat.add_zero, Nat.add_mul]⟩
theorem tim_fold (n m a b i k : Nat) (h : n % PP = m % PP) (hik : 5 ≤ i + k) : (n + 67108864 ^ (i + k - 5) * (a * b * 5)) % PP = (m + 67108864 ^ i * a * (67108864 ^ k * b)) % PP := by
  obtain ⟨d, hd⟩ : ∃ d, i + k = d + 5 := ⟨i + k - 5, by omega⟩
  have e : 67108864 ^ i * a * (67108864 ^ k * b) = TB * (67108864 ^ d * (a * b)) := by
    rw [Nat.mul_assoc (67108864 ^ i), ← Nat.mul_assoc a, Nat.mul_comm a, Nat.mul_assoc (67108864 ^ k), ← Nat.mul_assoc, ← Nat.pow_add, hd, Nat.pow_add, MB5, Nat.mul_comm (67108864 ^ d), Nat.mul_assoc]
  rw [hd, Nat.add_sub_cancel, e, ← fold_mod m, Nat.add_mod, h, ← Nat.add_mod]
  congr 2
  rw [← Nat.mul_assoc, Nat.mul_comm _ 5]
theorem tim_flat (n m a b i k : Nat) (h : n % PP = m % PP) : (n + 67108864 ^ (i + k) * (a * b)) % PP = (m + 67108864 ^ i * a * (67108864 ^ k * b)) % PP := by
  have e : 67108864 ^ i * a * (67108864 ^ k * b) = 67108864 ^ (i + k) * (a * b) := by
    rw [Nat.mul_assoc (67108864 ^ i), ← Nat.mul_assoc a, Nat.mul_comm a, Nat.mul_assoc (67108864 ^ k), ← Nat.mul_assoc, ← Nat.pow_add]
  rw [e, Nat.add_mod, h, ← Nat.add_mod]
theorem prod_lt {a b : Nat} (ha : a ≤ 134217727) (hb : b < 67108864) : a * b ≤ 9007199254740992 := by
  have h1 := Nat.mul_le_mul ha (show b ≤ 67108863 by omega)
  exact Nat.le_trans h1 (by decide)
theorem Tim.step {x y z : List Nat} {i k : Nat} (hy : y.length = 5) (hi : i < 5) (hk : k < 5) (hxb : x.getD i 0 ≤ 134217727) (hyb : y.getD k 0 < 67108864) (h : Tim x y z i k) (P : Nat)
    (hP : P = if 5 ≤ i + k then x.getD i 0 * y.getD k 0 * 5 else x.getD i 0 * y.getD k 0) :
    Tim x y (z.set ((i + k) % 5) (z.getD ((i + k) % 5) 0 + P)) i (k + 1) ∧ z.getD ((i + k) % 5) 0 ≤ 1125899906842624000 ∧ P ≤ 45035996273704960 := by
  have hp := prod_lt hxb hyb
  have hPb : P ≤ 45035996273704960 := by rw [hP]; split <;> omega
  have hz := h.lt ((i + k) % 5) (Nat.mod_lt _ (by decide))
  have hb : (5 * i + k) * 45035996273704960 ≤ 24 * 45035996273704960 := Nat.mul_le_mul_right _ (by omega)
  refine ⟨⟨by simp [h.len], fun j hj => ?_, ?_⟩, by omega, hPb⟩
  · rw [getD_sets _ _ _ _ (by rw [h.len]; exact Nat.mod_lt _ (by decide))]
    have h1 := h.lt j hj
    have e : (5 * i + (k + 1)) * 45035996273704960 = (5 * i + k) * 45035996273704960 + 45035996273704960 := by rw [← Nat.add_assoc, Nat.add_mul]
    rw [e]
    clear e hb
    generalize (5 * i + k) * 45035996273704960 = B at *
    split
    · rename_i hj2
      subst hj2
      exact Nat.add_le_add hz hPb
    · exact Nat.le_add_right_of_le h1
  · have hsum := numP_set z ((i + k) % 5) P (by rw [h.len]; exact Nat.mod_lt _ (by decide))
    rw [hsum, numP_take_succ y k (by omega), Nat.mul_add, ← Nat.add_assoc]
    clear hsum
    by_cases hik : 5 ≤ i + k
    · rw [hP, if_pos hik, show (i + k) % 5 = i + k - 5 by omega]
      exact tim_fold _ _ _ _ _ _ h.num hik
    · rw [hP, if_neg hik, show (i + k) % 5 = i + k by omega]
      exact tim_flat _ _ _ _ _ _ h.num
theorem Tim.fin {x y z : List Nat} (hx : x.length = 5) (h : Tim x y z 5 0) : (∀ v ∈ z, v < 9223372036854775808) ∧ numP z % PP = numP x * numP y % PP := by
  refine ⟨all_of_getD _ _ fun j hj => by have := h.lt j (by rw [h.len] at hj; exact hj); omega, ?_⟩
  rw [h.num, List.take_of_length_le (by omega), List.take_zero, numP, Nat.mul_zero, Nat.add_zero]

/-- Sums part by part: what is known behind k of them. -/
def sumP (x y : List Nat) : List Nat := List.zipWith (· + ·) x y
theorem sumP_num (x y : List Nat) (h : x.length = y.length) : numP (sumP x y) = numP x + numP y := by
  induction x generalizing y with
  | nil => cases y with
    | nil => rfl
    | cons => simp at h
  | cons a x ih => cases y with
    | nil => simp at h
    | cons b y =>
      have := ih y (by simpa using h)
      rw [sumP] at this ⊢
      rw [List.zipWith_cons_cons, numP, numP, numP, this]; omega
theorem sumP_len (x y : List Nat) (h : x.length = y.length) : (sumP x y).length = x.length := by simp [sumP, h]
theorem sumP_get (x y : List Nat) (k : Nat) (h1 : k < x.length) (h2 : k < y.length) : (sumP x y).getD k 0 = x.getD k 0 + y.getD k 0 := by
  simp only [sumP, List.getD_eq_getElem?_getD, List.getElem?_zipWith, List.getElem?_eq_getElem h1, List.getElem?_eq_getElem h2]; rfl

/-- A number's parts. -/
def partsP (n m : Nat) : List Nat := (List.range m).map fun i => n / 67108864 ^ i % 67108864
theorem partsP_len (n m : Nat) : (partsP n m).length = m := by simp [partsP]
theorem partsP_lt (n m : Nat) : ∀ x ∈ partsP n m, x < 67108864 := by
  intro x hx
  rw [partsP, List.mem_map] at hx
  obtain ⟨i, _, rfl⟩ := hx
  exact Nat.mod_lt _ (by decide)
theorem partsP_get (n m i : Nat) (h : i < m) : (partsP n m).getD i 0 = n / 67108864 ^ i % 67108864 := by
  rw [partsP, List.getD_eq_getElem?_getD, List.getElem?_map, List.getElem?_range h]; rfl
theorem partsP_num (n m : Nat) : numP (partsP n m) = n % 67108864 ^ m := by
  induction m with
  | zero => simp [partsP, numP, Nat.mod_one]
  | succ m ih =>
    have e : partsP n (m + 1) = partsP n m ++ [n / 67108864 ^ m % 67108864] := by simp [partsP, List.range_succ]
    rw [e, numP_snoc, ih, partsP_len, Nat.pow_succ, Nat.mod_mul]
theorem partsP_of (n : Nat) (h : n < TB) : numP (partsP n 5) = n := by rw [partsP_num, MB5, Nat.mod_eq_of_lt h]
end Go.Proofs.YtfflpooiebeagaaDoor
namespace Go.Proofs.YtfflpooiebeagaaDoor
open Go.RowKit

theorem info_n5 : (Tryd.prog.info? 96).map (·.size) = some 5 := by kernel_rfl
theorem wpList_load_n5 {ops : Array Oper} {rest : List Oper} {o : Oper} {a : Act} {w : World} {Q : Exit → Act → World → Prop} (hgd : o.guard = none) (x : Operand) (ho : o.op = .load 96 x)
    (g : Nat) (hx : a.eval x = .pointer (some ⟨g, 0, none⟩)) (cs : Array Value) (hs : cs.size = 5) (hg : Arr w g cs 96)
    (h : wpList Tryd.prog ops Q rest (a.put o.dst (.agg cs)) w) : wpList Tryd.prog ops Q (o :: rest) a w :=
  wpList_load_row hgd 96 x ho g hx 96 cs (0, 0) _ hg Tryd.underlying96 rfl (by rw [hs]; exact info_n5) h
theorem wpList_store_n5 {ops : Array Oper} {rest : List Oper} {o : Oper} {a : Act} {w : World} {Q : Exit → Act → World → Prop} (hgd : o.guard = none) (x y : Operand) (ho : o.op = .store 96 x y)
    (g : Nat) (hx : a.eval x = .pointer (some ⟨g, 0, none⟩)) (cs : Array Value) (hy : a.eval y = .agg cs) (hs : cs.size = 5) (h1 : cs.all (·.oneCell') = true) (old : Array Value) (hz : old.size = 5) (hg : Arr w g old 96)
    (h : wpList Tryd.prog ops Q rest (a.put o.dst undef) (w.setRow g cs)) : wpList Tryd.prog ops Q (o :: rest) a w :=
  wpList_store_row hgd 96 x y ho g cs hx hy 96 old hg (by rw [hs]; exact info_n5) (by omega) h1 h
/-- A new array variable gets its value. -/
theorem wpList_store_n5_new {ops : Array Oper} {rest : List Oper} {o : Oper} {a : Act} {w : World} {Q : Exit → Act → World → Prop} (hgd : o.guard = none) (x y : Operand) (ho : o.op = .store 96 x y)
    (old : Array Value) (hz : old.size = 5) (g : Nat) (hx : a.eval x = .pointer (some ⟨g, 0, none⟩)) (hgs : g = w.heap.size) (cs : Array Value) (hy : a.eval y = .agg cs) (hs : cs.size = 5) (h1 : cs.all (·.oneCell') = true)
    (h : wpList Tryd.prog ops Q rest (a.put o.dst undef) (w.alloc (.cells cs 96))) : wpList Tryd.prog ops Q (o :: rest) a (w.alloc (.cells old 96)) :=
  wpList_store_n5 hgd x y ho w.heap.size (by rw [← hgs]; exact hx) cs hy hs h1 old hz (Arr.new w old _) (by rw [World.setRow_alloc_new]; exact h)
theorem ret_n5 {fn : Func} {p : Tmp} {R : Ending → World → Prop} {a : Act} {w : World} (h : fn.results = #[.cell p 96]) (g : Nat) (cs : Array Value) (hs : cs.size = 5) (hp : a.tmps.getD p undef = .pointer (some ⟨g, 0, none⟩))
    (hg : Arr w g cs 96) (hd : a.defers = []) (hR : R (.returned (.agg cs)) w) : bodyPost Tryd.prog fn R .ret a w :=
  bodyPost_ret (results_cell_row h a.tmps w g 96 cs (0, 0) _ hp hg Tryd.underlying96 rfl (by rw [hs]; exact info_n5)) hd hR

theorem results_n5_tmp {fn : Func} {p u : Tmp} (h : fn.results = #[.cell p 96, .tmp u]) (tmps : Array Value) (w : World) (g : Nat) (cs : Array Value) (hs : cs.size = 5)
    (hp : tmps.getD p undef = .pointer (some ⟨g, 0, none⟩)) (hg : Arr w g cs 96) :
    (results fn tmps).run Tryd.prog w = .ok (.tuple #[.agg cs, tmps.getD u undef]) w := by
  rw [results_cell_tmp h, hp]
  simp only [asAddr, Sem.run_pure, Result.andThen_ok, run_loadVar_row w g 96 96 cs (0, 0) _ hg Tryd.underlying96 rfl (by rw [hs]; exact info_n5)]
theorem ret_n5_tmp {fn : Func} {p u : Tmp} {R : Ending → World → Prop} {a : Act} {w : World} (h : fn.results = #[.cell p 96, .tmp u]) (g : Nat) (cs : Array Value) (hs : cs.size = 5) (hp : a.tmps.getD p undef = .pointer (some ⟨g, 0, none⟩))
    (hg : Arr w g cs 96) (hd : a.defers = []) (v : Value) (hv : a.tmps.getD u undef = v) (hR : R (.returned (.tuple #[.agg cs, v])) w) : bodyPost Tryd.prog fn R .ret a w := by
  subst hv
  exact bodyPost_ret (results_n5_tmp h a.tmps w g cs hs hp hg) hd hR

theorem info_b16 : (Tryd.prog.info? 98).map (·.size) = some 16 := by kernel_rfl
theorem wpList_load_b16 {ops : Array Oper} {rest : List Oper} {o : Oper} {a : Act} {w : World} {Q : Exit → Act → World → Prop} (hgd : o.guard = none) (x : Operand) (ho : o.op = .load 98 x)
    (g : Nat) (hx : a.eval x = .pointer (some ⟨g, 0, none⟩)) (cs : Array Value) (hs : cs.size = 16) (hg : Arr w g cs 98)
    (h : wpList Tryd.prog ops Q rest (a.put o.dst (.agg cs)) w) : wpList Tryd.prog ops Q (o :: rest) a w :=
  wpList_load_row hgd 98 x ho g hx 98 cs (0, 0) _ hg Tryd.underlying98 rfl (by rw [hs]; exact info_b16) h
theorem wpList_store_b16 {ops : Array Oper} {rest : List Oper} {o : Oper} {a : Act} {w : World} {Q : Exit → Act → World → Prop} (hgd : o.guard = none) (x y : Operand) (ho : o.op = .store 98 x y)
    (g : Nat) (hx : a.eval x = .pointer (some ⟨g, 0, none⟩)) (cs : Array Value) (hy : a.eval y = .agg cs) (hs : cs.size = 16) (h1 : cs.all (·.oneCell') = true) (old : Array Value) (hz : old.size = 16) (hg : Arr w g old 98)
    (h : wpList Tryd.prog ops Q rest (a.put o.dst undef) (w.setRow g cs)) : wpList Tryd.prog ops Q (o :: rest) a w :=
  wpList_store_row hgd 98 x y ho g cs hx hy 98 old hg (by rw [hs]; exact info_b16) (by omega) h1 h
/-- A new array variable gets its value. -/
theorem wpList_store_b16_new {ops : Array Oper} {rest : List Oper} {o : Oper} {a : Act} {w : World} {Q : Exit → Act → World → Prop} (hgd : o.guard = none) (x y : Operand) (ho : o.op = .store 98 x y)
    (old : Array Value) (hz : old.size = 16) (g : Nat) (hx : a.eval x = .pointer (some ⟨g, 0, none⟩)) (hgs : g = w.heap.size) (cs : Array Value) (hy : a.eval y = .agg cs) (hs : cs.size = 16) (h1 : cs.all (·.oneCell') = true)
    (h : wpList Tryd.prog ops Q rest (a.put o.dst undef) (w.alloc (.cells cs 98))) : wpList Tryd.prog ops Q (o :: rest) a (w.alloc (.cells old 98)) :=
  wpList_store_b16 hgd x y ho w.heap.size (by rw [← hgs]; exact hx) cs hy hs h1 old hz (Arr.new w old _) (by rw [World.setRow_alloc_new]; exact h)
theorem ret_b16 {fn : Func} {p : Tmp} {R : Ending → World → Prop} {a : Act} {w : World} (h : fn.results = #[.cell p 98]) (g : Nat) (cs : Array Value) (hs : cs.size = 16) (hp : a.tmps.getD p undef = .pointer (some ⟨g, 0, none⟩))
    (hg : Arr w g cs 98) (hd : a.defers = []) (hR : R (.returned (.agg cs)) w) : bodyPost Tryd.prog fn R .ret a w :=
  bodyPost_ret (results_cell_row h a.tmps w g 98 cs (0, 0) _ hp hg Tryd.underlying98 rfl (by rw [hs]; exact info_b16)) hd hR

def u64s (l : List Nat) : List Value := l.map fun (n : Nat) => .int .u64 (n : Int)
theorem u64s_len (l : List Nat) : (u64s l).length = l.length := by simp [u64s]
theorem u64s_get (l : List Nat) (i : Nat) (h : i < l.length) : (u64s l)[i]? = some (.int .u64 ((l[i] : Nat) : Int)) := by simp [u64s, h]
def row5 (x : List Nat) : Array Value := (u64s x).toArray
theorem row5_size {x : List Nat} (h : x.length = 5) : (row5 x).size = 5 := by simp [row5, u64s_len, h]
theorem row5_one (x : List Nat) : (row5 x).all (·.oneCell') = true := by simp [row5, u64s, Value.oneCell']
theorem row5_get {x : List Nat} {k : Nat} (h : k < x.length) : (row5 x)[k]? = some (.int .u64 ((x.getD k 0 : Nat) : Int)) := by
  rw [row5, List.getElem?_toArray, u64s_get x k h, List.getD_eq_getElem?_getD, List.getElem?_eq_getElem h]; rfl
theorem row5_set (x : List Nat) (k n : Nat) : (row5 x).setIfInBounds k (.int .u64 (n : Int)) = row5 (x.set k n) := by
  rw [row5, row5, List.setIfInBounds_toArray]; simp [u64s, List.map_set]
set_option maxRecDepth 100000 in
theorem index_n5 (y : List Nat) (hy : y.length = 5) (k : Nat) (h : k < 5) (w : World) : (Instr.index 96 (.agg (row5 y)) (.int .i64 (k : Int))).run Tryd.prog w = .ok (.int .u64 ((y.getD k 0 : Nat) : Int)) w := by
  obtain ⟨a, b, c, d, e, rfl⟩ := five y hy
  match k, h with
  | 0, _ => rfl
  | 1, _ => rfl
  | 2, _ => rfl
  | 3, _ => rfl
  | 4, _ => rfl
theorem Arr.at5 {w : World} {g : Nat} {x : List Nat} (h : Arr w g (row5 x) 96) (k : Nat) (hk : k < x.length) : w.cell? ⟨g, k, none⟩ = some (.int .u64 ((x.getD k 0 : Nat) : Int)) := h.cell (row5_get hk)
theorem Arr.set5 {w : World} {g : Nat} {x : List Nat} (h : Arr w g (row5 x) 96) (k n : Nat) : Arr (w.setCell ⟨g, k, none⟩ (.int .u64 (n : Int))) g (row5 (x.set k n)) 96 := by
  rw [← row5_set]; exact h.set k _
theorem u64_sum {a b : Nat} (h : a + b < 18446744073709551616) : ((a : Int) + (b : Int)) % 18446744073709551616 = ((a + b : Nat) : Int) := by omega
theorem and26 (n : Nat) (h : n < 18446744073709551616) : bits .and .u64 (n : Int) 67108863 = ((n % 67108864 : Nat) : Int) := by
  have := bits_and_u64_nat n 67108863 h (by decide)
  rw [show ((67108863 : Nat) : Int) = 67108863 from rfl] at this
  rw [this, show (67108863 : Nat) = 2 ^ 26 - 1 from rfl, Nat.and_two_pow_sub_one_eq_mod]
end Go.Proofs.YtfflpooiebeagaaDoor
namespace Go.Proofs.YtfflpooiebeagaaDoor
open Go.RowKit

/-- What is known behind k sums. -/
structure Plu (x y out : List Nat) (k : Nat) : Prop where
  len : out.length = 5
  hi : ∀ j, k ≤ j → out.getD j 0 = x.getD j 0
  lo : ∀ j, j < k → out.getD j 0 = x.getD j 0 + y.getD j 0
theorem Plu.start (x y : List Nat) (h : x.length = 5) : Plu x y x 0 := ⟨h, fun _ _ => rfl, fun _ h => absurd h (by omega)⟩
theorem Plu.step {x y out : List Nat} {k : Nat} (h : Plu x y out k) (hk : k < 5) : Plu x y (out.set k (out.getD k 0 + y.getD k 0)) (k + 1) := by
  refine ⟨by simp [h.len], ?_, ?_⟩
  · intro j hj
    rw [getD_sets _ _ _ _ (by rw [h.len]; omega), if_neg (by omega), h.hi j (by omega)]
  · intro j hj
    rw [getD_sets _ _ _ _ (by rw [h.len]; omega)]
    by_cases e : j = k
    · rw [if_pos e, h.hi k (Nat.le_refl _), e]
    · rw [if_neg e]; exact h.lo j (by omega)
theorem Plu.fin {x y out : List Nat} (hx : x.length = 5) (hy : y.length = 5) (h : Plu x y out 5) : out = sumP x y := by
  refine eq_of_getD _ _ (by rw [h.len, sumP_len _ _ (by omega), hx]) fun j hj => ?_
  rw [h.len] at hj
  rw [h.lo j hj, sumP_get _ _ _ (by omega) (by omega)]

abbrev zero5 : Array Value := #[.int .u64 0, .int .u64 0, .int .u64 0, .int .u64 0, .int .u64 0]
theorem zero5_row : zero5 = row5 [0, 0, 0, 0, 0] := rfl

set_option maxHeartbeats 1000000 in
set_option maxRecDepth 100000 in
theorem plus5_any (x y : List Nat) (hx : x.length = 5) (hy : y.length = 5) (bx : ∀ z ∈ x, z < 9223372036854775808) (bY : ∀ z ∈ y, z < 9223372036854775808) (w : World) :
    Calls Tryd.prog 52 #[.agg (row5 x), .agg (row5 y)] w fun e w' => e = .returned (.agg (row5 (sumP x y))) ∧ Below w.heap.size w w' := by
  have HX := Lib.hid (fun k hk => getD_of_all x _ bx k hk)
  have HY := Lib.hid (fun k hk => getD_of_all y _ bY k hk)
  have HS := Lib.hid (Plu.start x y hx)
  have HF := Lib.hid (fun out h => Plu.fin (out := out) hx hy h)
  have HL := Lib.hid hx
  have HL2 := Lib.hid hy
  clear hx hy bx bY
  have HA0 := Lib.hid (((Arr.new w (row5 x) 96).alloc (.cells (row5 y) 96)).alloc (.cells zero5 96))
  have HB0 := Lib.hid ((Arr.newAt (w.alloc (.cells (row5 x) 96)) (g := w.heap.size + 1) (row5 y) 96 (by simp)).alloc (.cells zero5 96))
  have HZ0 := Lib.hid (Arr.newAt ((w.alloc (.cells (row5 x) 96)).alloc (.cells (row5 y) 96)) (g := w.heap.size + 1 + 1) zero5 96 (by simp))
  have HBe := Lib.hid ((((Below.refl w.heap.size w).alloc (Nat.le_refl _) (.cells (row5 x) 96)).alloc (by simp) (.cells (row5 y) 96)).alloc (by simp; omega) (.cells zero5 96))
  go_enter Tryd.func52, Tryd.ntmps52
  go_wp2
  generalize ((w.alloc (.cells (row5 x) 96)).alloc (.cells (row5 y) 96)).alloc (.cells zero5 96) = w1 at *
  go_loopw [6] (fun i wr => ∃ (k : Nat) (out : List Nat), k ≤ 5 ∧ i = .int .i64 (k : Int) ∧ Plu x y out k ∧ Arr wr w.heap.size (row5 out) 96 ∧ Arr wr (w.heap.size + 1) (row5 y) 96 ∧ Arr wr (w.heap.size + 1 + 1) zero5 96 ∧ Below w.heap.size w wr) (fun i _ => 5 - (intOf i).toNat)
  case atStart => exact ⟨0, x, by omega, rfl, HS.out, HA0.out, HB0.out, HZ0.out, HBe.out⟩
  case round =>
    clear HS HA0 HB0 HZ0 HBe
    obtain ⟨k, out, hk, rfl, hp, ha, hb, hz, hbel⟩ := hrel
    have HZ := Lib.hid hz
    have HBel := Lib.hid hbel
    have HA := Lib.hid ha
    have HB := Lib.hid hb
    by_cases hlt : k < 5
    · have c1 := ha.at5 k (by rw [hp.len]; omega)
      have c2 := hb.at5 k (by rw [HL2.out]; omega)
      have f1 := ha.frozen k
      have b1 := HX.out k (by rw [HL.out]; omega)
      have b2 := HY.out k (by rw [HL2.out]; omega)
      rw [← hp.hi k (Nat.le_refl _)] at b1
      have HP := Lib.hid (hp.step hlt)
      clear hbel ha hb hz hp
      generalize out.getD k 0 = X at *
      generalize y.getD k 0 = Y at *
      have e1 := u64_sum (a := X) (b := Y) (by omega)
      have k0 : (0 : Int) ≤ (k : Int) := by omega
      have k5 : (k : Int) < 5 := by omega
      clear b1 b2
      go_wp2
      go_region
      all_goals
        go_wp2
        have hs := HA.out.set5 k (X + Y)
        rw [Int.natCast_add] at hs
        exact ⟨⟨k + 1, _, by omega, by go_num, HP.out, hs, HB.out.other _ _ (by show w.heap.size + 1 ≠ w.heap.size; omega), HZ.out.other _ _ (by show w.heap.size + 1 + 1 ≠ w.heap.size; omega), (HBel.out.setCell (p := ⟨w.heap.size, k, none⟩) (Nat.le_refl _) _).drew⟩, by simp [intOf]; omega⟩
    · obtain rfl : k = 5 := by omega
      rw [HF.out out hp] at ha
      have HA2 := Lib.hid ha
      have hl5 : (row5 (sumP x y)).size = 5 := row5_size (by rw [sumP_len _ _ (by rw [HL.out, HL2.out]), HL.out])
      clear hp hbel hb hz ha HA HB
      go_wp2_with (first
        | (with_reducible refine wpList_load_n5 rfl _ rfl w.heap.size rfl _ hl5 HA2.out ?_)
        | (with_reducible refine wpList_store_n5 rfl _ _ rfl (w.heap.size + 1 + 1) rfl _ rfl hl5 (row5_one _) _ rfl HZ.out ?_))
      exact ret_n5 Tryd.results52 (w.heap.size + 1 + 1) _ hl5 rfl (HZ.out.row _) rfl ⟨rfl, below_setRow HBel.out (by omega) _⟩
set_option maxHeartbeats 1000000 in
set_option maxRecDepth 100000 in
theorem carried5_any (x : List Nat) (hx : x.length = 5) (bx : ∀ z ∈ x, z < 9223372036854775808) (w : World) :
    Calls Tryd.prog 51 #[.agg (row5 x)] w fun e w' => (∃ y C, e = .returned (.tuple #[.agg (row5 y), .int .u64 ((C : Nat) : Int)]) ∧ y.length = 5 ∧ (∀ z ∈ y, z < 67108864) ∧ C < 274877906944 ∧ numP y + TB * C = numP x) ∧ Below w.heap.size w w' := by
  have HS := Lib.hid (Car.start x hx)
  have HX := Lib.hid hx
  have HBx := Lib.hid bx
  clear hx bx
  have HA0 := Lib.hid ((Arr.new w (row5 x) 96).alloc (.cells zero5 96))
  have HZ0 := Lib.hid (Arr.newAt (w.alloc (.cells (row5 x) 96)) (g := w.heap.size + 1) zero5 96 (by simp))
  have HBe := Lib.hid (((Below.refl w.heap.size w).alloc (Nat.le_refl _) (.cells (row5 x) 96)).alloc (by simp) (.cells zero5 96))
  go_enter Tryd.func51, Tryd.ntmps51
  go_wp2
  generalize (w.alloc (.cells (row5 x) 96)).alloc (.cells zero5 96) = w1 at *
  go_loopw [4, 6] (fun c i wr => ∃ (k C : Nat) (out : List Nat), k ≤ 5 ∧ c = .int .u64 (C : Int) ∧ i = .int .i64 (k : Int) ∧ Car x out C k ∧ Arr wr w.heap.size (row5 out) 96 ∧ Arr wr (w.heap.size + 1) zero5 96 ∧ Below w.heap.size w wr) (fun _ i _ => 5 - (intOf i).toNat)
  case atStart => exact ⟨0, 0, x, by omega, rfl, rfl, HS.out, HA0.out, HZ0.out, HBe.out⟩
  case round =>
    clear HS HA0 HZ0 HBe
    obtain ⟨k, C, out, hk, rfl, rfl, hp, ha, hz, hbel⟩ := hrel
    have HZ := Lib.hid hz
    have HBel := Lib.hid hbel
    have HA := Lib.hid ha
    by_cases hlt : k < 5
    · have c1 := ha.at5 k (by rw [hp.len]; omega)
      have f1 := ha.frozen k
      obtain ⟨hst, b1⟩ := hp.step HX.out HBx.out hlt
      have hC := hp.c
      have HP := Lib.hid hst
      clear hbel ha hz hp hst
      generalize out.getD k 0 = X at *
      have e1 := Lib.hid (show IntKind.u64.wrap ((X : Int) + (C : Int)) = ((X + C : Nat) : Int) by rw [IntKind.wrap_u64]; exact u64_sum (by omega))
      have e2 := and26 (X + C) (by omega)
      have e3 : ((X + C : Nat) : Int) / 67108864 = (((X + C) / 67108864 : Nat) : Int) := by omega
      have hY : X + C < 18446744073709551616 := by omega
      generalize X + C = Y at *
      have k0 : (0 : Int) ≤ (k : Int) := by omega
      have k5 : (k : Int) < 5 := by omega
      clear b1 hC hY
      go_wp2
      rw [e1.out, e2, e3]
      exact ⟨⟨k + 1, _, _, by omega, rfl, by go_num, HP.out, (HA.out.set5 k Y).set5 k (Y % 67108864), (HZ.out.other _ _ (by show w.heap.size + 1 ≠ w.heap.size; omega)).other _ _ (by show w.heap.size + 1 ≠ w.heap.size; omega), (HBel.out.setCell (p := ⟨w.heap.size, k, none⟩) (Nat.le_refl _) _).setCell (p := ⟨w.heap.size, k, none⟩) (Nat.le_refl _) _⟩, by simp [intOf]; omega⟩
    · obtain rfl : k = 5 := by omega
      have hl5 := row5_size hp.len
      have HR : Hid (∃ y D, Ending.returned (.tuple #[.agg (row5 out), .int .u64 (C : Int)]) = .returned (.tuple #[.agg (row5 y), .int .u64 ((D : Nat) : Int)]) ∧ y.length = 5 ∧ (∀ z ∈ y, z < 67108864) ∧ D < 274877906944 ∧ numP y + TB * D = numP x) :=
        ⟨out, C, rfl, hp.len, (hp.fin HX.out).1, hp.c, (hp.fin HX.out).2⟩
      clear hp hbel hz ha
      go_wp2_with (first
        | (with_reducible refine wpList_load_n5 rfl _ rfl w.heap.size rfl _ hl5 HA.out ?_)
        | (with_reducible refine wpList_store_n5 rfl _ _ rfl (w.heap.size + 1) rfl _ rfl hl5 (row5_one _) _ rfl HZ.out ?_))
      exact ret_n5_tmp Tryd.results51 (w.heap.size + 1) _ hl5 rfl (HZ.out.row _) rfl (.int .u64 (C : Int)) rfl ⟨HR.out, below_setRow HBel.out (by omega) _⟩
end Go.Proofs.YtfflpooiebeagaaDoor
namespace Go.Proofs.YtfflpooiebeagaaDoor
open Go.RowKit

theorem wrap_set (y : List Nat) (hy : y.length = 5) (Y C : Nat) : ∃ R, (row5 y).setIfInBounds 0 (.int .u64 ((Y : Int) + 5 * (C : Int))) = R ∧ R = row5 (y.set 0 (Y + 5 * C)) ∧ R.size = 5 ∧ R.all (·.oneCell') = true := by
  have e : (Y : Int) + 5 * (C : Int) = ((Y + 5 * C : Nat) : Int) := by omega
  exact ⟨_, by rw [e, row5_set], rfl, row5_size (by simp [hy]), row5_one _⟩

set_option maxHeartbeats 1000000 in
set_option maxRecDepth 100000 in
theorem wrapped5_any (x : List Nat) (hx : x.length = 5) (bx : ∀ z ∈ x, z < 9223372036854775808) (w : World) :
    Calls Tryd.prog 73 #[.agg (row5 x)] w fun e w' => (∃ y, e = .returned (.agg (row5 y)) ∧ y.length = 5 ∧ (∀ z ∈ y, z < 67108864) ∧ numP y % PP = numP x % PP) ∧ Below w.heap.size w w' := by
  have HS := Lib.hid (show Wra x x 0 from rfl)
  have HBd := Lib.hid (fun X m (h : Wra x X m) => h.bound hx bx)
  have HN := Lib.hid (fun X y m C (h : Wra x X m) => h.next (y := y) (C := C) hx bx)
  clear hx bx
  have HA0 := Lib.hid ((Arr.new w (row5 x) 96).alloc (.cells zero5 96))
  have HZ0 := Lib.hid (Arr.newAt (w.alloc (.cells (row5 x) 96)) (g := w.heap.size + 1) zero5 96 (by simp))
  have HBe := Lib.hid (((Below.refl w.heap.size w).alloc (Nat.le_refl _) (.cells (row5 x) 96)).alloc (by simp) (.cells zero5 96))
  go_enter Tryd.func73, Tryd.ntmps73
  go_wp2
  generalize (w.alloc (.cells (row5 x) 96)).alloc (.cells zero5 96) = w1 at *
  go_loopw [5] (fun i wr => ∃ (m : Nat) (X : List Nat), m ≤ 3 ∧ i = .int .i64 (m : Int) ∧ Wra x X m ∧ Arr wr w.heap.size (row5 X) 96 ∧ Arr wr (w.heap.size + 1) zero5 96 ∧ Below w.heap.size w wr) (fun i _ => 3 - (intOf i).toNat)
  case atStart => exact ⟨0, x, by omega, rfl, HS.out, HA0.out, HZ0.out, HBe.out⟩
  case round =>
    clear HS HA0 HZ0 HBe
    obtain ⟨m, X, hm, rfl, hp, ha, hz, hbel⟩ := hrel
    have HZ := Lib.hid hz
    have HBel := Lib.hid hbel
    have HA := Lib.hid ha
    have HP := Lib.hid hp
    obtain ⟨hXl, hXb⟩ := HBd.out X m hp
    have HC := Lib.hid (fun w => carried5_any X hXl hXb w)
    have hX5 := row5_size hXl
    clear hp ha hz hbel hXb hXl
    by_cases hlt : m < 3
    · have hlti : (m : Int) < 3 := by omega
      go_wp2_with (first
        | (with_reducible refine wpList_load_n5 rfl _ rfl w.heap.size rfl _ hX5 HA.out ?_)
        | (go_at_call 51; (with_reducible refine (HC.out _).mono ?_); rintro e w2 ⟨⟨y, C, rfl, hyl, hyb, hC, hnum⟩, hb2⟩; have HY := Lib.hid (HN.out X y m C HP.out hlt hyl hyb hC hnum); have hy5 := row5_size hyl; have hy1 := row5_one y; have hnew := Arr.new w2 (row5 y) 96; have c0 := hnew.at5 0 (by rw [hyl]; decide); have f0 := hnew.frozen 0; have b0 := getD_of_all y _ hyb 0 (by rw [hyl]; decide); have HNw := Lib.hid hnew; clear hnew hyb hnum; generalize hy0 : y.getD 0 0 = Y at *; obtain ⟨R, hR, hRe, hR5, hR1⟩ := wrap_set y hyl Y C; have HRe := Lib.hid hR; have HRr := Lib.hid hRe; have HN2 := Lib.hid (Arr.new w2 R 96); have HA2 := Lib.hid ((HA.out.next hb2).alloc (.cells R 96)); clear hR hRe)
        | (with_reducible refine wpList_store_n5_new rfl _ _ rfl zero5 rfl _ rfl rfl _ rfl hy5 hy1 ?_)
        | (rw [HRe.out]; with_reducible refine wpList_load_n5 rfl _ rfl w2.heap.size rfl _ hR5 HN2.out ?_)
        | (with_reducible refine wpList_store_n5 rfl _ _ rfl w.heap.size rfl _ rfl hR5 hR1 _ hX5 HA2.out ?_))
      have HRw := (HA2.out.row R)
      have HZ2 := ((HZ.out.next hb2).alloc (.cells R 96)).rowOther R (show w.heap.size + 1 ≠ w.heap.size by omega) 
      have HB2 := below_setRow ((HBel.out.trans (hb2.mono HBel.out.size)).alloc (HBel.out.trans (hb2.mono HBel.out.size)).size (.cells R 96)) (Nat.le_refl _) R
      rw [HRr.out] at HRw HZ2 HB2 ⊢
      exact ⟨⟨m + 1, _, by omega, by go_num, HY.out, HRw, HZ2, HB2⟩, by simp [intOf]; omega⟩
    · obtain rfl : m = 3 := by omega
      go_wp2_with (first
        | (with_reducible refine wpList_load_n5 rfl _ rfl w.heap.size rfl _ hX5 HA.out ?_)
        | (with_reducible refine wpList_store_n5 rfl _ _ rfl (w.heap.size + 1) rfl _ rfl hX5 (row5_one _) _ rfl HZ.out ?_))
      obtain ⟨h1, h2, h3⟩ := HP.out
      exact ret_n5 Tryd.results73 (w.heap.size + 1) _ hX5 rfl (HZ.out.row _) rfl ⟨⟨X, rfl, h1, h3, h2⟩, below_setRow HBel.out (by omega) _⟩
set_option maxHeartbeats 1000000 in
set_option maxRecDepth 100000 in
theorem times5_any (x y : List Nat) (hx : x.length = 5) (hy : y.length = 5) (bx : ∀ z ∈ x, z ≤ 134217727) (bY : ∀ z ∈ y, z < 67108864) (w : World) :
    Calls Tryd.prog 65 #[.agg (row5 x), .agg (row5 y)] w fun e w' => (∃ z, e = .returned (.agg (row5 z)) ∧ z.length = 5 ∧ (∀ v ∈ z, v < 67108864) ∧ numP z % PP = numP x * numP y % PP) ∧ Below w.heap.size w w' := by
  have HX := Lib.hid (fun k hk => getD_of_all x _ (fun z hz => Nat.lt_succ_of_le (bx z hz)) k hk)
  have HY := Lib.hid (fun k hk => getD_of_all y _ bY k hk)
  have HS := Lib.hid (Tim.start x y)
  have HL := Lib.hid hx
  have HL2 := Lib.hid hy
  clear hx hy bx bY
  have HA0 := Lib.hid ((((Arr.new w (row5 x) 96).alloc (.cells (row5 y) 96)).alloc (.cells zero5 96)).alloc (.cells zero5 96))
  have HB0 := Lib.hid (((Arr.newAt (w.alloc (.cells (row5 x) 96)) (g := w.heap.size + 1) (row5 y) 96 (by simp)).alloc (.cells zero5 96)).alloc (.cells zero5 96))
  have HR0 := Lib.hid ((Arr.newAt ((w.alloc (.cells (row5 x) 96)).alloc (.cells (row5 y) 96)) (g := w.heap.size + 1 + 1) zero5 96 (by simp)).alloc (.cells zero5 96))
  have HZ0 := Lib.hid (Arr.newAt (((w.alloc (.cells (row5 x) 96)).alloc (.cells (row5 y) 96)).alloc (.cells zero5 96)) (g := w.heap.size + 1 + 1 + 1) zero5 96 (by simp))
  have HBe := Lib.hid (((((Below.refl w.heap.size w).alloc (Nat.le_refl _) (.cells (row5 x) 96)).alloc (by simp) (.cells (row5 y) 96)).alloc (by simp; omega) (.cells zero5 96)).alloc (by simp; omega) (.cells zero5 96))
  go_enter Tryd.func65, Tryd.ntmps65
  go_wp2
  generalize (((w.alloc (.cells (row5 x) 96)).alloc (.cells (row5 y) 96)).alloc (.cells zero5 96)).alloc (.cells zero5 96) = w1 at *
  go_loopw [9] (fun i wr => ∃ (k : Nat) (z : List Nat), k ≤ 5 ∧ i = .int .i64 (k : Int) ∧ Tim x y z k 0 ∧ Arr wr w.heap.size (row5 x) 96 ∧ Arr wr (w.heap.size + 1) (row5 y) 96 ∧ Arr wr (w.heap.size + 1 + 1) zero5 96 ∧ Arr wr (w.heap.size + 1 + 1 + 1) (row5 z) 96 ∧ Below w.heap.size w wr) (fun i _ => 5 - (intOf i).toNat)
  case atStart => exact ⟨0, [0, 0, 0, 0, 0], by omega, rfl, HS.out, HA0.out, HB0.out, HR0.out, HZ0.out, HBe.out⟩
  case round =>
    clear HS HA0 HB0 HR0 HZ0 HBe
    obtain ⟨i, z, hi, rfl, hp, ha, hb, hr, hz, hbel⟩ := hrel
    have HP := Lib.hid hp
    have HA := Lib.hid ha
    have HB := Lib.hid hb
    have HR := Lib.hid hr
    have HZ := Lib.hid hz
    have HBel := Lib.hid hbel
    clear hp ha hb hr hz hbel
    by_cases hlt : i < 5
    · have hlti : (i : Int) < 5 := by omega
      obtain ⟨wo, rfl⟩ : ∃ wo : World, wo = wr := ⟨_, rfl⟩
      go_wp2
      go_loopw [12] (fun j wr => ∃ (k : Nat) (z : List Nat), k ≤ 5 ∧ j = .int .i64 (k : Int) ∧ Tim x y z i k ∧ Arr wr w.heap.size (row5 x) 96 ∧ Arr wr (w.heap.size + 1) (row5 y) 96 ∧ Arr wr (w.heap.size + 1 + 1) zero5 96 ∧ Arr wr (w.heap.size + 1 + 1 + 1) (row5 z) 96 ∧ Below w.heap.size w wr) (fun j _ => 5 - (intOf j).toNat)
      case atStart => exact ⟨0, z, by omega, rfl, HP.out, HA.out, HB.out, HR.out, HZ.out, HBel.out⟩
      case round =>
        clear HP HA HB HR HZ HBel
        obtain ⟨k, z, hk, rfl, hp, ha, hb, hr, hz, hbel⟩ := hrel
        have HP := Lib.hid hp
        have HA := Lib.hid ha
        have HB := Lib.hid hb
        have HR := Lib.hid hr
        have HZ := Lib.hid hz
        have HBel := Lib.hid hbel
        by_cases hk5 : k < 5
        · have hki : (k : Int) < 5 := by omega
          have c1 := ha.at5 i (by rw [HL.out]; omega)
          have c2 := hb.at5 k (by rw [HL2.out]; omega)
          have c3 := hz.at5 ((i + k) % 5) (by rw [hp.len]; omega)
          have f3 := hz.frozen ((i + k) % 5)
          have b1 := HX.out i (by rw [HL.out]; omega)
          have b2 := HY.out k (by rw [HL2.out]; omega)
          by_cases hik : 5 ≤ i + k
          · obtain ⟨hst, b3, b4⟩ := hp.step HL2.out hlt hk5 (by omega) b2 _ rfl
            rw [if_pos hik] at hst b4
            clear hp ha hb hr hz hbel
            have HSt := Lib.hid hst
            generalize x.getD i 0 = X at *
            generalize y.getD k 0 = Y at *
            have hiki : (5 : Int) ≤ (i : Int) + (k : Int) := by omega
            have k0 : (0 : Int) ≤ (k : Int) := by omega
            have i0 : (0 : Int) ≤ (i : Int) := by omega
            obtain ⟨J, hJ⟩ : ∃ J, J = (i + k) % 5 := ⟨_, rfl⟩
            have hj5 : J < 5 := by rw [hJ]; exact Nat.mod_lt _ (by decide)
            have ej : ((i : Int) + (k : Int)) % 5 = (J : Int) := by omega
            rw [← hJ] at c3 f3 b3 HSt
            obtain ⟨P, hP⟩ : ∃ P, P = X * Y := ⟨_, rfl⟩
            rw [← hP] at HSt b4
            have ep : (X : Int) * (Y : Int) = (P : Int) := by rw [hP]; simp
            have hP1 : (P : Int) ≤ 9007199254740992 := by omega
            clear hst hJ b1 b2 hP
            generalize z.getD J 0 = Z at *
            have j0 : (0 : Int) ≤ (J : Int) := by omega
            have j5 : (J : Int) < 5 := by omega
            go_wp2
            go_region
            all_goals
              go_wp2
              have hs := HZ.out.set5 J (Z + P * 5)
              rw [Int.natCast_add, Int.natCast_mul] at hs
              rw [show ((5 : Nat) : Int) = 5 from rfl] at hs
              exact ⟨⟨k + 1, _, by omega, by go_num, HSt.out, HA.out.other _ _ (by show w.heap.size ≠ w.heap.size + 1 + 1 + 1; omega), HB.out.other _ _ (by show w.heap.size + 1 ≠ w.heap.size + 1 + 1 + 1; omega), HR.out.other _ _ (by show w.heap.size + 1 + 1 ≠ w.heap.size + 1 + 1 + 1; omega), hs, (HBel.out.setCell (p := ⟨w.heap.size + 1 + 1 + 1, J, none⟩) (by show w.heap.size ≤ w.heap.size + 1 + 1 + 1; omega) _).drew⟩, by simp [intOf]; omega⟩
          · obtain ⟨hst, b3, b4⟩ := hp.step HL2.out hlt hk5 (by omega) b2 _ rfl
            rw [if_neg hik] at hst b4
            clear hp ha hb hr hz hbel
            have HSt := Lib.hid hst
            generalize x.getD i 0 = X at *
            generalize y.getD k 0 = Y at *
            have hiki : ¬ (5 : Int) ≤ (i : Int) + (k : Int) := by omega
            have k0 : (0 : Int) ≤ (k : Int) := by omega
            have i0 : (0 : Int) ≤ (i : Int) := by omega
            obtain ⟨J, hJ⟩ : ∃ J, J = (i + k) % 5 := ⟨_, rfl⟩
            have hj5 : J < 5 := by rw [hJ]; exact Nat.mod_lt _ (by decide)
            have ej : ((i : Int) + (k : Int)) % 5 = (J : Int) := by omega
            rw [← hJ] at c3 f3 b3 HSt
            obtain ⟨P, hP⟩ : ∃ P, P = X * Y := ⟨_, rfl⟩
            rw [← hP] at HSt b4
            have ep : (X : Int) * (Y : Int) = (P : Int) := by rw [hP]; simp
            have hP1 : (P : Int) ≤ 45035996273704960 := by omega
            clear hst hJ b1 b2 hP
            generalize z.getD J 0 = Z at *
            have j0 : (0 : Int) ≤ (J : Int) := by omega
            have j5 : (J : Int) < 5 := by omega
            go_wp2
            go_region
            all_goals
              go_wp2
              have hs := HZ.out.set5 J (Z + P)
              rw [Int.natCast_add] at hs
              exact ⟨⟨k + 1, _, by omega, by go_num, HSt.out, HA.out.other _ _ (by show w.heap.size ≠ w.heap.size + 1 + 1 + 1; omega), HB.out.other _ _ (by show w.heap.size + 1 ≠ w.heap.size + 1 + 1 + 1; omega), HR.out.other _ _ (by show w.heap.size + 1 + 1 ≠ w.heap.size + 1 + 1 + 1; omega), hs, (HBel.out.setCell (p := ⟨w.heap.size + 1 + 1 + 1, J, none⟩) (by show w.heap.size ≤ w.heap.size + 1 + 1 + 1; omega) _).drew⟩, by simp [intOf]; omega⟩
        · obtain rfl : k = 5 := by omega
          have HRow := Lib.hid (hp.row (by rw [HL.out]; omega) HL2.out)
          clear hp ha hb hr hz hbel
          go_wp2
          exact ⟨⟨i + 1, _, by omega, by go_num, HRow.out, HA.out, HB.out, HR.out, HZ.out, HBel.out⟩, by simp [intOf]; omega⟩
    · obtain rfl : i = 5 := by omega
      obtain ⟨hzb, hzn⟩ := HP.out.fin HL.out
      have hz5 := row5_size HP.out.len
      have HW := Lib.hid (wrapped5_any z HP.out.len hzb)
      have HZn := Lib.hid hzn
      clear hzb hzn
      go_wp2_with (first
        | (with_reducible refine wpList_load_n5 rfl _ rfl (w.heap.size + 1 + 1 + 1) rfl _ hz5 HZ.out ?_)
        | (go_at_call 73; (with_reducible refine (HW.out _).mono ?_); rintro e w2 ⟨⟨v, rfl, hvl, hvb, hvn⟩, hb2⟩; have hv5 := row5_size hvl; have HR2 := Lib.hid (HR.out.next hb2))
        | (with_reducible refine wpList_store_n5 rfl _ _ rfl (w.heap.size + 1 + 1) rfl _ rfl hv5 (row5_one _) _ rfl HR2.out ?_))
      exact ret_n5 Tryd.results65 (w.heap.size + 1 + 1) _ hv5 rfl (HR2.out.row _) rfl ⟨⟨v, rfl, hvl, hvb, hvn.trans HZn.out⟩, below_setRow (HBel.out.trans (hb2.mono HBel.out.size)) (by omega) _⟩
end Go.Proofs.YtfflpooiebeagaaDoor
namespace Go.Proofs.YtfflpooiebeagaaDoor
open Go.RowKit

theorem least_fin (n y0 C y1 D : Nat) (hn : n < TB) (h0 : y0 < TB) (e0 : y0 + TB * C = n + 5) (h1 : y1 < TB) (e1 : y1 + TB * D = n + 5 * C) : y1 = n % PP := by
  rw [last_mod n hn]
  have hT : 5 < TB := by decide
  rcases (show C = 0 ∨ C = 1 ∨ 2 ≤ C by omega) with h | h | h
  · subst h
    rw [if_pos (Nat.div_eq_of_lt (by omega))]
    rcases (show D = 0 ∨ 1 ≤ D by omega) with h | h
    · subst h; omega
    · have := Nat.mul_le_mul_left TB h; omega
  · subst h
    rw [if_neg (by rw [show n + 5 = y0 + TB by omega, Nat.add_div_right _ (by omega)]; exact Nat.succ_ne_zero _), show n + 5 = y0 + TB by omega, Nat.add_mod_right, Nat.mod_eq_of_lt h0]
    rcases (show D = 0 ∨ D = 1 ∨ 2 ≤ D by omega) with h | h | h
    · subst h; omega
    · subst h; omega
    · have := Nat.mul_le_mul_left TB h; omega
  · have := Nat.mul_le_mul_left TB h; omega

theorem sum_bound {x y : List Nat} {A B : Nat} (hx : x.length = 5) (hy : y.length = 5) (ha : ∀ z ∈ x, z < A) (hb : ∀ z ∈ y, z < B) : ∀ z ∈ sumP x y, z < A + B := by
  refine all_of_getD _ _ fun j hj => ?_
  rw [sumP_len _ _ (by omega)] at hj
  rw [sumP_get _ _ _ hj (by omega)]
  have := getD_of_all x _ ha j hj
  have := getD_of_all y _ hb j (by omega)
  omega
theorem lt5 (a B : Nat) (h : a < B) : ∀ z ∈ [a, 0, 0, 0, 0], z < B := by
  intro z hz
  simp only [List.mem_cons, List.not_mem_nil, or_false] at hz
  omega

set_option maxHeartbeats 1000000 in
set_option maxRecDepth 100000 in
theorem least5_any (x : List Nat) (hx : x.length = 5) (bx : ∀ z ∈ x, z < 67108864) (w : World) :
    Calls Tryd.prog 53 #[.agg (row5 x)] w fun e w' => (∃ y, e = .returned (.agg (row5 y)) ∧ y.length = 5 ∧ (∀ z ∈ y, z < 67108864) ∧ numP y = numP x % PP) ∧ Below w.heap.size w w' := by
  have hn : numP x < TB := by have := numP_lt x bx; rwa [hx, MB5] at this
  have s1 : ∀ w, Calls Tryd.prog 52 #[.agg (row5 x), .agg #[.int .u64 5, .int .u64 0, .int .u64 0, .int .u64 0, .int .u64 0]] w fun e w' => e = .returned (.agg (row5 (sumP x [5, 0, 0, 0, 0]))) ∧ Below w.heap.size w w' := fun w => plus5_any x [5, 0, 0, 0, 0] hx rfl (fun z hz => Nat.lt_trans (bx z hz) (by decide)) (lt5 5 _ (by decide)) w
  have e1 : numP (sumP x [5, 0, 0, 0, 0]) = numP x + 5 := by rw [sumP_num _ _ hx]; simp [numP]
  have c1 := fun w => carried5_any (sumP x [5, 0, 0, 0, 0]) (by rw [sumP_len _ _ hx, hx]) (fun z hz => Nat.lt_trans (sum_bound hx rfl bx (lt5 5 6 (by decide)) z hz) (by decide)) w
  rw [e1] at c1
  have s2 : ∀ C : Nat, C < 274877906944 → ∀ w, Calls Tryd.prog 52 #[.agg (row5 x), .agg #[.int .u64 (5 * (C : Int)), .int .u64 0, .int .u64 0, .int .u64 0, .int .u64 0]] w fun e w' => e = .returned (.agg (row5 (sumP x [5 * C, 0, 0, 0, 0]))) ∧ Below w.heap.size w w' := by
    intro C hC w
    have := plus5_any x [5 * C, 0, 0, 0, 0] hx rfl (fun z hz => Nat.lt_trans (bx z hz) (by decide)) (lt5 (5 * C) _ (by omega)) w
    rw [show row5 [5 * C, 0, 0, 0, 0] = #[.int .u64 (5 * (C : Int)), .int .u64 0, .int .u64 0, .int .u64 0, .int .u64 0] by simp [row5, u64s]] at this
    exact this
  have c2 : ∀ C : Nat, C < 274877906944 → ∀ w, Calls Tryd.prog 51 #[.agg (row5 (sumP x [5 * C, 0, 0, 0, 0]))] w fun e w' => (∃ y D, e = .returned (.tuple #[.agg (row5 y), .int .u64 ((D : Nat) : Int)]) ∧ y.length = 5 ∧ (∀ z ∈ y, z < 67108864) ∧ D < 274877906944 ∧ numP y + TB * D = numP x + 5 * C) ∧ Below w.heap.size w w' := by
    intro C hC w
    have := carried5_any (sumP x [5 * C, 0, 0, 0, 0]) (by rw [sumP_len _ _ hx, hx]) (fun z hz => Nat.lt_trans (sum_bound hx rfl bx (lt5 (5 * C) (5 * 274877906944) (by omega)) z hz) (by decide)) w
    rw [show numP (sumP x [5 * C, 0, 0, 0, 0]) = numP x + 5 * C by rw [sumP_num _ _ hx]; simp [numP]] at this
    exact this
  have HS1 := Lib.hid s1
  have HC1 := Lib.hid c1
  have HS2 := Lib.hid s2
  have HC2 := Lib.hid c2
  have hx5 := row5_size hx
  have HN := Lib.hid hn
  have HA := Lib.hid ((Arr.new w (row5 x) 96).alloc (.cells zero5 96))
  have HZ := Lib.hid (Arr.newAt (w.alloc (.cells (row5 x) 96)) (g := w.heap.size + 1) zero5 96 (by simp))
  have HB := Lib.hid (((Below.refl w.heap.size w).alloc (Nat.le_refl _) (.cells (row5 x) 96)).alloc (by simp) (.cells zero5 96))
  clear hx bx s1 e1 c1 s2 c2 hn
  go_enter Tryd.func53, Tryd.ntmps53
  go_wp2_with (first
    | (with_reducible refine wpList_load_n5 rfl _ rfl w.heap.size rfl _ hx5 HA.out ?_)
    | (go_at_call 52; (with_reducible refine (HS1.out _).mono ?_); rintro e w2 ⟨rfl, hb2⟩)
    | (go_at_call 51; (with_reducible refine (HC1.out _).mono ?_); rintro e w3 ⟨⟨y, C, rfl, hyl, hyb, hC, hnum⟩, hb3⟩; have hb23 := Below_next hb2 hb3; have hy5 := row5_size hyl; have hy1 := row5_one y; have HA2 := Lib.hid ((HA.out.next hb23).alloc (.cells (row5 y) 96)); have HYb := Lib.hid hyb; have HNum := Lib.hid hnum; have HS3 := Lib.hid (HS2.out C hC); have HC3 := Lib.hid (HC2.out C hC); clear hyb hnum)
    | (with_reducible refine wpList_store_n5_new rfl _ _ rfl zero5 rfl _ rfl rfl _ rfl hy5 hy1 ?_)
    | (with_reducible refine wpList_load_n5 rfl _ rfl w.heap.size rfl _ hx5 HA2.out ?_)
    | (go_at_call 52; (with_reducible refine (HS3.out _).mono ?_); rintro e w4 ⟨rfl, hb4⟩)
    | (go_at_call 51; (with_reducible refine (HC3.out _).mono ?_); rintro e w5 ⟨⟨v, D, rfl, hvl, hvb, hD, hvn⟩, hb5⟩; have hb45 := Below_next hb4 hb5; have hv5 := row5_size hvl; have hv1 := row5_one v; have HV := Lib.hid (Arr.new w5 (row5 v) 96); have HZ5 := Lib.hid ((((HZ.out.next hb23).alloc (.cells (row5 y) 96)).next hb45).alloc (.cells (row5 v) 96)); have HVb := Lib.hid hvb; have HVn := Lib.hid hvn; clear hvb hvn)
    | (with_reducible refine wpList_store_n5_new rfl _ _ rfl zero5 rfl _ rfl rfl _ rfl hv5 hv1 ?_)
    | (with_reducible refine wpList_load_n5 rfl _ rfl w5.heap.size rfl _ hv5 HV.out ?_)
    | (with_reducible refine wpList_store_n5 rfl _ _ rfl (w.heap.size + 1) rfl _ rfl hv5 hv1 _ rfl HZ5.out ?_))
  refine ret_n5 Tryd.results53 (w.heap.size + 1) _ hv5 rfl (HZ5.out.row _) rfl ⟨⟨v, rfl, hvl, HVb.out, ?_⟩, below_setRow ?_ (by omega) _⟩
  · have h1 := numP_lt y HYb.out
    have h2 := numP_lt v HVb.out
    rw [hyl, MB5] at h1
    rw [hvl, MB5] at h2
    exact least_fin _ _ _ _ _ HN.out h1 HNum.out h2 HVn.out
  · have hB3 := (HB.out.trans (hb23.mono HB.out.size)).alloc (HB.out.trans (hb23.mono HB.out.size)).size (.cells (row5 y) 96)
    exact (hB3.trans (hb45.mono hB3.size)).alloc (hB3.trans (hb45.mono hB3.size)).size _

theorem or_sum (i a b : Nat) (M : Nat) (hM : M = 2 ^ i) (ha : a < M) (hb : M * b < 18446744073709551616) (hl : a < 18446744073709551616) : bits .or .u64 (a : Int) ((M * b : Nat) : Int) = ((a + M * b : Nat) : Int) := by
  subst hM
  rw [or64 _ _ hl hb, Nat.or_comm, ← Nat.two_pow_add_eq_or_of_lt ha, Nat.add_comm]
/-- The halves of a tag's number. -/
def halfL (a b c : Nat) : Nat := a + 67108864 * b + 4503599627370496 * (c % 4096)
def halfH (c d e : Nat) : Nat := c / 4096 + 16384 * d + 1099511627776 * (e % 16777216)
theorem half_low {a b c : Nat} (ha : a < 67108864) (hb : b < 67108864) : bits .or .u64 (bits .or .u64 (a : Int) ((b : Int) * 67108864)) (IntKind.u64.wrap ((c : Int) * 4503599627370496)) = ((halfL a b c : Nat) : Int) ∧ halfL a b c < 18446744073709551616 := by
  have e1 := or_sum 26 a b 67108864 (by decide) ha (by omega) (by omega)
  rw [show ((67108864 * b : Nat) : Int) = (b : Int) * 67108864 by omega] at e1
  have e2 := or_sum 52 (a + 67108864 * b) (c % 4096) 4503599627370496 (by decide) (by omega) (by omega) (by omega)
  have e3 : IntKind.u64.wrap ((c : Int) * 4503599627370496) = ((4503599627370496 * (c % 4096) : Nat) : Int) := by rw [IntKind.wrap_u64]; omega
  rw [e1, e3, e2]
  exact ⟨rfl, by unfold halfL; omega⟩
theorem half_high {c d e : Nat} (hc : c < 67108864) (hd : d < 67108864) : bits .or .u64 (bits .or .u64 ((c : Int) / 4096) ((d : Int) * 16384)) (IntKind.u64.wrap ((e : Int) * 1099511627776)) = ((halfH c d e : Nat) : Int) ∧ halfH c d e < 18446744073709551616 := by
  have e1 := or_sum 14 (c / 4096) d 16384 (by decide) (by omega) (by omega) (by omega)
  rw [show ((16384 * d : Nat) : Int) = (d : Int) * 16384 by omega, show ((c / 4096 : Nat) : Int) = (c : Int) / 4096 by omega] at e1
  have e2 := or_sum 40 (c / 4096 + 16384 * d) (e % 16777216) 1099511627776 (by decide) (by omega) (by omega) (by omega)
  have e3 : IntKind.u64.wrap ((e : Int) * 1099511627776) = ((1099511627776 * (e % 16777216) : Nat) : Int) := by rw [IntKind.wrap_u64]; omega
  rw [e1, e3, e2]
  exact ⟨rfl, by unfold halfH; omega⟩
theorem byteAt_add (N a k : Nat) : byteAt N (a + k) = byteAt (N / 256 ^ a) k := by
  rw [byteAt, byteAt, ← p256, ← p256, Nat.pow_add, Nat.div_div_eq_div_mul]
theorem lowL_add (N a b : Nat) : lowL N (a + b) = lowL N a ++ lowL (N / 256 ^ a) b := by
  induction b with
  | zero => simp [lowL]
  | succ b ih => rw [← Nat.add_assoc, lowL_succ, ih, lowL_succ, byteAt_add, List.append_assoc]
theorem told_num (a b c d e : Nat) (ha : a < 67108864) (hb : b < 67108864) (hc : c < 67108864) (hd : d < 67108864) : lowL (numP [a, b, c, d, e]) 16 = lowL (halfL a b c) 8 ++ lowL (halfH c d e) 8 := by
  have hn : numP [a, b, c, d, e] = halfL a b c + 256 ^ 8 * (halfH c d e + 256 ^ 8 * (e / 16777216)) := by
    simp only [numP, halfL, halfH]; omega
  have hl := (half_low (c := c) ha hb).2
  have hh := (half_high (e := e) hc hd).2
  generalize halfL a b c = L at *
  generalize halfH c d e = H at *
  generalize e / 16777216 = R at *
  rw [show (16 : Nat) = 8 + 8 from rfl, lowL_add, hn]
  congr 1
  · rw [← lowL_mod, Nat.add_mul_mod_self_left, lowL_mod]
  · rw [Nat.add_mul_div_left _ _ (Nat.pow_pos (by decide)), Nat.div_eq_of_lt (show L < 256 ^ 8 by exact hl), Nat.zero_add, ← lowL_mod, Nat.add_mul_mod_self_left, lowL_mod]

set_option maxHeartbeats 1000000 in
set_option maxRecDepth 100000 in
theorem told5_any (x : List Nat) (hx : x.length = 5) (bx : ∀ z ∈ x, z < 67108864) (w : World) :
    Calls Tryd.prog 54 #[.agg (row5 x)] w fun e w' => e = .returned (.string ⟨(lowL (numP x) 16).toArray⟩) ∧ Below w.heap.size w w' := by
  obtain ⟨a, b, c, d, e, rfl⟩ := five x hx
  have ba := bx a (by simp)
  have bb := bx b (by simp)
  have bc := bx c (by simp)
  have bd := bx d (by simp)
  have HA := Lib.hid (Arr.new w (row5 [a, b, c, d, e]) 96)
  have HB := Lib.hid ((Below.refl w.heap.size w).alloc (Nat.le_refl _) (.cells (row5 [a, b, c, d, e]) 96))
  have c0 := HA.out.at5 0 (by simp)
  have c1 := HA.out.at5 1 (by simp)
  have c2 := HA.out.at5 2 (by simp)
  have c3 := HA.out.at5 3 (by simp)
  have c4 := HA.out.at5 4 (by simp)
  simp only [List.getD_cons_zero, List.getD_cons_succ] at c0 c1 c2 c3 c4
  obtain ⟨l1, l2⟩ := half_low (c := c) ba bb
  obtain ⟨h1, h2⟩ := half_high (e := e) bc bd
  have HT := Lib.hid (told_num a b c d e ba bb bc bd)
  have HE1 := Lib.hid l1
  have HE2 := Lib.hid h1
  have HL1 := Lib.hid (fun w => low_any (halfL a b c) l2 8 w)
  have HL2 := Lib.hid (fun w => low_any (halfH c d e) h2 8 w)
  rw [show toldN 8 = 8 from rfl] at HL1 HL2
  have hcat : ∀ w : World, (Op.stringOp .add ⟨(lowL (halfL a b c) 8).toArray⟩ ⟨(lowL (halfH c d e) 8).toArray⟩).run Tryd.prog w = .ok (.string ⟨(lowL (numP [a, b, c, d, e]) 16).toArray⟩) w := fun w => by
    rw [HT.out]
    exact (cat_run _ _ (by show (lowL (halfL a b c) 8).toArray.size + (lowL (halfH c d e) 8).toArray.size ≤ _; simp only [List.size_toArray, lowL_len]; exact of_decide_eq_true rfl) w).trans (by congr 2)
  generalize (ByteArray.mk (lowL (numP [a, b, c, d, e]) 16).toArray) = T at *
  generalize halfL a b c = L at *
  generalize halfH c d e = H at *
  clear hx bx l1 l2 h1 h2 HT
  go_enter Tryd.func54, Tryd.ntmps54
  go_wp2_with (first
    | (rw [HE1.out, HE2.out]; (go_at_call 56; (with_reducible refine (HL1.out _).mono ?_); rintro e w1 ⟨rfl, hb1⟩))
    | (go_at_call 56; (with_reducible refine (HL2.out _).mono ?_); rintro e w2 ⟨rfl, hb2⟩))
  go_ret
  exact ⟨rfl, HB.out.trans ((Below_next hb1 hb2).mono HB.out.size)⟩
end Go.Proofs.YtfflpooiebeagaaDoor
namespace Go.Proofs.YtfflpooiebeagaaDoor
open Go.RowKit

theorem numLow_dropL (l : List UInt8) (k : Nat) : numLow (l.drop k) = numLow l / 256 ^ k := by
  by_cases h : k ≤ l.length
  · have e := numLow_append (l.take k) (l.drop k)
    have hl := numLow_lt (l.take k)
    rw [List.take_append_drop, List.length_take, Nat.min_eq_left h] at e
    rw [List.length_take, Nat.min_eq_left h] at hl
    rw [e, Nat.add_mul_div_left _ _ (Nat.pow_pos (by decide)), Nat.div_eq_of_lt hl, Nat.zero_add]
  · have hl := numLow_lt l
    have := p256_le (k := l.length) (m := k) (by omega)
    rw [List.drop_eq_nil_of_le (by omega), Nat.div_eq_of_lt (by omega)]; rfl
theorem numLow_takeL (l : List UInt8) (k : Nat) : numLow (l.take k) = numLow l % 256 ^ k := by
  by_cases h : k ≤ l.length
  · have e := numLow_append (l.take k) (l.drop k)
    have hl := numLow_lt (l.take k)
    rw [List.take_append_drop, List.length_take, Nat.min_eq_left h] at e
    rw [List.length_take, Nat.min_eq_left h] at hl
    rw [e, Nat.add_mul_mod_self_left, Nat.mod_eq_of_lt hl]
  · have hl := numLow_lt l
    have := p256_le (k := l.length) (m := k) (by omega)
    rw [List.take_of_length_le (by omega), Nat.mod_eq_of_lt (by omega)]
theorem numLow_zerosL (n : Nat) : numLow (List.replicate n 0) = 0 := by
  induction n with
  | zero => rfl
  | succ n ih => rw [List.replicate_succ, numLow, ih]; rfl
/-- Where a part lies. -/
theorem part_bits (m S : Nat) (h : S + 26 ≤ 32) : m % 4294967296 / 2 ^ S % 67108864 = m / 2 ^ S % 67108864 := by
  apply Nat.eq_of_testBit_eq
  intro i
  rw [show (67108864 : Nat) = 2 ^ 26 from rfl, show (4294967296 : Nat) = 2 ^ 32 from rfl, Nat.testBit_mod_two_pow, Nat.testBit_mod_two_pow, Nat.testBit_div_two_pow, Nat.testBit_div_two_pow, Nat.testBit_mod_two_pow]
  by_cases hi : i < 26
  · simp [hi, show i + S < 32 by omega]
  · simp [hi]
theorem part_at (l : List UInt8) (k A S : Nat) (h : 26 * k = 8 * A + S) (hS : S + 26 ≤ 32) : numLow ((l.drop A).take 4) / 2 ^ S % 67108864 = numLow l / 67108864 ^ k % 67108864 := by
  rw [numLow_takeL, numLow_dropL, show (256 : Nat) ^ 4 = 4294967296 from rfl, part_bits _ _ hS, Nat.div_div_eq_div_mul, p256, ← Nat.pow_add, ← h]
  congr 2
  rw [Nat.pow_mul]
/-- What is known behind k parts. -/
structure Rea (n : Nat) (out : List Nat) (k : Nat) : Prop where
  len : out.length = 5
  lo : ∀ j, j < k → out.getD j 0 = n / 67108864 ^ j % 67108864
theorem Rea.start (n : Nat) : Rea n [0, 0, 0, 0, 0] 0 := ⟨rfl, fun _ h => absurd h (by omega)⟩
theorem Rea.step {n k : Nat} {out : List Nat} (h : Rea n out k) (hk : k < 5) : Rea n (out.set k (n / 67108864 ^ k % 67108864)) (k + 1) := by
  refine ⟨by simp [h.len], fun j hj => ?_⟩
  rw [getD_sets _ _ _ _ (by rw [h.len]; omega)]
  by_cases e : j = k
  · rw [if_pos e, e]
  · rw [if_neg e]; exact h.lo j (by omega)
theorem Rea.fin {n : Nat} {out : List Nat} (h : Rea n out 5) : out = partsP n 5 := by
  refine eq_of_getD _ _ (by rw [h.len, partsP_len]) fun j hj => ?_
  rw [h.len] at hj
  rw [h.lo j hj, partsP_get _ _ _ hj]

set_option maxHeartbeats 1000000 in
set_option maxRecDepth 100000 in
theorem read5_any (s : ByteArray) (h1 : 1 ≤ s.size) (h2 : s.size ≤ 17) (w : World) :
    Calls Tryd.prog 49 #[.string s] w fun e w' => e = .returned (.agg (row5 (partsP (numLow s.data.toList) 5))) ∧ Below w.heap.size w w' := by
  have hfm : fillMore s.size 17 = 17 - s.size := by unfold fillMore; split <;> omega
  have HF := Lib.hid (fun w => fill_any s 17 (by omega) (by omega) w)
  have hfi : fillI s 17 = s ++ zeros (17 - s.size) := by rw [fillI, if_neg (by omega), show (17 : Int).toNat = 17 from rfl, hfm]
  have hF17 : (fillI s 17).size = 17 := by rw [hfi, ByteArray.size_append, zeros_size]; omega
  have hFn : numLow (fillI s 17).data.toList = numLow s.data.toList := by
    rw [hfi, show (s ++ zeros (17 - s.size)).data.toList = s.data.toList ++ (zeros (17 - s.size)).data.toList by simp, show (zeros (17 - s.size)).data.toList = List.replicate (17 - s.size) 0 by simp [zeros], numLow_append, numLow_zerosL]; simp
  generalize fillI s 17 = B at *
  generalize numLow s.data.toList = n at *
  clear hfm hfi
  have HS := Lib.hid (Rea.start n)
  have HR0 := Lib.hid (Arr.new w zero5 96)
  have HB0 := Lib.hid ((Below.refl w.heap.size w).alloc (Nat.le_refl _) (.cells zero5 96))
  have HFn := Lib.hid hFn
  clear hFn
  go_enter Tryd.func49, Tryd.ntmps49
  go_wp2_with (first
    | (go_at_call 55; (with_reducible refine (HF.out _).mono ?_); rintro e w1 ⟨rfl, hb1⟩))
  have HR1 := Lib.hid ((HR0.out.next hb1).alloc (.cells zero5 96))
  have HX1 := Lib.hid (Arr.new w1 zero5 96)
  have HB1 := Lib.hid ((HB0.out.trans (hb1.mono HB0.out.size)).alloc (HB0.out.trans (hb1.mono HB0.out.size)).size (.cells zero5 96))
  obtain ⟨gx, hgx⟩ : ∃ gx, gx = w1.heap.size := ⟨_, rfl⟩
  have hgl : w.heap.size < gx := by rw [hgx]; exact (HR0.out.next hb1).lt
  have HGl := Lib.hid hgl
  rw [← hgx] at HX1 ⊢
  generalize w1.alloc (.cells zero5 96) = w2 at *
  clear hb1 HR0 HB0 HF hgx hgl
  have HF17 := Lib.hid hF17
  clear hF17
  go_loopw [11] (fun i wr => ∃ (k : Nat) (out : List Nat), k ≤ 5 ∧ i = .int .i64 (k : Int) ∧ Rea n out k ∧ Arr wr gx (row5 out) 96 ∧ Arr wr w.heap.size zero5 96 ∧ Below w.heap.size w wr) (fun i _ => 5 - (intOf i).toNat)
  case atStart => exact ⟨0, [0, 0, 0, 0, 0], by omega, rfl, HS.out, HX1.out, HR1.out, HB1.out⟩
  case round =>
    clear HS HX1 HR1 HB1
    obtain ⟨k, out, hk, rfl, hp, hx, hr, hbel⟩ := hrel
    have HX := Lib.hid hx
    have HR := Lib.hid hr
    have HBel := Lib.hid hbel
    by_cases hlt : k < 5
    · have hlti : (k : Int) < 5 := by omega
      have k0 : (0 : Int) ≤ (k : Int) := by omega
      obtain ⟨A, hA⟩ : ∃ A, A = 26 * k / 8 := ⟨_, rfl⟩
      obtain ⟨S, hS⟩ : ∃ S, S = 26 * k % 8 := ⟨_, rfl⟩
      have hA13 : A ≤ 13 := by omega
      have eA : 26 * (k : Int) / 8 = (A : Int) := by omega
      have eS : 26 * (k : Int) % 8 = (S : Int) := by omega
      have hpt := part_at B.data.toList k A S (by omega) (by
        rcases (show k = 0 ∨ k = 1 ∨ k = 2 ∨ k = 3 ∨ k = 4 by omega) with h | h | h | h | h <;> subst h <;> omega)
      have hS7 : (S : Int) ≤ 7 := by omega
      have hsl := slice_str B (A : Int) ((A : Int) + 4) A (A + 4) rfl (by omega) (by omega) (by have := HF17.out; omega)
      have hXs : (B.extract A (A + 4)).size = 4 := by rw [ext_size _ _ _ (by have := HF17.out; omega)]; omega
      have hXl := ext_toList B A (A + 4)
      rw [show A + 4 - A = 4 by omega] at hXl
      generalize B.extract A (A + 4) = X at *
      have hfl := fun w => fromLow_any X w
      rw [fitNum, if_pos (by omega), fitErr, if_pos (by omega), hXl] at hfl
      have hPb := numLow_lt ((B.data.toList.drop A).take 4)
      rw [← hXl, show X.data.toList.length = 4 by simpa using hXs, hXl] at hPb
      rw [HFn.out] at hpt
      generalize numLow ((B.data.toList.drop A).take 4) = P at *
      have hP32 : P < 4294967296 := hPb
      have HFl := Lib.hid hfl
      have f1 := hx.frozen k
      have c1 := hx.at5 k (by rw [hp.len]; exact hlt)
      have hst := hp.step hlt
      rw [← hpt] at hst
      have HSt := Lib.hid hst
      have HAnd := Lib.hid (and26 (P / 2 ^ S) (Nat.lt_of_le_of_lt (Nat.div_le_self _ _) (by omega)))
      clear hst hpt hfl hp hx hr hbel hA hS hXl hPb hP32
      have hS0 : (0 : Int) ≤ (S : Int) := by omega
      go_wp2_with (first
        | (go_at_call 64; (with_reducible refine (HFl.out _).mono ?_); rintro e w3 ⟨rfl, rfl⟩))
      have e1 := HAnd.out
      rw [Int.natCast_ediv, Int.natCast_pow, show ((2 : Nat) : Int) = 2 from rfl] at e1
      rw [e1]
      exact ⟨⟨k + 1, _, by omega, by go_num, HSt.out, HX.out.set5 k _, HR.out.other _ _ (by have := HGl.out; show w.heap.size ≠ gx; omega), HBel.out.setCell (p := ⟨gx, k, none⟩) (Nat.le_of_lt HGl.out) _⟩, by simp [intOf]; omega⟩
    · obtain rfl : k = 5 := by omega
      have hl5 := row5_size hp.len
      have HE := Lib.hid hp.fin
      clear hp hx hr hbel
      go_wp2_with (first
        | (with_reducible refine wpList_load_n5 rfl _ rfl gx rfl _ hl5 HX.out ?_)
        | (with_reducible refine wpList_store_n5 rfl _ _ rfl w.heap.size rfl _ rfl hl5 (row5_one _) _ rfl HR.out ?_))
      exact ret_n5 Tryd.results49 w.heap.size _ hl5 rfl (HR.out.row _) rfl ⟨by rw [HE.out], below_setRow HBel.out (by omega) _⟩
end Go.Proofs.YtfflpooiebeagaaDoor
namespace Go.Proofs.YtfflpooiebeagaaDoor
open Go.RowKit

/-- A Poly's cells. -/
def pcells (R S A : List Nat) (p : List UInt8) (n : Nat) : Array Value := (u64s R ++ (u64s S ++ (u64s A ++ (u8s p ++ [Value.int .i64 (n : Int)])))).toArray
structure Pok (R S A : List Nat) (p : List UInt8) : Prop where
  r : R.length = 5
  s : S.length = 5
  a : A.length = 5
  p : p.length = 16
theorem pcells_size {R S A : List Nat} {p : List UInt8} (n : Nat) (h : Pok R S A p) : (pcells R S A p n).size = 32 := by
  simp [pcells, u64s_len, u8s_len, h.r, h.s, h.a, h.p]
theorem pcells_r {R S A : List Nat} {p : List UInt8} (n : Nat) (h : Pok R S A p) (j : Nat) (hj : j < 5) : (pcells R S A p n)[0 + j]? = (u64s R)[j]? := by
  rw [pcells, List.getElem?_toArray, Nat.zero_add, List.getElem?_append_left (by rw [u64s_len, h.r]; exact hj)]
theorem pcells_s {R S A : List Nat} {p : List UInt8} (n : Nat) (h : Pok R S A p) (j : Nat) (hj : j < 5) : (pcells R S A p n)[5 + j]? = (u64s S)[j]? := by
  rw [pcells, List.getElem?_toArray, List.getElem?_append_right (by rw [u64s_len, h.r]; omega), u64s_len, h.r, Nat.add_sub_cancel_left, List.getElem?_append_left (by rw [u64s_len, h.s]; exact hj)]
theorem pcells_a {R S A : List Nat} {p : List UInt8} (n : Nat) (h : Pok R S A p) (j : Nat) (hj : j < 5) : (pcells R S A p n)[10 + j]? = (u64s A)[j]? := by
  rw [pcells, List.getElem?_toArray, List.getElem?_append_right (by rw [u64s_len, h.r]; omega), u64s_len, h.r, show 10 + j - 5 = 5 + j by omega, List.getElem?_append_right (by rw [u64s_len, h.s]; omega), u64s_len, h.s, Nat.add_sub_cancel_left, List.getElem?_append_left (by rw [u64s_len, h.a]; exact hj)]
theorem pcells_p {R S A : List Nat} {p : List UInt8} (n : Nat) (h : Pok R S A p) (j : Nat) (hj : j < 16) : (pcells R S A p n)[15 + j]? = (u8s p)[j]? := by
  rw [pcells, List.getElem?_toArray, List.getElem?_append_right (by rw [u64s_len, h.r]; omega), u64s_len, h.r, show 15 + j - 5 = 10 + j by omega, List.getElem?_append_right (by rw [u64s_len, h.s]; omega), u64s_len, h.s, show 10 + j - 5 = 5 + j by omega, List.getElem?_append_right (by rw [u64s_len, h.a]; omega), u64s_len, h.a, Nat.add_sub_cancel_left, List.getElem?_append_left (by rw [u8s_len, h.p]; exact hj)]
theorem pcells_n {R S A : List Nat} {p : List UInt8} (n : Nat) (h : Pok R S A p) : (pcells R S A p n)[31]? = some (.int .i64 (n : Int)) := by
  rw [pcells, List.getElem?_toArray, List.getElem?_append_right (by rw [u64s_len, h.r]; omega), u64s_len, h.r, List.getElem?_append_right (by rw [u64s_len, h.s]; omega), u64s_len, h.s, List.getElem?_append_right (by rw [u64s_len, h.a]; omega), u64s_len, h.a, List.getElem?_append_right (by rw [u8s_len, h.p]; omega), u8s_len, h.p]; rfl

/-- Five cells from a place on, of a block that is known whole. -/
theorem load_at5 {w : World} {g o : Nat} {cs : Array Value} {t : TypeId} {x : List Nat} (h : Arr w g cs t) (hx : x.length = 5) (hc : ∀ j, j < 5 → cs[o + j]? = (u64s x)[j]?) :
    (Instr.loadAt 96 (.pointer (some ⟨g, o, none⟩))).run Tryd.prog w = .ok (.agg (row5 x)) w := by
  refine run_loadAt_mid w g o 96 (u64s x) _ ?_ Tryd.underlying96 rfl (by rw [u64s_len, hx]; exact info_n5)
  intro j v hv
  have hj : j < 5 := by have := (List.getElem?_eq_some_iff.1 hv).1; rwa [u64s_len, hx] at this
  exact h.cell (by rw [hc j hj]; exact hv)
theorem store_new5 {w : World} {g : Nat} {old : Array Value} {z : List Nat} (h : Arr w g old 96) (hz : z.length = 5) (ho : old.size = 5) :
    (Instr.storeAt 96 (.pointer (some ⟨g, 0, none⟩)) (.agg (row5 z))).run Tryd.prog w = .ok () (w.setRow g (row5 z)) := by
  have hst := run_storeCells_at Tryd.prog g 0 96 (u64s z) 0 old w h (by rw [u64s_len, hz]; omega) (fun v hv => by
    simp only [u64s, List.mem_map] at hv
    obtain ⟨b, _, rfl⟩ := hv
    rfl)
  rw [u64s_len, hz] at hst
  have hi := info_n5
  cases hq : Tryd.prog.info? 96 with
  | none => simp [hq] at hi
  | some i =>
    have hs : i.size = 5 := by simpa [hq] using hi
    have hsz : (row5 z).size = 5 := row5_size hz
    have hd : List.drop 5 old.toList = [] := List.drop_eq_nil_of_le (by simp; omega)
    simp only [Nat.add_zero, Nat.zero_add, List.take_zero, List.nil_append, hd, List.append_nil] at hst
    simp only [Instr.storeAt, Instr.sureAddr, Sem.run_bind, Sem.run_pure, Result.andThen_ok]
    simp [storeVar, sizeOf, typeInfo, hq, Value.cells, hs, hsz]
    rw [show (row5 z).toList = u64s z from rfl, hst]
    rfl

/-- Five cells are stored one by one. -/
def five5 (w : World) (gz a b c d e : Nat) : World := World.setCell (World.setCell (World.setCell (World.setCell (World.setCell w ⟨gz, 0, none⟩ (.int .u64 (a : Int))) ⟨gz, 1, none⟩ (.int .u64 (b : Int))) ⟨gz, 2, none⟩ (.int .u64 (c : Int))) ⟨gz, 3, none⟩ (.int .u64 (d : Int))) ⟨gz, 4, none⟩ (.int .u64 (e : Int))
theorem five5_arr {w : World} {gz : Nat} {a b c d e : Nat} (h : Arr w gz zero5 96) : Arr (World.setCell (World.setCell (World.setCell (World.setCell (World.setCell w ⟨gz, 0, none⟩ (.int .u64 (a : Int))) ⟨gz, 1, none⟩ (.int .u64 (b : Int))) ⟨gz, 2, none⟩ (.int .u64 (c : Int))) ⟨gz, 3, none⟩ (.int .u64 (d : Int))) ⟨gz, 4, none⟩ (.int .u64 (e : Int))) gz (row5 [a, b, c, d, e]) 96 := by
  rw [zero5_row] at h
  exact ((((h.set5 0 a).set5 1 b).set5 2 c).set5 3 d).set5 4 e
theorem five5_other {w : World} {gz g : Nat} {cs : Array Value} {t : TypeId} (h : Arr w g cs t) (hn : g ≠ gz) (a b c d e : Nat) : Arr (World.setCell (World.setCell (World.setCell (World.setCell (World.setCell w ⟨gz, 0, none⟩ (.int .u64 (a : Int))) ⟨gz, 1, none⟩ (.int .u64 (b : Int))) ⟨gz, 2, none⟩ (.int .u64 (c : Int))) ⟨gz, 3, none⟩ (.int .u64 (d : Int))) ⟨gz, 4, none⟩ (.int .u64 (e : Int))) g cs t :=
  ((((h.other _ _ hn).other _ _ hn).other _ _ hn).other _ _ hn).other _ _ hn
theorem five5_below {w v : World} {gz B : Nat} (h : Below B v w) (hg : B ≤ gz) (a b c d e : Nat) : Below B v (World.setCell (World.setCell (World.setCell (World.setCell (World.setCell w ⟨gz, 0, none⟩ (.int .u64 (a : Int))) ⟨gz, 1, none⟩ (.int .u64 (b : Int))) ⟨gz, 2, none⟩ (.int .u64 (c : Int))) ⟨gz, 3, none⟩ (.int .u64 (d : Int))) ⟨gz, 4, none⟩ (.int .u64 (e : Int))) :=
  ((((h.setCell (p := ⟨gz, 0, none⟩) hg _).setCell (p := ⟨gz, 1, none⟩) hg _).setCell (p := ⟨gz, 2, none⟩) hg _).setCell (p := ⟨gz, 3, none⟩) hg _).setCell (p := ⟨gz, 4, none⟩) hg _
/-- What next reads. -/
theorem next_cells {w' : World} {g n : Nat} {r0 r1 r2 r3 r4 a0 a1 a2 a3 a4 : Nat} {S : List Nat} {p : List UInt8} (hp : Pok [r0, r1, r2, r3, r4] S [a0, a1, a2, a3, a4] p) (h : Arr w' g (pcells [r0, r1, r2, r3, r4] S [a0, a1, a2, a3, a4] p n) 100) :
    w'.cell? ⟨g, 0, none⟩ = some (.int .u64 (r0 : Int)) ∧ w'.cell? ⟨g, 1, none⟩ = some (.int .u64 (r1 : Int)) ∧ w'.cell? ⟨g, 2, none⟩ = some (.int .u64 (r2 : Int)) ∧ w'.cell? ⟨g, 3, none⟩ = some (.int .u64 (r3 : Int)) ∧ w'.cell? ⟨g, 4, none⟩ = some (.int .u64 (r4 : Int)) ∧ w'.cell? ⟨g, 10, none⟩ = some (.int .u64 (a0 : Int)) ∧ w'.cell? ⟨g, 11, none⟩ = some (.int .u64 (a1 : Int)) ∧ w'.cell? ⟨g, 12, none⟩ = some (.int .u64 (a2 : Int)) ∧ w'.cell? ⟨g, 13, none⟩ = some (.int .u64 (a3 : Int)) ∧ w'.cell? ⟨g, 14, none⟩ = some (.int .u64 (a4 : Int)) :=
  ⟨h.cell (by rw [pcells_r n hp 0 (by decide)]; rfl), h.cell (by rw [pcells_r n hp 1 (by decide)]; rfl), h.cell (by rw [pcells_r n hp 2 (by decide)]; rfl), h.cell (by rw [pcells_r n hp 3 (by decide)]; rfl), h.cell (by rw [pcells_r n hp 4 (by decide)]; rfl),
   h.cell (by rw [pcells_a n hp 0 (by decide)]; rfl), h.cell (by rw [pcells_a n hp 1 (by decide)]; rfl), h.cell (by rw [pcells_a n hp 2 (by decide)]; rfl), h.cell (by rw [pcells_a n hp 3 (by decide)]; rfl), h.cell (by rw [pcells_a n hp 4 (by decide)]; rfl)⟩

set_option maxHeartbeats 4000000 in
set_option maxRecDepth 100000 in
theorem next_any (g : Nat) (R S A : List Nat) (p : List UInt8) (n : Nat) (hp : Pok R S A p) (bA : ∀ z ∈ A, z < 67108864) (bR : ∀ z ∈ R, z < 67108864) (b : ByteArray) (hb : b.size ≤ 16) (w : World) (h : Arr w g (pcells R S A p n) 100) :
    Calls Tryd.prog 50 #[.pointer (some ⟨g, 0, none⟩), .string b] w fun e w' => (∃ z, e = .returned (.agg (row5 z)) ∧ z.length = 5 ∧ (∀ v ∈ z, v < 67108864) ∧ numP z % PP = (numP A + (numLow b.data.toList + 256 ^ b.size)) * numP R % PP) ∧ Below w.heap.size w w' := by
  obtain ⟨B1, hB1⟩ : ∃ B1, B1 = b ++ ⟨#[1]⟩ := ⟨_, rfl⟩
  have hcat : ∀ w : World, (Op.stringOp .add b ⟨#[1]⟩).run Tryd.prog w = .ok (.string B1) w := fun w => by rw [hB1]; exact cat_run _ _ (by show b.size + 1 ≤ _; omega) w
  have hs1 : B1.size = b.size + 1 := by rw [hB1, ByteArray.size_append]; rfl
  have hn1 : numLow B1.data.toList = numLow b.data.toList + 256 ^ b.size := by
    rw [hB1, show (b ++ (⟨#[1]⟩ : ByteArray)).data.toList = b.data.toList ++ [1] by simp, numLow_append]; simp [numLow]
  have HRd := Lib.hid (fun w => read5_any B1 (by omega) (by omega) w)
  rw [hn1] at HRd
  have hN : numLow b.data.toList + 256 ^ b.size < TB := by
    have h1 := numLow_lt b.data.toList
    rw [show b.data.toList.length = b.size by simp] at h1
    have h2 := p256_le hb
    have : 256 ^ 16 + 256 ^ 16 < TB := by decide
    omega
  generalize numLow b.data.toList + 256 ^ b.size = N at *
  have hPl : (partsP N 5).length = 5 := partsP_len _ _
  have hPb := partsP_lt N 5
  have hPn := partsP_of N hN
  generalize partsP N 5 = X at *
  obtain ⟨a0, a1, a2, a3, a4, rfl⟩ := five A hp.a
  obtain ⟨r0, r1, r2, r3, r4, rfl⟩ := five R hp.r
  have hpl : ∀ w, Calls Tryd.prog 52 #[.agg #[.int .u64 (a0 : Int), .int .u64 (a1 : Int), .int .u64 (a2 : Int), .int .u64 (a3 : Int), .int .u64 (a4 : Int)], .agg (row5 X)] w fun e w' => e = .returned (.agg (row5 (sumP [a0, a1, a2, a3, a4] X))) ∧ Below w.heap.size w w' :=
    fun w => plus5_any [a0, a1, a2, a3, a4] X hp.a hPl (fun z hz => Nat.lt_trans (bA z hz) (by decide)) (fun z hz => Nat.lt_trans (hPb z hz) (by decide)) w
  have hsb := sum_bound hp.a hPl bA hPb
  have htm : ∀ w, Calls Tryd.prog 65 #[.agg (row5 (sumP [a0, a1, a2, a3, a4] X)), .agg #[.int .u64 (r0 : Int), .int .u64 (r1 : Int), .int .u64 (r2 : Int), .int .u64 (r3 : Int), .int .u64 (r4 : Int)]] w fun e w' => (∃ z0 z1 z2 z3 z4 : Nat, e = .returned (.agg #[.int .u64 (z0 : Int), .int .u64 (z1 : Int), .int .u64 (z2 : Int), .int .u64 (z3 : Int), .int .u64 (z4 : Int)]) ∧ (∀ v ∈ [z0, z1, z2, z3, z4], v < 67108864) ∧ numP [z0, z1, z2, z3, z4] % PP = (numP [a0, a1, a2, a3, a4] + N) * numP [r0, r1, r2, r3, r4] % PP) ∧ Below w.heap.size w w' := by
    intro w
    refine (times5_any (sumP [a0, a1, a2, a3, a4] X) [r0, r1, r2, r3, r4] (by rw [sumP_len _ _ (by rw [hp.a, hPl]), hp.a]) hp.r (fun z hz => by have := hsb z hz; omega) bR w).mono ?_
    rintro e w' ⟨⟨z, rfl, hz, hzb, hzn⟩, hb⟩
    obtain ⟨z0, z1, z2, z3, z4, rfl⟩ := five z hz
    rw [sumP_num _ _ (by rw [hp.a, hPl]), hPn] at hzn
    exact ⟨⟨z0, z1, z2, z3, z4, rfl, hzb, hzn⟩, hb⟩
  have HPl := Lib.hid hpl
  have HTm := Lib.hid htm
  have HOk := Lib.hid hp
  have HS0 := Lib.hid (h.alloc (.cells zero5 96))
  have HZ0 := Lib.hid (Arr.new w zero5 96)
  have HGn : Hid (g ≠ w.heap.size) := Nat.ne_of_lt h.lt
  have HB0 := Lib.hid ((Below.refl w.heap.size w).alloc (Nat.le_refl _) (.cells zero5 96))
  obtain ⟨C, hC⟩ : ∃ C, C = pcells [r0, r1, r2, r3, r4] S [a0, a1, a2, a3, a4] p n := ⟨_, rfl⟩
  generalize sumP [a0, a1, a2, a3, a4] X = Y at *
  clear hB1 hs1 hn1 hN hPl hPb hPn hsb bA bR hb h hp hpl htm hC C
  go_enter Tryd.func50, Tryd.ntmps50
  go_wp2
  go_region_held3 (fun w' => w'.cell? ⟨g, 0, none⟩ = some (.int .u64 (r0 : Int)) ∧ w'.cell? ⟨g, 1, none⟩ = some (.int .u64 (r1 : Int)) ∧ w'.cell? ⟨g, 2, none⟩ = some (.int .u64 (r2 : Int)) ∧ w'.cell? ⟨g, 3, none⟩ = some (.int .u64 (r3 : Int)) ∧ w'.cell? ⟨g, 4, none⟩ = some (.int .u64 (r4 : Int)) ∧ w'.cell? ⟨g, 10, none⟩ = some (.int .u64 (a0 : Int)) ∧ w'.cell? ⟨g, 11, none⟩ = some (.int .u64 (a1 : Int)) ∧ w'.cell? ⟨g, 12, none⟩ = some (.int .u64 (a2 : Int)) ∧ w'.cell? ⟨g, 13, none⟩ = some (.int .u64 (a3 : Int)) ∧ w'.cell? ⟨g, 14, none⟩ = some (.int .u64 (a4 : Int)))
    (first
      | with_reducible exact next_cells HOk.out HS0.out.drew
      | with_reducible exact next_cells HOk.out HS1.out
      | with_reducible exact next_cells HOk.out HS2.out
      | with_reducible exact next_cells HOk.out HS3.out
      | with_reducible exact next_cells HOk.out (five5_other HS3.out HGn.out z0 z1 z2 z3 z4))
    (first
      | (go_at_call 49; (with_reducible refine (HRd.out _).mono ?_); rintro e w1 ⟨rfl, hb1⟩; have HS1 := Lib.hid (HS0.out.drew.next hb1))
      | (go_at_call 52; (with_reducible refine (HPl.out _).mono ?_); rintro e w2 ⟨rfl, hb2⟩; have HS2 := Lib.hid (HS1.out.next hb2))
      | (go_at_call 65; (with_reducible refine (HTm.out _).mono ?_); rintro e w3 ⟨⟨z0, z1, z2, z3, z4, rfl, hzb, hzn⟩, hb3⟩; have HS3 := Lib.hid (HS2.out.next hb3); have HZ3 := Lib.hid (((HZ0.out.drew.next hb1).next hb2).next hb3); have n0 : w3.cell? ⟨w.heap.size, 0, none⟩ = some (.int .u64 0) := HZ3.out.cell (j := 0) rfl; have n1 : w3.cell? ⟨w.heap.size, 1, none⟩ = some (.int .u64 0) := HZ3.out.cell (j := 1) rfl; have n2 : w3.cell? ⟨w.heap.size, 2, none⟩ = some (.int .u64 0) := HZ3.out.cell (j := 2) rfl; have n3 : w3.cell? ⟨w.heap.size, 3, none⟩ = some (.int .u64 0) := HZ3.out.cell (j := 3) rfl; have n4 : w3.cell? ⟨w.heap.size, 4, none⟩ = some (.int .u64 0) := HZ3.out.cell (j := 4) rfl; have nf := HZ3.out.frozen))
  all_goals
    go_wp2_with fail
    exact ret_n5 Tryd.results50 w.heap.size _ (row5_size rfl) rfl (five5_arr HZ3.out) rfl ⟨⟨[z0, z1, z2, z3, z4], rfl, rfl, hzb, hzn⟩, five5_below (HB0.out.drew.trans (((Below_next (Below_next hb1 hb2) hb3)).mono HB0.out.size)) (Nat.le_refl _) z0 z1 z2 z3 z4⟩
end Go.Proofs.YtfflpooiebeagaaDoor
namespace Go.Proofs.YtfflpooiebeagaaDoor
open Go.RowKit

def keptL : List UInt8 := [255, 255, 255, 15, 252, 255, 255, 15, 252, 255, 255, 15, 252, 255, 255, 15]
theorem keptL_len : keptL.length = 16 := rfl
/-- The table, where the package lays it. -/
def Kp (w : World) : Prop := ∀ k, k < 16 → w.cell? ⟨1, k, none⟩ = some (.int .u8 ((keptL.getD k 0).toNat : Int))
theorem Kp.lt {w : World} (h : Kp w) : 1 < w.heap.size := block_lt_of_cell (h 0 (by decide))
theorem Kp.alloc {w : World} (h : Kp w) (o : Obj) : Kp (w.alloc o) := fun k hk => by
  rw [← h k hk]; exact World.cell?_of_block (Below.heap_alloc w o _ h.lt)
theorem Kp.below {w w' : World} {B : Nat} (h : Kp w) (hb : Below B w w') (hB : 1 < B) : Kp w' := fun k hk => by
  rw [← h k hk]; exact World.cell?_of_block (hb.block _ hB)
theorem Kp.next {w w' : World} (h : Kp w) (hb : Below w.heap.size w w') : Kp w' := h.below hb h.lt
theorem Kp.drew {w : World} (h : Kp w) : Kp w.drew := h
theorem Kp.drewN {w : World} (h : Kp w) (n : Nat) : Kp (w.drewN n) := h
theorem Kp.fr {g : Nat} {w w' : World} (h : Kp w) (hf : Fr g w w') (hn : 1 ≠ g) : Kp w' := fun k hk => by
  rw [← h k hk]; exact World.cell?_of_block (hf.block _ h.lt hn)
theorem Kp.range {w : World} (h : Kp w) : w.rangeAt 1 0 (u8s keptL) := fun j v hv => by
  have hj : j < 16 := by have := (List.getElem?_eq_some_iff.1 hv).1; rwa [u8s_len, keptL_len] at this
  rw [Nat.zero_add, h j hj, ← hv, u8s_get _ _ (by rw [keptL_len]; exact hj), List.getD_eq_getElem?_getD, List.getElem?_eq_getElem (by rw [keptL_len]; exact hj)]; rfl
theorem wpList_load_kept {ops : Array Oper} {rest : List Oper} {op : Oper} {a : Act} {w : World} {Q : Exit → Act → World → Prop} (hgd : op.guard = none) (ho : op.op = .load 98 (.global 1))
    (hp : Kp w) (KV : Array Value) (hKV : KV = rowB keptL)
    (h : wpList Tryd.prog ops Q rest (a.put op.dst (.agg KV)) w) : wpList Tryd.prog ops Q (op :: rest) a w := by
  subst hKV
  exact wpList_load_mid hgd 98 _ ho 1 0 rfl (u8s keptL) _ hp.range Tryd.underlying98 rfl info_b16 h

theorem and255 (b : Nat) (h : b < 256) : 255 &&& b = b := by rw [Nat.and_comm, show (255 : Nat) = 2 ^ 8 - 1 from rfl, Nat.and_two_pow_sub_one_eq_mod]; omega
theorem and15 (b : Nat) : 15 &&& b = b % 16 := by rw [Nat.and_comm, show (15 : Nat) = 2 ^ 4 - 1 from rfl, Nat.and_two_pow_sub_one_eq_mod]
theorem and252 : ∀ b, b < 256 → 252 &&& b = b / 4 * 4 := by decide +kernel
theorem clamp_bits (k : Nat) (hk : k < 16) (b : UInt8) : bits .and .u8 ((keptL.getD k 0).toNat : Int) (b.toNat : Int) = ((clampB k b).toNat : Int) := by
  have hb := b.toNat_lt
  have e : ∀ n : UInt8, bits .and .u8 (n.toNat : Int) (b.toNat : Int) = ((n.toNat &&& b.toNat : Nat) : Int) := fun n => u8_and_nat _ _ n.toNat_lt hb
  rw [e]
  congr 1
  have e16 : (b % 16).toNat = b.toNat % 16 := by rw [UInt8.toNat_mod]; rfl
  have e4 : (b / 4 * 4).toNat = b.toNat / 4 * 4 := by rw [UInt8.toNat_mul, UInt8.toNat_div]; show b.toNat / 4 * 4 % 256 = _; omega
  have h255 := and255 b.toNat hb
  have h15 := and15 b.toNat
  have h252 := and252 b.toNat hb
  rcases (show k = 0 ∨ k = 1 ∨ k = 2 ∨ k = 3 ∨ k = 4 ∨ k = 5 ∨ k = 6 ∨ k = 7 ∨ k = 8 ∨ k = 9 ∨ k = 10 ∨ k = 11 ∨ k = 12 ∨ k = 13 ∨ k = 14 ∨ k = 15 by omega) with h | h | h | h | h | h | h | h | h | h | h | h | h | h | h | h <;> subst h <;>
    first
      | exact h255
      | exact h15.trans e16.symm
      | exact h252.trans e4.symm
/-- What is known behind k bytes. -/
structure Cla (r : List UInt8) (out : List UInt8) (k : Nat) : Prop where
  len : out.length = 16
  hi : ∀ j, k ≤ j → out.getD j 0 = keptL.getD j 0
  lo : ∀ j, j < k → out.getD j 0 = clampB j (r.getD j 0)
theorem getD_setU (l : List UInt8) (k : Nat) (x : UInt8) (j : Nat) (h : k < l.length) : (l.set k x).getD j 0 = if j = k then x else l.getD j 0 := by
  rw [List.getD_eq_getElem?_getD, List.getElem?_set]
  by_cases hj : k = j
  · subst hj; simp [h]
  · rw [if_neg hj, if_neg (Ne.symm hj), ← List.getD_eq_getElem?_getD]
theorem Cla.start (r : List UInt8) : Cla r keptL 0 := ⟨rfl, fun _ _ => rfl, fun _ h => absurd h (by omega)⟩
theorem Cla.step {r out : List UInt8} {k : Nat} (h : Cla r out k) (hk : k < 16) : Cla r (out.set k (clampB k (r.getD k 0))) (k + 1) := by
  refine ⟨by simp [h.len], fun j hj => ?_, fun j hj => ?_⟩
  · rw [getD_setU _ _ _ _ (by rw [h.len]; omega), if_neg (by omega), h.hi j (by omega)]
  · rw [getD_setU _ _ _ _ (by rw [h.len]; omega)]
    by_cases e : j = k
    · rw [if_pos e, e]
    · rw [if_neg e]; exact h.lo j (by omega)
theorem Cla.fin {r out : List UInt8} (h : Cla r out 16) : out = clampL r := by
  apply List.ext_getElem (by rw [h.len, clampL_len])
  intro i h1 h2
  rw [h.len] at h1
  have := h.lo i h1
  rw [← clampK_get r 16 i h1, List.getD_eq_getElem?_getD, List.getElem?_eq_getElem (by rw [h.len]; exact h1), List.getD_eq_getElem?_getD, List.getElem?_eq_getElem (by rw [clampK_len]; exact h1)] at this
  exact this
theorem rowB_get {l : List UInt8} {k : Nat} (h : k < l.length) : (rowB l)[k]? = some (.int .u8 ((l.getD k 0).toNat : Int)) := by
  rw [rowB, List.getElem?_toArray, u8s_get l k h, List.getD_eq_getElem?_getD, List.getElem?_eq_getElem h]; rfl
theorem rowB_set (l : List UInt8) (k : Nat) (b : UInt8) : (rowB l).setIfInBounds k (.int .u8 (b.toNat : Int)) = rowB (l.set k b) := by
  rw [rowB, rowB, List.setIfInBounds_toArray, u8s_set]
theorem rowB_size (l : List UInt8) : (rowB l).size = l.length := by simp [rowB, u8s_len]
theorem rowB_one (l : List UInt8) : (rowB l).all (·.oneCell') = true := by simp [rowB, u8s, Value.oneCell']

set_option maxHeartbeats 1000000 in
set_option maxRecDepth 100000 in
theorem clamp_ok (s : ByteArray) (hs : s.size = 16) (w : World) (hp : Kp w) :
    Calls Tryd.prog 48 #[.string s] w fun e w' => e = .returned (.tuple #[.string ⟨(clampL s.data.toList).toArray⟩, .int .i64 0]) ∧ Below w.heap.size w w' := by
  have e1 : ((s.size : Int) != 16) = false := by rw [hs]; rfl
  obtain ⟨KV, hKV⟩ : ∃ KV, KV = rowB keptL := ⟨_, rfl⟩
  have hK16 : KV.size = 16 := by rw [hKV]; rfl
  have hK1 : KV.all (·.oneCell') = true := by rw [hKV]; exact rowB_one _
  have HKV := Lib.hid hKV
  have HP := Lib.hid hp
  have HS := Lib.hid hs
  clear hKV hp hs
  go_enter Tryd.func48, Tryd.ntmps48
  go_wp2_with (first
    | (with_reducible refine wpList_load_kept rfl rfl HP.out _ HKV.out ?_)
    | (with_reducible refine wpList_store_b16_new rfl _ _ rfl _ (by simp) _ rfl rfl _ rfl hK16 hK1 ?_))
  have HA := Lib.hid (Arr.new w KV 98)
  have HB := Lib.hid ((Below.refl w.heap.size w).alloc (Nat.le_refl _) (.cells KV 98))
  generalize w.alloc (.cells KV 98) = w1 at *
  rw [HKV.out] at HA
  clear hK16 hK1
  go_loopw [10] (fun i wr => ∃ (k : Nat) (out : List UInt8), k ≤ 16 ∧ i = .int .i64 (k : Int) ∧ Cla s.data.toList out k ∧ Arr wr w.heap.size (rowB out) 98 ∧ Below w.heap.size w wr) (fun i _ => 16 - (intOf i).toNat)
  case atStart => exact ⟨0, keptL, by omega, rfl, Cla.start _, HA.out, HB.out⟩
  case round =>
    clear HA HB
    obtain ⟨k, out, hk, rfl, hc, ha, hbel⟩ := hrel
    have HA := Lib.hid ha
    have HBel := Lib.hid hbel
    by_cases hlt : k < 16
    · have c1 := ha.cell (rowB_get (l := out) (k := k) (by rw [hc.len]; exact hlt))
      have f1 := ha.frozen k
      rw [hc.hi k (Nat.le_refl _)] at c1
      have hks : k < s.size := by rw [HS.out]; exact hlt
      have e2 := clamp_bits k hlt s[k]
      have hst := hc.step hlt
      rw [show s.data.toList.getD k 0 = s[k] by rw [List.getD_eq_getElem?_getD, List.getElem?_eq_getElem (by simpa using hks)]; rfl] at hst
      have HSt := Lib.hid hst
      clear hc ha hbel hst
      have k0 : (0 : Int) ≤ (k : Int) := by omega
      have k16 : (k : Int) < 16 := by omega
      generalize (keptL.getD k 0) = KK at *
      go_wp2
      go_region
      all_goals
        go_wp2
        have hs := HA.out.set k (.int .u8 ((clampB k s[k]).toNat : Int))
        rw [rowB_set] at hs
        exact ⟨⟨k + 1, _, by omega, by go_num, HSt.out, hs, (HBel.out.setCell (p := ⟨w.heap.size, k, none⟩) (Nat.le_refl _) _).drew⟩, by simp [intOf]; omega⟩
    · obtain rfl : k = 16 := by omega
      have a3 := arr16_all w.heap.size 0
      have cv := conv_rowB ha hc.len
      rw [hc.fin] at cv
      clear hc hbel ha HA
      go_wp2
      go_ret2
      exact ⟨rfl, HBel.out⟩
theorem clamp_no (s : ByteArray) (hs : s.size ≠ 16) (w : World) :
    Calls Tryd.prog 48 #[.string s] w fun e w' => e = .returned (.tuple #[.string ByteArray.empty, .int .i64 5]) ∧ w = w' := by
  have e1 : ((s.size : Int) != 16) = true := by simp; omega
  clear hs
  go_enter Tryd.func48, Tryd.ntmps48
  go_wp2
  go_ret2
  exact ⟨rfl, rfl⟩
end Go.Proofs.YtfflpooiebeagaaDoor
namespace Go.Proofs.YtfflpooiebeagaaDoor
open Go.RowKit

theorem accN_append (r : Nat) (l q : List UInt8) (m : Nat) (h : 16 * m ≤ l.length) : accN r (l ++ q) m = accN r l m := by
  induction m with
  | zero => rfl
  | succ m ih =>
    have e : partL (l ++ q) m = partL l m := by
      rw [partL, partL, List.drop_append_of_le_length (by omega), List.take_append_of_le_length (by rw [List.length_drop]; omega)]
    rw [accN, accN, ih (by omega), e]
theorem keyR_lt (key : List UInt8) : keyR key < TB := by
  have h := numLow_lt (clampL (key.take 16))
  rw [clampL_len] at h
  have : 256 ^ 16 < TB := by decide
  exact Nat.lt_trans h this
theorem keyS_lt (key : List UInt8) (hk : key.length = 32) : keyS key < TB := by
  have h := numLow_lt (key.drop 16)
  rw [List.length_drop, hk] at h
  have : 256 ^ 16 < TB := by decide
  exact Nat.lt_trans h this
/-- What a Poly's cells are, of a key and a text. -/
structure Pst (key text : List UInt8) (A : List Nat) (p : List UInt8) : Prop where
  ok : Pok (partsP (keyR key) 5) (partsP (keyS key) 5) A p
  lt : ∀ z ∈ A, z < 67108864
  num : numP A % PP = accN (keyR key) text (text.length / 16)
  part : p.take (text.length % 16) = text.drop (16 * (text.length / 16))
/-- Block g is a Poly of this key and text. -/
def PolyOf (w : World) (g : Nat) (key text : List UInt8) : Prop :=
  ∃ A p, Pst key text A p ∧ Arr w g (pcells (partsP (keyR key) 5) (partsP (keyS key) 5) A p (text.length % 16)) 100
theorem PolyOf.lt {w : World} {g : Nat} {key text : List UInt8} (h : PolyOf w g key text) : g < w.heap.size := by
  obtain ⟨A, p, _, ha⟩ := h; exact ha.lt
theorem PolyOf.next {w w' : World} {g : Nat} {key text : List UInt8} (h : PolyOf w g key text) (hb : Below w.heap.size w w') : PolyOf w' g key text := by
  obtain ⟨A, p, h1, ha⟩ := h; exact ⟨A, p, h1, ha.next hb⟩
theorem PolyOf.fr {w w' : World} {g m : Nat} {key text : List UInt8} (h : PolyOf w g key text) (hf : Fr m w w') (hn : g ≠ m) : PolyOf w' g key text := by
  obtain ⟨A, p, h1, ha⟩ := h; exact ⟨A, p, h1, ha.fr hf hn⟩
theorem PolyOf.start {w : World} {g : Nat} {key : List UInt8} (h : Arr w g (pcells (partsP (keyR key) 5) (partsP (keyS key) 5) [0, 0, 0, 0, 0] (List.replicate 16 0) 0) 100) : PolyOf w g key [] :=
  ⟨_, _, ⟨⟨partsP_len _ _, partsP_len _ _, rfl, rfl⟩, lt5 0 _ (by decide), rfl, rfl⟩, h⟩

theorem new_fin {w wx : World} (hb : Below w.heap.size w wx) {key : List UInt8} {C : Array Value} (hf : ∀ w' g, Arr w' g C 100 → PolyOf w' g key []) :
    (∃ g, Ending.returned (.tuple #[.pointer (some ⟨wx.heap.size, 0, none⟩), .int .i64 0]) = .returned (.tuple #[.pointer (some ⟨g, 0, none⟩), .int .i64 0]) ∧ w.heap.size ≤ g ∧ PolyOf (wx.alloc (.cells C 100)) g key []) ∧ Below w.heap.size w (wx.alloc (.cells C 100)) :=
  ⟨⟨_, rfl, hb.size, hf _ _ (Arr.new wx C _)⟩, hb.alloc hb.size _⟩

set_option maxHeartbeats 1000000 in
set_option maxRecDepth 100000 in
theorem polyNew_ok (key : ByteArray) (hk : key.size = 32) (w : World) (hp : Kp w) :
    Calls Tryd.prog 33 #[.string key] w fun e w' => (∃ g, e = .returned (.tuple #[.pointer (some ⟨g, 0, none⟩), .int .i64 0]) ∧ w.heap.size ≤ g ∧ PolyOf w' g key.data.toList []) ∧ Below w.heap.size w w' := by
  have e1 : ((key.size : Int) != 32) = false := by rw [hk]; rfl
  have hkl : key.data.toList.length = 32 := by simpa using hk
  have hs1 := slice_to key 16 (by omega)
  have hs2 := slice_from key 16 (by omega)
  rw [show ((16 : Nat) : Int) = 16 from rfl] at hs1 hs2
  rw [hk] at hs2
  have hx1 : (key.extract 0 16).size = 16 := by rw [ext_size _ _ _ (by omega)]
  have hx2 : (key.extract 16 32).size = 16 := by rw [ext_size _ _ _ (by omega)]
  have hl1 := ext_toList key 0 16
  have hl2 := ext_toList key 16 32
  rw [List.drop_zero, Nat.sub_zero] at hl1
  rw [List.take_of_length_le (by rw [List.length_drop, hkl]; exact Nat.le_refl _)] at hl2
  have HC := Lib.hid (clamp_ok (key.extract 0 16) hx1 w hp)
  rw [hl1] at HC
  obtain ⟨RB, hRB⟩ : ∃ RB : ByteArray, RB = ⟨(clampL (key.data.toList.take 16)).toArray⟩ := ⟨_, rfl⟩
  rw [← hRB] at HC
  have hR16 : RB.size = 16 := by rw [hRB]; show (clampL (key.data.toList.take 16)).toArray.size = 16; rw [List.size_toArray, clampL_len]
  have hRl : RB.data.toList = clampL (key.data.toList.take 16) := by rw [hRB]
  have hr := fun w => read5_any RB (by omega) (by omega) w
  have hs := fun w => read5_any (key.extract 16 32) (by omega) (by omega) w
  rw [hRl, show numLow (clampL (key.data.toList.take 16)) = keyR key.data.toList from rfl] at hr
  rw [hl2, show numLow (key.data.toList.drop 16) = keyS key.data.toList from rfl] at hs
  have HF : Hid (∀ (w' : World) (g : Nat), Arr w' g (pcells (partsP (keyR key.data.toList) 5) (partsP (keyS key.data.toList) 5) [0, 0, 0, 0, 0] (List.replicate 16 0) 0) 100 → PolyOf w' g key.data.toList []) := fun w' g h => PolyOf.start h
  obtain ⟨r0, r1, r2, r3, r4, hr5⟩ := five (partsP (keyR key.data.toList) 5) (partsP_len _ _)
  obtain ⟨s0, s1, s2, s3, s4, hs5⟩ := five (partsP (keyS key.data.toList) 5) (partsP_len _ _)
  rw [hr5] at hr HF
  rw [hs5] at hs HF
  have hr' : ∀ w, Calls Tryd.prog 49 #[.string RB] w fun e w' => e = .returned (.agg #[.int .u64 (r0 : Int), .int .u64 (r1 : Int), .int .u64 (r2 : Int), .int .u64 (r3 : Int), .int .u64 (r4 : Int)]) ∧ Below w.heap.size w w' := hr
  have hs' : ∀ w, Calls Tryd.prog 49 #[.string (key.extract 16 32)] w fun e w' => e = .returned (.agg #[.int .u64 (s0 : Int), .int .u64 (s1 : Int), .int .u64 (s2 : Int), .int .u64 (s3 : Int), .int .u64 (s4 : Int)]) ∧ Below w.heap.size w w' := hs
  have HR := Lib.hid hr'
  have HS := Lib.hid hs'
  generalize key.extract 16 32 = KS at *
  generalize key.extract 0 16 = KR at *
  clear hk hkl hp hx1 hx2 hl1 hl2 hRB hR16 hRl hr hs hr' hs' hr5 hs5
  go_enter Tryd.func33, Tryd.ntmps33
  go_wp2_with (first
    | (go_at_call 48; (with_reducible refine HC.out.mono ?_); rintro e w1 ⟨rfl, hb1⟩))
  go_region_held3 (fun _ => True) (first | exact trivial)
    (first
      | (go_at_call 49; (first
        | ((with_reducible refine (HR.out _).mono ?_); rintro e w2 ⟨rfl, hb2⟩)
        | ((with_reducible refine (HS.out _).mono ?_); rintro e w3 ⟨rfl, hb3⟩))))
  all_goals
    go_wp2_with fail
    go_ret2
    first
      | exact new_fin (Below_next (Below_next hb1.drew hb2) hb3) HF.out
      | exact new_fin (Below_next (Below_next hb1.drew hb3) hb2) HF.out
theorem polyNew_no (key : ByteArray) (hk : key.size ≠ 32) (w : World) :
    Calls Tryd.prog 33 #[.string key] w fun e w' => e = .returned (.tuple #[.pointer none, .int .i64 5]) ∧ w = w' := by
  have e1 : ((key.size : Int) != 32) = true := by simp; omega
  clear hk
  go_enter Tryd.func33, Tryd.ntmps33
  go_wp2
  go_ret2
  exact ⟨rfl, rfl⟩
end Go.Proofs.YtfflpooiebeagaaDoor
namespace Go.Proofs.YtfflpooiebeagaaDoor
open Go.RowKit

theorem pcells_toList (R S A : List Nat) (p : List UInt8) (n : Nat) : (pcells R S A p n).toList = u64s R ++ (u64s S ++ (u64s A ++ (u8s p ++ [Value.int .i64 (n : Int)]))) := rfl
theorem take_after {α : Type} (a b : List α) (n k : Nat) (h : a.length = n) : (a ++ b).take (n + k) = a ++ b.take k := by
  rw [List.take_append, List.take_of_length_le (by omega)]
  congr 2; omega
theorem drop_after {α : Type} (a b : List α) (n k : Nat) (h : a.length = n) : (a ++ b).drop (n + k) = b.drop k := by
  rw [List.drop_append, List.drop_eq_nil_of_le (by omega), List.nil_append]
  congr 1; omega
theorem pcells_setN {R S A : List Nat} {p : List UInt8} (n m : Nat) (h : Pok R S A p) : (pcells R S A p n).setIfInBounds 31 (.int .i64 (m : Int)) = pcells R S A p m := by
  rw [pcells, pcells, List.setIfInBounds_toArray,
    List.set_append_right _ _ (by rw [u64s_len, h.r]; omega), u64s_len, h.r,
    List.set_append_right _ _ (by rw [u64s_len, h.s]; omega), u64s_len, h.s,
    List.set_append_right _ _ (by rw [u64s_len, h.a]; omega), u64s_len, h.a,
    List.set_append_right _ _ (by rw [u8s_len, h.p]; omega), u8s_len, h.p]
  rfl
theorem pcells_sum {R S A A' : List Nat} {p : List UInt8} (n : Nat) (h : Pok R S A p) (_ : A'.length = 5) :
    (List.take 10 (pcells R S A p n).toList ++ u64s A' ++ List.drop 15 (pcells R S A p n).toList).toArray = pcells R S A' p n := by
  rw [pcells_toList, show (10 : Nat) = 5 + (5 + 0) from rfl, show (15 : Nat) = 5 + (5 + (5 + 0)) from rfl, take_after _ _ 5 _ (by rw [u64s_len, h.r]), take_after _ _ 5 _ (by rw [u64s_len, h.s]), List.take_zero, List.append_nil,
    drop_after _ _ 5 _ (by rw [u64s_len, h.r]), drop_after _ _ 5 _ (by rw [u64s_len, h.s]), drop_after _ _ 5 _ (by rw [u64s_len, h.a]), List.drop_zero, pcells]
  simp
theorem pcells_copy {R S A : List Nat} {p : List UInt8} (n : Nat) (h : Pok R S A p) (q : List UInt8) (r m : Nat) (hm : q.length = m) (hr : r + m ≤ 16) :
    (List.take (15 + r) (pcells R S A p n).toList ++ u8s q ++ List.drop (15 + r + m) (pcells R S A p n).toList).toArray = pcells R S A (p.take r ++ q ++ p.drop (r + m)) n := by
  subst hm
  rw [pcells_toList, show 15 + r + q.length = 5 + (5 + (5 + (r + q.length))) by omega, show 15 + r = 5 + (5 + (5 + r)) by omega,
    take_after _ _ 5 _ (by rw [u64s_len, h.r]), take_after _ _ 5 _ (by rw [u64s_len, h.s]), take_after _ _ 5 _ (by rw [u64s_len, h.a]), List.take_append_of_le_length (by rw [u8s_len, h.p]; omega),
    drop_after _ _ 5 _ (by rw [u64s_len, h.r]), drop_after _ _ 5 _ (by rw [u64s_len, h.s]), drop_after _ _ 5 _ (by rw [u64s_len, h.a]), List.drop_append_of_le_length (by rw [u8s_len, h.p]; omega), pcells]
  simp [u8s]
theorem Pok.part {R S A : List Nat} {p q : List UInt8} (h : Pok R S A p) (hq : q.length = 16) : Pok R S A q := ⟨h.r, h.s, h.a, hq⟩
theorem Pok.sum {R S A A' : List Nat} {p : List UInt8} (h : Pok R S A p) (hq : A'.length = 5) : Pok R S A' p := ⟨h.r, h.s, hq, h.p⟩

/-- A sum is stored into a Poly. -/
theorem wpList_store_sum {ops : Array Oper} {rest : List Oper} {o : Oper} {a : Act} {w : World} {Q : Exit → Act → World → Prop} (hgd : o.guard = none) (x y : Operand) (ho : o.op = .store 96 x y)
    (g : Nat) (hx : a.eval x = .pointer (some ⟨g, 10, none⟩)) {R S A A' : List Nat} {p : List UInt8} {n : Nat} (hy : a.eval y = .agg (row5 A')) (hA : A'.length = 5) (hp : Pok R S A p) (hg : Arr w g (pcells R S A p n) 100)
    (h : wpList Tryd.prog ops Q rest (a.put o.dst undef) (w.setRow g (pcells R S A' p n))) : wpList Tryd.prog ops Q (o :: rest) a w := by
  refine wpList_plain hgd fun K hK => ?_
  have hst := run_storeCells_at Tryd.prog g 10 100 (u64s A') 0 _ w hg (by rw [u64s_len, hA, pcells_size n hp]; omega) (fun v hv => by
    simp only [u64s, List.mem_map] at hv
    obtain ⟨b, _, rfl⟩ := hv
    rfl)
  rw [u64s_len, hA, Nat.add_zero, pcells_sum n hp hA] at hst
  have hrun : (storeVar 96 ⟨g, 10, none⟩ (.agg (row5 A'))).run Tryd.prog w = .ok () (w.setRow g (pcells R S A' p n)) := by
    have hi := info_n5
    cases hq : Tryd.prog.info? 96 with
    | none => simp [hq] at hi
    | some i =>
      have hs : i.size = 5 := by simpa [hq] using hi
      have hsz : (row5 A').size = 5 := row5_size hA
      simp [storeVar, sizeOf, typeInfo, hq, Value.cells, hs, hsz]
      rw [show (row5 A').toList = u64s A' from rfl, hst]
  unfold Oper.wp execOp
  simp only [ho, hx, hy, Instr.storeAt, Instr.sureAddr, Sem.run_bind, Sem.run_pure, Result.andThen_ok, hrun]
  exact hK _ _ h
/-- 'copy(dst, s)' as one step of a region that draws. -/
theorem step_copyR {ops : Array Oper} {o : Oper} {a : Act} {w : World} {K : Act → World → Prop} {Q : Exit → Act → World → Prop} {E : Prop}
    (hg : o.guard = none) (d x : Operand) (dT sT : TypeId) (hop : o.op = Op.call { callee := Callee.builtin Builtin.copy, args := #[d, x], argTypes := #[dT, sT] })
    (v u : Value) (hd : a.eval d = v) (hx : a.eval x = u) {v' : Value} {w' : World} (hr : (Builtin.copy_ #[dT, sT] o.type #[v, u]).run Tryd.prog w = .ok v' w') (hK : K (a.put o.dst v') w') :
    if Region.wanted o (yielded ops a.tmps) = true then Oper.wp Tryd.prog o a w K Q else E := by
  have hw : Region.wanted o (yielded ops a.tmps) = true := by simp [Region.wanted, hg]
  rw [if_pos hw]
  unfold Oper.wp
  simp [execOp, hop, resolve, invoke, builtin, hd, hx, hr, Result.andThen]
  exact hK
theorem arr16_from (g o r : Nat) (hr : r ≤ 16) (w : World) :
    (Instr.sliceAt 98 (.pointer (some ⟨g, o, none⟩)) (some (.int .i64 (r : Int))) none none).run Tryd.prog w = .ok (.slice (some (if r = 16 then ⟨g, o, none⟩ else ⟨g, o + r, none⟩)) (16 - r) (16 - r)) w := by
  rw [run_sliceAt_array_l w 98 _ arrOf16 .i64 r (by omega) (by rw [arrLen16]; omega), arrElem16, Tryd.sizeOf5, arrLen16]
  simp only [Result.andThen, slicedAt, Int.toNat_natCast]
  by_cases h : r = 16
  · subst h; rfl
  · rw [if_neg (by omega), if_neg h, Nat.mul_one, addr_add]
theorem arr16_to (g o r : Nat) (hr : r ≤ 16) (hr0 : 0 < r) (w : World) :
    (Instr.sliceAt 98 (.pointer (some ⟨g, o, none⟩)) none (some (.int .i64 (r : Int))) none).run Tryd.prog w = .ok (.slice (some ⟨g, o, none⟩) r 16) w := by
  rw [run_sliceAt_array_h w 98 _ arrOf16 .i64 r (by omega) (by rw [arrLen16]; omega), arrElem16, Tryd.sizeOf5, arrLen16]
  simp only [Result.andThen, slicedAt, Int.toNat_natCast]
  rw [if_neg (by omega), Nat.zero_mul, addr_add]
  rfl
/-- The first bytes of the part, as a string. -/
theorem part_cv {w : World} {g : Nat} {R S A : List Nat} {p : List UInt8} {n : Nat} (h : Arr w g (pcells R S A p n) 100) (hp : Pok R S A p) (r : Nat) (hr : r ≤ 16) :
    (convert 42 9 (.slice (some ⟨g, 15, none⟩) r 16)).run Tryd.prog w = .ok (.string ⟨(p.take r).toArray⟩) w := by
  have hl : (p.take r).length = r := by rw [List.length_take, hp.p]; omega
  have := conv_cells w ⟨g, 15, none⟩ (p.take r) 16 (fun j v hv => by
    have hj : j < r := by have := (List.getElem?_eq_some_iff.1 hv).1; rwa [u8s_len, hl] at this
    rw [addr_add]
    refine h.cell ?_
    rw [pcells_p n hp j (by omega), ← hv]
    simp only [u8s, List.map_take]
    rw [List.getElem?_take, if_pos hj])
  rw [hl] at this
  exact this

theorem drop_past {α : Type} (l q : List α) (n m : Nat) (h : l.length ≤ n) (hm : n - l.length = m) : (l ++ q).drop n = q.drop m := by
  rw [List.drop_append, List.drop_eq_nil_of_le h, List.nil_append, hm]
/-- A block more. -/
theorem acc_step {A z R : List Nat} {r : Nat} {t b : List UInt8} {m : Nat} (hA : numP A % PP = accN r t m) (hR : numP R = r) (hb : b = partL t m) (hz : numP z % PP = (numP A + (numLow b + 256 ^ b.length)) * numP R % PP) : numP z % PP = accN r t (m + 1) := by
  rw [accN, hz, hR, ← hb, ← hA, Nat.mul_mod, ← Nat.mod_add_mod, ← Nat.mul_mod]
/-- Little enough comes that no block gets whole. -/
theorem add_smallP {key l q p : List UInt8} {A : List Nat} (h : Pst key l A p) (hs : l.length % 16 + q.length < 16) :
    Pst key (l ++ q) A (p.take (l.length % 16) ++ q ++ p.drop (l.length % 16 + q.length)) ∧ (l ++ q).length % 16 = l.length % 16 + q.length := by
  have hd : (l ++ q).length / 16 = l.length / 16 := by rw [List.length_append]; omega
  have hm : (l ++ q).length % 16 = l.length % 16 + q.length := by rw [List.length_append]; omega
  have hr : (p.take (l.length % 16)).length = l.length % 16 := by rw [List.length_take, h.ok.p]; omega
  refine ⟨⟨h.ok.part (by simp only [List.length_append, hr, List.length_drop, h.ok.p]; omega), h.lt, by rw [hd, accN_append _ _ _ _ (by omega), h.num], ?_⟩, hm⟩
  rw [hd, hm, List.take_append_of_le_length (by rw [List.length_append, hr]; exact Nat.le_refl _), List.take_of_length_le (by rw [List.length_append, hr]; exact Nat.le_refl _), List.drop_append_of_le_length (by omega), h.part]
/-- A block gets whole. -/
theorem add_block {key l q p : List UInt8} {A : List Nat} (h : Pst key l A p) (hs : 16 ≤ l.length % 16 + q.length) :
    (p.take (l.length % 16) ++ q.take (16 - l.length % 16)).length = 16 ∧ p.take (l.length % 16) ++ q.take (16 - l.length % 16) = partL (l ++ q) (l.length / 16) := by
  have hr : (p.take (l.length % 16)).length = l.length % 16 := by rw [List.length_take, h.ok.p]; omega
  refine ⟨by rw [List.length_append, hr, List.length_take]; omega, ?_⟩
  have hl : (l.drop (16 * (l.length / 16))).length = l.length % 16 := by rw [List.length_drop]; omega
  rw [partL, List.drop_append_of_le_length (by omega), List.take_append (l₁ := l.drop _), List.take_of_length_le (l := l.drop _) (by omega), hl, h.part]
theorem add_next (l q : List UInt8) (k : Nat) (_ : 16 ≤ l.length % 16 + q.length) : (q.drop (16 - l.length % 16 + 16 * k)).take 16 = partL (l ++ q) (l.length / 16 + 1 + k) := by
  rw [partL, drop_past l q _ (16 - l.length % 16 + 16 * k) (by omega) (by omega)]
theorem add_end {key l q p rest : List UInt8} {A B : List Nat} {k : Nat} (h : Pst key l A p) (hB : B.length = 5) (hb : ∀ z ∈ B, z < 67108864) (hn : numP B % PP = accN (keyR key) (l ++ q) (l.length / 16 + 1 + k))
    (blk : List UInt8) (hblk : blk.length = 16) (_ : 16 ≤ l.length % 16 + q.length) (hk : 16 - l.length % 16 + 16 * k ≤ q.length) (hk2 : q.length < 16 - l.length % 16 + 16 * k + 16) (hr : rest = q.drop (16 - l.length % 16 + 16 * k)) :
    Pst key (l ++ q) B (rest ++ blk.drop rest.length) ∧ (l ++ q).length % 16 = rest.length := by
  have hd : (l ++ q).length / 16 = l.length / 16 + 1 + k := by rw [List.length_append]; omega
  have hl : rest.length = q.length - (16 - l.length % 16 + 16 * k) := by rw [hr, List.length_drop]
  have hm : (l ++ q).length % 16 = rest.length := by rw [hl, List.length_append]; omega
  refine ⟨⟨⟨h.ok.r, h.ok.s, hB, by rw [List.length_append, List.length_drop, hblk]; omega⟩, hb, by rw [hd, hn], ?_⟩, hm⟩
  rw [hm, hd, List.take_append_of_le_length (Nat.le_refl _), List.take_of_length_le (Nat.le_refl _), hr, drop_past l q _ (16 - l.length % 16 + 16 * k) (by omega) (by omega)]
end Go.Proofs.YtfflpooiebeagaaDoor
namespace Go.Proofs.YtfflpooiebeagaaDoor
open Go.RowKit

set_option maxHeartbeats 1000000 in
set_option maxRecDepth 100000 in
theorem padd_small (g : Nat) (key l : List UInt8) (t : ByteArray) (w : World) (h : PolyOf w g key l) (hs : l.length % 16 + t.size < 16) :
    Calls Tryd.prog 34 #[.pointer (some ⟨g, 0, none⟩), .string t] w fun e w' => e = .returned (.tuple #[]) ∧ PolyOf w' g key (l ++ t.data.toList) ∧ Fr g w w' := by
  obtain ⟨A, p, hp, ha⟩ := h
  have htl : t.data.toList.length = t.size := by simp
  obtain ⟨hq, hm⟩ := add_smallP (q := t.data.toList) hp (by omega)
  obtain ⟨r, hr⟩ : ∃ r, r = l.length % 16 := ⟨_, rfl⟩
  rw [← hr] at ha hs hq hm
  rw [htl] at hq hm
  have hok := hp.ok
  have c1 : w.drew.cell? ⟨g, 31, none⟩ = some (.int .i64 (r : Int)) := ha.drew.cell (pcells_n r hok)
  have hsl := arr16_from g 15 r (by omega)
  rw [if_neg (show ¬ r = 16 by omega)] at hsl
  have hcp := run_copy_str w.drew 3 g (15 + r) (16 - r) (16 - r) t.size t _ _ (by omega) ha.drew (by rw [pcells_size r hok]; omega)
  rw [take_all, pcells_copy r hok t.data.toList r t.size htl (by omega)] at hcp
  have ha1 := ha.drew.row (pcells (partsP (keyR key) 5) (partsP (keyS key) 5) A (p.take r ++ t.data.toList ++ p.drop (r + t.size)) r)
  obtain ⟨w1, hw1⟩ : ∃ w1, w1 = w.drew.setRow g (pcells (partsP (keyR key) 5) (partsP (keyS key) 5) A (p.take r ++ t.data.toList ++ p.drop (r + t.size)) r) := ⟨_, rfl⟩
  rw [← hw1] at hcp ha1
  have hfr : Fr g w w1 := by rw [hw1]; exact ((Fr.refl g w).drew).row _
  have c2 : w1.cell? ⟨g, 31, none⟩ = some (.int .i64 (r : Int)) := ha1.cell (pcells_n r hq.ok)
  have f2 := ha1.frozen 31
  have ha2 := ha1.set 31 (.int .i64 ((r + t.size : Nat) : Int))
  rw [pcells_setN r _ hq.ok] at ha2
  have HR : Hid (PolyOf (w1.setCell ⟨g, 31, none⟩ (.int .i64 ((r + t.size : Nat) : Int))) g key (l ++ t.data.toList)) := ⟨_, _, hq, by rw [hm]; exact ha2⟩
  have HFr := Lib.hid (hfr.self (p := ⟨g, 31, none⟩) rfl (.int .i64 ((r + t.size : Nat) : Int)))
  rw [Int.natCast_add] at HR HFr
  have k0 : (0 : Int) ≤ (r : Int) := by omega
  have hsi : (r : Int) + (t.size : Int) < 16 := by omega
  clear hp ha htl hq hm hr hok hw1 hfr ha1 ha2
  go_enter Tryd.func34, Tryd.ntmps34
  go_wp2
  go_region_law (refine step_copyR rfl _ _ 42 9 rfl _ _ rfl rfl hcp ?_)
  go_wp2
  exact bodyPost_ret (results_none rfl _ _ _) rfl ⟨rfl, HR.out, HFr.out⟩

/-- What is known behind k blocks more. -/
structure Mor (g : Nat) (key l : List UInt8) (t : ByteArray) (blk : List UInt8) (w : World) (k : Nat) (v : Value) (wr : World) : Prop where
  str : ∃ X : ByteArray, v = .string X ∧ X.data.toList = t.data.toList.drop (16 - l.length % 16 + 16 * k) ∧ 16 - l.length % 16 + 16 * k + X.size = t.size
  st : ∃ B, B.length = 5 ∧ (∀ z ∈ B, z < 67108864) ∧ numP B % PP = accN (keyR key) (l ++ t.data.toList) (l.length / 16 + 1 + k) ∧ Arr wr g (pcells (partsP (keyR key) 5) (partsP (keyS key) 5) B blk 16) 100
  fr : Fr g w wr
theorem strSize (X : ByteArray) : X.data.toList.length = X.size := by simp
def strLen (v : Value) : Nat := match v with | .string X => X.size | _ => 0

set_option maxHeartbeats 2000000 in
set_option maxRecDepth 100000 in
theorem padd_big (g : Nat) (key l : List UInt8) (t : ByteArray) (w : World) (h : PolyOf w g key l) (hs : 16 ≤ l.length % 16 + t.size) :
    Calls Tryd.prog 34 #[.pointer (some ⟨g, 0, none⟩), .string t] w fun e w' => e = .returned (.tuple #[]) ∧ PolyOf w' g key (l ++ t.data.toList) ∧ Fr g w w' := by
  obtain ⟨A, p, hp, ha⟩ := h
  have htl := strSize t
  obtain ⟨hbl, hbp⟩ := add_block (q := t.data.toList) hp (by omega)
  have hok := hp.ok
  have hRn := partsP_of _ (keyR_lt key)
  have hRb := partsP_lt (keyR key) 5
  have hnum := hp.num
  have hlt := hp.lt
  have HN := Lib.hid (fun k => add_next l t.data.toList k (by omega))
  have HE := Lib.hid (fun rest B k hB hb hn blk hblk h1 h2 h3 => add_end (q := t.data.toList) (rest := rest) (B := B) (k := k) hp hB hb hn blk hblk (by omega) h1 h2 h3)
  obtain ⟨r, hr⟩ : ∃ r, r = l.length % 16 := ⟨_, rfl⟩
  obtain ⟨d, hd⟩ : ∃ d, d = 16 - r := ⟨_, rfl⟩
  have hrl : r < 16 := by omega
  rw [← hr] at ha hs hbl hbp
  rw [← hd] at hbl hbp
  have c1 : w.drew.cell? ⟨g, 31, none⟩ = some (.int .i64 (r : Int)) := ha.drew.cell (pcells_n r hok)
  have hsl := arr16_from g 15 r (by omega)
  rw [if_neg (show ¬ r = 16 by omega), ← hd] at hsl
  have htk : (t.data.toList.take d).length = d := by rw [List.length_take, htl]; omega
  have hcp := run_copy_str w.drew 3 g (15 + r) d d d t _ _ (by omega) ha.drew (by rw [pcells_size r hok]; omega)
  have hpd : p.drop (r + d) = [] := List.drop_eq_nil_of_le (by rw [hok.p]; omega)
  rw [pcells_copy r hok (t.data.toList.take d) r d htk (by omega), hpd, List.append_nil] at hcp
  obtain ⟨blk, hblk⟩ : ∃ blk, blk = p.take r ++ t.data.toList.take d := ⟨_, rfl⟩
  rw [← hblk] at hcp hbl hbp
  have ha1 := ha.drew.row (pcells (partsP (keyR key) 5) (partsP (keyS key) 5) A blk r)
  have hok1 := hok.part hbl
  obtain ⟨w1, hw1⟩ : ∃ w1, w1 = w.drew.setRow g (pcells (partsP (keyR key) 5) (partsP (keyS key) 5) A blk r) := ⟨_, rfl⟩
  rw [← hw1] at hcp ha1
  have hfr : Fr g w w1 := by rw [hw1]; exact ((Fr.refl g w).drew).row _
  have c2 : w1.cell? ⟨g, 31, none⟩ = some (.int .i64 (r : Int)) := ha1.cell (pcells_n r hok1)
  have f2 := ha1.frozen 31
  have ha2 := ha1.set 31 (.int .i64 ((16 : Nat) : Int))
  rw [pcells_setN r _ hok1] at ha2
  have hfr2 := hfr.self (p := ⟨g, 31, none⟩) rfl (.int .i64 ((16 : Nat) : Int))
  rw [show ((16 : Nat) : Int) = 16 from rfl] at ha2 hfr2
  have a3 := arr16_all g 15
  have cv := part_cv ha2 hok1 16 (by omega)
  rw [List.take_of_length_le (by rw [hbl]; exact Nat.le_refl _)] at cv
  have hnx := next_any g _ _ A blk 16 hok1 hlt hRb ⟨blk.toArray⟩ (by show blk.toArray.size ≤ 16; rw [List.size_toArray, hbl]; exact Nat.le_refl _) _ ha2
  have hBs : (ByteArray.mk blk.toArray).size = blk.length := by show blk.toArray.size = _; rw [List.size_toArray]
  rw [hBs, show (ByteArray.mk blk.toArray).data.toList = blk by simp] at hnx
  have HNx := Lib.hid hnx
  have HA2 := Lib.hid ha2
  have HFr2 := Lib.hid hfr2
  have HBp := Lib.hid hbp
  have HBl := Lib.hid hbl
  have HNum := Lib.hid (hnum.trans (accN_append _ _ t.data.toList _ (by omega)).symm)
  have HRn := Lib.hid hRn
  have HOk := Lib.hid hok1
  have HR := Lib.hid hr
  have HRb := Lib.hid hRb
  have hst := slice_from t d (by omega)
  obtain ⟨X0, hX0⟩ : ∃ X0, X0 = t.extract d t.size := ⟨_, rfl⟩
  rw [← hX0] at hst
  have hX0l : X0.data.toList = t.data.toList.drop d := by rw [hX0, ext_toList, List.take_of_length_le (by rw [List.length_drop, htl]; exact Nat.le_refl _)]
  have hX0s : d + X0.size = t.size := by rw [hX0, ext_size _ _ _ (Nat.le_refl _)]; omega
  have HX0 := Lib.hid (And.intro hX0l hX0s)
  have hdl : d = 16 - l.length % 16 := by rw [hd, hr]
  have HD := Lib.hid hdl
  have hrd : (r : Int) + (d : Int) = 16 := by omega
  have k0 : (0 : Int) ≤ (r : Int) := by omega
  generalize (ByteArray.mk blk.toArray) = BB at *
  clear hp ha htl hbp hbl hok hRn hRb hnum hlt hpd htk hblk ha1 hok1 hfr ha2 hfr2 hnx hBs hX0l hX0s hX0 hw1 hd hr hdl hs
  go_enter Tryd.func34, Tryd.ntmps34
  go_wp2
  go_region_law (refine step_copyR rfl _ _ 42 9 rfl _ _ rfl rfl hcp ?_)
  go_wp2_with (first
    | (go_at_call 50; (with_reducible refine HNx.out.mono ?_); rintro e w3 ⟨⟨z, rfl, hz5, hzb, hzn⟩, hb3⟩; have HA3 := Lib.hid (HA2.out.next hb3); have HFr3 := Lib.hid (HFr2.out.thenB hb3 (Nat.le_refl _)))
    | (with_reducible refine wpList_store_sum rfl _ _ rfl g rfl rfl hz5 HOk.out HA3.out ?_))
  have HM : Hid (Mor g key l t blk w 0 (.string X0) (w3.setRow g (pcells (partsP (keyR key) 5) (partsP (keyS key) 5) z blk 16))) := by
    refine ⟨⟨X0, rfl, by rw [HX0.out.1, HD.out]; rfl, by rw [← HD.out]; exact HX0.out.2⟩, ⟨z, hz5, hzb, ?_, HA3.out.row _⟩, HFr3.out.row _⟩
    exact acc_step HNum.out HRn.out HBp.out hzn
  generalize w3.setRow g (pcells (partsP (keyR key) 5) (partsP (keyS key) 5) z blk 16) = w4 at *
  clear HNx HA2 HFr2 HBp HNum HX0 HA3 HFr3 hb3 hzb hzn hst cv a3 c1 c2 f2 hsl hcp
  go_loopw [1] (fun v wr => ∃ k, Mor g key l t blk w k v wr) (fun v _ => strLen v)
  case atStart => exact ⟨0, HM.out⟩
  case round =>
    clear HM
    obtain ⟨k, ⟨X, rfl, hXl, hXs⟩, ⟨B, hB5, hBb, hBn, hBa⟩, hfr⟩ := hrel
    have hokB := HOk.out.sum hB5
    have HFr := Lib.hid hfr
    have HA := Lib.hid hBa
    by_cases h16 : 16 ≤ X.size
    · have h16i : (16 : Int) ≤ (X.size : Int) := by omega
      have s1 := slice_to X 16 h16
      have s2 := slice_from X 16 h16
      rw [show ((16 : Nat) : Int) = 16 from rfl] at s1 s2
      have hl1 := ext_toList X 0 16
      have hl2 := ext_toList X 16 X.size
      rw [List.drop_zero, Nat.sub_zero] at hl1
      rw [List.take_of_length_le (by rw [List.length_drop, strSize]; exact Nat.le_refl _)] at hl2
      have z1 : (X.extract 0 16).size = 16 := by rw [ext_size _ _ _ h16]
      have z2 : (X.extract 16 X.size).size + 16 = X.size := by rw [ext_size _ _ _ (Nat.le_refl _)]; omega
      obtain ⟨b, hb⟩ : ∃ b, b = X.extract 0 16 := ⟨_, rfl⟩
      obtain ⟨Y, hY⟩ : ∃ Y, Y = X.extract 16 X.size := ⟨_, rfl⟩
      rw [← hb] at s1 hl1 z1
      rw [← hY] at s2 hl2 z2
      have hnx := next_any g _ _ B blk 16 hokB hBb HRb.out b (by omega) wr hBa
      rw [← strSize b] at hnx
      have HNx := Lib.hid hnx
      have hbl : b.data.toList = partL (l ++ t.data.toList) (l.length / 16 + 1 + k) := by rw [hl1, hXl, HN.out]
      have HBl2 := Lib.hid hbl
      have HBn := Lib.hid hBn
      have HOkB := Lib.hid hokB
      have HY := Lib.hid (show Y.data.toList = t.data.toList.drop (16 - l.length % 16 + 16 * (k + 1)) ∧ 16 - l.length % 16 + 16 * (k + 1) + Y.size = t.size by
        refine ⟨?_, by omega⟩
        rw [hl2, hXl, List.drop_drop]
        congr 1)
      have HYs := Lib.hid z2
      clear hXl hXs hBb hBn hBa hokB hfr hl1 hl2 z1 z2 hb hY hnx hbl
      go_wp2_with (first
        | (go_at_call 50; (with_reducible refine HNx.out.mono ?_); rintro e w5 ⟨⟨z, rfl, hz5, hzb, hzn⟩, hb5⟩; have HA5 := Lib.hid (HA.out.next hb5); have HFr5 := Lib.hid (HFr.out.thenB hb5 (Nat.le_refl _)))
        | (with_reducible refine wpList_store_sum rfl _ _ rfl g rfl rfl hz5 HOkB.out HA5.out ?_))
      go_roundw
      case rel => exact ⟨k + 1, ⟨⟨Y, rfl, HY.out⟩, ⟨z, hz5, hzb, acc_step HBn.out HRn.out HBl2.out hzn, HA5.out.row _⟩, HFr5.out.row _⟩⟩
      case measure => have := HYs.out; simp only [strLen]; omega
    · have h16i : ¬ (16 : Int) ≤ (X.size : Int) := by omega
      have hcp := run_copy_str wr 3 g 15 16 16 X.size X _ _ (by omega) hBa (by rw [pcells_size 16 hokB]; omega)
      have hcc := pcells_copy (n := 16) hokB X.data.toList 0 X.size (strSize X) (by omega)
      rw [show 15 + 0 = 15 from rfl, List.take_zero, List.nil_append, Nat.zero_add] at hcc
      rw [take_all, hcc] at hcp
      obtain ⟨hps, hpm⟩ := HE.out X.data.toList B k hB5 hBb hBn blk HBl.out (by rw [strSize]; omega) (by rw [strSize]; omega) hXl
      rw [strSize] at hps hpm
      have ha6 := hBa.row (pcells (partsP (keyR key) 5) (partsP (keyS key) 5) B (X.data.toList ++ blk.drop X.size) 16)
      have hfr6 := hfr.row (pcells (partsP (keyR key) 5) (partsP (keyS key) 5) B (X.data.toList ++ blk.drop X.size) 16)
      generalize wr.setRow g (pcells (partsP (keyR key) 5) (partsP (keyS key) 5) B (X.data.toList ++ blk.drop X.size) 16) = w6 at *
      have c6 : w6.cell? ⟨g, 31, none⟩ = some (.int .i64 ((16 : Nat) : Int)) := ha6.cell (pcells_n 16 hps.ok)
      have f6 := ha6.frozen 31
      have ha7 := ha6.set 31 (.int .i64 (X.size : Int))
      rw [pcells_setN 16 _ hps.ok] at ha7
      have HR7 : Hid (PolyOf (w6.setCell ⟨g, 31, none⟩ (.int .i64 (X.size : Int))) g key (l ++ t.data.toList)) := ⟨_, _, hps, by rw [hpm]; exact ha7⟩
      have HFr7 := Lib.hid (hfr6.self (p := ⟨g, 31, none⟩) rfl (.int .i64 (X.size : Int)))
      have a3 := arr16_all g 15
      clear hXl hXs hB5 hBb hBn hBa hokB hfr HFr HA hcc hps hpm ha6 hfr6 ha7
      go_wp2_with (with_reducible refine Lib.wpList_copy_run _ rfl _ _ 42 9 rfl _ _ rfl rfl hcp ?_)
      go_end0
      exact ⟨rfl, HR7.out, HFr7.out⟩

/-- Add: whatever comes; but for the Poly all is as it was. -/
theorem padd_fr (g : Nat) (key l : List UInt8) (t : ByteArray) (w : World) (h : PolyOf w g key l) :
    Calls Tryd.prog 34 #[.pointer (some ⟨g, 0, none⟩), .string t] w fun e w' => e = .returned (.tuple #[]) ∧ PolyOf w' g key (l ++ t.data.toList) ∧ Fr g w w' := by
  by_cases hs : l.length % 16 + t.size < 16
  · exact padd_small g key l t w h hs
  · exact padd_big g key l t w h (by omega)
end Go.Proofs.YtfflpooiebeagaaDoor
namespace Go.Proofs.YtfflpooiebeagaaDoor
open Go.RowKit

/-- What the tag's last steps read: the sum, a Poly; and all else is as it was. -/
structure TagS (w : World) (g gs : Nat) (C : Array Value) (B : List Nat) (w' : World) : Prop where
  b : Arr w' gs (row5 B) 96
  o : Arr w' g C 100
  bel : Below w.heap.size w w'
theorem TagS.next {w w' w'' : World} {g gs : Nat} {C : Array Value} {B : List Nat} (h : TagS w g gs C B w') (hb : Below w'.heap.size w' w'') : TagS w g gs C B w'' := ⟨h.b.next hb, h.o.next hb, h.bel.trans (hb.mono h.bel.size)⟩
theorem TagS.alloc {w w' : World} {g gs : Nat} {C : Array Value} {B : List Nat} (h : TagS w g gs C B w') (o : Obj) : TagS w g gs C B (w'.alloc o) := ⟨h.b.alloc _, h.o.alloc _, h.bel.alloc h.bel.size _⟩
theorem TagS.drew {w w' : World} {g gs : Nat} {C : Array Value} {B : List Nat} (h : TagS w g gs C B w') : TagS w g gs C B w'.drew := ⟨h.b.drew, h.o.drew, h.bel.drew⟩
/-- The cells' part of it alone, behind a store elsewhere. -/
structure TagC (g gs : Nat) (C : Array Value) (B : List Nat) (w' : World) : Prop where
  b : Arr w' gs (row5 B) 96
  o : Arr w' g C 100
theorem TagS.toC {w w' : World} {g gs : Nat} {C : Array Value} {B : List Nat} (h : TagS w g gs C B w') : TagC g gs C B w' := ⟨h.b, h.o⟩
theorem TagC.set {w' : World} {g gs gt : Nat} {C : Array Value} {B : List Nat} (h1 : g ≠ gt) (h2 : gs ≠ gt) (h : TagC g gs C B w') (i : Nat) (v : Value) : TagC g gs C B (w'.setCell ⟨gt, i, none⟩ v) := ⟨h.b.other _ _ h2, h.o.other _ _ h1⟩
theorem TagS.sets {w w' : World} {g gs gt : Nat} {C : Array Value} {B : List Nat} (h : TagS w g gs C B w') (h1 : g ≠ gt) (h2 : gs ≠ gt) (v0 v1 v2 v3 v4 : Nat) : TagC g gs C B (World.setCell (World.setCell (World.setCell (World.setCell (World.setCell w' ⟨gt, 0, none⟩ (.int .u64 (v0 : Int))) ⟨gt, 1, none⟩ (.int .u64 (v1 : Int))) ⟨gt, 2, none⟩ (.int .u64 (v2 : Int))) ⟨gt, 3, none⟩ (.int .u64 (v3 : Int))) ⟨gt, 4, none⟩ (.int .u64 (v4 : Int))) := ⟨five5_other h.b h2 v0 v1 v2 v3 v4, five5_other h.o h1 v0 v1 v2 v3 v4⟩
theorem tag_cells {w' : World} {g gs n : Nat} {b0 b1 b2 b3 b4 s0 s1 s2 s3 s4 : Nat} {R A : List Nat} {p : List UInt8} (hp : Pok R [s0, s1, s2, s3, s4] A p) (h : TagC g gs (pcells R [s0, s1, s2, s3, s4] A p n) [b0, b1, b2, b3, b4] w') :
    w'.cell? ⟨gs, 0, none⟩ = some (.int .u64 (b0 : Int)) ∧ w'.cell? ⟨gs, 1, none⟩ = some (.int .u64 (b1 : Int)) ∧ w'.cell? ⟨gs, 2, none⟩ = some (.int .u64 (b2 : Int)) ∧ w'.cell? ⟨gs, 3, none⟩ = some (.int .u64 (b3 : Int)) ∧ w'.cell? ⟨gs, 4, none⟩ = some (.int .u64 (b4 : Int)) ∧ w'.cell? ⟨g, 5, none⟩ = some (.int .u64 (s0 : Int)) ∧ w'.cell? ⟨g, 6, none⟩ = some (.int .u64 (s1 : Int)) ∧ w'.cell? ⟨g, 7, none⟩ = some (.int .u64 (s2 : Int)) ∧ w'.cell? ⟨g, 8, none⟩ = some (.int .u64 (s3 : Int)) ∧ w'.cell? ⟨g, 9, none⟩ = some (.int .u64 (s4 : Int)) :=
  ⟨h.b.at5 0 (by simp), h.b.at5 1 (by simp), h.b.at5 2 (by simp), h.b.at5 3 (by simp), h.b.at5 4 (by simp),
   h.o.cell (by rw [pcells_s n hp 0 (by decide)]; rfl), h.o.cell (by rw [pcells_s n hp 1 (by decide)]; rfl), h.o.cell (by rw [pcells_s n hp 2 (by decide)]; rfl), h.o.cell (by rw [pcells_s n hp 3 (by decide)]; rfl), h.o.cell (by rw [pcells_s n hp 4 (by decide)]; rfl)⟩
/-- The tag's number in memory. -/
structure TagE (w : World) (gt : Nat) (N : List Nat) (T : Nat) (wx : World) : Prop where
  len : N.length = 5
  lt : ∀ z ∈ N, z < 67108864
  num : numP N % 256 ^ 16 = T % 256 ^ 16
  arr : Arr wx gt (row5 N) 96
  bel : Below w.heap.size w wx
theorem tag_num {a T S y v D : Nat} (hB : a % PP = T) (hy : y = a % PP) (hv : v + TB * D = y + S) : v % 256 ^ 16 = (T + S) % 256 ^ 16 := by
  rw [← hB, ← hy, ← hv, TB_eq, Nat.mul_assoc, Nat.add_mul_mod_self_left]
theorem tagE_a {w w3 : World} {gt a T S y D : Nat} {S' : List Nat} {v0 v1 v2 v3 v4 : Nat} (hz : Arr w3 gt zero5 96) (hb : Below w.heap.size w w3) (hg : w.heap.size ≤ gt) (hvb : ∀ z ∈ [v0, v1, v2, v3, v4], z < 67108864) (hB : a % PP = T) (hy : y = a % PP) (sn : numP S' = S) (hv : numP [v0, v1, v2, v3, v4] + TB * D = y + numP S') :
    TagE w gt [v0, v1, v2, v3, v4] (T + S) (World.setCell (World.setCell (World.setCell (World.setCell (World.setCell w3 ⟨gt, 0, none⟩ (.int .u64 (v0 : Int))) ⟨gt, 1, none⟩ (.int .u64 (v1 : Int))) ⟨gt, 2, none⟩ (.int .u64 (v2 : Int))) ⟨gt, 3, none⟩ (.int .u64 (v3 : Int))) ⟨gt, 4, none⟩ (.int .u64 (v4 : Int))) :=
  ⟨rfl, hvb, tag_num hB hy (sn ▸ hv), five5_arr hz, five5_below hb hg v0 v1 v2 v3 v4⟩
theorem tagE_d {w w3 : World} {a T S y D : Nat} {S' : List Nat} {v0 v1 v2 v3 v4 : Nat} (hb : Below w.heap.size w w3) (hvb : ∀ z ∈ [v0, v1, v2, v3, v4], z < 67108864) (hB : a % PP = T) (hy : y = a % PP) (sn : numP S' = S) (hv : numP [v0, v1, v2, v3, v4] + TB * D = y + numP S') :
    TagE w w3.heap.size [v0, v1, v2, v3, v4] (T + S) (w3.alloc (.cells #[.int .u64 (v0 : Int), .int .u64 (v1 : Int), .int .u64 (v2 : Int), .int .u64 (v3 : Int), .int .u64 (v4 : Int)] 96)) :=
  ⟨rfl, hvb, tag_num hB hy (sn ▸ hv), Arr.new w3 (row5 [v0, v1, v2, v3, v4]) _, hb.alloc hb.size _⟩
/-- A Poly's sum is loaded. -/
theorem wpList_load_sum {ops : Array Oper} {rest : List Oper} {o : Oper} {a : Act} {w : World} {Q : Exit → Act → World → Prop} (hgd : o.guard = none) (x : Operand) (ho : o.op = .load 96 x)
    (g : Nat) (hx : a.eval x = .pointer (some ⟨g, 10, none⟩)) {R S A : List Nat} {p : List UInt8} {n : Nat} (hp : Pok R S A p) (hg : Arr w g (pcells R S A p n) 100)
    (h : wpList Tryd.prog ops Q rest (a.put o.dst (.agg (row5 A))) w) : wpList Tryd.prog ops Q (o :: rest) a w := by
  refine wpList_load_mid hgd 96 x ho g 10 hx (u64s A) _ ?_ Tryd.underlying96 rfl (by rw [u64s_len, hp.a]; exact info_n5) h
  intro j v hv
  have hj : j < 5 := by have := (List.getElem?_eq_some_iff.1 hv).1; rwa [u64s_len, hp.a] at this
  exact hg.cell (by rw [pcells_a n hp j hj]; exact hv)
/-- What the block that isn't whole adds. -/
theorem part_held {w' : World} {g n : Nat} {R S A : List Nat} {p : List UInt8} {PT : ByteArray} (hp : Pok R S A p) (hn : n ≤ 16) (hPT : PT = ⟨(p.take n).toArray⟩) (h : Arr w' g (pcells R S A p n) 100) :
    w'.cell? ⟨g, 31, none⟩ = some (.int .i64 (n : Int)) ∧ (convert 42 9 (.slice (some ⟨g, 15, none⟩) n 16)).run Tryd.prog w' = .ok (.string PT) w' :=
  ⟨h.cell (pcells_n n hp), by rw [hPT]; exact part_cv h hp n hn⟩
theorem sum_arr {w3 : World} {gs : Nat} {A : List Nat} (hA : A.length = 5) {z0 z1 z2 z3 z4 : Nat} (h : Arr w3 gs (row5 A) 96) : Arr (World.setCell (World.setCell (World.setCell (World.setCell (World.setCell w3 ⟨gs, 0, none⟩ (.int .u64 (z0 : Int))) ⟨gs, 1, none⟩ (.int .u64 (z1 : Int))) ⟨gs, 2, none⟩ (.int .u64 (z2 : Int))) ⟨gs, 3, none⟩ (.int .u64 (z3 : Int))) ⟨gs, 4, none⟩ (.int .u64 (z4 : Int))) gs (row5 [z0, z1, z2, z3, z4]) 96 := by
  obtain ⟨a0, a1, a2, a3, a4, rfl⟩ := five A hA
  exact ((((h.set5 0 z0).set5 1 z1).set5 2 z2).set5 3 z3).set5 4 z4

theorem tag_ret {N : List Nat} {key l : List UInt8} (h : numP N % 256 ^ 16 = (accN (keyR key) l ((l.length + 15) / 16) + keyS key) % 256 ^ 16) : Ending.returned (.string ⟨(lowL (numP N) 16).toArray⟩) = .returned (.string ⟨(tagL key l).toArray⟩) := by
  rw [lowL_congr h, tagL]

set_option maxHeartbeats 4000000 in
set_option maxRecDepth 100000 in
theorem ptag_any (g : Nat) (key l : List UInt8) (hk : key.length = 32) (w : World) (h : PolyOf w g key l) :
    Calls Tryd.prog 35 #[.pointer (some ⟨g, 0, none⟩)] w fun e w' => e = .returned (.string ⟨(tagL key l).toArray⟩) ∧ Below w.heap.size w w' := by
  obtain ⟨A, p, hp, ha⟩ := h
  obtain ⟨n, hn⟩ : ∃ n, n = l.length % 16 := ⟨_, rfl⟩
  rw [← hn] at ha
  have hok := hp.ok
  have hA5 := row5_size hok.a
  have HAl := Lib.hid hok.a
  have HA1 := Lib.hid (row5_one A)
  obtain ⟨s0, s1, s2, s3, s4, hs5⟩ := five (partsP (keyS key) 5) (partsP_len _ _)
  have HSn := Lib.hid (partsP_of _ (keyS_lt key hk))
  have hSb := partsP_lt (keyS key) 5
  rw [hs5] at ha hok HSn hSb
  have HOk := Lib.hid hok
  have HPl : Hid (∀ y : List Nat, y.length = 5 → (∀ z ∈ y, z < 67108864) → ∀ w, Calls Tryd.prog 52 #[.agg (row5 y), .agg #[.int .u64 (s0 : Int), .int .u64 (s1 : Int), .int .u64 (s2 : Int), .int .u64 (s3 : Int), .int .u64 (s4 : Int)]] w fun e w' => e = .returned (.agg (row5 (sumP y [s0, s1, s2, s3, s4]))) ∧ Below w.heap.size w w') :=
    fun y h1 h2 w => plus5_any y [s0, s1, s2, s3, s4] h1 rfl (fun z hz => Nat.lt_trans (h2 z hz) (by decide)) (fun z hz => Nat.lt_trans (hSb z hz) (by decide)) w
  have HCa : Hid (∀ y : List Nat, y.length = 5 → (∀ z ∈ y, z < 67108864) → ∀ w, Calls Tryd.prog 51 #[.agg (row5 (sumP y [s0, s1, s2, s3, s4]))] w fun e w' => (∃ v0 v1 v2 v3 v4 D : Nat, e = .returned (.tuple #[.agg #[.int .u64 (v0 : Int), .int .u64 (v1 : Int), .int .u64 (v2 : Int), .int .u64 (v3 : Int), .int .u64 (v4 : Int)], .int .u64 (D : Int)]) ∧ (∀ z ∈ [v0, v1, v2, v3, v4], z < 67108864) ∧ numP [v0, v1, v2, v3, v4] + TB * D = numP y + numP [s0, s1, s2, s3, s4]) ∧ Below w.heap.size w w') := by
    intro y h1 h2 w
    refine (carried5_any (sumP y [s0, s1, s2, s3, s4]) (by rw [sumP_len _ _ h1, h1]) (fun z hz => Nat.lt_trans (sum_bound h1 rfl h2 hSb z hz) (by decide)) w).mono ?_
    rintro e w' ⟨⟨v, D, rfl, hv, hvb, _, hvn⟩, hb⟩
    obtain ⟨v0, v1, v2, v3, v4, rfl⟩ := five v hv
    rw [sumP_num _ _ h1] at hvn
    exact ⟨⟨v0, v1, v2, v3, v4, D, rfl, hvb, hvn⟩, hb⟩
  have HA := Lib.hid ha
  have hpt := hp.part
  have hlt := hp.lt
  have hnum := hp.num
  have HG := Lib.hid ha.lt
  by_cases h0 : 0 < n
  · have h0i : (0 : Int) < (n : Int) := by omega
    have hl1 : (l.length + 15) / 16 = l.length / 16 + 1 := by omega
    obtain ⟨PT, hPT⟩ : ∃ PT : ByteArray, PT = ⟨(p.take n).toArray⟩ := ⟨_, rfl⟩
    have hPl : PT.data.toList = partL l (l.length / 16) := by
      rw [hPT, hn, hpt, partL, List.take_of_length_le (by rw [List.length_drop]; omega)]
    have hPs : PT.size ≤ 16 := by rw [hPT]; show (p.take n).toArray.size ≤ 16; rw [List.size_toArray, List.length_take]; omega
    have HPT := Lib.hid hPT
    have hsl := arr16_to g 15 n (by omega) h0
    have hnx := fun w h => next_any g (partsP (keyR key) 5) [s0, s1, s2, s3, s4] A p n hok hlt (partsP_lt _ _) PT hPs w h
    have HNx : Hid (∀ w, Arr w g (pcells (partsP (keyR key) 5) [s0, s1, s2, s3, s4] A p n) 100 → Calls Tryd.prog 50 #[.pointer (some ⟨g, 0, none⟩), .string PT] w fun e w' => (∃ z0 z1 z2 z3 z4 : Nat, e = .returned (.agg #[.int .u64 (z0 : Int), .int .u64 (z1 : Int), .int .u64 (z2 : Int), .int .u64 (z3 : Int), .int .u64 (z4 : Int)]) ∧ (∀ v ∈ [z0, z1, z2, z3, z4], v < 67108864) ∧ numP [z0, z1, z2, z3, z4] % PP = accN (keyR key) l ((l.length + 15) / 16)) ∧ Below w.heap.size w w') := by
      intro w h
      refine (hnx w h).mono ?_
      rintro e w' ⟨⟨z, rfl, hz, hzb, hzn⟩, hb⟩
      obtain ⟨z0, z1, z2, z3, z4, rfl⟩ := five z hz
      refine ⟨⟨z0, z1, z2, z3, z4, rfl, hzb, ?_⟩, hb⟩
      rw [hl1]
      rw [← strSize PT] at hzn
      exact acc_step hnum (partsP_of _ (keyR_lt key)) hPl hzn
    have HN16 : Hid (n ≤ 16) := show n ≤ 16 by omega
    have hmi : (n : Int) ≤ 16 := by omega
    clear hp ha hok hs5 hSb hpt hlt hnum hPT hPl hPs hnx hn hl1 hk
    go_enter Tryd.func35, Tryd.ntmps35
    have HA0 := Lib.hid (HA.out.alloc (.cells (row5 A) 96))
    have c31 : (w.alloc (.cells (row5 A) 96)).cell? ⟨g, 31, none⟩ = some (.int .i64 (n : Int)) := HA0.out.cell (pcells_n n HOk.out)
    go_wp2_with (first
      | (with_reducible refine wpList_load_sum rfl _ rfl g rfl HOk.out HA.out ?_)
      | (with_reducible refine wpList_store_n5_new rfl _ _ rfl zero5 rfl _ rfl rfl _ rfl hA5 HA1.out ?_))
    have HS0 := Lib.hid (Arr.new w (row5 A) 96)
    have HB0 := Lib.hid ((Below.refl w.heap.size w).alloc (Nat.le_refl _) (.cells (row5 A) 96))
    obtain ⟨gs, hgs⟩ : ∃ gs, gs = w.heap.size := ⟨_, rfl⟩
    have HGs : Hid (g ≠ gs) := by rw [hgs]; exact Nat.ne_of_lt HG.out
    have HGl : Hid (w.heap.size ≤ gs) := by rw [hgs]; exact Nat.le_refl _
    rw [← hgs] at HS0 ⊢
    generalize w.alloc (.cells (row5 A) 96) = wa at *
    clear hgs c31
    go_region_held3 (fun w' => w'.cell? ⟨g, 31, none⟩ = some (.int .i64 (n : Int)) ∧ (convert 42 9 (.slice (some ⟨g, 15, none⟩) n 16)).run Tryd.prog w' = .ok (.string PT) w')
      (first
        | with_reducible exact part_held HOk.out HN16.out HPT.out HA0.out.drew
        | (guard_target =ₛ w3.cell? ⟨g, 31, none⟩ = some (.int .i64 (n : Int)) ∧ (convert 42 9 (.slice (some ⟨g, 15, none⟩) n 16)).run Tryd.prog w3 = .ok (.string PT) w3; with_reducible exact part_held HOk.out HN16.out HPT.out HA3.out)
        | with_reducible exact part_held HOk.out HN16.out HPT.out (five5_other HA3.out HGs.out z0 z1 z2 z3 z4))
      (first
        | (go_at_call 50; (with_reducible refine (HNx.out _ HA0.out.drew).mono ?_); rintro e w3 ⟨⟨z0, z1, z2, z3, z4, rfl, hzb, hzn⟩, hb3⟩; have HA3 := Lib.hid (HA0.out.drew.next hb3); have HS3 := Lib.hid (HS0.out.drew.next hb3); have n0 := HS3.out.at5 0 (by rw [HAl.out]; decide); have n1 := HS3.out.at5 1 (by rw [HAl.out]; decide); have n2 := HS3.out.at5 2 (by rw [HAl.out]; decide); have n3 := HS3.out.at5 3 (by rw [HAl.out]; decide); have n4 := HS3.out.at5 4 (by rw [HAl.out]; decide); have nf := HS3.out.frozen))
    have HW : Hid (Arr (World.setCell (World.setCell (World.setCell (World.setCell (World.setCell w3 ⟨gs, 0, none⟩ (.int .u64 (z0 : Int))) ⟨gs, 1, none⟩ (.int .u64 (z1 : Int))) ⟨gs, 2, none⟩ (.int .u64 (z2 : Int))) ⟨gs, 3, none⟩ (.int .u64 (z3 : Int))) ⟨gs, 4, none⟩ (.int .u64 (z4 : Int))) gs (row5 [z0, z1, z2, z3, z4]) 96 ∧ Arr (World.setCell (World.setCell (World.setCell (World.setCell (World.setCell w3 ⟨gs, 0, none⟩ (.int .u64 (z0 : Int))) ⟨gs, 1, none⟩ (.int .u64 (z1 : Int))) ⟨gs, 2, none⟩ (.int .u64 (z2 : Int))) ⟨gs, 3, none⟩ (.int .u64 (z3 : Int))) ⟨gs, 4, none⟩ (.int .u64 (z4 : Int))) g (pcells (partsP (keyR key) 5) [s0, s1, s2, s3, s4] A p n) 100) := ⟨sum_arr HAl.out HS3.out, five5_other HA3.out HGs.out z0 z1 z2 z3 z4⟩
    have HWb := Lib.hid (five5_below (HB0.out.drew.trans (hb3.mono HB0.out.size)) HGl.out z0 z1 z2 z3 z4)
    generalize World.setCell (World.setCell (World.setCell (World.setCell (World.setCell w3 ⟨gs, 0, none⟩ (.int .u64 (z0 : Int))) ⟨gs, 1, none⟩ (.int .u64 (z1 : Int))) ⟨gs, 2, none⟩ (.int .u64 (z2 : Int))) ⟨gs, 3, none⟩ (.int .u64 (z3 : Int))) ⟨gs, 4, none⟩ (.int .u64 (z4 : Int)) = W at *
    obtain ⟨B, hB⟩ : ∃ B, B = [z0, z1, z2, z3, z4] := ⟨_, rfl⟩
    have hBl : B.length = 5 := by rw [hB]; rfl
    rw [← hB] at hzb hzn HW
    have hBb := hzb
    have hBn := hzn
    clear hB hzb hzn HS0 HS3 HA3 HA0 hb3 HNx hsl n0 n1 n2 n3 n4 nf
    obtain ⟨b0, b1, b2, b3, b4, hB5⟩ := five B hBl
    subst hB5
    have HT0 : Hid (TagS w g gs (pcells (partsP (keyR key) 5) [s0, s1, s2, s3, s4] A p n) [b0, b1, b2, b3, b4] W) := ⟨HW.out.1, HW.out.2, HWb.out⟩
    have hle := least5_any [b0, b1, b2, b3, b4] rfl hBb
    have HLe : Hid (∀ w, Calls Tryd.prog 53 #[.agg #[.int .u64 (b0 : Int), .int .u64 (b1 : Int), .int .u64 (b2 : Int), .int .u64 (b3 : Int), .int .u64 (b4 : Int)]] w fun e w' => (∃ y, e = .returned (.agg (row5 y)) ∧ y.length = 5 ∧ (∀ z ∈ y, z < 67108864) ∧ numP y = numP [b0, b1, b2, b3, b4] % PP) ∧ Below w.heap.size w w') := hle
    have HBn := Lib.hid hBn
    clear hle hBb hBn HW HWb hBl
    go_wp2_with fail
    go_cut [4] (fun s4 wx => ∃ gt N, s4 = .pointer (some ⟨gt, 0, none⟩) ∧ TagE w gt N (accN (keyR key) l ((l.length + 15) / 16) + keyS key) wx)
    case first =>
      go_region_held3 (fun w' => w'.cell? ⟨gs, 0, none⟩ = some (.int .u64 (b0 : Int)) ∧ w'.cell? ⟨gs, 1, none⟩ = some (.int .u64 (b1 : Int)) ∧ w'.cell? ⟨gs, 2, none⟩ = some (.int .u64 (b2 : Int)) ∧ w'.cell? ⟨gs, 3, none⟩ = some (.int .u64 (b3 : Int)) ∧ w'.cell? ⟨gs, 4, none⟩ = some (.int .u64 (b4 : Int)) ∧ w'.cell? ⟨g, 5, none⟩ = some (.int .u64 (s0 : Int)) ∧ w'.cell? ⟨g, 6, none⟩ = some (.int .u64 (s1 : Int)) ∧ w'.cell? ⟨g, 7, none⟩ = some (.int .u64 (s2 : Int)) ∧ w'.cell? ⟨g, 8, none⟩ = some (.int .u64 (s3 : Int)) ∧ w'.cell? ⟨g, 9, none⟩ = some (.int .u64 (s4 : Int)))
        (first
          | (guard_target =ₛ w1.cell? ⟨gs, 0, none⟩ = some (.int .u64 (b0 : Int)) ∧ w1.cell? ⟨gs, 1, none⟩ = some (.int .u64 (b1 : Int)) ∧ w1.cell? ⟨gs, 2, none⟩ = some (.int .u64 (b2 : Int)) ∧ w1.cell? ⟨gs, 3, none⟩ = some (.int .u64 (b3 : Int)) ∧ w1.cell? ⟨gs, 4, none⟩ = some (.int .u64 (b4 : Int)) ∧ w1.cell? ⟨g, 5, none⟩ = some (.int .u64 (s0 : Int)) ∧ w1.cell? ⟨g, 6, none⟩ = some (.int .u64 (s1 : Int)) ∧ w1.cell? ⟨g, 7, none⟩ = some (.int .u64 (s2 : Int)) ∧ w1.cell? ⟨g, 8, none⟩ = some (.int .u64 (s3 : Int)) ∧ w1.cell? ⟨g, 9, none⟩ = some (.int .u64 (s4 : Int)); with_reducible exact tag_cells HOk.out HT1.out.toC)
          | (guard_target =ₛ w2.cell? ⟨gs, 0, none⟩ = some (.int .u64 (b0 : Int)) ∧ w2.cell? ⟨gs, 1, none⟩ = some (.int .u64 (b1 : Int)) ∧ w2.cell? ⟨gs, 2, none⟩ = some (.int .u64 (b2 : Int)) ∧ w2.cell? ⟨gs, 3, none⟩ = some (.int .u64 (b3 : Int)) ∧ w2.cell? ⟨gs, 4, none⟩ = some (.int .u64 (b4 : Int)) ∧ w2.cell? ⟨g, 5, none⟩ = some (.int .u64 (s0 : Int)) ∧ w2.cell? ⟨g, 6, none⟩ = some (.int .u64 (s1 : Int)) ∧ w2.cell? ⟨g, 7, none⟩ = some (.int .u64 (s2 : Int)) ∧ w2.cell? ⟨g, 8, none⟩ = some (.int .u64 (s3 : Int)) ∧ w2.cell? ⟨g, 9, none⟩ = some (.int .u64 (s4 : Int)); with_reducible exact tag_cells HOk.out HT2.out.toC)
          | (guard_target =ₛ w3.cell? ⟨gs, 0, none⟩ = some (.int .u64 (b0 : Int)) ∧ w3.cell? ⟨gs, 1, none⟩ = some (.int .u64 (b1 : Int)) ∧ w3.cell? ⟨gs, 2, none⟩ = some (.int .u64 (b2 : Int)) ∧ w3.cell? ⟨gs, 3, none⟩ = some (.int .u64 (b3 : Int)) ∧ w3.cell? ⟨gs, 4, none⟩ = some (.int .u64 (b4 : Int)) ∧ w3.cell? ⟨g, 5, none⟩ = some (.int .u64 (s0 : Int)) ∧ w3.cell? ⟨g, 6, none⟩ = some (.int .u64 (s1 : Int)) ∧ w3.cell? ⟨g, 7, none⟩ = some (.int .u64 (s2 : Int)) ∧ w3.cell? ⟨g, 8, none⟩ = some (.int .u64 (s3 : Int)) ∧ w3.cell? ⟨g, 9, none⟩ = some (.int .u64 (s4 : Int)); with_reducible exact tag_cells HOk.out HT3.out.toC)
          | (have hh1 := hg1; have hh3 := HT3; with_reducible exact tag_cells HOk.out (HT3.out.sets hg1 hg2 v0 v1 v2 v3 v4))
          | with_reducible exact tag_cells HOk.out HT0.out.drew.toC
          | with_reducible exact tag_cells HOk.out (HT0.out.alloc (.cells zero5 96)).drew.toC
          | with_reducible exact tag_cells HOk.out (HT1.out.alloc (.cells zero5 96)).toC
          | with_reducible exact tag_cells HOk.out (HT2.out.alloc (.cells zero5 96)).toC
          | with_reducible exact tag_cells HOk.out (HT3.out.alloc (.cells zero5 96)).toC
          | with_reducible exact tag_cells HOk.out (HT3.out.alloc (.cells #[.int .u64 (v0 : Int), .int .u64 (v1 : Int), .int .u64 (v2 : Int), .int .u64 (v3 : Int), .int .u64 (v4 : Int)] 96)).toC)
        (first
          | (go_at_call 53; (with_reducible refine (HLe.out (World.drew (W.alloc (.cells zero5 96)))).mono ?_); rintro e w1 ⟨⟨y, rfl, hy5, hyb, hyn⟩, hb1⟩; have HT1 := Lib.hid ((HT0.out.alloc (.cells zero5 96)).drew.next hb1); have hz1 := ((Arr.new W zero5 96).drew).next hb1; have hgl := HT0.out.bel.size; have hg1 := Nat.ne_of_lt HT0.out.o.lt; have hg2 := Nat.ne_of_lt HT0.out.b.lt)
          | (go_at_call 53; (with_reducible refine (HLe.out (World.drew W)).mono ?_); rintro e w1 ⟨⟨y, rfl, hy5, hyb, hyn⟩, hb1⟩; have HT1 := Lib.hid (HT0.out.drew.next hb1))
          | (have hzz := hz1; go_at_call 52; (with_reducible refine (HPl.out y hy5 hyb w1).mono ?_); rintro e w2 ⟨rfl, hb2⟩; have HT2 := Lib.hid (HT1.out.next hb2); have hz2 := hzz.next hb2)
          | (go_at_call 52; (with_reducible refine (HPl.out y hy5 hyb (w1.alloc (.cells zero5 96))).mono ?_); rintro e w2 ⟨rfl, hb2⟩; have HT2 := Lib.hid ((HT1.out.alloc (.cells zero5 96)).next hb2); have hz2 := (Arr.new w1 zero5 96).next hb2; have hgl := HT1.out.bel.size; have hg1 := Nat.ne_of_lt HT1.out.o.lt; have hg2 := Nat.ne_of_lt HT1.out.b.lt)
          | (go_at_call 52; (with_reducible refine (HPl.out y hy5 hyb w1).mono ?_); rintro e w2 ⟨rfl, hb2⟩; have HT2 := Lib.hid (HT1.out.next hb2))
          | (have hzz := hz2; go_at_call 51; (with_reducible refine (HCa.out y hy5 hyb w2).mono ?_); rintro e w3 ⟨⟨v0, v1, v2, v3, v4, D, rfl, hvb, hvn⟩, hb3⟩; have HT3 := Lib.hid (HT2.out.next hb3); have hz3 := hzz.next hb3; have n0 := hz3.cell (j := 0) (v := .int .u64 0) rfl; have n1 := hz3.cell (j := 1) (v := .int .u64 0) rfl; have n2 := hz3.cell (j := 2) (v := .int .u64 0) rfl; have n3 := hz3.cell (j := 3) (v := .int .u64 0) rfl; have n4 := hz3.cell (j := 4) (v := .int .u64 0) rfl; have nf := hz3.frozen)
          | (go_at_call 51; (with_reducible refine (HCa.out y hy5 hyb (w2.alloc (.cells zero5 96))).mono ?_); rintro e w3 ⟨⟨v0, v1, v2, v3, v4, D, rfl, hvb, hvn⟩, hb3⟩; have HT3 := Lib.hid ((HT2.out.alloc (.cells zero5 96)).next hb3); have hz3 := (Arr.new w2 zero5 96).next hb3; have hgl := HT2.out.bel.size; have hg1 := Nat.ne_of_lt HT2.out.o.lt; have hg2 := Nat.ne_of_lt HT2.out.b.lt; have n0 := hz3.cell (j := 0) (v := .int .u64 0) rfl; have n1 := hz3.cell (j := 1) (v := .int .u64 0) rfl; have n2 := hz3.cell (j := 2) (v := .int .u64 0) rfl; have n3 := hz3.cell (j := 3) (v := .int .u64 0) rfl; have n4 := hz3.cell (j := 4) (v := .int .u64 0) rfl; have nf := hz3.frozen)
          | (go_at_call 51; (with_reducible refine (HCa.out y hy5 hyb w2).mono ?_); rintro e w3 ⟨⟨v0, v1, v2, v3, v4, D, rfl, hvb, hvn⟩, hb3⟩; have HT3 := Lib.hid (HT2.out.next hb3)))
      all_goals
        go_wp2_with fail
        go_meet
        first
          | exact ⟨_, _, rfl, tagE_a hz3 HT3.out.bel hgl hvb HBn.out hyn HSn.out hvn⟩
          | exact ⟨_, _, rfl, tagE_d HT3.out.bel hvb HBn.out hyn HSn.out hvn⟩
    case rest =>
      obtain ⟨gt, N, rfl, hE⟩ := hcut
      have hN5 := row5_size hE.len
      have HTo := Lib.hid (fun w => told5_any N hE.len hE.lt w)
      have HAr := Lib.hid hE.arr
      have HBe := Lib.hid hE.bel
      have HNu := Lib.hid (hE.num : numP N % 256 ^ 16 = _)
      clear hE
      go_wp2_with (first
        | (with_reducible refine wpList_load_n5 rfl _ rfl gt rfl _ hN5 HAr.out ?_)
        | (go_at_call 54; (with_reducible refine (HTo.out _).mono ?_); rintro e w9 ⟨rfl, hb9⟩))
      go_ret
      exact ⟨tag_ret HNu.out, HBe.out.trans (hb9.mono HBe.out.size)⟩
  · have h0i : ¬ (0 : Int) < (n : Int) := by omega
    have hl1 : (l.length + 15) / 16 = l.length / 16 := by omega
    rw [← hl1] at hnum
    obtain ⟨B, hB⟩ : ∃ B, B = A := ⟨_, rfl⟩
    have hBl : B.length = 5 := by rw [hB]; exact hok.a
    have hBb := hlt
    have hBn := hnum
    rw [← hB] at hBb hBn
    clear hp ha hok hs5 hSb hpt hlt hnum hn hl1 hk
    go_enter Tryd.func35, Tryd.ntmps35
    have HA0 := Lib.hid (HA.out.alloc (.cells (row5 A) 96))
    have c31 : (w.alloc (.cells (row5 A) 96)).cell? ⟨g, 31, none⟩ = some (.int .i64 (n : Int)) := HA0.out.cell (pcells_n n HOk.out)
    go_wp2_with (first
      | (with_reducible refine wpList_load_sum rfl _ rfl g rfl HOk.out HA.out ?_)
      | (with_reducible refine wpList_store_n5_new rfl _ _ rfl zero5 rfl _ rfl rfl _ rfl hA5 HA1.out ?_))
    have HS0 := Lib.hid (Arr.new w (row5 A) 96)
    have HWb := Lib.hid ((Below.refl w.heap.size w).alloc (Nat.le_refl _) (.cells (row5 A) 96))
    obtain ⟨gs, hgs⟩ : ∃ gs, gs = w.heap.size := ⟨_, rfl⟩
    rw [← hgs] at HS0 ⊢
    have HW : Hid (Arr (w.alloc (.cells (row5 A) 96)) gs (row5 B) 96 ∧ Arr (w.alloc (.cells (row5 A) 96)) g (pcells (partsP (keyR key) 5) [s0, s1, s2, s3, s4] A p n) 100) := ⟨by rw [hB]; exact HS0.out, HA0.out⟩
    generalize w.alloc (.cells (row5 A) 96) = W at *
    clear hgs c31 hB HS0 HA0
    obtain ⟨b0, b1, b2, b3, b4, hB5⟩ := five B hBl
    subst hB5
    have HT0 : Hid (TagS w g gs (pcells (partsP (keyR key) 5) [s0, s1, s2, s3, s4] A p n) [b0, b1, b2, b3, b4] W) := ⟨HW.out.1, HW.out.2, HWb.out⟩
    have hle := least5_any [b0, b1, b2, b3, b4] rfl hBb
    have HLe : Hid (∀ w, Calls Tryd.prog 53 #[.agg #[.int .u64 (b0 : Int), .int .u64 (b1 : Int), .int .u64 (b2 : Int), .int .u64 (b3 : Int), .int .u64 (b4 : Int)]] w fun e w' => (∃ y, e = .returned (.agg (row5 y)) ∧ y.length = 5 ∧ (∀ z ∈ y, z < 67108864) ∧ numP y = numP [b0, b1, b2, b3, b4] % PP) ∧ Below w.heap.size w w') := hle
    have HBn := Lib.hid hBn
    clear hle hBb hBn HW HWb hBl
    go_wp2_with fail
    go_cut [4] (fun s4 wx => ∃ gt N, s4 = .pointer (some ⟨gt, 0, none⟩) ∧ TagE w gt N (accN (keyR key) l ((l.length + 15) / 16) + keyS key) wx)
    case first =>
      go_region_held3 (fun w' => w'.cell? ⟨gs, 0, none⟩ = some (.int .u64 (b0 : Int)) ∧ w'.cell? ⟨gs, 1, none⟩ = some (.int .u64 (b1 : Int)) ∧ w'.cell? ⟨gs, 2, none⟩ = some (.int .u64 (b2 : Int)) ∧ w'.cell? ⟨gs, 3, none⟩ = some (.int .u64 (b3 : Int)) ∧ w'.cell? ⟨gs, 4, none⟩ = some (.int .u64 (b4 : Int)) ∧ w'.cell? ⟨g, 5, none⟩ = some (.int .u64 (s0 : Int)) ∧ w'.cell? ⟨g, 6, none⟩ = some (.int .u64 (s1 : Int)) ∧ w'.cell? ⟨g, 7, none⟩ = some (.int .u64 (s2 : Int)) ∧ w'.cell? ⟨g, 8, none⟩ = some (.int .u64 (s3 : Int)) ∧ w'.cell? ⟨g, 9, none⟩ = some (.int .u64 (s4 : Int)))
        (first
          | (guard_target =ₛ w1.cell? ⟨gs, 0, none⟩ = some (.int .u64 (b0 : Int)) ∧ w1.cell? ⟨gs, 1, none⟩ = some (.int .u64 (b1 : Int)) ∧ w1.cell? ⟨gs, 2, none⟩ = some (.int .u64 (b2 : Int)) ∧ w1.cell? ⟨gs, 3, none⟩ = some (.int .u64 (b3 : Int)) ∧ w1.cell? ⟨gs, 4, none⟩ = some (.int .u64 (b4 : Int)) ∧ w1.cell? ⟨g, 5, none⟩ = some (.int .u64 (s0 : Int)) ∧ w1.cell? ⟨g, 6, none⟩ = some (.int .u64 (s1 : Int)) ∧ w1.cell? ⟨g, 7, none⟩ = some (.int .u64 (s2 : Int)) ∧ w1.cell? ⟨g, 8, none⟩ = some (.int .u64 (s3 : Int)) ∧ w1.cell? ⟨g, 9, none⟩ = some (.int .u64 (s4 : Int)); with_reducible exact tag_cells HOk.out HT1.out.toC)
          | (guard_target =ₛ w2.cell? ⟨gs, 0, none⟩ = some (.int .u64 (b0 : Int)) ∧ w2.cell? ⟨gs, 1, none⟩ = some (.int .u64 (b1 : Int)) ∧ w2.cell? ⟨gs, 2, none⟩ = some (.int .u64 (b2 : Int)) ∧ w2.cell? ⟨gs, 3, none⟩ = some (.int .u64 (b3 : Int)) ∧ w2.cell? ⟨gs, 4, none⟩ = some (.int .u64 (b4 : Int)) ∧ w2.cell? ⟨g, 5, none⟩ = some (.int .u64 (s0 : Int)) ∧ w2.cell? ⟨g, 6, none⟩ = some (.int .u64 (s1 : Int)) ∧ w2.cell? ⟨g, 7, none⟩ = some (.int .u64 (s2 : Int)) ∧ w2.cell? ⟨g, 8, none⟩ = some (.int .u64 (s3 : Int)) ∧ w2.cell? ⟨g, 9, none⟩ = some (.int .u64 (s4 : Int)); with_reducible exact tag_cells HOk.out HT2.out.toC)
          | (guard_target =ₛ w3.cell? ⟨gs, 0, none⟩ = some (.int .u64 (b0 : Int)) ∧ w3.cell? ⟨gs, 1, none⟩ = some (.int .u64 (b1 : Int)) ∧ w3.cell? ⟨gs, 2, none⟩ = some (.int .u64 (b2 : Int)) ∧ w3.cell? ⟨gs, 3, none⟩ = some (.int .u64 (b3 : Int)) ∧ w3.cell? ⟨gs, 4, none⟩ = some (.int .u64 (b4 : Int)) ∧ w3.cell? ⟨g, 5, none⟩ = some (.int .u64 (s0 : Int)) ∧ w3.cell? ⟨g, 6, none⟩ = some (.int .u64 (s1 : Int)) ∧ w3.cell? ⟨g, 7, none⟩ = some (.int .u64 (s2 : Int)) ∧ w3.cell? ⟨g, 8, none⟩ = some (.int .u64 (s3 : Int)) ∧ w3.cell? ⟨g, 9, none⟩ = some (.int .u64 (s4 : Int)); with_reducible exact tag_cells HOk.out HT3.out.toC)
          | (have hh1 := hg1; have hh3 := HT3; with_reducible exact tag_cells HOk.out (HT3.out.sets hg1 hg2 v0 v1 v2 v3 v4))
          | with_reducible exact tag_cells HOk.out HT0.out.drew.toC
          | with_reducible exact tag_cells HOk.out (HT0.out.alloc (.cells zero5 96)).drew.toC
          | with_reducible exact tag_cells HOk.out (HT1.out.alloc (.cells zero5 96)).toC
          | with_reducible exact tag_cells HOk.out (HT2.out.alloc (.cells zero5 96)).toC
          | with_reducible exact tag_cells HOk.out (HT3.out.alloc (.cells zero5 96)).toC
          | with_reducible exact tag_cells HOk.out (HT3.out.alloc (.cells #[.int .u64 (v0 : Int), .int .u64 (v1 : Int), .int .u64 (v2 : Int), .int .u64 (v3 : Int), .int .u64 (v4 : Int)] 96)).toC)
        (first
          | (go_at_call 53; (with_reducible refine (HLe.out (World.drew (W.alloc (.cells zero5 96)))).mono ?_); rintro e w1 ⟨⟨y, rfl, hy5, hyb, hyn⟩, hb1⟩; have HT1 := Lib.hid ((HT0.out.alloc (.cells zero5 96)).drew.next hb1); have hz1 := ((Arr.new W zero5 96).drew).next hb1; have hgl := HT0.out.bel.size; have hg1 := Nat.ne_of_lt HT0.out.o.lt; have hg2 := Nat.ne_of_lt HT0.out.b.lt)
          | (go_at_call 53; (with_reducible refine (HLe.out (World.drew W)).mono ?_); rintro e w1 ⟨⟨y, rfl, hy5, hyb, hyn⟩, hb1⟩; have HT1 := Lib.hid (HT0.out.drew.next hb1))
          | (have hzz := hz1; go_at_call 52; (with_reducible refine (HPl.out y hy5 hyb w1).mono ?_); rintro e w2 ⟨rfl, hb2⟩; have HT2 := Lib.hid (HT1.out.next hb2); have hz2 := hzz.next hb2)
          | (go_at_call 52; (with_reducible refine (HPl.out y hy5 hyb (w1.alloc (.cells zero5 96))).mono ?_); rintro e w2 ⟨rfl, hb2⟩; have HT2 := Lib.hid ((HT1.out.alloc (.cells zero5 96)).next hb2); have hz2 := (Arr.new w1 zero5 96).next hb2; have hgl := HT1.out.bel.size; have hg1 := Nat.ne_of_lt HT1.out.o.lt; have hg2 := Nat.ne_of_lt HT1.out.b.lt)
          | (go_at_call 52; (with_reducible refine (HPl.out y hy5 hyb w1).mono ?_); rintro e w2 ⟨rfl, hb2⟩; have HT2 := Lib.hid (HT1.out.next hb2))
          | (have hzz := hz2; go_at_call 51; (with_reducible refine (HCa.out y hy5 hyb w2).mono ?_); rintro e w3 ⟨⟨v0, v1, v2, v3, v4, D, rfl, hvb, hvn⟩, hb3⟩; have HT3 := Lib.hid (HT2.out.next hb3); have hz3 := hzz.next hb3; have n0 := hz3.cell (j := 0) (v := .int .u64 0) rfl; have n1 := hz3.cell (j := 1) (v := .int .u64 0) rfl; have n2 := hz3.cell (j := 2) (v := .int .u64 0) rfl; have n3 := hz3.cell (j := 3) (v := .int .u64 0) rfl; have n4 := hz3.cell (j := 4) (v := .int .u64 0) rfl; have nf := hz3.frozen)
          | (go_at_call 51; (with_reducible refine (HCa.out y hy5 hyb (w2.alloc (.cells zero5 96))).mono ?_); rintro e w3 ⟨⟨v0, v1, v2, v3, v4, D, rfl, hvb, hvn⟩, hb3⟩; have HT3 := Lib.hid ((HT2.out.alloc (.cells zero5 96)).next hb3); have hz3 := (Arr.new w2 zero5 96).next hb3; have hgl := HT2.out.bel.size; have hg1 := Nat.ne_of_lt HT2.out.o.lt; have hg2 := Nat.ne_of_lt HT2.out.b.lt; have n0 := hz3.cell (j := 0) (v := .int .u64 0) rfl; have n1 := hz3.cell (j := 1) (v := .int .u64 0) rfl; have n2 := hz3.cell (j := 2) (v := .int .u64 0) rfl; have n3 := hz3.cell (j := 3) (v := .int .u64 0) rfl; have n4 := hz3.cell (j := 4) (v := .int .u64 0) rfl; have nf := hz3.frozen)
          | (go_at_call 51; (with_reducible refine (HCa.out y hy5 hyb w2).mono ?_); rintro e w3 ⟨⟨v0, v1, v2, v3, v4, D, rfl, hvb, hvn⟩, hb3⟩; have HT3 := Lib.hid (HT2.out.next hb3)))
      all_goals
        go_wp2_with fail
        go_meet
        first
          | exact ⟨_, _, rfl, tagE_a hz3 HT3.out.bel hgl hvb HBn.out hyn HSn.out hvn⟩
          | exact ⟨_, _, rfl, tagE_d HT3.out.bel hvb HBn.out hyn HSn.out hvn⟩
    case rest =>
      obtain ⟨gt, N, rfl, hE⟩ := hcut
      have hN5 := row5_size hE.len
      have HTo := Lib.hid (fun w => told5_any N hE.len hE.lt w)
      have HAr := Lib.hid hE.arr
      have HBe := Lib.hid hE.bel
      have HNu := Lib.hid (hE.num : numP N % 256 ^ 16 = _)
      clear hE
      go_wp2_with (first
        | (with_reducible refine wpList_load_n5 rfl _ rfl gt rfl _ hN5 HAr.out ?_)
        | (go_at_call 54; (with_reducible refine (HTo.out _).mono ?_); rintro e w9 ⟨rfl, hb9⟩))
      go_ret
      exact ⟨tag_ret HNu.out, HBe.out.trans (hb9.mono HBe.out.size)⟩
end Go.Proofs.YtfflpooiebeagaaDoor
namespace Go.Proofs.YtfflpooiebeagaaDoor
open Go.RowKit

theorem tl_data (s : ByteArray) : s.toList = s.data.toList := by
  obtain ⟨⟨l⟩⟩ := s
  exact ByteArray.toList_mk l
theorem tl_ne {a b : ByteArray} (h : ¬ a = b) : (a.toList == b.toList) = false := by
  rw [tl_data, tl_data]
  exact beq_false_of_ne fun e => h (by obtain ⟨⟨x⟩⟩ := a; obtain ⟨⟨y⟩⟩ := b; cases (show x = y from e); rfl)

end Go.Proofs.YtfflpooiebeagaaDoor
namespace Go.Proofs.YtfflpooiebeagaaDoor
open Go.RowKit

theorem getD_set' (l : List Nat) (k x j : Nat) (h : k < l.length) : (l.set k x).getD j 0 = if j = k then x else l.getD j 0 := by
  rw [List.getD_eq_getElem?_getD, List.getElem?_set]
  by_cases hj : k = j
  · subst hj; simp [h]
  · rw [if_neg hj, if_neg (Ne.symm hj), ← List.getD_eq_getElem?_getD]
/-- Digits by a rule of their place. -/
def digF (f : Nat → Nat) (n : Nat) : List Nat := (List.range n).map f
theorem digF_succ (f : Nat → Nat) (n : Nat) : digF f (n + 1) = digF f n ++ [f n] := by simp [digF, List.range_succ]
theorem digF_len (f : Nat → Nat) (n : Nat) : (digF f n).length = n := by simp [digF]
theorem digF_add (f g : Nat → Nat) (n : Nat) : numD (digF (fun j => f j + g j) n) = numD (digF f n) + numD (digF g n) := by
  induction n with
  | zero => rfl
  | succ n ih => rw [digF_succ, digF_succ, digF_succ, numD_snoc, numD_snoc, numD_snoc, ih, digF_len, digF_len, digF_len, Nat.mul_add]; omega
theorem digF_of (l : List Nat) (f : Nat → Nat) (n : Nat) (hl : l.length = n) (h : ∀ j, j < n → l.getD j 0 = f j) : l = digF f n := by
  apply List.ext_getElem?
  intro j
  by_cases hj : j < n
  · have := h j hj
    rw [List.getD_eq_getElem?_getD, List.getElem?_eq_getElem (by omega)] at this
    rw [List.getElem?_eq_getElem (by omega), digF, List.getElem?_map, List.getElem?_range hj, Option.map_some, ← this]; rfl
  · rw [List.getElem?_eq_none (by omega), List.getElem?_eq_none (by rw [digF_len]; omega)]
theorem digF_digL (d : List Nat) (n : Nat) : digF (fun j => d.getD j 0) n = digL d n := rfl
/-- A sum by place is the sum. -/
theorem sum_place (a b l : List Nat) (n : Nat) (ha : ∀ x ∈ a, x < 256) (hb : ∀ x ∈ b, x < 256) (la : a.length ≤ n) (lb : b.length ≤ n) (hl : l.length = n) (h : ∀ j, j < n → l.getD j 0 = a.getD j 0 + b.getD j 0) : numD l = numD a + numD b := by
  have h1 := Nat.lt_of_lt_of_le (numD_lt a ha) (Nat.pow_le_pow_right (by decide : 0 < 256) la)
  have h2 := Nat.lt_of_lt_of_le (numD_lt b hb) (Nat.pow_le_pow_right (by decide : 0 < 256) lb)
  rw [digF_of l (fun j => a.getD j 0 + b.getD j 0) n hl h, digF_add, digF_digL, digF_digL, digL_num a ha, digL_num b hb, Nat.mod_eq_of_lt h1, Nat.mod_eq_of_lt h2]
/-- A carry by place leaves the number. -/
theorem carry_place (l : List Nat) (j : Nat) (h : j + 1 < l.length) : numD ((l.set (j + 1) (l.getD (j + 1) 0 + l.getD j 0 / 256)).set j (l.getD j 0 % 256)) = numD l := by
  have hj : j < l.length := by omega
  obtain ⟨x, hx⟩ : ∃ x, x = l.getD j 0 := ⟨_, rfl⟩
  obtain ⟨M, hM⟩ : ∃ M, M = l.set (j + 1) (l.getD (j + 1) 0 + x / 256) := ⟨_, rfl⟩
  have hMl : M.length = l.length := by rw [hM, List.length_set]
  have e1 : numD M = numD l + 256 ^ (j + 1) * (x / 256) := by rw [hM, numD_set _ _ _ h]
  have e2 : M.getD j 0 = x := by rw [hM, getD_set' _ _ _ _ h, if_neg (by omega), hx]
  have e3 := numD_set (M.set j (x % 256)) j (256 * (x / 256)) (by rw [List.length_set]; omega)
  rw [getD_set' _ _ _ _ (by omega), if_pos rfl, List.set_set, Nat.mod_add_div] at e3
  have e4 : M.set j x = M := by
    rw [← e2]
    apply List.ext_getElem?
    intro i
    rw [List.getElem?_set]
    by_cases hi : j = i
    · subst hi; rw [if_pos rfl, if_pos (by omega), List.getD_eq_getElem?_getD, List.getElem?_eq_getElem (by omega)]; rfl
    · rw [if_neg hi]
  rw [e4, e1, Nat.pow_succ, ← Nat.mul_assoc] at e3
  rw [← hx, ← hM]
  omega

/-- The number of a part with its byte behind. -/
theorem part_num (X : List UInt8) : numD (natL X ++ [1]) = numLow X + 256 ^ X.length := by
  rw [numD_snoc, natL_num, natL_len, Nat.mul_one]

def exKey : List UInt8 := [0x85, 0xd6, 0xbe, 0x78, 0x57, 0x55, 0x6d, 0x33, 0x7f, 0x44, 0x52, 0xfe, 0x42, 0xd5, 0x06, 0xa8, 0x01, 0x03, 0x80, 0x8a, 0xfb, 0x0d, 0xb2, 0xfd, 0x4a, 0xbf, 0xf6, 0xaf, 0x41, 0x49, 0xf5, 0x1b]
def exText : List UInt8 := [67, 114, 121, 112, 116, 111, 103, 114, 97, 112, 104, 105, 99, 32, 70, 111, 114, 117, 109, 32, 82, 101, 115, 101, 97, 114, 99, 104, 32, 71, 114, 111, 117, 112]
def exTag : List UInt8 := [0xa8, 0x06, 0x1d, 0xc1, 0x30, 0x51, 0x36, 0xc6, 0xc2, 0x2b, 0x8b, 0xaf, 0x0c, 0x01, 0x27, 0xa9]
theorem tag_ex : tagL exKey exText = exTag := by decide +kernel
theorem tag_ex0 : ¬ exTag = tagL exKey [] := by decide +kernel
theorem clamp_ex : clampL (List.replicate 16 255) = [0xff, 0xff, 0xff, 0x0f, 0xfc, 0xff, 0xff, 0x0f, 0xfc, 0xff, 0xff, 0x0f, 0xfc, 0xff, 0xff, 0x0f] := by decide +kernel
end Go.Proofs.YtfflpooiebeagaaDoor
namespace Go.Proofs.YtfflpooiebeagaaDoor
open Go.RowKit

set_option maxHeartbeats 1000000 in
theorem ptagF_ok (key text : ByteArray) (hk : key.size = 32) (w : World) (hp : Kp w) :
    Calls Tryd.prog 24 #[.string key, .string text] w fun e w' => e = .returned (.tuple #[.string (tagB key text), .int .i64 0]) ∧ Below w.heap.size w w' := by
  have HN := Lib.hid (polyNew_ok key hk w hp)
  have hkl : key.data.toList.length = 32 := by simpa using hk
  have HT := Lib.hid (fun g w h => ptag_any g key.data.toList text.data.toList hkl w h)
  rw [show (⟨(tagL key.data.toList text.data.toList).toArray⟩ : ByteArray) = tagB key text from rfl] at HT
  generalize tagB key text = T at *
  clear hk hkl hp
  go_enter Tryd.func24, Tryd.ntmps24
  go_wp2_with (first
    | (go_at_call 33; (with_reducible refine HN.out.mono ?_); rintro e w1 ⟨⟨g, rfl, hg, hP1⟩, hb1⟩)
    | (go_at_call 34; (with_reducible refine (padd_fr g key.data.toList [] text w1 hP1).mono ?_); rintro e w2 ⟨rfl, hP2, hf2⟩; rw [List.nil_append] at hP2)
    | (go_at_call 35; (with_reducible refine (HT.out g w2 hP2).mono ?_); rintro e w3 ⟨rfl, hb3⟩))
  go_ret2
  have hb2 := hb1.trans (hf2.below hg hb1.size)
  exact ⟨rfl, hb2.trans (hb3.mono hb2.size)⟩
theorem ptagF_no (key text : ByteArray) (hk : key.size ≠ 32) (w : World) :
    Calls Tryd.prog 24 #[.string key, .string text] w fun e w' => e = .returned (.tuple #[.string ByteArray.empty, .int .i64 5]) ∧ w = w' := by
  have HN := Lib.hid (polyNew_no key hk w)
  clear hk
  go_enter Tryd.func24, Tryd.ntmps24
  go_wp2_with (first
    | (go_at_call 33; (with_reducible refine HN.out.mono ?_); rintro e w1 ⟨rfl, rfl⟩))
  go_ret2
  exact ⟨rfl, rfl⟩
theorem tl_eq (a b : ByteArray) : (a.toList == b.toList) = decide (b = a) := by
  by_cases h : a = b
  · subst h; simp
  · rw [tl_ne h, decide_eq_false fun e => h e.symm]
theorem pcheck_any (key text tag : ByteArray) (w : World) (hp : Kp w) :
    Calls Tryd.prog 26 #[.string key, .string text, .string tag] w fun e w' => e = .returned (.bool (checkB key text tag)) ∧ Below w.heap.size w w' := by
  by_cases hk : key.size = 32
  · have HT := Lib.hid (ptagF_ok key text hk w hp)
    have HS := Lib.hid (fun w => same_any (tagB key text) tag w)
    have he : checkB key text tag = ((tagB key text).toList == tag.toList) := by
      rw [checkB, tl_eq]; simp [hk]
    rw [← he] at HS
    generalize checkB key text tag = R at *
    generalize tagB key text = T at *
    clear hk hp he
    go_enter Tryd.func26, Tryd.ntmps26
    go_wp2_with (first
      | (go_at_call 24; (with_reducible refine HT.out.mono ?_); rintro e w1 ⟨rfl, hb1⟩)
      | (go_at_call 37; (with_reducible refine (HS.out w1).mono ?_); rintro e w2 ⟨rfl, rfl⟩))
    go_ret
    exact ⟨rfl, hb1⟩
  · have HT := Lib.hid (ptagF_no key text hk w)
    have he : checkB key text tag = false := decide_eq_false fun h => hk h.1
    rw [he]
    clear hk hp he
    go_enter Tryd.func26, Tryd.ntmps26
    go_wp2_with (first
      | (go_at_call 24; (with_reducible refine HT.out.mono ?_); rintro e w1 ⟨rfl, rfl⟩))
    go_ret
    exact ⟨rfl, Below.refl _ _⟩

theorem ex_tag : tagB ⟨#[133, 214, 190, 120, 87, 85, 109, 51, 127, 68, 82, 254, 66, 213, 6, 168, 1, 3, 128, 138, 251, 13, 178, 253, 74, 191, 246, 175, 65, 73, 245, 27]⟩ ⟨#[67, 114, 121, 112, 116, 111, 103, 114, 97, 112, 104, 105, 99, 32, 70, 111, 114, 117, 109, 32, 82, 101, 115, 101, 97, 114, 99, 104, 32, 71, 114, 111, 117, 112]⟩ = ⟨#[168, 6, 29, 193, 48, 81, 54, 198, 194, 43, 139, 175, 12, 1, 39, 169]⟩ := by
  rw [tagB, show (ByteArray.mk #[133, 214, 190, 120, 87, 85, 109, 51, 127, 68, 82, 254, 66, 213, 6, 168, 1, 3, 128, 138, 251, 13, 178, 253, 74, 191, 246, 175, 65, 73, 245, 27]).data.toList = exKey from rfl, show (ByteArray.mk #[67, 114, 121, 112, 116, 111, 103, 114, 97, 112, 104, 105, 99, 32, 70, 111, 114, 117, 109, 32, 82, 101, 115, 101, 97, 114, 99, 104, 32, 71, 114, 111, 117, 112]).data.toList = exText from rfl, tag_ex]; rfl
theorem ex_tag2 : (⟨(tagL (ByteArray.mk #[133, 214, 190, 120, 87, 85, 109, 51, 127, 68, 82, 254, 66, 213, 6, 168, 1, 3, 128, 138, 251, 13, 178, 253, 74, 191, 246, 175, 65, 73, 245, 27]).data.toList ([] ++ (ByteArray.mk #[67, 114, 121, 112, 116, 111, 103, 114, 97, 112, 104, 105, 99, 32, 70, 111, 114, 117, 109]).data.toList ++ (ByteArray.mk #[32, 82, 101, 115, 101, 97, 114, 99, 104, 32, 71, 114, 111, 117, 112]).data.toList)).toArray⟩ : ByteArray) = ⟨#[168, 6, 29, 193, 48, 81, 54, 198, 194, 43, 139, 175, 12, 1, 39, 169]⟩ := by
  rw [show (ByteArray.mk #[133, 214, 190, 120, 87, 85, 109, 51, 127, 68, 82, 254, 66, 213, 6, 168, 1, 3, 128, 138, 251, 13, 178, 253, 74, 191, 246, 175, 65, 73, 245, 27]).data.toList = exKey from rfl, show [] ++ (ByteArray.mk #[67, 114, 121, 112, 116, 111, 103, 114, 97, 112, 104, 105, 99, 32, 70, 111, 114, 117, 109]).data.toList ++ (ByteArray.mk #[32, 82, 101, 115, 101, 97, 114, 99, 104, 32, 71, 114, 111, 117, 112]).data.toList = exText from rfl, tag_ex]; rfl
theorem ex_check : checkB ⟨#[133, 214, 190, 120, 87, 85, 109, 51, 127, 68, 82, 254, 66, 213, 6, 168, 1, 3, 128, 138, 251, 13, 178, 253, 74, 191, 246, 175, 65, 73, 245, 27]⟩ ⟨#[67, 114, 121, 112, 116, 111, 103, 114, 97, 112, 104, 105, 99, 32, 70, 111, 114, 117, 109, 32, 82, 101, 115, 101, 97, 114, 99, 104, 32, 71, 114, 111, 117, 112]⟩ ⟨#[168, 6, 29, 193, 48, 81, 54, 198, 194, 43, 139, 175, 12, 1, 39, 169]⟩ = true := decide_eq_true ⟨rfl, ex_tag.symm⟩
theorem ex_check0 : checkB ⟨#[133, 214, 190, 120, 87, 85, 109, 51, 127, 68, 82, 254, 66, 213, 6, 168, 1, 3, 128, 138, 251, 13, 178, 253, 74, 191, 246, 175, 65, 73, 245, 27]⟩ ⟨#[]⟩ ⟨#[168, 6, 29, 193, 48, 81, 54, 198, 194, 43, 139, 175, 12, 1, 39, 169]⟩ = false := decide_eq_false fun h => by
  have h2 := congrArg (fun b : ByteArray => b.data.toList) h.2
  exact tag_ex0 h2
theorem ex_clamp : (⟨(clampL (ByteArray.mk #[255, 255, 255, 255, 255, 255, 255, 255, 255, 255, 255, 255, 255, 255, 255, 255]).data.toList).toArray⟩ : ByteArray) = ⟨#[255, 255, 255, 15, 252, 255, 255, 15, 252, 255, 255, 15, 252, 255, 255, 15]⟩ := by
  rw [show (ByteArray.mk #[255, 255, 255, 255, 255, 255, 255, 255, 255, 255, 255, 255, 255, 255, 255, 255]).data.toList = List.replicate 16 255 from rfl, clamp_ex]

end Go.Proofs.YtfflpooiebeagaaDoor
