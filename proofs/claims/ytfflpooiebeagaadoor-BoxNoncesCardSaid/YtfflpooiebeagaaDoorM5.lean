/- Numbers as digits of 256: the plain functions; what is above and below 130 bits; the prime. Rows of numbers (int, none below 0) that a call owns: append. The document's own digits, digit, carried of layer 5. The document's own plus, high, low, some of layer 5. The document's own low, some, times of layer 5. The document's own times of layer 5. The document's own Modulo of layer 5. The document's own Clamp and Sum of layer 5. The document's own Sum and Tag of layer 5. A tag as a number: what the laws of layer 5 say of it. What layer 5's laws need of the code: its contracts, as one record. PolySizes over it. Rows of bytes that a law's arguments are. PolyClamps over the contracts' record. PolyAdds over the contracts' record. -/
import Derived.Test.YtfflpooiebeagaaDoorM1
import Derived.KernelRfl
import Derived.Deep.RegionLaw
import Derived.Deep.RegionHeld3
import Derived.BigRegion
namespace Go.Proofs.YtfflpooiebeagaaDoor
open Go.RowKit

/-- The number of digits, the lowest one first. -/
def numD : List Nat → Nat
  | [] => 0
  | d :: l => d + 256 * numD l
theorem numD_append (l m : List Nat) : numD (l ++ m) = numD l + 256 ^ l.length * numD m := by
  induction l with
  | nil => simp [numD]
  | cons d l ih => rw [List.cons_append, numD, numD, ih, List.length_cons, Nat.pow_succ, Nat.mul_add, Nat.add_assoc, ← Nat.mul_assoc, Nat.mul_comm (256 ^ l.length) 256]
theorem numD_snoc (l : List Nat) (d : Nat) : numD (l ++ [d]) = numD l + 256 ^ l.length * d := by rw [numD_append]; simp [numD]
theorem numD_lt (l : List Nat) (h : ∀ d ∈ l, d < 256) : numD l < 256 ^ l.length := by
  induction l with
  | nil => simp [numD]
  | cons d l ih =>
    have h1 := ih (fun x hx => h x (by simp [hx]))
    have h2 := h d (by simp)
    rw [numD, List.length_cons, Nat.pow_succ]; omega
theorem numD_zeros (n : Nat) : numD (List.replicate n 0) = 0 := by
  induction n with
  | zero => rfl
  | succ n ih => rw [List.replicate_succ, numD, ih]
theorem numD_set (l : List Nat) (k x : Nat) (h : k < l.length) : numD (l.set k (l.getD k 0 + x)) = numD l + 256 ^ k * x := by
  induction l generalizing k with
  | nil => simp at h
  | cons d l ih =>
    cases k with
    | zero => simp [numD]; omega
    | succ k =>
      have := ih k (by simpa using h)
      simp only [List.set_cons_succ, List.getD_cons_succ, numD, this, Nat.pow_succ, Nat.mul_add]
      rw [← Nat.mul_assoc, Nat.mul_comm (256 ^ k) 256]; omega
theorem numD_take_succ (l : List Nat) (k : Nat) (h : k < l.length) : numD (l.take (k + 1)) = numD (l.take k) + 256 ^ k * l.getD k 0 := by
  rw [List.take_succ_eq_append_getElem h, numD_snoc, List.length_take, Nat.min_eq_left (by omega), List.getD_eq_getElem?_getD, List.getElem?_eq_getElem h]; rfl
theorem numD_drop (l : List Nat) (k : Nat) (h : k < l.length) : numD (l.drop k) = l.getD k 0 + 256 * numD (l.drop (k + 1)) := by
  rw [List.drop_eq_getElem_cons h, numD, List.getD_eq_getElem?_getD, List.getElem?_eq_getElem h]; rfl
theorem numD_map (l : List UInt8) : numD (l.map (·.toNat)) = numLow l := by
  induction l with
  | nil => rfl
  | cons b l ih => rw [List.map_cons, numD, numLow, ih]

/-- Digits by place; a number's digits. -/
def digL (d : List Nat) (m : Nat) : List Nat := (List.range m).map fun j => d.getD j 0
theorem digL_len (d : List Nat) (m : Nat) : (digL d m).length = m := by simp [digL]
theorem digL_succ (d : List Nat) (m : Nat) : digL d (m + 1) = digL d m ++ [d.getD m 0] := by simp [digL, List.range_succ]
theorem getD_lt (d : List Nat) (h : ∀ x ∈ d, x < 256) (j : Nat) : d.getD j 0 < 256 := by
  by_cases hj : j < d.length
  · rw [List.getD_eq_getElem?_getD, List.getElem?_eq_getElem hj]; exact h _ (List.getElem_mem hj)
  · rw [List.getD_eq_getElem?_getD, List.getElem?_eq_none (by omega)]; decide
theorem numD_getD (d : List Nat) (h : ∀ x ∈ d, x < 256) (j : Nat) : numD d / 256 ^ j % 256 = d.getD j 0 := by
  induction d generalizing j with
  | nil => simp [numD]
  | cons x d ih =>
    have hx := h x (by simp)
    have hd := fun j => ih (fun y hy => h y (by simp [hy])) j
    cases j with
    | zero => simp [numD]; omega
    | succ j =>
      rw [List.getD_cons_succ, ← hd j, numD, Nat.pow_succ, Nat.mul_comm (256 ^ j) 256, ← Nat.div_div_eq_div_mul, show (x + 256 * numD d) / 256 = numD d by omega]
theorem digL_num (d : List Nat) (h : ∀ x ∈ d, x < 256) (m : Nat) : numD (digL d m) = numD d % 256 ^ m := by
  induction m with
  | zero => simp [digL, numD, Nat.mod_one]
  | succ m ih => rw [digL_succ, numD_snoc, ih, digL_len, ← numD_getD d h m, Nat.pow_succ, Nat.mod_mul]

/-- What is above 130 bits, what is below. -/
def quarter : List Nat → List Nat
  | [] => []
  | x :: l => (x / 4 + l.getD 0 0 % 4 * 64) :: quarter l
theorem quarter_len (l : List Nat) : (quarter l).length = l.length := by
  induction l with
  | nil => rfl
  | cons x l ih => rw [quarter, List.length_cons, ih, List.length_cons]
theorem quarter_num (l : List Nat) : numD (quarter l) = numD l / 4 := by
  induction l with
  | nil => rfl
  | cons x l ih =>
    rw [quarter, numD, numD, ih]
    have hm : numD l % 4 = l.getD 0 0 % 4 := by
      cases l with
      | nil => rfl
      | cons y l => rw [numD, List.getD_cons_zero]; omega
    omega
theorem quarter_get (l : List Nat) (k : Nat) (h : k < l.length) : (quarter l).getD k 0 = l.getD k 0 / 4 + l.getD (k + 1) 0 % 4 * 64 := by
  induction l generalizing k with
  | nil => simp at h
  | cons x l ih =>
    cases k with
    | zero => rfl
    | succ k => rw [quarter, List.getD_cons_succ, ih k (by simpa using h), List.getD_cons_succ, List.getD_cons_succ]
theorem quarter_lt (l : List Nat) (h : ∀ x ∈ l, x < 256) : ∀ x ∈ quarter l, x < 256 := by
  induction l with
  | nil => simp [quarter]
  | cons x l ih =>
    intro y hy
    rw [quarter, List.mem_cons] at hy
    rcases hy with rfl | hy
    · have := h x (by simp); have := Nat.mod_lt (l.getD 0 0) (show 0 < 4 by decide); omega
    · exact ih (fun z hz => h z (by simp [hz])) y hy
def highD (d : List Nat) : List Nat := quarter (d.drop 16)
theorem p130 : 256 ^ 16 * 4 = 1361129467683753853853498429727072845824 := by decide
def lowD (d : List Nat) : List Nat := digL d 16 ++ [d.getD 16 0 % 4]
def TB : Nat := 1361129467683753853853498429727072845824
theorem TB_eq : TB = 256 ^ 16 * 4 := by decide
theorem TB_pos : 0 < TB := by decide
theorem highD_len (d : List Nat) : (highD d).length = d.length - 16 := by rw [highD, quarter_len, List.length_drop]
theorem highD_lt (d : List Nat) (h : ∀ x ∈ d, x < 256) : ∀ x ∈ highD d, x < 256 := quarter_lt _ fun x hx => h x (List.mem_of_mem_drop hx)
theorem highD_get (d : List Nat) (k : Nat) (h : 16 + k < d.length) : (highD d).getD k 0 = d.getD (16 + k) 0 / 4 + d.getD (16 + k + 1) 0 % 4 * 64 := by
  rw [highD, quarter_get _ _ (by rw [List.length_drop]; omega)]
  simp only [List.getD_eq_getElem?_getD, List.getElem?_drop]
  rfl
theorem highD_num (d : List Nat) (h : ∀ x ∈ d, x < 256) : numD (highD d) = numD d / TB := by
  have e : numD d = numD (d.take 16) + 256 ^ (d.take 16).length * numD (d.drop 16) := by
    conv => lhs; rw [← List.take_append_drop 16 d]
    rw [numD_append]
  have hl := numD_lt (d.take 16) (fun x hx => h x (List.mem_of_mem_take hx))
  rw [highD, quarter_num]
  by_cases hd : d.length ≤ 16
  · have h0 : d.drop 16 = [] := List.drop_eq_nil_of_le hd
    have hlt := numD_lt d h
    have h2 : (256 : Nat) ^ d.length ≤ 256 ^ 16 := Nat.pow_le_pow_right (by decide) hd
    have h3 : (256 : Nat) ^ 16 ≤ TB := by decide
    rw [h0, Nat.div_eq_of_lt (a := numD d) (by omega)]; rfl
  · have h16 : (d.take 16).length = 16 := by rw [List.length_take]; omega
    rw [h16] at e hl
    rw [e, TB_eq, ← Nat.div_div_eq_div_mul]
    congr 1
    generalize 256 ^ 16 = M at *
    generalize numD (d.take 16) = x at *
    generalize numD (d.drop 16) = y at *
    rw [Nat.add_mul_div_left _ _ (by omega), Nat.div_eq_of_lt hl, Nat.zero_add]
theorem lowD_len (d : List Nat) : (lowD d).length = 17 := by rw [lowD, List.length_append, digL_len]; rfl
theorem lowD_lt (d : List Nat) (h : ∀ x ∈ d, x < 256) : ∀ x ∈ lowD d, x < 256 := by
  intro x hx
  rw [lowD, List.mem_append] at hx
  rcases hx with hx | hx
  · rw [digL, List.mem_map] at hx
    obtain ⟨j, _, rfl⟩ := hx
    exact getD_lt d h j
  · rw [List.mem_singleton] at hx; subst hx; omega
theorem lowD_num (d : List Nat) (h : ∀ x ∈ d, x < 256) : numD (lowD d) = numD d % TB := by
  rw [lowD, numD_snoc, digL_num d h, digL_len, TB_eq, Nat.mod_mul, ← numD_getD d h 16]
  congr 2
  generalize numD d / 256 ^ 16 = y
  omega
theorem low_high (d : List Nat) (h : ∀ x ∈ d, x < 256) : numD d = numD (lowD d) + TB * numD (highD d) := by
  rw [lowD_num d h, highD_num d h]; exact (Nat.mod_add_div _ _).symm

/-- The prime. -/
def PP : Nat := 1361129467683753853853498429727072845819
theorem PP_TB : TB = PP + 5 := by decide
theorem fold_mod (l h : Nat) : (l + 5 * h) % PP = (l + TB * h) % PP := by
  rw [PP_TB, Nat.add_mul, ← Nat.add_assoc, Nat.add_right_comm, Nat.add_mul_mod_self_left]
theorem fold_lt (l h : Nat) (hh : 0 < h) : l + 5 * h < l + TB * h := by
  have : 5 < TB := by decide
  have := Nat.mul_lt_mul_of_pos_right this hh
  omega
/-- What is below 130 bits, made less than the prime. -/
theorem last_mod (n : Nat) (h : n < TB) : n % PP = if (n + 5) / TB = 0 then n else (n + 5) % TB := by
  rw [PP_TB] at h ⊢
  have hp : 5 < PP := by decide
  generalize PP = P at *
  by_cases hl : n < P
  · rw [Nat.mod_eq_of_lt hl, if_pos (Nat.div_eq_of_lt (by omega))]
  · have e : n + 5 = (n - P) + (P + 5) := by omega
    rw [if_neg (by rw [e, Nat.add_div_right _ (by omega)]; exact Nat.succ_ne_zero _), e, Nat.add_mod_right, Nat.mod_eq_of_lt (show n - P < P + 5 by omega), Nat.mod_eq_sub_mod (by omega), Nat.mod_eq_of_lt (by omega)]
end Go.Proofs.YtfflpooiebeagaaDoor
namespace Go.Proofs.YtfflpooiebeagaaDoor
open Go.RowKit

theorem Tryd.infoI64 : (Tryd.prog.info? 3).map (fun i => (i.zero, i.size, i.bytes)) = some (some (.int .i64 0), 1, 8) := by kernel_rfl

/-- Numbers as cells. -/
def i64s (l : List Nat) : List Value := l.map fun (n : Nat) => .int .i64 (n : Int)
theorem i64s_len (l : List Nat) : (i64s l).length = l.length := by simp [i64s]
theorem i64s_get (l : List Nat) (i : Nat) (h : i < l.length) : (i64s l)[i]? = some (.int .i64 ((l[i] : Nat) : Int)) := by simp [i64s, h]
/-- A row of numbers that the call owns. -/
def Oi (w : World) (base : Nat) (v : Value) (l : List Nat) : Prop := w.ownsRow base 3 1 v l.length (i64s l)
theorem Oi.start (w : World) (base : Nat) (h : base ≤ w.heap.size) : Oi (w.alloc (.cells #[] 3)) base (.slice (some ⟨w.heap.size, 0, none⟩) 0 0) [] :=
  World.ownsRow_lit w #[] 0 h (by unfold maxLen; omega) rfl
theorem Oi.alloc {w : World} {base : Nat} {v : Value} {l : List Nat} (h : Oi w base v l) (o : Obj) : Oi (w.alloc o) base v l := World.ownsRow.alloc h o
theorem Oi.drew {w : World} {base : Nat} {v : Value} {l : List Nat} (h : Oi w base v l) : Oi w.drew base v l := h
theorem Oi.drewN {w : World} {base : Nat} {v : Value} {l : List Nat} (h : Oi w base v l) (n : Nat) : Oi (w.drewN n) base v l := h
/-- Where a row that is not empty lies. -/
theorem Oi.form {w : World} {base : Nat} {v : Value} {l : List Nat} (h : Oi w base v l) (hl : 0 < l.length) :
    ∃ g cap, v = .slice (some ⟨g, 0, none⟩) l.length cap ∧ base ≤ g ∧ ∀ j (hj : j < l.length), w.cell? ⟨g, j, none⟩ = some (.int .i64 ((l[j] : Nat) : Int)) := by
  rcases h.2 with ⟨_, h0⟩ | ⟨g, cap, cur, rfl, hb, _⟩
  · omega
  · refine ⟨g, cap, rfl, hb, fun j hj => ?_⟩
    rw [World.ownsRow.cellAt h j (by omega), i64s_get l j hj]

theorem Oi.next {w w' : World} {base : Nat} {v : Value} {l : List Nat} (h : Oi w base v l) (hb : Below w.heap.size w w') : Oi w' base v l :=
  World.ownsRow.kept (row := none) h ⟨hb.os, hb.tape, hb.output, hb.size, fun i hi _ => hb.block i hi⟩ (Classical.em _)
/-- A row of numbers, from a block's head on. -/
def RowI (w : World) (g : Nat) (l : List Nat) : Prop := ∀ j (hj : j < l.length), w.cell? ⟨g, j, none⟩ = some (.int .i64 ((l[j] : Nat) : Int))
theorem RowI.at {w : World} {g : Nat} {l : List Nat} (h : RowI w g l) (j : Nat) (hj : j < l.length) : w.cell? ⟨g, j, none⟩ = some (.int .i64 ((l.getD j 0 : Nat) : Int)) := by
  rw [h j hj, List.getD_eq_getElem?_getD, List.getElem?_eq_getElem hj]; rfl
theorem RowI.lt {w : World} {g : Nat} {l : List Nat} (h : RowI w g l) (hl : 0 < l.length) : g < w.heap.size := block_lt_of_cell (h 0 hl)
theorem RowI.below {w w' : World} {B g : Nat} {l : List Nat} (h : RowI w g l) (hb : Below B w w') (hg : g < B) : RowI w' g l := fun j hj => by
  rw [← h j hj]; exact World.cell?_of_block (hb.block _ hg)
theorem RowI.next {w w' : World} {g : Nat} {l : List Nat} (h : RowI w g l) (hl : 0 < l.length) (hb : Below w.heap.size w w') : RowI w' g l := h.below hb (h.lt hl)
theorem RowI.drewN {w : World} {g : Nat} {l : List Nat} (h : RowI w g l) (n : Nat) : RowI (w.drewN n) g l := h
theorem RowI.drew {w : World} {g : Nat} {l : List Nat} (h : RowI w g l) : RowI w.drew g l := h
theorem RowI.alloc {w : World} {g : Nat} {l : List Nat} (h : RowI w g l) (hl : 0 < l.length) (o : Obj) : RowI (w.alloc o) g l := h.next hl ((Below.refl _ _).alloc (Nat.le_refl _) o)
theorem RowI.ofArr {w : World} {g : Nat} {l : List Nat} {t : TypeId} (h : Arr w g (i64s l).toArray t) : RowI w g l := fun j hj => h.cell (by rw [List.getElem?_toArray, i64s_get l j hj])
theorem Oi.row {w : World} {base g cap : Nat} {l : List Nat} (h : Oi w base (.slice (some ⟨g, 0, none⟩) l.length cap) l) : RowI w g l := fun j hj => by
  rw [World.ownsRow.cellAt h j (by omega), i64s_get l j hj]

/-- A number of an owned row is set. -/
theorem Oi.set {w : World} {base g n cap : Nat} {l : List Nat} (h : w.ownsRow base 3 1 (.slice (some ⟨g, 0, none⟩) n cap) n (i64s l)) (k x : Nat) :
    (w.setCell ⟨g, k, none⟩ (.int .i64 (x : Int))).ownsRow base 3 1 (.slice (some ⟨g, 0, none⟩) n cap) n (i64s (l.set k x)) := by
  have e : i64s (l.set k x) = (i64s l).set k (.int .i64 (x : Int)) := by simp [i64s, List.map_set]
  rw [e]
  exact (h.stored k _).1
end Go.Proofs.YtfflpooiebeagaaDoor
namespace Go.Proofs.YtfflpooiebeagaaDoor
open Go.RowKit

theorem Oi.next' {w w' : World} {base : Nat} {v : Value} {l : List Nat} (h : Oi w base v l) (hb : Below w.heap.size w w') : Oi w' base v l := Oi.next h hb
/-- Bytes as digits. -/
def natL (l : List UInt8) : List Nat := l.map fun (b : UInt8) => b.toNat
theorem natL_len (l : List UInt8) : (natL l).length = l.length := by simp [natL]
theorem natL_lt (l : List UInt8) : ∀ x ∈ natL l, x < 256 := by
  intro x hx
  rw [natL, List.mem_map] at hx
  obtain ⟨b, _, rfl⟩ := hx
  exact b.toNat_lt
theorem natL_num (l : List UInt8) : numD (natL l) = numLow l := numD_map l
/-- A slice value that reads as these numbers. -/
def DV (w : World) (v : Value) (d : List Nat) : Prop := ∃ (g : Nat) (a : Option Addr) (cap : Nat), v = .slice a d.length cap ∧ RowI w g d ∧ (0 < d.length → a = some ⟨g, 0, none⟩ ∧ g < w.heap.size)
theorem DV.next {w w' : World} {v : Value} {d : List Nat} (h : DV w v d) (hb : Below w.heap.size w w') : DV w' v d := by
  obtain ⟨g, a, cap, rfl, hr, ha⟩ := h
  by_cases hd : 0 < d.length
  · exact ⟨g, a, cap, rfl, hr.next hd hb, fun _ => ⟨(ha hd).1, Nat.lt_of_lt_of_le (ha hd).2 hb.size⟩⟩
  · exact ⟨g, a, cap, rfl, fun j hj => absurd hj (by omega), fun h => absurd h hd⟩
theorem DV.alloc {w : World} {v : Value} {d : List Nat} (h : DV w v d) (o : Obj) : DV (w.alloc o) v d := h.next ((Below.refl _ _).alloc (Nat.le_refl _) o)
theorem DV.at {w : World} {a : Option Addr} {n cap : Nat} {d : List Nat} (h : DV w (.slice a n cap) d) (k : Nat) (hk : k < d.length) : ∃ g, a = some ⟨g, 0, none⟩ ∧ w.cell? ⟨g, k, none⟩ = some (.int .i64 ((d.getD k 0 : Nat) : Int)) := by
  obtain ⟨g, a', cap', he, hr, ha⟩ := h
  injection he with h1 h2 h3
  subst h1
  exact ⟨g, (ha (by omega)).1, hr.at k hk⟩
theorem carry_num (o M A q r : Nat) (h : A = r + 256 * q) (rest : Nat) : o + M * r + M * 256 * (q + rest) = o + M * (A + 256 * rest) := by
  subst h
  rw [Nat.mul_assoc, Nat.add_assoc, ← Nat.mul_add, Nat.mul_add 256]
  congr 2; omega
theorem DV.drewN {w : World} {v : Value} {d : List Nat} (h : DV w v d) (n : Nat) : DV (w.drewN n) v d := h
theorem DV.drew {w : World} {v : Value} {d : List Nat} (h : DV w v d) : DV w.drew v d := h
theorem Oi.dv {w : World} {base : Nat} {v : Value} {d : List Nat} (h : Oi w base v d) : DV w v d := by
  rcases h.2 with ⟨rfl, h0⟩ | ⟨g, cap, cur, rfl, _⟩
  · exact ⟨0, none, 0, by rw [h0], fun j hj => absurd hj (by omega), fun h => absurd h (by omega)⟩
  · have hr : RowI w g d := Oi.row h
    exact ⟨g, _, cap, rfl, hr, fun h => ⟨rfl, hr.lt h⟩⟩

end Go.Proofs.YtfflpooiebeagaaDoor
namespace Go.Proofs.YtfflpooiebeagaaDoor
open Go.RowKit

theorem digL_all (d : List Nat) : digL d d.length = d := by
  apply List.ext_getElem?
  intro i
  rw [digL, List.getElem?_map]
  by_cases h : i < d.length
  · rw [List.getElem?_range h, Option.map_some, List.getD_eq_getElem?_getD, List.getElem?_eq_getElem h]; rfl
  · rw [List.getElem?_eq_none (by simpa using h), List.getElem?_eq_none (by omega)]; rfl
theorem digL_more (d : List Nat) (j : Nat) : numD (digL d (d.length + j)) = numD d := by
  induction j with
  | zero => rw [Nat.add_zero, digL_all]
  | succ j ih => rw [← Nat.add_assoc, digL_succ, numD_snoc, ih, List.getD_eq_getElem?_getD, List.getElem?_eq_none (by omega)]; simp
theorem digL_val (d : List Nat) (m : Nat) (h : d.length ≤ m) : numD (digL d m) = numD d := by
  obtain ⟨j, rfl⟩ := Nat.exists_eq_add_of_le h; exact digL_more d j
/-- Sums, digit by digit. -/
def sumD (a b : List Nat) (m : Nat) : List Nat := (List.range m).map fun j => a.getD j 0 + b.getD j 0
theorem sumD_len (a b : List Nat) (m : Nat) : (sumD a b m).length = m := by simp [sumD]
theorem sumD_succ (a b : List Nat) (m : Nat) : sumD a b (m + 1) = sumD a b m ++ [a.getD m 0 + b.getD m 0] := by simp [sumD, List.range_succ]
theorem sumD_num (a b : List Nat) (m : Nat) : numD (sumD a b m) = numD (digL a m) + numD (digL b m) := by
  induction m with
  | zero => rfl
  | succ m ih => rw [sumD_succ, digL_succ, digL_succ, numD_snoc, numD_snoc, numD_snoc, ih, sumD_len, digL_len, digL_len, Nat.mul_add]; omega
theorem getD_le (d : List Nat) (B : Nat) (hB : 0 < B) (h : ∀ x ∈ d, x < B) (j : Nat) : d.getD j 0 < B := by
  by_cases hj : j < d.length
  · rw [List.getD_eq_getElem?_getD, List.getElem?_eq_getElem hj]; exact h _ (List.getElem_mem hj)
  · rw [List.getD_eq_getElem?_getD, List.getElem?_eq_none (by omega)]; exact hB

end Go.Proofs.YtfflpooiebeagaaDoor
namespace Go.Proofs.YtfflpooiebeagaaDoor
open Go.RowKit

theorem lowD_set (d : List Nat) : (digL d 17).set 16 (d.getD 16 0 % 4) = lowD d := by
  rw [lowD, digL_succ, List.set_append_right _ _ (by rw [digL_len]; exact Nat.le_refl _), digL_len]; rfl
theorem oi17 {w : World} {base : Nat} {v : Value} {Y : List Nat} (h : Oi w base v Y) (hY : Y.length = 17) : ∃ g cap, v = .slice (some ⟨g, 0, none⟩) 17 cap ∧ base ≤ g ∧ w.ownsRow base 3 1 (.slice (some ⟨g, 0, none⟩) 17 cap) 17 (i64s Y) := by
  have h' := h
  rcases h.2 with ⟨_, hx⟩ | ⟨g, cap, cur, rfl, hb, _⟩
  · rw [hY] at hx; exact absurd hx (by decide)
  · unfold Oi at h'
    rw [hY] at h'
    exact ⟨g, cap, by rw [hY], hb, h'⟩

theorem numD_pos (l : List Nat) (k : Nat) (hk : k < l.length) (h : 0 < l.getD k 0) : 0 < numD l := by
  induction l generalizing k with
  | nil => simp at hk
  | cons d l ih =>
    cases k with
    | zero => rw [List.getD_cons_zero] at h; rw [numD]; omega
    | succ k =>
      rw [List.getD_cons_succ] at h
      have := ih k (by simpa using hk) h
      rw [numD]; omega
theorem numD_zero (l : List Nat) (h : ∀ j, j < l.length → l.getD j 0 = 0) : numD l = 0 := by
  induction l with
  | nil => rfl
  | cons d l ih =>
    have h0 := h 0 (by simp)
    rw [List.getD_cons_zero] at h0
    rw [numD, h0, ih (fun j hj => by have := h (j + 1) (by simpa using hj); rwa [List.getD_cons_succ] at this)]

end Go.Proofs.YtfflpooiebeagaaDoor
namespace Go.Proofs.YtfflpooiebeagaaDoor
open Go.RowKit

theorem i64s_zeros (n : Nat) : (madeCells #[Value.int .i64 0] n).toList = i64s (List.replicate n 0) := by
  rw [toList_madeCells_one]
  simp [i64s]
theorem madeI (n : Nat) : madeCells #[Value.int .i64 0] n = (i64s (List.replicate n 0)).toArray := by
  apply Array.ext'
  rw [i64s_zeros]
theorem i64s_set (l : List Nat) (k x : Nat) : (i64s l).toArray.setIfInBounds k (.int .i64 (x : Int)) = (i64s (l.set k x)).toArray := by
  rw [List.setIfInBounds_toArray]; simp [i64s, List.map_set]
theorem mul_le (x y : Nat) (hx : x < 256) (hy : y < 256) : x * y ≤ 65025 := Nat.le_trans (Nat.mul_le_mul (Nat.le_of_lt_succ hx) (Nat.le_of_lt_succ hy)) (by decide)
theorem prod_step (P A x B M y : Nat) : P * B + M * (x * A) + M * (A * 0 + x * y * 0) = P * B + M * (x * A) := by simp
theorem inner_num (O P B M x T N y : Nat) (h : O = P * B + M * (x * T)) : O + (M * N) * (x * y) = P * B + M * (x * (T + N * y)) := by
  subst h
  rw [Nat.mul_add x, Nat.mul_add M, Nat.add_assoc]
  congr 2
  rw [Nat.mul_assoc M N, ← Nat.mul_assoc N x, Nat.mul_comm N x, Nat.mul_assoc x N]
theorem outer_num (P B M x : Nat) : P * B + M * (x * B) = (P + M * x) * B := by rw [Nat.add_mul, Nat.mul_assoc]

end Go.Proofs.YtfflpooiebeagaaDoor
namespace Go.Proofs.YtfflpooiebeagaaDoor
open Go.RowKit

/-- The number that a slice value reads as. -/
def numAt (v : Value) (wr : World) : Nat :=
  match v with
  | .slice (some a) n _ => numD ((List.range n).map fun j => (intOf ((wr.cell? ⟨a.block, j, none⟩).getD undef)).toNat)
  | _ => 0
theorem numAt_of {w : World} {v : Value} {d : List Nat} (h : DV w v d) : numAt v w = numD d := by
  obtain ⟨g, a, cap, rfl, hr, ha⟩ := h
  by_cases hd : 0 < d.length
  · obtain ⟨rfl, _⟩ := ha hd
    simp only [numAt]
    congr 1
    apply List.ext_getElem?
    intro j
    rw [List.getElem?_map]
    by_cases hj : j < d.length
    · rw [List.getElem?_range hj, Option.map_some, hr j hj, List.getElem?_eq_getElem hj]; simp [intOf]
    · rw [List.getElem?_eq_none (by simpa using hj), List.getElem?_eq_none (by omega)]; rfl
  · have h0 : d = [] := List.eq_nil_of_length_eq_zero (by omega)
    subst h0
    cases a <;> rfl
theorem dv_five (w : World) : DV (w.alloc (.cells #[.int .i64 5] 3)) (.slice (some ⟨w.heap.size, 0, none⟩) 1 1) [5] :=
  ⟨w.heap.size, _, 1, rfl, RowI.ofArr (Arr.new w (i64s [5]).toArray 3), fun _ => ⟨rfl, by simp⟩⟩

end Go.Proofs.YtfflpooiebeagaaDoor
namespace Go.Proofs.YtfflpooiebeagaaDoor
open Go.RowKit

/-- Bits are taken away of byte i. -/
def clampB (i : Nat) (c : UInt8) : UInt8 := if i = 3 ∨ i = 7 ∨ i = 11 ∨ i = 15 then c % 16 else if i = 4 ∨ i = 8 ∨ i = 12 then c / 4 * 4 else c
def clampK (r : List UInt8) (k : Nat) : List UInt8 := (List.range k).map fun i => clampB i (r.getD i 0)
def clampL (r : List UInt8) : List UInt8 := clampK r 16
theorem clampK_len (r : List UInt8) (k : Nat) : (clampK r k).length = k := by simp [clampK]
theorem clampK_succ (r : List UInt8) (k : Nat) : clampK r (k + 1) = clampK r k ++ [clampB k (r.getD k 0)] := by simp [clampK, List.range_succ]
theorem clampL_len (r : List UInt8) : (clampL r).length = 16 := clampK_len r 16

theorem cb16 {k : Nat} {c : UInt8} (h : k = 3 ∨ k = 7 ∨ k = 11 ∨ k = 15) : (c.toNat : Int) % 16 = ((clampB k c).toNat : Int) := by
  rw [clampB, if_pos h, UInt8.toNat_mod]; rfl
theorem cb4 {k : Nat} {c : UInt8} (h : k = 4 ∨ k = 8 ∨ k = 12) : (c.toNat : Int) / 4 * 4 = ((clampB k c).toNat : Int) := by
  rw [clampB, if_neg (by omega), if_pos h, UInt8.toNat_mul, UInt8.toNat_div]
  have := c.toNat_lt
  show _ = (((c.toNat / 4 * 4) % 256 : Nat) : Int)
  omega
theorem cb0 {k : Nat} {c : UInt8} (h : ¬ (k = 3 ∨ k = 7 ∨ k = 11 ∨ k = 15)) (h2 : ¬ (k = 4 ∨ k = 8 ∨ k = 12)) : (c.toNat : Int) = ((clampB k c).toNat : Int) := by
  rw [clampB, if_neg h, if_neg h2]

end Go.Proofs.YtfflpooiebeagaaDoor
namespace Go.Proofs.YtfflpooiebeagaaDoor
open Go.RowKit

theorem digit_byte {d : List Nat} (h : ∀ x ∈ d, x < 256) (k : Nat) : d.getD k 0 = (byteAt (numD d) k).toNat := by
  rw [← numD_getD d h k, byteAt, ← p256]
  simp
theorem byte_wrap (b : UInt8) : IntKind.u8.wrap (b.toNat : Int) = (b.toNat : Int) := by
  have := b.toNat_lt
  rw [IntKind.wrap_u8]; omega

/-- The sum of a text's first m parts. -/
def partL (t : List UInt8) (m : Nat) : List UInt8 := (t.drop (16 * m)).take 16
def accN (r : Nat) (t : List UInt8) : Nat → Nat
  | 0 => 0
  | m + 1 => (accN r t m + (numLow (partL t m) + 256 ^ (partL t m).length)) * r % PP
def keyR (key : List UInt8) : Nat := numLow (clampL (key.take 16))
def keyS (key : List UInt8) : Nat := numLow (key.drop 16)
/-- A text's tag. -/
def tagL (key text : List UInt8) : List UInt8 := lowL (accN (keyR key) text ((text.length + 15) / 16) + keyS key) 16
def tagB (key text : ByteArray) : ByteArray := ⟨(tagL key.data.toList text.data.toList).toArray⟩
theorem tagB_size (key text : ByteArray) : (tagB key text).size = 16 := by
  show (tagL key.data.toList text.data.toList).toArray.size = 16; rw [List.size_toArray, tagL, lowL_len]
theorem numLow_one (l : List UInt8) : numLow (l ++ [1]) = numLow l + 256 ^ l.length := by rw [numLow_append]; simp [numLow]

end Go.Proofs.YtfflpooiebeagaaDoor
namespace Go.Proofs.YtfflpooiebeagaaDoor
open Go.RowKit

theorem clampB_idem (i : Nat) (c : UInt8) : clampB i (clampB i c) = clampB i c := by
  apply UInt8.toNat_inj.mp
  have hc := c.toNat_lt
  by_cases h : i = 3 ∨ i = 7 ∨ i = 11 ∨ i = 15
  · simp only [clampB, if_pos h, UInt8.toNat_mod]; show c.toNat % 16 % 16 = c.toNat % 16; omega
  · by_cases h2 : i = 4 ∨ i = 8 ∨ i = 12
    · simp only [clampB, if_neg h, if_pos h2, UInt8.toNat_mul, UInt8.toNat_div]
      show c.toNat / 4 * 4 % 256 / 4 * 4 % 256 = c.toNat / 4 * 4 % 256
      omega
    · simp only [clampB, if_neg h, if_neg h2]
theorem clampK_get (r : List UInt8) (k i : Nat) (h : i < k) : (clampK r k).getD i 0 = clampB i (r.getD i 0) := by
  rw [clampK, List.getD_eq_getElem?_getD, List.getElem?_map, List.getElem?_range h]; rfl
theorem clampL_idem (r : List UInt8) : clampL (clampL r) = clampL r := by
  show clampK (clampL r) 16 = clampK r 16
  rw [clampK, clampK]
  apply List.map_congr_left
  intro i hi
  rw [List.mem_range] at hi
  rw [clampL, clampK_get _ _ _ hi, clampB_idem]
theorem clampL_take (r : List UInt8) : clampL (r.take 16) = clampL r := by
  show clampK (r.take 16) 16 = clampK r 16
  rw [clampK, clampK]
  apply List.map_congr_left
  intro i hi
  rw [List.mem_range] at hi
  congr 1
  rw [List.getD_eq_getElem?_getD, List.getElem?_take_of_lt hi, List.getD_eq_getElem?_getD]

theorem keyR_app (r s : List UInt8) (hr : r.length = 16) : keyR (r ++ s) = numLow (clampL r) := by
  rw [keyR, List.take_append_of_le_length (by omega), List.take_of_length_le (by omega)]
theorem keyS_app (r s : List UInt8) (hr : r.length = 16) : keyS (r ++ s) = numLow s := by
  rw [keyS, List.drop_append_of_le_length (by omega), List.drop_eq_nil_of_le (by omega), List.nil_append]
theorem tagL_len (key text : List UInt8) : (tagL key text).length = 16 := lowL_len _ _
/-- Bits that are taken away are no matter. -/
theorem tagL_clamp (r s text : List UInt8) (hr : r.length = 16) : tagL (clampL r ++ s) text = tagL (r ++ s) text := by
  rw [tagL, tagL, keyR_app _ _ (clampL_len r), keyR_app _ _ hr, keyS_app _ _ (clampL_len r), keyS_app _ _ hr, clampL_idem]
/-- Another s. -/
theorem tagL_sum (r s text : List UInt8) (hr : r.length = 16) : tagL (r ++ s) text = lowL (accN (numLow (clampL r)) text ((text.length + 15) / 16) + numLow s) 16 := by
  rw [tagL, keyR_app _ _ hr, keyS_app _ _ hr]
theorem accN_zero (text : List UInt8) (m : Nat) : accN 0 text m = 0 := by
  cases m with
  | zero => rfl
  | succ m => rw [accN, Nat.mul_zero, Nat.zero_mod]
theorem accN_nil (r m : Nat) (h : m = 0) : accN r [] m = 0 := by rw [h]; rfl
theorem accN_one (text : List UInt8) (m : Nat) : accN 1 text (m + 1) = (accN 1 text m + (numLow (partL text m) + 256 ^ (partL text m).length)) % PP := by rw [accN, Nat.mul_one]

theorem byteAt_mod (x n k : Nat) (h : k < n) : byteAt (x % 256 ^ n) k = byteAt x k := by
  apply UInt8.toNat_inj.mp
  have e : ∀ y, (byteAt y k).toNat = y / 256 ^ k % 256 := fun y => by rw [byteAt, ← p256]; simp
  rw [e, e]
  obtain ⟨j, rfl⟩ : ∃ j, n = k + 1 + j := ⟨n - (k + 1), by omega⟩
  rw [Nat.pow_add, Nat.pow_succ, Nat.mul_assoc, Nat.mod_mul_right_div_self, Nat.mod_mul_right_mod]
theorem lowL_mod (x n : Nat) : lowL (x % 256 ^ n) n = lowL x n := by
  rw [lowL, lowL]
  apply List.map_congr_left
  intro k hk
  rw [List.mem_range] at hk
  exact byteAt_mod x n k hk
theorem lowL_congr {x y n : Nat} (h : x % 256 ^ n = y % 256 ^ n) : lowL x n = lowL y n := by rw [← lowL_mod, h, lowL_mod]
theorem lowL_inj {x y n : Nat} (h : lowL x n = lowL y n) : x % 256 ^ n = y % 256 ^ n := by rw [← numLow_lowL, h, numLow_lowL]
theorem numLow_inj {l m : List UInt8} (hl : l.length = m.length) (h : numLow l = numLow m) : l = m := by
  induction l generalizing m with
  | nil => cases m with
    | nil => rfl
    | cons => simp at hl
  | cons b l ih => cases m with
    | nil => simp at hl
    | cons c m =>
      rw [numLow, numLow] at h
      have hb := b.toNat_lt
      have hc := c.toNat_lt
      have h1 : b = c := UInt8.toNat_inj.mp (by omega)
      rw [h1, ih (by simpa using hl) (by omega)]
theorem lowL_numLow (l : List UInt8) : lowL (numLow l) l.length = l := by
  apply numLow_inj (lowL_len _ _)
  rw [numLow_lowL, Nat.mod_eq_of_lt (numLow_lt l)]
/-- A sum of 16 bytes, without what goes beyond. -/
def sumT (a b : List UInt8) : List UInt8 := lowL (numLow a + numLow b) 16
theorem sumT_low (x : Nat) (b : List UInt8) : sumT (lowL x 16) b = lowL (x + numLow b) 16 := by
  rw [sumT, numLow_lowL]
  exact lowL_congr (by rw [Nat.mod_add_mod])
theorem numLow_zeros (n : Nat) : numLow (List.replicate n 0) = 0 := by
  induction n with
  | zero => rfl
  | succ n ih => rw [List.replicate_succ, numLow, ih]; rfl
theorem clampL_zeros : clampL (List.replicate 16 0) = List.replicate 16 0 := by decide
theorem clampL_one : clampL (1 :: List.replicate 15 0) = 1 :: List.replicate 15 0 := by decide
theorem numLow_oneL : numLow (1 :: List.replicate 15 0) = 1 := by rw [numLow, numLow_zeros]; rfl

theorem tagL_s (r s text : List UInt8) (hr : r.length = 16) : tagL (r ++ s) text = sumT (tagL (r ++ List.replicate 16 0) text) s := by
  rw [tagL_sum _ _ _ hr, tagL_sum _ _ _ hr, sumT_low, numLow_zeros]; rfl
theorem tagL_more (r s m text : List UInt8) (hr : r.length = 16) : tagL (r ++ sumT s m) text = sumT (tagL (r ++ s) text) m := by
  rw [tagL_sum _ _ _ hr, tagL_sum _ _ _ hr, sumT_low, sumT, numLow_lowL]
  exact lowL_congr (by rw [Nat.add_mod_mod, Nat.add_assoc])
theorem tagL_zero (s text : List UInt8) (hs : s.length = 16) : tagL (List.replicate 16 0 ++ s) text = s := by
  rw [tagL_sum _ _ _ (by simp), clampL_zeros, numLow_zeros, accN_zero, Nat.zero_add, ← hs, lowL_numLow]
theorem tagL_nil (r s : List UInt8) (hr : r.length = 16) (hs : s.length = 16) : tagL (r ++ s) [] = s := by
  rw [tagL_sum _ _ _ hr, show ([] : List UInt8).length = 0 from rfl, accN_nil _ ((0 + 15) / 16) rfl, Nat.zero_add, ← hs, lowL_numLow]
theorem tagL_r1 (s text : List UInt8) : tagL (1 :: List.replicate 15 0 ++ s) text = lowL (accN 1 text ((text.length + 15) / 16) + numLow s) 16 := by
  rw [tagL_sum _ _ _ (by simp), clampL_one, numLow_oneL]
theorem accN_lt (r : Nat) (text : List UInt8) (m : Nat) : accN r text m < PP := by
  cases m with
  | zero => exact (by decide : 0 < PP)
  | succ m => exact Nat.mod_lt _ (by decide)
end Go.Proofs.YtfflpooiebeagaaDoor
namespace Go.Proofs.YtfflpooiebeagaaDoor
open Go.RowKit

def checkB (key text tag : ByteArray) : Bool := decide (key.size = 32 ∧ tag = tagB key text)
end Go.Proofs.YtfflpooiebeagaaDoor
namespace Go.Proofs.YtfflpooiebeagaaDoor
open Go.RowKit


theorem u8_of : ∀ (zs : List Int), (∀ z ∈ zs, (Lit.int .u8 z).wf = true) → ∃ bs : List UInt8, zs.map (Value.int .u8) = u8s bs ∧ bs.length = zs.length
  | [], _ => ⟨[], rfl, rfl⟩
  | z :: zs, h => by
    obtain ⟨bs, hb, hl⟩ := u8_of zs (fun x hx => h x (by simp [hx]))
    obtain ⟨h0, h1⟩ := wf_u8 (h z (by simp))
    refine ⟨UInt8.ofNat z.toNat :: bs, ?_, by simp [hl]⟩
    have hz : z = ((UInt8.ofNat z.toNat).toNat : Int) := by
      have : (UInt8.ofNat z.toNat).toNat = z.toNat % 256 := by simp
      rw [this]; omega
    rw [List.map_cons, hb, u8s, u8s, List.map_cons, ← hz]
def rowB (l : List UInt8) : Array Value := (u8s l).toArray
theorem conv_rowB {w : World} {g n : Nat} {ty : TypeId} {l : List UInt8} (h : Arr w g (rowB l) ty) (hl : l.length = n) :
    (convert 42 9 (.slice (some ⟨g, 0, none⟩) n n)).run Tryd.prog w = .ok (.string ⟨l.toArray⟩) w := by
  have := conv_cells w ⟨g, 0, none⟩ l n (fun j v hv => by
    rw [addr_add, Nat.zero_add]; exact h.cell (by rw [rowB, List.getElem?_toArray]; exact hv))
  rw [hl] at this
  exact this
theorem arrOf16 : Tryd.prog.underlying 98 = some (.array (Tryd.prog.arrayLen 98) (Tryd.prog.elem 98)) := by kernel_rfl
theorem arrLen16 : Tryd.prog.arrayLen 98 = 16 := by kernel_rfl
theorem arrElem16 : Tryd.prog.elem 98 = 5 := by kernel_rfl
theorem arr16_all (g o : Nat) (w : World) :
    (Instr.sliceAt 98 (.pointer (some ⟨g, o, none⟩)) none none none).run Tryd.prog w = .ok (.slice (some ⟨g, o, none⟩) 16 16) w := by
  rw [run_sliceAt_array_all w 98 _ arrOf16, arrElem16, Tryd.sizeOf5, arrLen16]
  simp only [Result.andThen, slicedAt]
  rw [if_neg (by omega), Nat.zero_mul, addr_add]
  rfl

theorem K_parts (K : ByteArray) (_ : K.size = 32) : K.data.toList = (K.extract 0 16).data.toList ++ (K.extract 16 K.size).data.toList := by
  rw [ext_toList, ext_toList, List.drop_zero, Nat.sub_zero, List.take_of_length_le (l := List.drop 16 _) (by simp), List.take_append_drop]

end Go.Proofs.YtfflpooiebeagaaDoor
namespace Go.Proofs.YtfflpooiebeagaaDoor
open Go.RowKit

theorem conv_part {w : World} {g o n cap : Nat} {ty : TypeId} {l : List UInt8} (h : Arr w g (rowB l) ty) (hl : o + n ≤ l.length) :
    (convert 42 9 (.slice (some ⟨g, o, none⟩) n cap)).run Tryd.prog w = .ok (.string ⟨((l.drop o).take n).toArray⟩) w := by
  have hlen : ((l.drop o).take n).length = n := by rw [List.length_take, List.length_drop]; omega
  have := conv_cells w ⟨g, o, none⟩ ((l.drop o).take n) cap (fun j v hv => by
    have hj : j < n := by
      have := (List.getElem?_eq_some_iff.1 hv).1
      rw [u8s_len, hlen] at this; exact this
    rw [addr_add]
    apply h.cell
    rw [rowB, List.getElem?_toArray]
    rw [u8s, List.getElem?_map, List.getElem?_take_of_lt hj, List.getElem?_drop] at hv
    rw [u8s, List.getElem?_map]; exact hv)
  rw [hlen] at this
  exact this






theorem ba_len (l : List UInt8) : (⟨l.toArray⟩ : ByteArray).size = l.length := List.size_toArray

end Go.Proofs.YtfflpooiebeagaaDoor
