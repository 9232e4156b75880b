/- Numbers as digits of 256: the plain functions; what is above and below 130 bits; the prime. Rows of numbers (int, none below 0) that a call owns: append. The document's own digits, digit, carried of layer 5. The document's own plus, high, low, some of layer 5. The document's own low, some, times of layer 5. The document's own times of layer 5. The document's own Modulo of layer 5. The document's own Clamp and Sum of layer 5. The document's own Sum and Tag of layer 5. A tag as a number: what the laws of layer 5 say of it. What layer 5's laws need of the code: its contracts, as one record. PolySizes over it. Rows of bytes that a law's arguments are. PolyClamps over the contracts' record. PolyAdds over the contracts' record. -/
import Derived.Test.YtfflpooiebeagaaGreatDoorM1
import Derived.KernelRfl
import Derived.Deep.RegionLaw
import Derived.Deep.RegionHeld3
import Derived.BigRegion
namespace Go.Proofs.YtfflpooiebeagaaGreatDoor
open Go.RowKit

/-- The number of digits, the lowest one first. -/
def numD : List Nat → Nat
  | [] => 0
  | d :: l => d + 256 * numD l
theorem numD_append (l m : List Nat) : numD (l ++ m) = numD l + 256 ^ l.length * numD m := by
  induction l with
  | nil => simp [numD]
  | cons d l ih => rw [List.cons_append, numD, numD, ih, List.length_cons, Nat.pow_succ, Nat.mul_add, Nat.add_assoc, ← Nat.mul_assoc, Nat.mul_comm (256 ^ l.length) 256]
theorem numD_snoc (l : List Nat) (d : Nat) : numD (l ++ [d]) = numD l + 256 ^ l.length * d := by rw [numD_append]; simp [numD]
theorem numD_lt (l : List Nat) (h : ∀ d ∈ l, d < 256) : numD l < 256 ^ l.length := by
  induction l with
  | nil => simp [numD]
  | cons d l ih =>
    have h1 := ih (fun x hx => h x (by simp [hx]))
    have h2 := h d (by simp)
    rw [numD, List.length_cons, Nat.pow_succ]; omega
theorem numD_zeros (n : Nat) : numD (List.replicate n 0) = 0 := by
  induction n with
  | zero => rfl
  | succ n ih => rw [List.replicate_succ, numD, ih]
theorem numD_set (l : List Nat) (k x : Nat) (h : k < l.length) : numD (l.set k (l.getD k 0 + x)) = numD l + 256 ^ k * x := by
  induction l generalizing k with
  | nil => simp at h
  | cons d l ih =>
    cases k with
    | zero => simp [numD]; omega
    | succ k =>
      have := ih k (by simpa using h)
      simp only [List.set_cons_succ, List.getD_cons_succ, numD, this, Nat.pow_succ, Nat.mul_add]
      rw [← Nat.mul_assoc, Nat.mul_comm (256 ^ k) 256]; omega
theorem numD_take_succ (l : List Nat) (k : Nat) (h : k < l.length) : numD (l.take (k + 1)) = numD (l.take k) + 256 ^ k * l.getD k 0 := by
  rw [List.take_succ_eq_append_getElem h, numD_snoc, List.length_take, Nat.min_eq_left (by omega), List.getD_eq_getElem?_getD, List.getElem?_eq_getElem h]; rfl
theorem numD_drop (l : List Nat) (k : Nat) (h : k < l.length) : numD (l.drop k) = l.getD k 0 + 256 * numD (l.drop (k + 1)) := by
  rw [List.drop_eq_getElem_cons h, numD, List.getD_eq_getElem?_getD, List.getElem?_eq_getElem h]; rfl
theorem numD_map (l : List UInt8) : numD (l.map (·.toNat)) = numLow l := by
  induction l with
  | nil => rfl
  | cons b l ih => rw [List.map_cons, numD, numLow, ih]

/-- Digits by place; a number's digits. -/
def digL (d : List Nat) (m : Nat) : List Nat := (List.range m).map fun j => d.getD j 0
theorem digL_len (d : List Nat) (m : Nat) : (digL d m).length = m := by simp [digL]
theorem digL_succ (d : List Nat) (m : Nat) : digL d (m + 1) = digL d m ++ [d.getD m 0] := by simp [digL, List.range_succ]
theorem getD_lt (d : List Nat) (h : ∀ x ∈ d, x < 256) (j : Nat) : d.getD j 0 < 256 := by
  by_cases hj : j < d.length
  · rw [List.getD_eq_getElem?_getD, List.getElem?_eq_getElem hj]; exact h _ (List.getElem_mem hj)
  · rw [List.getD_eq_getElem?_getD, List.getElem?_eq_none (by omega)]; decide
theorem numD_getD (d : List Nat) (h : ∀ x ∈ d, x < 256) (j : Nat) : numD d / 256 ^ j % 256 = d.getD j 0 := by
  induction d generalizing j with
  | nil => simp [numD]
  | cons x d ih =>
    have hx := h x (by simp)
    have hd := fun j => ih (fun y hy => h y (by simp [hy])) j
    cases j with
    | zero => simp [numD]; omega
    | succ j =>
      rw [List.getD_cons_succ, ← hd j, numD, Nat.pow_succ, Nat.mul_comm (256 ^ j) 256, ← Nat.div_div_eq_div_mul, show (x + 256 * numD d) / 256 = numD d by omega]
theorem digL_num (d : List Nat) (h : ∀ x ∈ d, x < 256) (m : Nat) : numD (digL d m) = numD d % 256 ^ m := by
  induction m with
  | zero => simp [digL, numD, Nat.mod_one]
  | succ m ih => rw [digL_succ, numD_snoc, ih, digL_len, ← numD_getD d h m, Nat.pow_succ, Nat.mod_mul]

/-- What is above 130 bits, what is below. -/
def quarter : List Nat → List Nat
  | [] => []
  | x :: l => (x / 4 + l.getD 0 0 % 4 * 64) :: quarter l
theorem quarter_len (l : List Nat) : (quarter l).length = l.length := by
  induction l with
  | nil => rfl
  | cons x l ih => rw [quarter, List.length_cons, ih, List.length_cons]
theorem quarter_num (l : List Nat) : numD (quarter l) = numD l / 4 := by
  induction l with
  | nil => rfl
  | cons x l ih =>
    rw [quarter, numD, numD, ih]
    have hm : numD l % 4 = l.getD 0 0 % 4 := by
      cases l with
      | nil => rfl
      | cons y l => rw [numD, List.getD_cons_zero]; omega
    omega
theorem quarter_get (l : List Nat) (k : Nat) (h : k < l.length) : (quarter l).getD k 0 = l.getD k 0 / 4 + l.getD (k + 1) 0 % 4 * 64 := by
  induction l generalizing k with
  | nil => simp at h
  | cons x l ih =>
    cases k with
    | zero => rfl
    | succ k => rw [quarter, List.getD_cons_succ, ih k (by simpa using h), List.getD_cons_succ, List.getD_cons_succ]
theorem quarter_lt (l : List Nat) (h : ∀ x ∈ l, x < 256) : ∀ x ∈ quarter l, x < 256 := by
  induction l with
  | nil => simp [quarter]
  | cons x l ih =>
    intro y hy
    rw [quarter, List.mem_cons] at hy
    rcases hy with rfl | hy
    · have := h x (by simp); have := Nat.mod_lt (l.getD 0 0) (show 0 < 4 by decide); omega
    · exact ih (fun z hz => h z (by simp [hz])) y hy
def highD (d : List Nat) : List Nat := quarter (d.drop 16)
theorem p130 : 256 ^ 16 * 4 = 1361129467683753853853498429727072845824 := by decide
def lowD (d : List Nat) : List Nat := digL d 16 ++ [d.getD 16 0 % 4]
def TB : Nat := 1361129467683753853853498429727072845824
theorem TB_eq : TB = 256 ^ 16 * 4 := by decide
theorem TB_pos : 0 < TB := by decide
theorem highD_len (d : List Nat) : (highD d).length = d.length - 16 := by rw [highD, quarter_len, List.length_drop]
theorem highD_lt (d : List Nat) (h : ∀ x ∈ d, x < 256) : ∀ x ∈ highD d, x < 256 := quarter_lt _ fun x hx => h x (List.mem_of_mem_drop hx)
theorem highD_get (d : List Nat) (k : Nat) (h : 16 + k < d.length) : (highD d).getD k 0 = d.getD (16 + k) 0 / 4 + d.getD (16 + k + 1) 0 % 4 * 64 := by
  rw [highD, quarter_get _ _ (by rw [List.length_drop]; omega)]
  simp only [List.getD_eq_getElem?_getD, List.getElem?_drop]
  rfl
theorem highD_num (d : List Nat) (h : ∀ x ∈ d, x < 256) : numD (highD d) = numD d / TB := by
  have e : numD d = numD (d.take 16) + 256 ^ (d.take 16).length * numD (d.drop 16) := by
    conv => lhs; rw [← List.take_append_drop 16 d]
    rw [numD_append]
  have hl := numD_lt (d.take 16) (fun x hx => h x (List.mem_of_mem_take hx))
  rw [highD, quarter_num]
  by_cases hd : d.length ≤ 16
  · have h0 : d.drop 16 = [] := List.drop_eq_nil_of_le hd
    have hlt := numD_lt d h
    have h2 : (256 : Nat) ^ d.length ≤ 256 ^ 16 := Nat.pow_le_pow_right (by decide) hd
    have h3 : (256 : Nat) ^ 16 ≤ TB := by decide
    rw [h0, Nat.div_eq_of_lt (a := numD d) (by omega)]; rfl
  · have h16 : (d.take 16).length = 16 := by rw [List.length_take]; omega
    rw [h16] at e hl
    rw [e, TB_eq, ← Nat.div_div_eq_div_mul]
    congr 1
    generalize 256 ^ 16 = M at *
    generalize numD (d.take 16) = x at *
    generalize numD (d.drop 16) = y at *
    rw [Nat.add_mul_div_left _ _ (by omega), Nat.div_eq_of_lt hl, Nat.zero_add]
theorem lowD_len (d : List Nat) : (lowD d).length = 17 := by rw [lowD, List.length_append, digL_len]; rfl
theorem lowD_lt (d : List Nat) (h : ∀ x ∈ d, x < 256) : ∀ x ∈ lowD d, x < 256 := by
  intro x hx
  rw [lowD, List.mem_append] at hx
  rcases hx with hx | hx
  · rw [digL, List.mem_map] at hx
    obtain ⟨j, _, rfl⟩ := hx
    exact getD_lt d h j
  · rw [List.mem_singleton] at hx; subst hx; omega
theorem lowD_num (d : List Nat) (h : ∀ x ∈ d, x < 256) : numD (lowD d) = numD d % TB := by
  rw [lowD, numD_snoc, digL_num d h, digL_len, TB_eq, Nat.mod_mul, ← numD_getD d h 16]
  congr 2
  generalize numD d / 256 ^ 16 = y
  omega
theorem low_high (d : List Nat) (h : ∀ x ∈ d, x < 256) : numD d = numD (lowD d) + TB * numD (highD d) := by
  rw [lowD_num d h, highD_num d h]; exact (Nat.mod_add_div _ _).symm

/-- The prime. -/
def PP : Nat := 1361129467683753853853498429727072845819
theorem PP_TB : TB = PP + 5 := by decide
theorem fold_mod (l h : Nat) : (l + 5 * h) % PP = (l + TB * h) % PP := by
  rw [PP_TB, Nat.add_mul, ← Nat.add_assoc, Nat.add_right_comm, Nat.add_mul_mod_self_left]
theorem fold_lt (l h : Nat) (hh : 0 < h) : l + 5 * h < l + TB * h := by
  have : 5 < TB := by decide
  have := Nat.mul_lt_mul_of_pos_right this hh
  omega
/-- What is below 130 bits, made less than the prime. -/
theorem last_mod (n : Nat) (h : n < TB) : n % PP = if (n + 5) / TB = 0 then n else (n + 5) % TB := by
  rw [PP_TB] at h ⊢
  have hp : 5 < PP := by decide
  generalize PP = P at *
  by_cases hl : n < P
  · rw [Nat.mod_eq_of_lt hl, if_pos (Nat.div_eq_of_lt (by omega))]
  · have e : n + 5 = (n - P) + (P + 5) := by omega
    rw [if_neg (by rw [e, Nat.add_div_right _ (by omega)]; exact Nat.succ_ne_zero _), e, Nat.add_mod_right, Nat.mod_eq_of_lt (show n - P < P + 5 by omega), Nat.mod_eq_sub_mod (by omega), Nat.mod_eq_of_lt (by omega)]
end Go.Proofs.YtfflpooiebeagaaGreatDoor
namespace Go.Proofs.YtfflpooiebeagaaGreatDoor
open Go.RowKit

theorem Tryz.infoI64 : (Tryz.prog.info? 3).map (fun i => (i.zero, i.size, i.bytes)) = some (some (.int .i64 0), 1, 8) := by kernel_rfl

/-- Numbers as cells. -/
def i64s (l : List Nat) : List Value := l.map fun (n : Nat) => .int .i64 (n : Int)
theorem i64s_len (l : List Nat) : (i64s l).length = l.length := by simp [i64s]
theorem i64s_get (l : List Nat) (i : Nat) (h : i < l.length) : (i64s l)[i]? = some (.int .i64 ((l[i] : Nat) : Int)) := by simp [i64s, h]
/-- A row of numbers that the call owns. -/
def Oi (w : World) (base : Nat) (v : Value) (l : List Nat) : Prop := w.ownsRow base 3 1 v l.length (i64s l)
theorem Oi.start (w : World) (base : Nat) (h : base ≤ w.heap.size) : Oi (w.alloc (.cells #[] 3)) base (.slice (some ⟨w.heap.size, 0, none⟩) 0 0) [] :=
  World.ownsRow_lit w #[] 0 h (by unfold maxLen; omega) rfl
theorem Oi.alloc {w : World} {base : Nat} {v : Value} {l : List Nat} (h : Oi w base v l) (o : Obj) : Oi (w.alloc o) base v l := World.ownsRow.alloc h o
theorem Oi.drew {w : World} {base : Nat} {v : Value} {l : List Nat} (h : Oi w base v l) : Oi w.drew base v l := h
theorem Oi.drewN {w : World} {base : Nat} {v : Value} {l : List Nat} (h : Oi w base v l) (n : Nat) : Oi (w.drewN n) base v l := h
/-- Where a row that is not empty lies. -/
theorem Oi.form {w : World} {base : Nat} {v : Value} {l : List Nat} (h : Oi w base v l) (hl : 0 < l.length) :
    ∃ g cap, v = .slice (some ⟨g, 0, none⟩) l.length cap ∧ base ≤ g ∧ ∀ j (hj : j < l.length), w.cell? ⟨g, j, none⟩ = some (.int .i64 ((l[j] : Nat) : Int)) := by
  rcases h.2 with ⟨_, h0⟩ | ⟨g, cap, cur, rfl, hb, _⟩
  · omega
  · refine ⟨g, cap, rfl, hb, fun j hj => ?_⟩
    rw [World.ownsRow.cellAt h j (by omega), i64s_get l j hj]

theorem Oi.next {w w' : World} {base : Nat} {v : Value} {l : List Nat} (h : Oi w base v l) (hb : Below w.heap.size w w') : Oi w' base v l :=
  World.ownsRow.kept (row := none) h ⟨hb.os, hb.tape, hb.output, hb.size, fun i hi _ => hb.block i hi⟩ (Classical.em _)
/-- The walk's law for 'append(w, x)', w a row of the call's own. -/
theorem wpList_pushi (wr : World) {ops : Array Oper} {rest : List Oper} {o : Oper} {a : Act} {Q : Exit → Act → World → Prop} {bv : Int}
    (hgd : o.guard = none) (s x : Operand) (ho : o.op = .call { callee := .builtin .append, args := #[s, x], argTypes := #[68, 68] })
    (base : Nat) (v : Value) (l : List Nat) (hs : a.eval s = v) (hx : a.eval x = .slice (some ⟨wr.heap.size, 0, none⟩) 1 1) (hown : Oi wr base v l) (b : Nat) (hb : bv = (b : Int))
    (hlen : l.length ≤ 1000000000) (hbase : base ≤ wr.heap.size)
    (h : ∀ v' w', Oi w' base v' (l ++ [b]) → Below base wr w' → wpList Tryz.prog ops Q rest (a.put o.dst v') w') :
    wpList Tryz.prog ops Q (o :: rest) a (wr.alloc (.cells #[.int .i64 bv] 3)) := by
  subst hb
  obtain ⟨i0, hi, hz0, hz1, hz2⟩ := info_parts Tryz.infoI64
  have hsz : (wr.alloc (.cells #[.int .i64 (b : Int)] 3)).heap.size = wr.heap.size + 1 := by show (wr.heap.push _).size = _; simp
  refine wpList_append_own _ hgd s x 68 ho base 3 i0 (.int .i64 0) 1 8 Tryz.underlying68 hi hz0 hz1 hz2 rfl (by decide) v l.length (i64s l) hs (World.ownsRow.alloc hown _) ⟨wr.heap.size, 0, none⟩ 1 1 [.int .i64 (b : Int)] hx rfl ?_ ?_ (by unfold maxLen; omega) (by omega) (by omega) ?_
  · intro j u hj
    match j, hj with
    | 0, hj => simp at hj; subst hj; simp [Addr.add]
  · intro u hu; simp at hu; subst hu; rfl
  · intro v' w' h1 h2 _
    refine h v' w' ?_ ?_
    · have e : i64s (l ++ [b]) = i64s l ++ [.int .i64 (b : Int)] := by simp [i64s]
      unfold Oi
      rw [e, List.length_append]; exact h1
    · refine Below.grown ((Below.refl _ _).alloc hbase _) h2 (by omega) ?_
      intro k hk
      rcases hown.2 with ⟨rfl, _⟩ | ⟨g, cap, cur, rfl, hb, _⟩
      · simp [Value.ownBlock] at hk
      · simp [Value.ownBlock] at hk; omega

/-- 'append(w, x)' as one step of a region that draws its order. -/
theorem step_pushi {ops : Array Oper} {o : Oper} {a : Act} (wr W : World) {K : Act → World → Prop} {Q : Exit → Act → World → Prop} {E : Prop} {bv : Int}
    (hg : o.guard = none) (s x : Operand) (ho : o.op = .call { callee := .builtin .append, args := #[s, x], argTypes := #[68, 68] })
    (base : Nat) (v : Value) (l : List Nat) (hs : a.eval s = v) (hx : a.eval x = .slice (some ⟨wr.heap.size, 0, none⟩) 1 1) (hown : Oi wr base v l) (b : Nat) (hb : bv = (b : Int))
    (hW : W.heap = (wr.alloc (.cells #[.int .i64 bv] 3)).heap)
    (hlen : l.length ≤ 1000000000) (hbase : base ≤ wr.heap.size)
    (h : ∀ v' w', Oi w' base v' (l ++ [b]) → Below base W w' → K (a.put o.dst v') w') :
    if Region.wanted o (yielded ops a.tmps) = true then Oper.wp Tryz.prog o a W K Q else E := by
  have hw : Region.wanted o (yielded ops a.tmps) = true := by simp [Region.wanted, hg]
  rw [if_pos hw]
  subst hb
  obtain ⟨i0, hi, hz0, hz1, hz2⟩ := info_parts Tryz.infoI64
  have hsz : W.heap.size = wr.heap.size + 1 := by rw [hW]; show (wr.heap.push _).size = _; simp
  have hcell : ∀ ad, W.cell? ad = (wr.alloc (.cells #[.int .i64 (b : Int)] 3)).cell? ad := fun ad => by unfold World.cell?; rw [hW]
  have hownW : W.ownsRow base 3 1 v l.length (i64s l) := by
    have := World.ownsRow.alloc hown (.cells #[.int .i64 (b : Int)] 3)
    unfold World.ownsRow at this ⊢
    rw [hW]; exact this
  refine wp_append_own _ s x 68 ho base 3 i0 (.int .i64 0) 1 8 Tryz.underlying68 hi hz0 hz1 hz2 rfl (by decide) v l.length (i64s l) hs hownW ⟨wr.heap.size, 0, none⟩ 1 1 [.int .i64 (b : Int)] hx rfl ?_ ?_ (by unfold maxLen; omega) (by omega) (by omega) ?_
  · intro j u hj
    match j, hj with
    | 0, hj => simp at hj; subst hj; rw [hcell]; simp [Addr.add]
  · intro u hu; simp at hu; subst hu; rfl
  · intro v' w' h1 h2 _
    refine h v' w' ?_ ?_
    · have e : i64s (l ++ [b]) = i64s l ++ [.int .i64 (b : Int)] := by simp [i64s]
      unfold Oi
      rw [e, List.length_append]; exact h1
    · refine Below.grown (Below.refl _ _) h2 (by omega) ?_
      intro k hk
      rcases hown.2 with ⟨rfl, _⟩ | ⟨g, cap, cur, rfl, hb, _⟩
      · simp [Value.ownBlock] at hk
      · simp [Value.ownBlock] at hk; omega

/-- A row of numbers, from a block's head on. -/
def RowI (w : World) (g : Nat) (l : List Nat) : Prop := ∀ j (hj : j < l.length), w.cell? ⟨g, j, none⟩ = some (.int .i64 ((l[j] : Nat) : Int))
theorem RowI.at {w : World} {g : Nat} {l : List Nat} (h : RowI w g l) (j : Nat) (hj : j < l.length) : w.cell? ⟨g, j, none⟩ = some (.int .i64 ((l.getD j 0 : Nat) : Int)) := by
  rw [h j hj, List.getD_eq_getElem?_getD, List.getElem?_eq_getElem hj]; rfl
theorem RowI.lt {w : World} {g : Nat} {l : List Nat} (h : RowI w g l) (hl : 0 < l.length) : g < w.heap.size := block_lt_of_cell (h 0 hl)
theorem RowI.below {w w' : World} {B g : Nat} {l : List Nat} (h : RowI w g l) (hb : Below B w w') (hg : g < B) : RowI w' g l := fun j hj => by
  rw [← h j hj]; exact World.cell?_of_block (hb.block _ hg)
theorem RowI.next {w w' : World} {g : Nat} {l : List Nat} (h : RowI w g l) (hl : 0 < l.length) (hb : Below w.heap.size w w') : RowI w' g l := h.below hb (h.lt hl)
theorem RowI.drewN {w : World} {g : Nat} {l : List Nat} (h : RowI w g l) (n : Nat) : RowI (w.drewN n) g l := h
theorem RowI.drew {w : World} {g : Nat} {l : List Nat} (h : RowI w g l) : RowI w.drew g l := h
theorem RowI.alloc {w : World} {g : Nat} {l : List Nat} (h : RowI w g l) (hl : 0 < l.length) (o : Obj) : RowI (w.alloc o) g l := h.next hl ((Below.refl _ _).alloc (Nat.le_refl _) o)
theorem RowI.ofArr {w : World} {g : Nat} {l : List Nat} {t : TypeId} (h : Arr w g (i64s l).toArray t) : RowI w g l := fun j hj => h.cell (by rw [List.getElem?_toArray, i64s_get l j hj])
theorem Oi.row {w : World} {base g cap : Nat} {l : List Nat} (h : Oi w base (.slice (some ⟨g, 0, none⟩) l.length cap) l) : RowI w g l := fun j hj => by
  rw [World.ownsRow.cellAt h j (by omega), i64s_get l j hj]

/-- The walk's law for 'append(w, s...)', w a row of the call's own, s another row. -/
theorem wpList_appendi (wr : World) {ops : Array Oper} {rest : List Oper} {o : Oper} {a : Act} {Q : Exit → Act → World → Prop}
    (hgd : o.guard = none) (s x : Operand) (ho : o.op = .call { callee := .builtin .append, args := #[s, x], argTypes := #[68, 68] })
    (base : Nat) (v : Value) (l : List Nat) (hs : a.eval s = v) (g m c : Nat) (hx : a.eval x = .slice (some ⟨g, 0, none⟩) m c) (hown : Oi wr base v l) (Y : List Nat) (hY : Y.length = m) (hrow : RowI wr g Y)
    (hlen : l.length + m ≤ 1000000000) (hbase : base ≤ wr.heap.size)
    (h : ∀ v' w', Oi w' base v' (l ++ Y) → Below base wr w' → wpList Tryz.prog ops Q rest (a.put o.dst v') w') :
    wpList Tryz.prog ops Q (o :: rest) a wr := by
  obtain ⟨i0, hi, hz0, hz1, hz2⟩ := info_parts Tryz.infoI64
  refine wpList_append_own _ hgd s x 68 ho base 3 i0 (.int .i64 0) 1 8 Tryz.underlying68 hi hz0 hz1 hz2 rfl (by decide) v l.length (i64s l) hs hown ⟨g, 0, none⟩ m c (i64s Y) hx (by rw [i64s_len, hY, Nat.mul_one]) ?_ ?_ (by unfold maxLen; omega) (by omega) hbase ?_
  · intro j u hj
    have hjl : j < Y.length := by have := (List.getElem?_eq_some_iff.1 hj).1; rwa [i64s_len] at this
    rw [i64s_get Y j hjl] at hj
    have ha : (⟨g, 0, none⟩ : Addr).add j = ⟨g, j, none⟩ := by rw [addr_add, Nat.zero_add]
    rw [ha, hrow j hjl]; exact hj
  · intro u hu
    simp only [i64s, List.mem_map] at hu
    obtain ⟨b, _, rfl⟩ := hu
    rfl
  · intro v' w' h1 h2 _
    refine h v' w' ?_ ?_
    · have e : i64s (l ++ Y) = i64s l ++ i64s Y := by simp [i64s]
      unfold Oi
      rw [e, List.length_append, hY]; exact h1
    · exact Below.grown (Below.refl _ _) h2 hbase fun k hk => (World.ownsRow.lt hown k hk).1
/-- A number of an owned row is set. -/
theorem Oi.set {w : World} {base g n cap : Nat} {l : List Nat} (h : w.ownsRow base 3 1 (.slice (some ⟨g, 0, none⟩) n cap) n (i64s l)) (k x : Nat) :
    (w.setCell ⟨g, k, none⟩ (.int .i64 (x : Int))).ownsRow base 3 1 (.slice (some ⟨g, 0, none⟩) n cap) n (i64s (l.set k x)) := by
  have e : i64s (l.set k x) = (i64s l).set k (.int .i64 (x : Int)) := by simp [i64s, List.map_set]
  rw [e]
  exact (h.stored k _).1
end Go.Proofs.YtfflpooiebeagaaGreatDoor
namespace Go.Proofs.YtfflpooiebeagaaGreatDoor
open Go.RowKit

theorem Oi.next' {w w' : World} {base : Nat} {v : Value} {l : List Nat} (h : Oi w base v l) (hb : Below w.heap.size w w') : Oi w' base v l := Oi.next h hb
/-- Bytes as digits. -/
def natL (l : List UInt8) : List Nat := l.map fun (b : UInt8) => b.toNat
theorem natL_len (l : List UInt8) : (natL l).length = l.length := by simp [natL]
theorem natL_lt (l : List UInt8) : ∀ x ∈ natL l, x < 256 := by
  intro x hx
  rw [natL, List.mem_map] at hx
  obtain ⟨b, _, rfl⟩ := hx
  exact b.toNat_lt
theorem natL_num (l : List UInt8) : numD (natL l) = numLow l := numD_map l
/-- A slice value that reads as these numbers. -/
def DV (w : World) (v : Value) (d : List Nat) : Prop := ∃ (g : Nat) (a : Option Addr) (cap : Nat), v = .slice a d.length cap ∧ RowI w g d ∧ (0 < d.length → a = some ⟨g, 0, none⟩ ∧ g < w.heap.size)
theorem DV.next {w w' : World} {v : Value} {d : List Nat} (h : DV w v d) (hb : Below w.heap.size w w') : DV w' v d := by
  obtain ⟨g, a, cap, rfl, hr, ha⟩ := h
  by_cases hd : 0 < d.length
  · exact ⟨g, a, cap, rfl, hr.next hd hb, fun _ => ⟨(ha hd).1, Nat.lt_of_lt_of_le (ha hd).2 hb.size⟩⟩
  · exact ⟨g, a, cap, rfl, fun j hj => absurd hj (by omega), fun h => absurd h hd⟩
theorem DV.alloc {w : World} {v : Value} {d : List Nat} (h : DV w v d) (o : Obj) : DV (w.alloc o) v d := h.next ((Below.refl _ _).alloc (Nat.le_refl _) o)
theorem DV.at {w : World} {a : Option Addr} {n cap : Nat} {d : List Nat} (h : DV w (.slice a n cap) d) (k : Nat) (hk : k < d.length) : ∃ g, a = some ⟨g, 0, none⟩ ∧ w.cell? ⟨g, k, none⟩ = some (.int .i64 ((d.getD k 0 : Nat) : Int)) := by
  obtain ⟨g, a', cap', he, hr, ha⟩ := h
  injection he with h1 h2 h3
  subst h1
  exact ⟨g, (ha (by omega)).1, hr.at k hk⟩
theorem carry_num (o M A q r : Nat) (h : A = r + 256 * q) (rest : Nat) : o + M * r + M * 256 * (q + rest) = o + M * (A + 256 * rest) := by
  subst h
  rw [Nat.mul_assoc, Nat.add_assoc, ← Nat.mul_add, Nat.mul_add 256]
  congr 2; omega
theorem DV.drewN {w : World} {v : Value} {d : List Nat} (h : DV w v d) (n : Nat) : DV (w.drewN n) v d := h
theorem DV.drew {w : World} {v : Value} {d : List Nat} (h : DV w v d) : DV w.drew v d := h
theorem Oi.dv {w : World} {base : Nat} {v : Value} {d : List Nat} (h : Oi w base v d) : DV w v d := by
  rcases h.2 with ⟨rfl, h0⟩ | ⟨g, cap, cur, rfl, _⟩
  · exact ⟨0, none, 0, by rw [h0], fun j hj => absurd hj (by omega), fun h => absurd h (by omega)⟩
  · have hr : RowI w g d := Oi.row h
    exact ⟨g, _, cap, rfl, hr, fun h => ⟨rfl, hr.lt h⟩⟩

set_option maxHeartbeats 400000 in
theorem digits_any (s : ByteArray) (hs : s.size ≤ 100000000) (w : World) :
    Calls Tryz.prog 49 #[.string s] w fun e w' => (∃ v, e = .returned v ∧ DV w' v (natL s.data.toList)) ∧ Below w.heap.size w w' := by
  have HO := Lib.hid (Oi.start w w.heap.size (Nat.le_refl _))
  have HB := Lib.hid ((Below.refl w.heap.size w).alloc (Nat.le_refl _) (.cells #[] 3))
  go_enter Tryz.func49, Tryz.ntmps49
  go_wp2
  go_loopw [3, 4] (fun v i wr => ∃ k : Nat, k ≤ s.size ∧ i = .int .i64 (k : Int) ∧ Oi wr w.heap.size v (natL (s.data.toList.take k)) ∧ Below w.heap.size w wr) (fun _ i _ => s.size - (intOf i).toNat)
  case atStart => exact ⟨0, Nat.zero_le _, rfl, HO.out, HB.out⟩
  case round =>
    clear HO HB
    obtain ⟨k, hk, rfl, hown, hbel⟩ := hrel
    by_cases hlt : k < s.size
    · have hnl := take_len s k hk
      have hts : natL (s.data.toList.take (k + 1)) = natL (s.data.toList.take k) ++ [s[k].toNat] := by rw [take_snoc s k hlt, natL, List.map_append]; rfl
      have HT := Lib.hid hts
      have HL := Lib.hid (show (natL (s.data.toList.take k)).length ≤ 1000000000 by rw [natL_len, hnl]; omega)
      have hb0 : (s[k].toNat : Int) ≤ 255 := by have := s[k].toNat_lt; omega
      clear hts hnl
      go_wp2_with (at_builtin; refine wpList_pushi wr rfl _ _ rfl w.heap.size _ (natL (s.data.toList.take k)) rfl rfl hown s[k].toNat rfl HL.out hbel.size ?_; intro v' w1 hown' hb1)
      go_roundw
      case rel => exact ⟨k + 1, by omega, by go_num, by rw [HT.out]; exact hown', hbel.trans hb1⟩
      case measure => simp [intOf]; omega
    · obtain rfl : k = s.size := by omega
      rw [take_all] at hown
      go_wp2
      go_ret
      exact ⟨⟨_, rfl, hown.dv⟩, hbel⟩

set_option maxHeartbeats 400000 in
theorem digit_any (v : Value) (d : List Nat) (i : Nat) (w : World) (h : DV w v d) :
    Calls Tryz.prog 53 #[v, .int .i64 (i : Int)] w fun e w' => e = .returned (.int .i64 ((d.getD i 0 : Nat) : Int)) ∧ w = w' := by
  obtain ⟨g, a, cap, rfl, hr, ha⟩ := h
  by_cases hi : i < d.length
  · obtain ⟨rfl, _⟩ := ha (by omega)
    have hc := hr.at i hi
    have h1 : ¬ (d.length : Int) ≤ (i : Int) := by omega
    generalize d.getD i 0 = x at *
    generalize d.length = n at *
    clear hr ha
    go_enter Tryz.func53, Tryz.ntmps53
    go_wp2
    go_ret
    exact ⟨rfl, rfl⟩
  · have hz : d.getD i 0 = 0 := by rw [List.getD_eq_getElem?_getD, List.getElem?_eq_none (by omega)]; rfl
    have h1 : (d.length : Int) ≤ (i : Int) := by omega
    rw [hz]
    generalize d.length = n at *
    clear hr ha hz
    go_enter Tryz.func53, Tryz.ntmps53
    go_wp2
    go_ret
    exact ⟨rfl, rfl⟩

set_option maxHeartbeats 1000000 in
theorem carried_any (v : Value) (d : List Nat) (hb : ∀ x ∈ d, x < 1099511627776) (hl : d.length ≤ 1000) (w : World) (h : DV w v d) :
    Calls Tryz.prog 75 #[v] w fun e w' => (∃ v' c, e = .returned v' ∧ DV w' v' c ∧ (∀ x ∈ c, x < 256) ∧ numD c = numD d ∧ c.length ≤ d.length + 6) ∧ Below w.heap.size w w' := by
  have HO := Lib.hid (Oi.start w w.heap.size (Nat.le_refl _))
  have HB := Lib.hid ((Below.refl w.heap.size w).alloc (Nat.le_refl _) (.cells #[] 3))
  have HD0 := Lib.hid h
  have HBd := Lib.hid hb
  obtain ⟨g, a, cap, rfl, _, _⟩ := h
  clear hb
  obtain ⟨n, hn⟩ : ∃ n, n = d.length := ⟨_, rfl⟩
  have HNd := Lib.hid hn
  rw [← hn] at hl HD0 ⊢
  clear hn
  go_enter Tryz.func75, Tryz.ntmps75
  go_wp2
  go_loopw [3, 4, 5] (fun o c i wr => ∃ (out : List Nat) (C k : Nat), c = .int .i64 (C : Int) ∧ i = .int .i64 (k : Int) ∧ out.length = k ∧ k ≤ n + 6 ∧ C * 256 ^ (k - n) < 2199023255552 ∧ (∀ x ∈ out, x < 256) ∧ numD out + 256 ^ k * (C + numD (d.drop k)) = numD d ∧ Oi wr w.heap.size o out ∧ Below w.heap.size w wr) (fun _ c i _ => (n - (intOf i).toNat) * 4398046511104 + (intOf c).toNat)
  case atStart => exact ⟨[], 0, 0, rfl, rfl, rfl, by omega, by simp, by simp, by simp [numD], HO.out, HB.out⟩
  case round =>
    clear HO HB
    obtain ⟨out, C, k, rfl, rfl, hok, hk, hC, hout, hnum, hown, hbel⟩ := hrel
    have hdv := HD0.out.next hbel
    have hnd := HNd.out
    have hol : out.length ≤ 1000000000 := by omega
    have HOl := Lib.hid hol
    have HOw := Lib.hid hown
    have HBel := Lib.hid hbel
    have HOut := Lib.hid hout
    by_cases hlt : k < n
    · obtain ⟨g', rfl, hcell⟩ := hdv.at k (by omega)
      have hx : d.getD k 0 < 1099511627776 := by
        rw [List.getD_eq_getElem?_getD, List.getElem?_eq_getElem (by omega)]; exact HBd.out _ (List.getElem_mem _)
      have hC' : C < 2199023255552 := by rw [show k - n = 0 by omega] at hC; simpa using hC
      have hstep : numD (out ++ [(C + d.getD k 0) % 256]) + 256 ^ (k + 1) * ((C + d.getD k 0) / 256 + numD (d.drop (k + 1))) = numD d := by
        rw [← hnum, numD_snoc, hok, Nat.pow_succ, carry_num _ _ (C + d.getD k 0) _ _ (by omega), numD_drop d k (by omega), Nat.add_assoc C]
      have hlen : (out ++ [(C + d.getD k 0) % 256]).length = k + 1 := by rw [List.length_append, hok]; rfl
      have HStep := Lib.hid hstep
      have HLen := Lib.hid hlen
      have hc2 : (C + d.getD k 0) / 256 * 256 ^ (k + 1 - n) < 2199023255552 := by
        rcases (show k + 1 - n = 0 ∨ k + 1 - n = 1 by omega) with h | h <;> rw [h] <;> omega
      have HC2 := Lib.hid hc2
      clear hstep hlen hc2 hnum hC hown hdv hbel hout hnd hol hok
      generalize d.getD k 0 = x at *
      have e1 : ((C : Int) + (x : Int)) % 256 = (((C + x) % 256 : Nat) : Int) := by omega
      have e2 : ((C : Int) + (x : Int)) / 256 = (((C + x) / 256 : Nat) : Int) := by omega
      have hm : (C + x) % 256 < 256 := Nat.mod_lt _ (by decide)
      have hq : (C + x) / 256 < 4398046511104 := by omega
      generalize (C + x) % 256 = r at *
      generalize (C + x) / 256 = q at *
      go_wp2_with (at_builtin; refine wpList_pushi wr rfl _ _ rfl w.heap.size _ out rfl rfl HOw.out r rfl HOl.out HBel.out.size ?_; intro v' w1 hown' hb1)
      go_roundw
      case rel => exact ⟨out ++ [r], q, k + 1, by first | rfl | rw [e2], by go_num, HLen.out, by omega, HC2.out, (by intro y hy; rcases List.mem_append.1 hy with h | h; exact HOut.out y h; simp at h; omega), HStep.out, hown', HBel.out.trans hb1⟩
      case measure => simp [intOf]; omega
    · have h0 : d.drop k = [] := List.drop_eq_nil_of_le (by omega)
      rw [h0] at hnum
      by_cases hc0 : 0 < C
      · obtain ⟨j, rfl⟩ : ∃ j, k = n + j := ⟨k - n, by omega⟩
        rw [show n + j - n = j by omega] at hC
        have hj : j ≤ 5 := by
          rcases (show j ≤ 5 ∨ j = 6 by omega) with h | h
          · exact h
          · subst h; omega
        have hstep : numD (out ++ [C % 256]) + 256 ^ (n + j + 1) * (C / 256 + numD (d.drop (n + j + 1))) = numD d := by
          rw [List.drop_eq_nil_of_le (by omega), ← hnum, numD_snoc, hok, Nat.pow_succ, carry_num _ _ C _ _ (by omega)]
          simp [numD]
        have hlen : (out ++ [C % 256]).length = n + j + 1 := by rw [List.length_append, hok]; rfl
        have HStep := Lib.hid hstep
        have HLen := Lib.hid hlen
        have hc2 : C / 256 * 256 ^ (n + j + 1 - n) < 2199023255552 := by
          rw [show n + j + 1 - n = j + 1 by omega, Nat.pow_succ, Nat.mul_comm (256 ^ j), ← Nat.mul_assoc]
          exact Nat.lt_of_le_of_lt (Nat.mul_le_mul_right _ (Nat.div_mul_le_self C 256)) hC
        have HC2 := Lib.hid hc2
        have hCb : C < 2199023255552 := by
          have := Nat.le_mul_of_pos_right C (show 0 < 256 ^ j from Nat.pow_pos (by decide))
          omega
        clear hstep hlen hc2 hnum hC hown hdv hbel hout hnd hol hok h0
        have hk1 : ¬ ((n : Int) + (j : Int)) < (n : Int) := by omega
        have e1 : (C : Int) % 256 = ((C % 256 : Nat) : Int) := by omega
        have e2 : (C : Int) / 256 = ((C / 256 : Nat) : Int) := by omega
        have hm : C % 256 < 256 := Nat.mod_lt _ (by decide)
        have hq : C / 256 < C := by omega
        generalize C % 256 = r at *
        generalize C / 256 = q at *
        go_wp2_with (at_builtin; refine wpList_pushi wr rfl _ _ rfl w.heap.size _ out rfl rfl HOw.out r rfl HOl.out HBel.out.size ?_; intro v' w1 hown' hb1)
        go_roundw
        case rel => exact ⟨out ++ [r], q, n + j + 1, rfl, by go_num, HLen.out, by omega, HC2.out, (by intro y hy; rcases List.mem_append.1 hy with h | h; exact HOut.out y h; simp at h; omega), HStep.out, hown', HBel.out.trans hb1⟩
        case measure => simp [intOf]; omega
      · obtain rfl : C = 0 := by omega
        have hnum' : numD out = numD d := by rw [← hnum]; simp [numD]
        have HR : Hid (∃ c, DV wr _ c ∧ (∀ x ∈ c, x < 256) ∧ numD c = numD d ∧ c.length ≤ n + 6) := ⟨out, hown.dv, hout, hnum', by omega⟩
        clear hnum hC hown hdv hout hnd hol hnum' h0 hok
        go_wp2
        go_ret
        obtain ⟨c, h1, h2, h3, h4⟩ := HR.out
        exact ⟨⟨_, c, rfl, h1, h2, h3, h4⟩, hbel⟩
end Go.Proofs.YtfflpooiebeagaaGreatDoor
namespace Go.Proofs.YtfflpooiebeagaaGreatDoor
open Go.RowKit

theorem digL_all (d : List Nat) : digL d d.length = d := by
  apply List.ext_getElem?
  intro i
  rw [digL, List.getElem?_map]
  by_cases h : i < d.length
  · rw [List.getElem?_range h, Option.map_some, List.getD_eq_getElem?_getD, List.getElem?_eq_getElem h]; rfl
  · rw [List.getElem?_eq_none (by simpa using h), List.getElem?_eq_none (by omega)]; rfl
theorem digL_more (d : List Nat) (j : Nat) : numD (digL d (d.length + j)) = numD d := by
  induction j with
  | zero => rw [Nat.add_zero, digL_all]
  | succ j ih => rw [← Nat.add_assoc, digL_succ, numD_snoc, ih, List.getD_eq_getElem?_getD, List.getElem?_eq_none (by omega)]; simp
theorem digL_val (d : List Nat) (m : Nat) (h : d.length ≤ m) : numD (digL d m) = numD d := by
  obtain ⟨j, rfl⟩ := Nat.exists_eq_add_of_le h; exact digL_more d j
/-- Sums, digit by digit. -/
def sumD (a b : List Nat) (m : Nat) : List Nat := (List.range m).map fun j => a.getD j 0 + b.getD j 0
theorem sumD_len (a b : List Nat) (m : Nat) : (sumD a b m).length = m := by simp [sumD]
theorem sumD_succ (a b : List Nat) (m : Nat) : sumD a b (m + 1) = sumD a b m ++ [a.getD m 0 + b.getD m 0] := by simp [sumD, List.range_succ]
theorem sumD_num (a b : List Nat) (m : Nat) : numD (sumD a b m) = numD (digL a m) + numD (digL b m) := by
  induction m with
  | zero => rfl
  | succ m ih => rw [sumD_succ, digL_succ, digL_succ, numD_snoc, numD_snoc, numD_snoc, ih, sumD_len, digL_len, digL_len, Nat.mul_add]; omega
theorem getD_le (d : List Nat) (B : Nat) (hB : 0 < B) (h : ∀ x ∈ d, x < B) (j : Nat) : d.getD j 0 < B := by
  by_cases hj : j < d.length
  · rw [List.getD_eq_getElem?_getD, List.getElem?_eq_getElem hj]; exact h _ (List.getElem_mem hj)
  · rw [List.getD_eq_getElem?_getD, List.getElem?_eq_none (by omega)]; exact hB

set_option maxHeartbeats 1000000 in
theorem plus_any (va vb : Value) (a b : List Nat) (ha : ∀ x ∈ a, x < 256) (hb : ∀ x ∈ b, x < 256) (la : a.length ≤ 400) (lb : b.length ≤ 400) (w : World) (hva : DV w va a) (hvb : DV w vb b) :
    Calls Tryz.prog 52 #[va, vb] w fun e w' => (∃ v c, e = .returned v ∧ DV w' v c ∧ (∀ x ∈ c, x < 256) ∧ numD c = numD a + numD b ∧ c.length ≤ max a.length b.length + 6) ∧ Below w.heap.size w w' := by
  have HO := Lib.hid (Oi.start w w.heap.size (Nat.le_refl _))
  have HB := Lib.hid ((Below.refl w.heap.size w).alloc (Nat.le_refl _) (.cells #[] 3))
  have HVa := Lib.hid hva
  have HVb := Lib.hid hvb
  have HA := Lib.hid (getD_le a 256 (by decide) ha)
  have HBb := Lib.hid (getD_le b 256 (by decide) hb)
  obtain ⟨_, pa, ca, rfl, _, _⟩ := hva
  obtain ⟨_, pb, cb, rfl, _, _⟩ := hvb
  obtain ⟨na, hna⟩ : ∃ n, n = a.length := ⟨_, rfl⟩
  obtain ⟨nb, hnb⟩ : ∃ n, n = b.length := ⟨_, rfl⟩
  have HNa := Lib.hid hna
  have HNb := Lib.hid hnb
  rw [← hna] at la HVa ⊢
  rw [← hnb] at lb HVb ⊢
  clear ha hb hna hnb
  go_enter Tryz.func52, Tryz.ntmps52
  go_wp2
  go_loopw [5, 6] (fun o i wr => ∃ k : Nat, k ≤ max na nb ∧ i = .int .i64 (k : Int) ∧ Oi wr w.heap.size o (sumD a b k) ∧ Below w.heap.size w wr) (fun _ i _ => max na nb - (intOf i).toNat)
  case atStart => exact ⟨0, by omega, rfl, HO.out, HB.out⟩
  case round =>
    clear HO HB
    obtain ⟨k, hk, rfl, hown, hbel⟩ := hrel
    have HDa := Lib.hid (digit_any _ a k wr (HVa.out.next hbel))
    have HDb := Lib.hid (digit_any _ b k wr (HVb.out.next hbel))
    by_cases hlt : k < max na nb
    · have hxa := HA.out k
      have hxb := HBb.out k
      have HS := Lib.hid (sumD_succ a b k)
      have HL := Lib.hid (show (sumD a b k).length ≤ 1000000000 by rw [sumD_len]; omega)
      have HOw := Lib.hid hown
      have HBel := Lib.hid hbel
      have e1 : ((a.getD k 0 : Nat) : Int) + ((b.getD k 0 : Nat) : Int) = ((a.getD k 0 + b.getD k 0 : Nat) : Int) := by omega
      clear hown hbel
      generalize a.getD k 0 = x at *
      generalize b.getD k 0 = y at *
      obtain ⟨z, hz⟩ : ∃ z, z = x + y := ⟨_, rfl⟩
      rw [← hz] at e1 HS
      have hz1 : z < 512 := by omega
      clear hz
      rcases (show k < na ∨ (¬ k < na ∧ k < nb) by omega) with h1 | ⟨h1, h2⟩
      all_goals
        go_wp2_with (first
          | (go_at_call 53; (first | ((with_reducible refine HDa.out.mono ?_); rintro e w' ⟨rfl, rfl⟩) | ((with_reducible refine HDb.out.mono ?_); rintro e w' ⟨rfl, rfl⟩)))
          | (at_builtin; refine wpList_pushi wr rfl _ _ rfl w.heap.size _ (sumD a b k) rfl rfl HOw.out z rfl HL.out HBel.out.size ?_; intro v' w1 hown' hb1))
        go_roundw
        case rel => exact ⟨k + 1, by omega, by go_num, by rw [HS.out]; exact hown', HBel.out.trans hb1⟩
        case measure => simp [intOf]; omega
    · have h1 : ¬ k < na := by omega
      have h2 : ¬ k < nb := by omega
      have hnum : numD (sumD a b k) = numD a + numD b := by
        have := HNa.out; have := HNb.out
        rw [sumD_num, digL_val a k (by omega), digL_val b k (by omega)]
      have hsl := sumD_len a b k
      have hlt' : ∀ x ∈ sumD a b k, x < 1099511627776 := by
        intro x hx
        rw [sumD, List.mem_map] at hx
        obtain ⟨j, _, rfl⟩ := hx
        have := HA.out j; have := HBb.out j; omega
      have hC := carried_any _ (sumD a b k) hlt' (by rw [hsl]; omega) wr hown.dv
      rw [hnum, hsl] at hC
      have HC := Lib.hid hC
      have HBel := Lib.hid hbel
      clear hnum hsl hlt' hC hown hbel
      go_wp2_with (go_at_call 75; ((with_reducible refine HC.out.mono ?_); rintro e w3 ⟨⟨v, c, rfl, hc⟩, hb3⟩))
      go_ret
      exact ⟨⟨v, c, rfl, hc.1, hc.2.1, hc.2.2.1, by have := hc.2.2.2; omega⟩, HBel.out.trans (hb3.mono HBel.out.size)⟩

set_option maxHeartbeats 1000000 in
theorem high_any5 (v : Value) (d : List Nat) (hd : ∀ x ∈ d, x < 256) (hl : d.length ≤ 1000) (w : World) (hv : DV w v d) :
    Calls Tryz.prog 73 #[v] w fun e w' => (∃ v', e = .returned v' ∧ DV w' v' (highD d)) ∧ Below w.heap.size w w' := by
  have HO := Lib.hid (Oi.start w w.heap.size (Nat.le_refl _))
  have HB := Lib.hid ((Below.refl w.heap.size w).alloc (Nat.le_refl _) (.cells #[] 3))
  have HV := Lib.hid hv
  have HD := Lib.hid (getD_le d 256 (by decide) hd)
  have HHl := Lib.hid (highD_len d)
  have HHg := Lib.hid (highD_get d)
  obtain ⟨_, pa, ca, rfl, _, _⟩ := hv
  obtain ⟨n, hn⟩ : ∃ n, n = d.length := ⟨_, rfl⟩
  rw [← hn] at hl HV HHl HHg ⊢
  clear hn hd
  go_enter Tryz.func73, Tryz.ntmps73
  go_wp2
  go_loopw [3, 4] (fun o i wr => ∃ k : Nat, k ≤ n - 16 ∧ i = .int .i64 (16 + (k : Int)) ∧ Oi wr w.heap.size o ((highD d).take k) ∧ Below w.heap.size w wr) (fun _ i _ => n - (intOf i).toNat)
  case atStart => exact ⟨0, by omega, rfl, HO.out, HB.out⟩
  case round =>
    clear HO HB
    obtain ⟨k, hk, rfl, hown, hbel⟩ := hrel
    have HDa := Lib.hid (digit_any _ d (16 + k) wr (HV.out.next hbel))
    have HDb := Lib.hid (digit_any _ d (16 + k + 1) wr (HV.out.next hbel))
    rw [show ((16 + k : Nat) : Int) = 16 + (k : Int) by omega] at HDa
    rw [show ((16 + k + 1 : Nat) : Int) = 16 + (k : Int) + 1 by omega] at HDb
    by_cases hlt : 16 + k < n
    · have hxa := HD.out (16 + k)
      have hxb := HD.out (16 + k + 1)
      have hg := HHg.out k hlt
      have hts : (highD d).take (k + 1) = (highD d).take k ++ [(highD d).getD k 0] := by
        rw [List.take_succ_eq_append_getElem (by rw [HHl.out]; omega), List.getD_eq_getElem?_getD, List.getElem?_eq_getElem (by rw [HHl.out]; omega)]; rfl
      rw [hg] at hts
      have HS := Lib.hid hts
      have HL := Lib.hid (show ((highD d).take k).length ≤ 1000000000 by rw [List.length_take]; omega)
      have HOw := Lib.hid hown
      have HBel := Lib.hid hbel
      have e1 : ((d.getD (16 + k) 0 : Nat) : Int) / 4 + ((d.getD (16 + k + 1) 0 : Nat) : Int) % 4 * 64 = ((d.getD (16 + k) 0 / 4 + d.getD (16 + k + 1) 0 % 4 * 64 : Nat) : Int) := by omega
      have hlti : 16 + (k : Int) < (n : Int) := by omega
      clear hown hbel hts hg
      generalize d.getD (16 + k) 0 = x at *
      generalize d.getD (16 + k + 1) 0 = y at *
      obtain ⟨z, hz⟩ : ∃ z, z = x / 4 + y % 4 * 64 := ⟨_, rfl⟩
      rw [← hz] at e1 HS
      clear hz
      go_wp2_with (first
        | (go_at_call 53; (first | ((with_reducible refine HDa.out.mono ?_); rintro e w' ⟨rfl, rfl⟩) | ((with_reducible refine HDb.out.mono ?_); rintro e w' ⟨rfl, rfl⟩)))
        | (at_builtin; refine wpList_pushi wr rfl _ _ rfl w.heap.size _ ((highD d).take k) rfl rfl HOw.out z rfl HL.out HBel.out.size ?_; intro v' w1 hown' hb1))
      go_roundw
      case rel => exact ⟨k + 1, by omega, by go_num, by rw [HS.out]; exact hown', HBel.out.trans hb1⟩
      case measure => simp [intOf]; omega
    · have hlti : ¬ 16 + (k : Int) < (n : Int) := by omega
      rw [List.take_of_length_le (by rw [HHl.out]; omega)] at hown
      go_wp2
      go_ret
      exact ⟨⟨_, rfl, hown.dv⟩, hbel⟩
end Go.Proofs.YtfflpooiebeagaaGreatDoor
namespace Go.Proofs.YtfflpooiebeagaaGreatDoor
open Go.RowKit

theorem lowD_set (d : List Nat) : (digL d 17).set 16 (d.getD 16 0 % 4) = lowD d := by
  rw [lowD, digL_succ, List.set_append_right _ _ (by rw [digL_len]; exact Nat.le_refl _), digL_len]; rfl
theorem oi17 {w : World} {base : Nat} {v : Value} {Y : List Nat} (h : Oi w base v Y) (hY : Y.length = 17) : ∃ g cap, v = .slice (some ⟨g, 0, none⟩) 17 cap ∧ base ≤ g ∧ w.ownsRow base 3 1 (.slice (some ⟨g, 0, none⟩) 17 cap) 17 (i64s Y) := by
  have h' := h
  rcases h.2 with ⟨_, hx⟩ | ⟨g, cap, cur, rfl, hb, _⟩
  · rw [hY] at hx; exact absurd hx (by decide)
  · unfold Oi at h'
    rw [hY] at h'
    exact ⟨g, cap, by rw [hY], hb, h'⟩

set_option maxHeartbeats 1000000 in
theorem low_any5 (v : Value) (d : List Nat) (w : World) (hv : DV w v d) :
    Calls Tryz.prog 74 #[v] w fun e w' => (∃ v', e = .returned v' ∧ DV w' v' (lowD d)) ∧ Below w.heap.size w w' := by
  have HO := Lib.hid (Oi.start w w.heap.size (Nat.le_refl _))
  have HB := Lib.hid ((Below.refl w.heap.size w).alloc (Nat.le_refl _) (.cells #[] 3))
  have HV := Lib.hid hv
  obtain ⟨_, pa, ca, rfl, _, _⟩ := hv
  obtain ⟨n, hn⟩ : ∃ n, n = d.length := ⟨_, rfl⟩
  rw [← hn] at HV ⊢
  clear hn
  go_enter Tryz.func74, Tryz.ntmps74
  go_wp2
  go_loopw [3, 4] (fun o i wr => ∃ k : Nat, k ≤ 17 ∧ i = .int .i64 (k : Int) ∧ Oi wr w.heap.size o (digL d k) ∧ Below w.heap.size w wr) (fun _ i _ => 17 - (intOf i).toNat)
  case atStart => exact ⟨0, by omega, rfl, HO.out, HB.out⟩
  case round =>
    clear HO HB
    obtain ⟨k, hk, rfl, hown, hbel⟩ := hrel
    by_cases hlt : k < 17
    · have HDa := Lib.hid (digit_any _ d k wr (HV.out.next hbel))
      have HS := Lib.hid (digL_succ d k)
      have HL := Lib.hid (show (digL d k).length ≤ 1000000000 by rw [digL_len]; omega)
      have HOw := Lib.hid hown
      have HBel := Lib.hid hbel
      clear hown hbel
      generalize d.getD k 0 = x at *
      go_wp2_with (first
        | (go_at_call 53; ((with_reducible refine HDa.out.mono ?_); rintro e w' ⟨rfl, rfl⟩))
        | (at_builtin; refine wpList_pushi wr rfl _ _ rfl w.heap.size _ (digL d k) rfl rfl HOw.out x rfl HL.out HBel.out.size ?_; intro v' w1 hown' hb1))
      go_roundw
      case rel => exact ⟨k + 1, by omega, by go_num, by rw [HS.out]; exact hown', HBel.out.trans hb1⟩
      case measure => simp [intOf]; omega
    · obtain rfl : k = 17 := by omega
      obtain ⟨g, cap, rfl, hg, hOwn⟩ := oi17 hown (digL_len d 17)
      have hc := hOwn.cellAt 16 (by omega)
      have hx : (i64s (digL d 17))[16]? = some (.int .i64 ((d.getD 16 0 : Nat) : Int)) := by
        rw [digL_succ, i64s, List.map_append, List.getElem?_append_right (by rw [List.length_map, digL_len]; exact Nat.le_refl _), List.length_map, digL_len]; rfl
      rw [hx] at hc
      have hf := hOwn.frozenAt 16
      have hset := Oi.set hOwn 16 (d.getD 16 0 % 4)
      rw [lowD_set] at hset
      have HSet := Lib.hid hset
      have HLl := Lib.hid (lowD_len d)
      have HBel := Lib.hid (hbel.setCell (p := ⟨g, 16, none⟩) hg (.int .i64 ((d.getD 16 0 % 4 : Nat) : Int)))
      have e1 : ((d.getD 16 0 : Nat) : Int) % 4 = ((d.getD 16 0 % 4 : Nat) : Int) := by omega
      clear hown hOwn hx hset hbel
      generalize d.getD 16 0 % 4 = r at *
      generalize d.getD 16 0 = x at *
      go_wp2
      go_ret
      exact ⟨⟨_, rfl, Oi.dv (base := w.heap.size) (by unfold Oi; rw [HLl.out]; exact HSet.out)⟩, HBel.out⟩

theorem numD_pos (l : List Nat) (k : Nat) (hk : k < l.length) (h : 0 < l.getD k 0) : 0 < numD l := by
  induction l generalizing k with
  | nil => simp at hk
  | cons d l ih =>
    cases k with
    | zero => rw [List.getD_cons_zero] at h; rw [numD]; omega
    | succ k =>
      rw [List.getD_cons_succ] at h
      have := ih k (by simpa using hk) h
      rw [numD]; omega
theorem numD_zero (l : List Nat) (h : ∀ j, j < l.length → l.getD j 0 = 0) : numD l = 0 := by
  induction l with
  | nil => rfl
  | cons d l ih =>
    have h0 := h 0 (by simp)
    rw [List.getD_cons_zero] at h0
    rw [numD, h0, ih (fun j hj => by have := h (j + 1) (by simpa using hj); rwa [List.getD_cons_succ] at this)]

set_option maxHeartbeats 1000000 in
theorem some_any (v : Value) (d : List Nat) (hl : d.length ≤ 1000) (w : World) (hv : DV w v d) :
    Calls Tryz.prog 72 #[v] w fun e w' => e = .returned (.bool (decide (0 < numD d))) ∧ w = w' := by
  have HV := Lib.hid hv
  have HP := Lib.hid (numD_pos d)
  have HZ := Lib.hid (numD_zero d)
  obtain ⟨_, pa, ca, rfl, _, _⟩ := hv
  obtain ⟨n, hn⟩ : ∃ n, n = d.length := ⟨_, rfl⟩
  have HN := Lib.hid hn
  rw [← hn] at hl HV HP HZ ⊢
  clear hn
  generalize numD d = N at *
  go_enter Tryz.func72, Tryz.ntmps72
  go_wp2
  go_loop [3] (fun i => ∃ k : Nat, k ≤ n ∧ i = .int .i64 (k : Int) ∧ ∀ j, j < k → d.getD j 0 = 0) (fun i => n - (intOf i).toNat)
  case atStart => exact ⟨0, Nat.zero_le _, rfl, fun j hj => absurd hj (by omega)⟩
  case round =>
    obtain ⟨k, hk, rfl, hz⟩ := hrel
    have HZk := Lib.hid hz
    clear hz
    by_cases hlt : k < n
    · obtain ⟨g, rfl, hc⟩ := HV.out.at k (by rw [← HN.out]; exact hlt)
      have HX : Hid (∀ x, x = d.getD k 0 → x = d.getD k 0) := fun x h => h
      have hpos := HP.out k hlt
      obtain ⟨x, hx⟩ : ∃ x, x = d.getD k 0 := ⟨_, rfl⟩
      rw [← hx] at hc hpos
      have HXd := Lib.hid hx
      have HPos := Lib.hid hpos
      clear hx hpos
      by_cases h0 : 0 < x
      · have hd : decide (0 < N) = true := decide_eq_true (HPos.out h0)
        have HDd := Lib.hid hd
        clear hd
        go_wp2
        go_ret
        exact ⟨by rw [HDd.out]; rfl, rfl⟩
      · obtain rfl : x = 0 := by omega
        go_wp2
        go_round
        case rel => exact ⟨k + 1, by omega, by go_num, fun j hj => by
          rcases Nat.lt_or_ge j k with h | h
          · exact HZk.out j h
          · obtain rfl : j = k := by omega
            exact HXd.out.symm⟩
        case measure => simp [intOf]; omega
    · obtain rfl : k = n := by omega
      have hN := HZ.out HZk.out
      subst hN
      go_wp2
      go_ret
      exact ⟨rfl, rfl⟩
end Go.Proofs.YtfflpooiebeagaaGreatDoor
namespace Go.Proofs.YtfflpooiebeagaaGreatDoor
open Go.RowKit

theorem i64s_zeros (n : Nat) : (madeCells #[Value.int .i64 0] n).toList = i64s (List.replicate n 0) := by
  rw [toList_madeCells_one]
  simp [i64s]
theorem madeI (n : Nat) : madeCells #[Value.int .i64 0] n = (i64s (List.replicate n 0)).toArray := by
  apply Array.ext'
  rw [i64s_zeros]
theorem makeI (n : Nat) (hn : n ≤ 16777216) (w : World) : (Instr.makeSlice 68 (.int .i64 (n : Int)) (.int .i64 (n : Int))).run Tryz.prog w = .ok (.slice (some ⟨w.heap.size, 0, none⟩) n n) (w.alloc (.cells (i64s (List.replicate n 0)).toArray 3)) := by
  obtain ⟨i0, hi, hz0, hz1, hz2⟩ := info_parts Tryz.infoI64
  have := run_makeSlice (P := Tryz.prog) w 68 3 i0 (.int .i64 0) Tryz.underlying68 hi hz0 .i64 .i64 n n (by omega) (by omega) (by rw [hz1]; omega) (by rw [hz2]; omega) (by omega)
  rw [hz1, Int.toNat_natCast, Nat.mul_one] at this
  rw [← madeI]
  exact this
theorem i64s_set (l : List Nat) (k x : Nat) : (i64s l).toArray.setIfInBounds k (.int .i64 (x : Int)) = (i64s (l.set k x)).toArray := by
  rw [List.setIfInBounds_toArray]; simp [i64s, List.map_set]
theorem mul_le (x y : Nat) (hx : x < 256) (hy : y < 256) : x * y ≤ 65025 := Nat.le_trans (Nat.mul_le_mul (Nat.le_of_lt_succ hx) (Nat.le_of_lt_succ hy)) (by decide)
theorem prod_step (P A x B M y : Nat) : P * B + M * (x * A) + M * (A * 0 + x * y * 0) = P * B + M * (x * A) := by simp
theorem inner_num (O P B M x T N y : Nat) (h : O = P * B + M * (x * T)) : O + (M * N) * (x * y) = P * B + M * (x * (T + N * y)) := by
  subst h
  rw [Nat.mul_add x, Nat.mul_add M, Nat.add_assoc]
  congr 2
  rw [Nat.mul_assoc M N, ← Nat.mul_assoc N x, Nat.mul_comm N x, Nat.mul_assoc x N]
theorem outer_num (P B M x : Nat) : P * B + M * (x * B) = (P + M * x) * B := by rw [Nat.add_mul, Nat.mul_assoc]

set_option maxHeartbeats 2000000 in
set_option maxRecDepth 100000 in
theorem times_any (va vb : Value) (a b : List Nat) (ha : ∀ x ∈ a, x < 256) (hb : ∀ x ∈ b, x < 256) (la : a.length ≤ 300) (lb : b.length ≤ 300) (w : World) (hva : DV w va a) (hvb : DV w vb b) :
    Calls Tryz.prog 51 #[va, vb] w fun e w' => (∃ v c, e = .returned v ∧ DV w' v c ∧ (∀ x ∈ c, x < 256) ∧ numD c = numD a * numD b ∧ c.length ≤ a.length + b.length + 6) ∧ Below w.heap.size w w' := by
  have HVa := Lib.hid hva
  have HVb := Lib.hid hvb
  have HA := Lib.hid (getD_le a 256 (by decide) ha)
  have HBb := Lib.hid (getD_le b 256 (by decide) hb)
  obtain ⟨_, pa, ca, rfl, _, _⟩ := hva
  obtain ⟨_, pb, cb, rfl, _, _⟩ := hvb
  obtain ⟨na, hna⟩ : ∃ n, n = a.length := ⟨_, rfl⟩
  obtain ⟨nb, hnb⟩ : ∃ n, n = b.length := ⟨_, rfl⟩
  have HNa := Lib.hid hna
  have HNb := Lib.hid hnb
  rw [← hna] at la HVa ⊢
  rw [← hnb] at lb HVb ⊢
  have hmk := makeI (na + nb) (by omega)
  rw [show ((na + nb : Nat) : Int) = (na : Int) + (nb : Int) by omega] at hmk
  have HZ := Lib.hid (Arr.new w (i64s (List.replicate (na + nb) 0)).toArray 3)
  have HB := Lib.hid ((Below.refl w.heap.size w).alloc (Nat.le_refl _) (.cells (i64s (List.replicate (na + nb) 0)).toArray 3))
  clear ha hb hna hnb
  go_enter Tryz.func51, Tryz.ntmps51
  go_wp2
  clear hmk
  go_loopw [6] (fun i wr => ∃ (k : Nat) (out : List Nat), k ≤ na ∧ i = .int .i64 (k : Int) ∧ out.length = na + nb ∧ (∀ j, out.getD j 0 ≤ 65025 * (k * nb)) ∧ numD out = numD (a.take k) * numD b ∧ Arr wr w.heap.size (i64s out).toArray 3 ∧ Below w.heap.size w wr) (fun i _ => na - (intOf i).toNat)
  case atStart => exact ⟨0, List.replicate (na + nb) 0, by omega, rfl, by simp, by intro j; simp [List.getD_eq_getElem?_getD, List.getElem?_replicate]; split <;> simp, by rw [numD_zeros]; simp [numD], HZ.out, HB.out⟩
  case round =>
    clear HZ HB
    obtain ⟨i, out, hi, rfl, hol, hob, hon, harr, hbel⟩ := hrel
    have HOl := Lib.hid hol
    have HOb := Lib.hid hob
    have HOn := Lib.hid hon
    have HArr := Lib.hid harr
    have HBel := Lib.hid hbel
    clear hol hob hon harr hbel
    by_cases hlt : i < na
    · have hdi : decide ((i : Int) < (na : Int)) = true := decide_eq_true (by omega)
      go_wp2
      clear hdi
      go_loopw [7] (fun j wr => ∃ (k : Nat) (out : List Nat), k ≤ nb ∧ j = .int .i64 (k : Int) ∧ out.length = na + nb ∧ (∀ j, out.getD j 0 ≤ 65025 * (i * nb + k)) ∧ numD out = numD (a.take i) * numD b + 256 ^ i * (a.getD i 0 * numD (b.take k)) ∧ Arr wr w.heap.size (i64s out).toArray 3 ∧ Below w.heap.size w wr) (fun j _ => nb - (intOf j).toNat)
      case atStart => exact ⟨0, out, by omega, rfl, HOl.out, by simpa using HOb.out, by rw [HOn.out]; simp [numD], HArr.out, HBel.out⟩
      case round =>
        clear HOl HOb HOn HArr HBel
        obtain ⟨k, out, hk, rfl, hol, hob, hon, harr, hbel⟩ := hrel
        by_cases hkt : k < nb
        · obtain ⟨ga, rfl, hca⟩ := (HVa.out.next hbel).at i (by rw [← HNa.out]; exact hlt)
          obtain ⟨gb, rfl, hcb⟩ := (HVb.out.next hbel).at k (by rw [← HNb.out]; exact hkt)
          have hco := harr.cell (j := i + k) (v := .int .i64 ((out.getD (i + k) 0 : Nat) : Int)) (by
            rw [List.getElem?_toArray, i64s_get _ _ (by rw [hol]; omega), List.getD_eq_getElem?_getD, List.getElem?_eq_getElem (by rw [hol]; omega)]; rfl)
          have hfo := harr.frozen (i + k)
          have hx := HA.out i
          have hy := HBb.out k
          have hxy := mul_le _ _ hx hy
          have ho := hob (i + k)
          have hbd : i * nb + k ≤ 100000 := by have := Nat.mul_le_mul (show i ≤ 300 by omega) lb; omega
          have hsum : numD (out.set (i + k) (out.getD (i + k) 0 + a.getD i 0 * b.getD k 0)) = numD (a.take i) * numD b + 256 ^ i * (a.getD i 0 * numD (b.take (k + 1))) := by
            rw [numD_set _ _ _ (by rw [hol]; omega), Nat.pow_add, numD_take_succ b k (by rw [← HNb.out]; exact hkt)]
            exact inner_num _ _ _ _ _ _ _ _ hon
          have hob' : ∀ j, (out.set (i + k) (out.getD (i + k) 0 + a.getD i 0 * b.getD k 0)).getD j 0 ≤ 65025 * (i * nb + (k + 1)) := by
            intro j
            have hj := hob j
            rw [List.getD_eq_getElem?_getD, List.getElem?_set]
            split
            · split
              · simp only [Option.getD_some]; omega
              · simp
            · rw [← List.getD_eq_getElem?_getD]; omega
          have hset := harr.set (i + k) (.int .i64 ((out.getD (i + k) 0 + a.getD i 0 * b.getD k 0 : Nat) : Int))
          rw [i64s_set] at hset
          have HSet := Lib.hid hset
          have HSum := Lib.hid hsum
          have HOb2 := Lib.hid hob'
          have HOl2 := Lib.hid (show (out.set (i + k) (out.getD (i + k) 0 + a.getD i 0 * b.getD k 0)).length = na + nb by rw [List.length_set]; exact hol)
          have HBel2 := Lib.hid (hbel.setCell (p := ⟨w.heap.size, i + k, none⟩) (Nat.le_refl _) (.int .i64 ((out.getD (i + k) 0 + a.getD i 0 * b.getD k 0 : Nat) : Int)))
          have e1 : IntKind.i64.wrap ((i : Int) + (k : Int)) = ((i + k : Nat) : Int) := by rw [IntWalk.i64_in _ (by omega)]; omega
          have e2 : IntKind.i64.wrap (((a.getD i 0 : Nat) : Int) * ((b.getD k 0 : Nat) : Int)) = ((a.getD i 0 * b.getD k 0 : Nat) : Int) := by rw [← Int.natCast_mul, IntWalk.i64_in _ (by omega)]
          have e3 : IntKind.i64.wrap (((out.getD (i + k) 0 : Nat) : Int) + ((a.getD i 0 * b.getD k 0 : Nat) : Int)) = ((out.getD (i + k) 0 + a.getD i 0 * b.getD k 0 : Nat) : Int) := by rw [IntWalk.i64_in _ (by omega)]; omega
          have p0 : (0 : Int) ≤ (i : Int) := by omega
          have p1 : (i : Int) < (na : Int) := by omega
          have p2 : (0 : Int) ≤ (k : Int) := by omega
          have p3 : (k : Int) < (nb : Int) := by omega
          have p4 : (0 : Int) ≤ ((i + k : Nat) : Int) := by omega
          have p5 : ((i + k : Nat) : Int) < (na : Int) + (nb : Int) := by omega
          clear hx hy hxy ho hbd hsum hob' hset hob hon hol hbel harr
          generalize out.getD (i + k) 0 + a.getD i 0 * b.getD k 0 = r at *
          generalize a.getD i 0 * b.getD k 0 = q at *
          generalize out.getD (i + k) 0 = o at *
          generalize a.getD i 0 = x at *
          generalize b.getD k 0 = y at *
          generalize i + k = p at *
          go_wp2
          go_region
          go_wp2
          go_roundw
          case rel => exact ⟨k + 1, _, by omega, by go_num, HOl2.out, HOb2.out, HSum.out, HSet.out.drew, HBel2.out.drew⟩
          case measure => simp [intOf]; omega
        · obtain rfl : k = nb := by omega
          rw [List.take_of_length_le (show b.length ≤ k by rw [← HNb.out]; exact Nat.le_refl _), outer_num, ← numD_take_succ a i (by rw [← HNa.out]; exact hlt)] at hon
          have HOn := Lib.hid hon
          have HOb := Lib.hid hob
          have HArr := Lib.hid harr
          have HBel := Lib.hid hbel
          clear hon hob harr hbel
          go_wp2
          go_roundw
          case rel => exact ⟨i + 1, out, by omega, by go_num, hol, fun j => by have := HOb.out j; rw [Nat.add_mul, Nat.one_mul]; exact this, HOn.out, HArr.out, HBel.out⟩
          case measure => simp [intOf]; omega
    · obtain rfl : i = na := by omega
      have hnum : numD out = numD a * numD b := by rw [HOn.out, List.take_of_length_le (show a.length ≤ i by rw [← HNa.out]; exact Nat.le_refl _)]
      have hdv : DV wr (.slice (some ⟨w.heap.size, 0, none⟩) (i + nb) (i + nb)) out := ⟨w.heap.size, _, i + nb, by rw [HOl.out], RowI.ofArr HArr.out, fun _ => ⟨rfl, HArr.out.lt⟩⟩
      have hlt' : ∀ x ∈ out, x < 1099511627776 := by
        intro x hx
        obtain ⟨j, hj, rfl⟩ := List.getElem_of_mem hx
        have h1 := HOb.out j
        rw [List.getD_eq_getElem?_getD, List.getElem?_eq_getElem hj] at h1
        simp only [Option.getD_some] at h1
        have := Nat.mul_le_mul la lb
        omega
      have hC := carried_any _ out hlt' (by rw [HOl.out]; omega) wr hdv
      rw [hnum, HOl.out] at hC
      have HC := Lib.hid hC
      clear hC hlt' hdv hnum
      go_wp2_with (go_at_call 75; ((with_reducible refine HC.out.mono ?_); rintro e w3 ⟨⟨v, c, rfl, hc⟩, hb3⟩))
      go_ret
      exact ⟨⟨v, c, rfl, hc⟩, HBel.out.trans (hb3.mono HBel.out.size)⟩
end Go.Proofs.YtfflpooiebeagaaGreatDoor
namespace Go.Proofs.YtfflpooiebeagaaGreatDoor
open Go.RowKit

/-- The number that a slice value reads as. -/
def numAt (v : Value) (wr : World) : Nat :=
  match v with
  | .slice (some a) n _ => numD ((List.range n).map fun j => (intOf ((wr.cell? ⟨a.block, j, none⟩).getD undef)).toNat)
  | _ => 0
theorem numAt_of {w : World} {v : Value} {d : List Nat} (h : DV w v d) : numAt v w = numD d := by
  obtain ⟨g, a, cap, rfl, hr, ha⟩ := h
  by_cases hd : 0 < d.length
  · obtain ⟨rfl, _⟩ := ha hd
    simp only [numAt]
    congr 1
    apply List.ext_getElem?
    intro j
    rw [List.getElem?_map]
    by_cases hj : j < d.length
    · rw [List.getElem?_range hj, Option.map_some, hr j hj, List.getElem?_eq_getElem hj]; simp [intOf]
    · rw [List.getElem?_eq_none (by simpa using hj), List.getElem?_eq_none (by omega)]; rfl
  · have h0 : d = [] := List.eq_nil_of_length_eq_zero (by omega)
    subst h0
    cases a <;> rfl
theorem dv_five (w : World) : DV (w.alloc (.cells #[.int .i64 5] 3)) (.slice (some ⟨w.heap.size, 0, none⟩) 1 1) [5] :=
  ⟨w.heap.size, _, 1, rfl, RowI.ofArr (Arr.new w (i64s [5]).toArray 3), fun _ => ⟨rfl, by simp⟩⟩

set_option maxHeartbeats 2000000 in
set_option maxRecDepth 100000 in
theorem modulo_any (v : Value) (d : List Nat) (hd : ∀ x ∈ d, x < 256) (hl : d.length ≤ 60) (w : World) (hv : DV w v d) :
    Calls Tryz.prog 50 #[v] w fun e w' => (∃ v' c, e = .returned v' ∧ DV w' v' c ∧ (∀ x ∈ c, x < 256) ∧ numD c = numD d % PP ∧ c.length = 17) ∧ Below w.heap.size w w' := by
  have HV := Lib.hid hv
  have HD := Lib.hid hd
  have HL := Lib.hid hl
  clear hv hd hl
  go_enter Tryz.func50, Tryz.ntmps50
  go_wp2
  go_loopw [0] (fun v wr => ∃ d' : List Nat, DV wr v d' ∧ (∀ x ∈ d', x < 256) ∧ d'.length ≤ 60 ∧ numD d' % PP = numD d % PP ∧ Below w.heap.size w wr) (fun v wr => numAt v wr)
  case atStart => exact ⟨d, HV.out, HD.out, HL.out, rfl, Below.refl _ _⟩
  case round =>
    clear HV HD HL
    obtain ⟨c, hv, hd, hl, hn, hbel⟩ := hrel
    have HV := Lib.hid hv
    have HD := Lib.hid hd
    have HL := Lib.hid hl
    have HN := Lib.hid hn
    have HBel := Lib.hid hbel
    have hhl := highD_len c
    have HHl := Lib.hid (show (highD c).length ≤ 44 by rw [hhl]; omega)
    have HHd := Lib.hid (highD_lt c hd)
    have HLl := Lib.hid (lowD_len c)
    have HLd := Lib.hid (lowD_lt c hd)
    have HLH := Lib.hid (low_high c hd)
    have HM := Lib.hid (numAt_of hv)
    have HHn := Lib.hid (highD_num c hd)
    have HLn := Lib.hid (lowD_num c hd)
    have HHi := Lib.hid (fun vv wx h => high_any5 vv c hd (by omega) wx h)
    have HLo := Lib.hid (fun vv wx h => low_any5 vv c wx h)
    clear hv hd hl hn hbel hhl
    generalize highD c = H at *
    generalize lowD c = L at *
    by_cases hpos : 0 < numD H
    · have HPos := Lib.hid hpos
      have hdec : decide (0 < numD H) = true := decide_eq_true hpos
      have HDec := Lib.hid hdec
      clear hpos hdec
      go_wp2_with fail
      refine (HHi.out _ _ HV.out).mono ?_
      rintro e w1 ⟨⟨v1, rfl, hv1⟩, hb⟩
      have HV1 := Lib.hid (HV.out.next hb)
      have HB1 := Lib.hid (HBel.out.trans (hb.mono HBel.out.size))
      have HS := Lib.hid (some_any v1 H (by have := HHl.out; omega) w1 hv1)
      rw [HDec.out] at HS
      clear hb hv1
      go_wp2_with fail
      refine HS.out.mono ?_
      rintro e w2 ⟨rfl, rfl⟩
      clear HS
      go_wp2_with fail
      refine (HLo.out _ _ HV1.out).mono ?_
      rintro e w2 ⟨⟨v2, rfl, hv2⟩, hb⟩
      have HV2 := Lib.hid (HV1.out.next hb)
      have HL2 := Lib.hid hv2
      have HB2 := Lib.hid (HB1.out.trans (hb.mono HB1.out.size))
      clear hb hv2
      go_wp2_with fail
      refine (HHi.out _ _ (HV2.out.alloc _)).mono ?_
      rintro e w3 ⟨⟨v3, rfl, hv3⟩, hb⟩
      have HV3 := Lib.hid hv3
      have HL3 := Lib.hid ((HL2.out.alloc (.cells #[.int .i64 5] 3)).next hb)
      have HF3 := Lib.hid ((dv_five w2).next hb)
      have HB3 := Lib.hid ((HB2.out.alloc HB2.out.size (.cells #[.int .i64 5] 3)).trans (hb.mono (by have := HB2.out.size; simp; omega)))
      clear hb hv3
      go_wp2_with fail
      refine (times_any _ v3 [5] H (by simp) HHd.out (by decide) (by have := HHl.out; omega) w3 HF3.out HV3.out).mono ?_
      rintro e w4 ⟨⟨v4, c4, rfl, hv4, hd4, hn4, hl4⟩, hb⟩
      have HV4 := Lib.hid hv4
      have HD4 := Lib.hid hd4
      have HN4 := Lib.hid hn4
      have HLn4 := Lib.hid hl4
      have HL4 := Lib.hid (HL3.out.next hb)
      have HB4 := Lib.hid (HB3.out.trans (hb.mono HB3.out.size))
      clear hb hv4 hd4 hn4 hl4
      go_wp2_with fail
      refine (plus_any v2 v4 L c4 HLd.out HD4.out (by have := HLl.out; omega) (by have := HLn4.out; have := HHl.out; simp at *; omega) w4 HL4.out HV4.out).mono ?_
      rintro e w5 ⟨⟨v5, c5, rfl, hv5, hd5, hn5, hl5⟩, hb⟩
      have HB5 := Lib.hid (HB4.out.trans (hb.mono HB4.out.size))
      have hval : numD c5 = numD L + 5 * numD H := by rw [hn5, HN4.out]; simp [numD]
      have HV5 := Lib.hid hv5
      have HD5 := Lib.hid hd5
      have HN5 := Lib.hid (show numD c5 % PP = numD d % PP by rw [hval, fold_mod, ← HLH.out, HN.out])
      have HLn5 := Lib.hid (show c5.length ≤ 60 by have := HLn4.out; have := HHl.out; have := HLl.out; simp at *; omega)
      have HM5 := Lib.hid (show numAt v5 w5 < numD c by rw [numAt_of hv5, hval, HLH.out]; exact fold_lt _ _ HPos.out)
      clear hb hv5 hd5 hn5 hl5 hval
      go_wp2_with fail
      go_roundw
      case rel => exact ⟨c5, HV5.out, HD5.out, HLn5.out, HN5.out, HB5.out⟩
      case measure => rw [HM.out]; exact HM5.out
    · have hdec : decide (0 < numD H) = false := decide_eq_false hpos
      have hz : numD H = 0 := by omega
      have HDec := Lib.hid hdec
      have hval : numD c = numD L := by rw [HLH.out, hz]; simp
      have hlt : numD c < TB := by rw [hval, HLn.out]; exact Nat.mod_lt _ TB_pos
      have HVal := Lib.hid hval
      have HLast := Lib.hid (last_mod (numD c) hlt)
      clear hpos hdec hz hval hlt
      go_wp2_with fail
      refine (HHi.out _ _ HV.out).mono ?_
      rintro e w1 ⟨⟨v1, rfl, hv1⟩, hb⟩
      have HV1 := Lib.hid (HV.out.next hb)
      have HB1 := Lib.hid (HBel.out.trans (hb.mono HBel.out.size))
      have HS := Lib.hid (some_any v1 H (by have := HHl.out; omega) w1 hv1)
      rw [HDec.out] at HS
      clear hb hv1
      go_wp2_with fail
      refine HS.out.mono ?_
      rintro e w2 ⟨rfl, rfl⟩
      clear HS
      go_wp2_with fail
      refine (HLo.out _ _ HV1.out).mono ?_
      rintro e w2 ⟨⟨v2, rfl, hv2⟩, hb⟩
      have HV2 := Lib.hid (HV1.out.next hb)
      have HL2 := Lib.hid hv2
      have HB2 := Lib.hid (HB1.out.trans (hb.mono HB1.out.size))
      clear hb hv2
      go_wp2_with fail
      refine (plus_any v2 _ L [5] HLd.out (by simp) (by have := HLl.out; omega) (by decide) _ (HL2.out.alloc _) (dv_five w2)).mono ?_
      rintro e w3 ⟨⟨v3, c3, rfl, hv3, hd3, hn3, hl3⟩, hb⟩
      have HB3 := Lib.hid ((HB2.out.alloc HB2.out.size (.cells #[.int .i64 5] 3)).trans (hb.mono (by have := HB2.out.size; simp; omega)))
      have HV3 := Lib.hid ((HV2.out.alloc (.cells #[.int .i64 5] 3)).next hb)
      have HM3 := Lib.hid hv3
      have HD3 := Lib.hid hd3
      have HN3 := Lib.hid (show numD c3 = numD c + 5 by rw [hn3, HVal.out]; simp [numD])
      have HLn3 := Lib.hid (show c3.length ≤ 60 by have := HLl.out; simp at hl3; omega)
      clear hb hv3 hd3 hn3 hl3
      go_wp2_with fail
      refine (high_any5 v3 c3 HD3.out (by have := HLn3.out; omega) w3 HM3.out).mono ?_
      rintro e w4 ⟨⟨v4, rfl, hv4⟩, hb⟩
      have HV4 := Lib.hid (HV3.out.next hb)
      have HM4 := Lib.hid (HM3.out.next hb)
      have HB4 := Lib.hid (HB3.out.trans (hb.mono HB3.out.size))
      have HS4 := Lib.hid (some_any v4 (highD c3) (by rw [highD_len]; have := HLn3.out; omega) w4 hv4)
      clear hb hv4
      have hhn := highD_num c3 HD3.out
      rw [HN3.out] at hhn
      by_cases h3 : 0 < numD (highD c3)
      · have HDec3 := Lib.hid (show decide (0 < numD (highD c3)) = true from decide_eq_true h3)
        rw [HDec3.out] at HS4
        have HR := Lib.hid (show numD (lowD c3) = numD d % PP by
          rw [lowD_num c3 HD3.out, HN3.out, ← HN.out, HLast.out, if_neg (by rw [← hhn]; omega)])
        have HR1 := Lib.hid (lowD_lt c3 HD3.out)
        have HR2 := Lib.hid (lowD_len c3)
        clear h3 hhn HDec3
        go_wp2_with fail
        refine HS4.out.mono ?_
        rintro e w5 ⟨rfl, rfl⟩
        go_wp2_with fail
        refine (low_any5 v3 c3 _ HM4.out).mono ?_
        rintro e w5 ⟨⟨v5, rfl, hv5⟩, hb⟩
        have HV5 := Lib.hid hv5
        have HB5 := Lib.hid (HB4.out.trans (hb.mono HB4.out.size))
        clear hb hv5
        go_wp2_with fail
        go_ret
        exact ⟨⟨v5, lowD c3, rfl, HV5.out, HR1.out, HR.out, HR2.out⟩, HB5.out⟩
      · have HDec3 := Lib.hid (show decide (0 < numD (highD c3)) = false from decide_eq_false h3)
        rw [HDec3.out] at HS4
        have HR := Lib.hid (show numD L = numD d % PP by
          rw [← HVal.out, ← HN.out, HLast.out, if_pos (by rw [← hhn]; omega)])
        clear h3 hhn HDec3
        go_wp2_with fail
        refine HS4.out.mono ?_
        rintro e w5 ⟨rfl, rfl⟩
        go_wp2_with fail
        refine (HLo.out _ _ HV4.out).mono ?_
        rintro e w5 ⟨⟨v5, rfl, hv5⟩, hb⟩
        have HV5 := Lib.hid hv5
        have HB5 := Lib.hid (HB4.out.trans (hb.mono HB4.out.size))
        clear hb hv5
        go_wp2_with fail
        go_ret
        exact ⟨⟨v5, L, rfl, HV5.out, HLd.out, HR.out, HLl.out⟩, HB5.out⟩
end Go.Proofs.YtfflpooiebeagaaGreatDoor
namespace Go.Proofs.YtfflpooiebeagaaGreatDoor
open Go.RowKit

/-- Bits are taken away of byte i. -/
def clampB (i : Nat) (c : UInt8) : UInt8 := if i = 3 ∨ i = 7 ∨ i = 11 ∨ i = 15 then c % 16 else if i = 4 ∨ i = 8 ∨ i = 12 then c / 4 * 4 else c
def clampK (r : List UInt8) (k : Nat) : List UInt8 := (List.range k).map fun i => clampB i (r.getD i 0)
def clampL (r : List UInt8) : List UInt8 := clampK r 16
theorem clampK_len (r : List UInt8) (k : Nat) : (clampK r k).length = k := by simp [clampK]
theorem clampK_succ (r : List UInt8) (k : Nat) : clampK r (k + 1) = clampK r k ++ [clampB k (r.getD k 0)] := by simp [clampK, List.range_succ]
theorem clampL_len (r : List UInt8) : (clampL r).length = 16 := clampK_len r 16

theorem cb16 {k : Nat} {c : UInt8} (h : k = 3 ∨ k = 7 ∨ k = 11 ∨ k = 15) : (c.toNat : Int) % 16 = ((clampB k c).toNat : Int) := by
  rw [clampB, if_pos h, UInt8.toNat_mod]; rfl
theorem cb4 {k : Nat} {c : UInt8} (h : k = 4 ∨ k = 8 ∨ k = 12) : (c.toNat : Int) / 4 * 4 = ((clampB k c).toNat : Int) := by
  rw [clampB, if_neg (by omega), if_pos h, UInt8.toNat_mul, UInt8.toNat_div]
  have := c.toNat_lt
  show _ = (((c.toNat / 4 * 4) % 256 : Nat) : Int)
  omega
theorem cb0 {k : Nat} {c : UInt8} (h : ¬ (k = 3 ∨ k = 7 ∨ k = 11 ∨ k = 15)) (h2 : ¬ (k = 4 ∨ k = 8 ∨ k = 12)) : (c.toNat : Int) = ((clampB k c).toNat : Int) := by
  rw [clampB, if_neg h, if_neg h2]

set_option maxHeartbeats 1000000 in
set_option maxRecDepth 100000 in
theorem rclamp_ok (s : ByteArray) (hs : s.size = 16) (w : World) :
    Calls Tryz.prog 48 #[.string s] w fun e w' => e = .returned (.tuple #[.string ⟨(clampL s.data.toList).toArray⟩, .int .i64 0]) ∧ Below w.heap.size w w' := by
  have e1 : ((s.size : Int) != 16) = false := by rw [hs]; rfl
  have HS := Lib.hid hs
  have HO := Lib.hid (Ob.start w w.heap.size (Nat.le_refl _))
  have HB := Lib.hid ((Below.refl w.heap.size w).alloc (Nat.le_refl _) (.cells #[] 5))
  have HR : Hid (∀ k, k = 16 → (⟨(clampK s.data.toList k).toArray⟩ : ByteArray) = ⟨(clampL s.data.toList).toArray⟩) := fun k h => by rw [h]; rfl
  obtain ⟨R, hR⟩ : ∃ R : ByteArray, R = ⟨(clampL s.data.toList).toArray⟩ := ⟨_, rfl⟩
  rw [← hR] at HR ⊢
  clear hs hR
  go_enter Tryz.func48, Tryz.ntmps48
  go_wp2
  clear e1
  go_loopw [4, 5] (fun o i wr => ∃ k : Nat, k ≤ 16 ∧ i = .int .i64 (k : Int) ∧ Ob wr w.heap.size o (clampK s.data.toList k) ∧ Below w.heap.size w wr) (fun _ i _ => 16 - (intOf i).toNat)
  case atStart => exact ⟨0, by omega, rfl, HO.out, HB.out⟩
  case round =>
    clear HO HB
    obtain ⟨k, hk, rfl, hown, hbel⟩ := hrel
    by_cases hlt : k < 16
    · have hlts : k < s.size := by rw [HS.out]; exact hlt
      have HK := Lib.hid (clampK_succ s.data.toList k)
      have hg : s.data.toList.getD k 0 = s[k] := by rw [List.getD_eq_getElem?_getD, List.getElem?_eq_getElem (by simpa using hlts)]; rfl
      rw [hg] at HK
      have HL := Lib.hid (show (clampK s.data.toList k).length ≤ 1099511627776 by rw [clampK_len]; omega)
      clear hg
      have hc0 : (0 : Int) ≤ (s[k].toNat : Int) := by omega
      have hc1 : (s[k].toNat : Int) ≤ 255 := by have := s[k].toNat_lt; omega
      have HOw := Lib.hid hown
      have HBel := Lib.hid hbel
      clear hown hbel
      have hcase : (k = 3 ∨ k = 7 ∨ k = 11 ∨ k = 15) ∨ (k = 4 ∨ k = 8 ∨ k = 12) ∨ (¬ (k = 3 ∨ k = 7 ∨ k = 11 ∨ k = 15) ∧ ¬ (k = 4 ∨ k = 8 ∨ k = 12)) := by omega
      rcases hcase with hc | hc | ⟨hn, hn2⟩
      · have HC := Lib.hid (cb16 (c := s[k]) hc)
        rcases hc with hc | hc | hc | hc
        all_goals
          subst hc
          go_wp2_with (at_builtin; refine wpList_push wr rfl _ _ rfl w.heap.size _ _ rfl rfl HOw.out _ HC.out HL.out HBel.out.size ?_; intro v' w1 hown' hb1)
          go_roundw
          case rel => exact ⟨_ + 1, hlt, by first | rfl | go_num | (congr 1; omega), by rw [HK.out]; exact hown', HBel.out.trans hb1⟩
          case measure => simp [intOf]
      · have HC := Lib.hid (cb4 (c := s[k]) hc)
        rcases hc with hc | hc | hc
        all_goals
          subst hc
          go_wp2_with (at_builtin; refine wpList_push wr rfl _ _ rfl w.heap.size _ _ rfl rfl HOw.out _ HC.out HL.out HBel.out.size ?_; intro v' w1 hown' hb1)
          go_roundw
          case rel => exact ⟨_ + 1, hlt, by first | rfl | go_num | (congr 1; omega), by rw [HK.out]; exact hown', HBel.out.trans hb1⟩
          case measure => simp [intOf]
      · have n3 : ((k : Int) == 3) = false := by simp; omega
        have n7 : ((k : Int) == 7) = false := by simp; omega
        have n11 : ((k : Int) == 11) = false := by simp; omega
        have n15 : ((k : Int) == 15) = false := by simp; omega
        have n4 : ((k : Int) == 4) = false := by simp; omega
        have n8 : ((k : Int) == 8) = false := by simp; omega
        have n12 : ((k : Int) == 12) = false := by simp; omega
        have HN := Lib.hid (And.intro hn hn2)
        clear hn hn2
        go_wp2_with (at_builtin; refine wpList_push wr rfl _ _ rfl w.heap.size _ (clampK s.data.toList k) rfl rfl HOw.out (clampB k s[k]) (cb0 HN.out.1 HN.out.2) HL.out HBel.out.size ?_; intro v' w1 hown' hb1)
        go_roundw
        case rel => exact ⟨k + 1, hlt, by go_num, by rw [HK.out]; exact hown', HBel.out.trans hb1⟩
        case measure => simp [intOf]; omega
    · obtain rfl : k = 16 := by omega
      have hcv := conv_Ob hown
      rw [HR.out 16 rfl] at hcv
      go_wp2
      go_ret2
      exact ⟨rfl, hbel⟩
end Go.Proofs.YtfflpooiebeagaaGreatDoor
namespace Go.Proofs.YtfflpooiebeagaaGreatDoor
open Go.RowKit

theorem rclamp_no (s : ByteArray) (hs : s.size ≠ 16) (w : World) :
    Calls Tryz.prog 48 #[.string s] w fun e w' => e = .returned (.tuple #[.string ByteArray.empty, .int .i64 5]) ∧ w = w' := by
  have e1 : ((s.size : Int) != 16) = true := by simp; omega
  clear hs
  go_enter Tryz.func48, Tryz.ntmps48
  go_wp2
  go_ret2
  exact ⟨rfl, rfl⟩
theorem digit_byte {d : List Nat} (h : ∀ x ∈ d, x < 256) (k : Nat) : d.getD k 0 = (byteAt (numD d) k).toNat := by
  rw [← numD_getD d h k, byteAt, ← p256]
  simp
theorem byte_wrap (b : UInt8) : IntKind.u8.wrap (b.toNat : Int) = (b.toNat : Int) := by
  have := b.toNat_lt
  rw [IntKind.wrap_u8]; omega

/-- The sum of a text's first m parts. -/
def partL (t : List UInt8) (m : Nat) : List UInt8 := (t.drop (16 * m)).take 16
def accN (r : Nat) (t : List UInt8) : Nat → Nat
  | 0 => 0
  | m + 1 => (accN r t m + (numLow (partL t m) + 256 ^ (partL t m).length)) * r % PP
def keyR (key : List UInt8) : Nat := numLow (clampL (key.take 16))
def keyS (key : List UInt8) : Nat := numLow (key.drop 16)
/-- A text's tag. -/
def tagL (key text : List UInt8) : List UInt8 := lowL (accN (keyR key) text ((text.length + 15) / 16) + keyS key) 16
def tagB (key text : ByteArray) : ByteArray := ⟨(tagL key.data.toList text.data.toList).toArray⟩
theorem tagB_size (key text : ByteArray) : (tagB key text).size = 16 := by
  show (tagL key.data.toList text.data.toList).toArray.size = 16; rw [List.size_toArray, tagL, lowL_len]
theorem numLow_one (l : List UInt8) : numLow (l ++ [1]) = numLow l + 256 ^ l.length := by rw [numLow_append]; simp [numLow]

set_option maxHeartbeats 4000000 in
set_option maxRecDepth 100000 in
theorem rtag_ok (key text : ByteArray) (hk : key.size = 32) (ht : text.size ≤ 1000000) (w : World) :
    Calls Tryz.prog 32 #[.string key, .string text] w fun e w' => e = .returned (.tuple #[.string (tagB key text), .int .i64 0]) ∧ Below w.heap.size w w' := by
  have e1 : ((key.size : Int) != 32) = false := by rw [hk]; rfl
  have hs1 := slice_to key 16 (by omega)
  have hs2 := slice_from key 16 (by omega)
  rw [show ((16 : Nat) : Int) = 16 from rfl] at hs1 hs2
  obtain ⟨K1, hK1⟩ : ∃ K1, K1 = key.extract 0 16 := ⟨_, rfl⟩
  obtain ⟨K2, hK2⟩ : ∃ K2, K2 = key.extract 16 key.size := ⟨_, rfl⟩
  have hK1s : K1.size = 16 := by rw [hK1, ext_size _ _ _ (by omega)]
  have hK2s : K2.size = 16 := by rw [hK2, ext_size _ _ _ (Nat.le_refl _)]; omega
  have hK1l : K1.data.toList = key.data.toList.take 16 := by rw [hK1, ext_toList, List.drop_zero, Nat.sub_zero]
  have hK2l : K2.data.toList = key.data.toList.drop 16 := by rw [hK2, ext_toList, List.take_of_length_le (by simp)]
  rw [← hK1] at hs1
  rw [← hK2] at hs2
  have hcl := rclamp_ok K1 hK1s
  obtain ⟨CL, hCL⟩ : ∃ CL : ByteArray, CL = ⟨(clampL K1.data.toList).toArray⟩ := ⟨_, rfl⟩
  have hCLs : CL.size = 16 := by rw [hCL]; show (clampL K1.data.toList).toArray.size = 16; rw [List.size_toArray, clampL_len]
  have hCLl : CL.data.toList = clampL (key.data.toList.take 16) := by rw [hCL, ← hK1l]
  rw [← hCL] at hcl
  have HCl := Lib.hid hcl
  have HDr := Lib.hid (digits_any CL (by omega))
  have HDs := Lib.hid (digits_any K2 (by omega))
  have hrn : numD (natL CL.data.toList) = keyR key.data.toList := by rw [natL_num, hCLl]; rfl
  have hsn : numD (natL K2.data.toList) = keyS key.data.toList := by rw [natL_num, hK2l]; rfl
  have HRn := Lib.hid hrn
  have HSn := Lib.hid hsn
  have HRl := Lib.hid (show (natL CL.data.toList).length = 16 by rw [natL_len]; simpa using hCLs)
  have HSl := Lib.hid (show (natL K2.data.toList).length = 16 by rw [natL_len]; simpa using hK2s)
  have HRt := Lib.hid (natL_lt CL.data.toList)
  have HSt := Lib.hid (natL_lt K2.data.toList)
  have HT := Lib.hid ht
  have HTg : Hid (∀ n, n = (text.data.toList.length + 15) / 16 → lowL (accN (keyR key.data.toList) text.data.toList n + keyS key.data.toList) 16 = tagL key.data.toList text.data.toList) := fun n h => by rw [h]; rfl
  obtain ⟨TB', hTB⟩ : ∃ TB', TB' = tagB key text := ⟨_, rfl⟩
  rw [← hTB]
  have HTB := Lib.hid hTB
  clear hK1 hK2 hK1s hK2s hK1l hK2l hcl hCL hCLs hCLl hrn hsn hk ht hTB
  generalize natL CL.data.toList = RD at *
  generalize natL K2.data.toList = SD at *
  generalize keyR key.data.toList = r at *
  generalize keyS key.data.toList = sk at *
  go_enter Tryz.func32, Tryz.ntmps32
  go_wp2_with fail
  refine (HCl.out _).mono ?_
  rintro e w1 ⟨rfl, hb⟩
  have HB1 := Lib.hid hb
  clear hb e1 hs1
  go_wp2_with fail
  refine (HDr.out _).mono ?_
  rintro e w2 ⟨⟨vr, rfl, hvr⟩, hb⟩
  have HVr := Lib.hid hvr
  have HB2 := Lib.hid (HB1.out.trans (hb.mono HB1.out.size))
  clear hvr hb
  go_wp2_with fail
  have HV0 : Hid (DV (w2.alloc (.cells #[.int .i64 0] 3)) (.slice (some ⟨w2.heap.size, 0, none⟩) 1 1) [0]) := ⟨w2.heap.size, _, 1, rfl, RowI.ofArr (Arr.new w2 (i64s [0]).toArray 3), fun _ => ⟨rfl, by simp⟩⟩
  have HVr0 := Lib.hid (HVr.out.alloc (.cells #[.int .i64 0] 3))
  have HB0 := Lib.hid (HB2.out.alloc HB2.out.size (.cells #[.int .i64 0] 3))
  generalize w2.alloc (.cells #[.int .i64 0] 3) = w3 at *
  generalize w2.heap.size = g0 at *
  clear HVr HB2 HB1
  go_loopw [9, 10] (fun va i wr => ∃ (m : Nat) (c : List Nat), i = .int .i64 (16 * (m : Int)) ∧ 16 * m < text.size + 16 ∧ DV wr va c ∧ (∀ x ∈ c, x < 256) ∧ c.length ≤ 17 ∧ numD c = accN r text.data.toList m ∧ DV wr vr RD ∧ Below w.heap.size w wr) (fun _ i _ => text.size + 16 - (intOf i).toNat)
  case atStart => exact ⟨0, [0], rfl, by omega, HV0.out, by simp, by simp, rfl, HVr0.out, HB0.out⟩
  case round =>
    clear HV0 HVr0 HB0
    obtain ⟨m, c, rfl, hm, hva, hd, hl, hn, hvr, hbel⟩ := hrel
    have htl : text.data.toList.length = text.size := by simp
    have HVa := Lib.hid hva
    have HVr := Lib.hid hvr
    have HD := Lib.hid hd
    have HLc := Lib.hid hl
    have HBel := Lib.hid hbel
    have hT := HT.out
    clear hva hvr hd hl hbel
    by_cases hlt : 16 * m < text.size
    · obtain ⟨e, he⟩ : ∃ e, e = min (16 * m + 16) text.size := ⟨_, rfl⟩
      obtain ⟨X, hX⟩ : ∃ X, X = text.extract (16 * m) e := ⟨_, rfl⟩
      have hXs : X.size = e - 16 * m := by rw [hX, ext_size _ _ _ (by omega)]
      have hXl : X.data.toList = partL text.data.toList m := by
        rw [hX, ext_toList, partL]
        rcases (show e = 16 * m + 16 ∨ (e = text.size ∧ text.size < 16 * m + 16) by omega) with h | ⟨h, h2⟩
        · rw [h, show 16 * m + 16 - 16 * m = 16 by omega]
        · rw [h, List.take_of_length_le (by rw [List.length_drop, htl]; exact Nat.le_refl _), List.take_of_length_le (by rw [List.length_drop, htl]; omega)]
      have hr1 : ∀ w : World, (Op.stringOp .add X ⟨#[1]⟩).run Tryz.prog w = .ok (.string (X ++ ⟨#[1]⟩)) w := fun w => cat_run X _ (by show X.size + 1 ≤ _; omega) w
      obtain ⟨Y, hY⟩ : ∃ Y : ByteArray, Y = X ++ ⟨#[1]⟩ := ⟨_, rfl⟩
      rw [← hY] at hr1
      have hYs : Y.size = X.size + 1 := by rw [hY, ByteArray.size_append]; rfl
      have hYl : Y.data.toList = partL text.data.toList m ++ [1] := by rw [hY, ← hXl]; simp
      have HDy := Lib.hid (digits_any Y (by omega))
      have HYn := Lib.hid (show numD (natL Y.data.toList) = numLow (partL text.data.toList m) + 256 ^ (partL text.data.toList m).length by rw [natL_num, hYl, numLow_one])
      have HYl := Lib.hid (show (natL Y.data.toList).length ≤ 17 by rw [natL_len]; simp; omega)
      have HYt := Lib.hid (natL_lt Y.data.toList)
      have HAcc := Lib.hid (show accN r text.data.toList (m + 1) = (numD c + numD (natL Y.data.toList)) * r % PP by rw [accN, hn, HYn.out])
      have hsl := fun w => slice_str text (16 * (m : Int)) (e : Int) (16 * m) e (by omega) rfl (by omega) (by omega) w
      rw [← hX] at hsl
      clear hX hXs hXl hY hYs hYl hn htl HYn
      generalize natL Y.data.toList = YD at *
      have hlti : 16 * (m : Int) < (text.size : Int) := by omega
      rcases (show 16 * m + 16 ≤ text.size ∨ text.size < 16 * m + 16 by omega) with hc | hc
      all_goals
        have hei : (e : Int) = 16 * (m : Int) + 16 ∨ (e : Int) = (text.size : Int) := by omega
        have hci : 16 * (m : Int) + 16 ≤ (text.size : Int) ∨ (text.size : Int) < 16 * (m : Int) + 16 := by omega
        first
          | (have hce : (e : Int) = 16 * (m : Int) + 16 := by omega
             rw [hce] at hsl
             have hcn : ¬ (text.size : Int) < 16 * (m : Int) + 16 := by omega
             clear hce)
          | (have hce : (e : Int) = (text.size : Int) := by omega
             rw [hce] at hsl
             have hcn : (text.size : Int) < 16 * (m : Int) + 16 := by omega
             clear hce)
        clear hei hci he
        go_wp2_with fail
        refine (HDy.out _).mono ?_
        rintro e w4 ⟨⟨vy, rfl, hvy⟩, hb⟩
        have HVy := Lib.hid hvy
        have HVa4 := Lib.hid (HVa.out.next hb)
        have HVr4 := Lib.hid (HVr.out.next hb)
        have HB4 := Lib.hid (HBel.out.trans (hb.mono HBel.out.size))
        clear hvy hb
        go_wp2_with fail
        refine (plus_any _ vy c YD HD.out HYt.out (by have := HLc.out; omega) (by have := HYl.out; omega) w4 HVa4.out HVy.out).mono ?_
        rintro e w5 ⟨⟨v5, c5, rfl, hv5, hd5, hn5, hl5⟩, hb⟩
        have HV5 := Lib.hid hv5
        have HD5 := Lib.hid hd5
        have HN5 := Lib.hid hn5
        have HL5 := Lib.hid (show c5.length ≤ 23 by have := HLc.out; have := HYl.out; omega)
        have HVr5 := Lib.hid (HVr4.out.next hb)
        have HB5 := Lib.hid (HB4.out.trans (hb.mono HB4.out.size))
        clear hv5 hd5 hn5 hl5 hb
        go_wp2_with fail
        refine (times_any v5 vr c5 RD HD5.out HRt.out (by have := HL5.out; omega) (by have := HRl.out; omega) w5 HV5.out HVr5.out).mono ?_
        rintro e w6 ⟨⟨v6, c6, rfl, hv6, hd6, hn6, hl6⟩, hb⟩
        have HV6 := Lib.hid hv6
        have HD6 := Lib.hid hd6
        have HN6 := Lib.hid hn6
        have HL6 := Lib.hid (show c6.length ≤ 60 by have := HL5.out; have := HRl.out; omega)
        have HVr6 := Lib.hid (HVr5.out.next hb)
        have HB6 := Lib.hid (HB5.out.trans (hb.mono HB5.out.size))
        clear hv6 hd6 hn6 hl6 hb
        go_wp2_with fail
        refine (modulo_any v6 c6 HD6.out HL6.out w6 HV6.out).mono ?_
        rintro e w7 ⟨⟨v7, c7, rfl, hv7, hd7, hn7, hl7⟩, hb⟩
        have HV7 := Lib.hid hv7
        have HD7 := Lib.hid hd7
        have HN7 := Lib.hid (show numD c7 = accN r text.data.toList (m + 1) by rw [hn7, HN6.out, HN5.out, HRn.out, HAcc.out])
        have HL7 := Lib.hid hl7
        have HVr7 := Lib.hid (HVr6.out.next hb)
        have HB7 := Lib.hid (HB6.out.trans (hb.mono HB6.out.size))
        clear hv7 hd7 hn7 hl7 hb
        go_wp2_with fail
        go_roundw
        case rel => exact ⟨m + 1, c7, by first | go_num | (congr 1; omega), by omega, HV7.out, HD7.out, by rw [HL7.out]; exact Nat.le_refl _, HN7.out, HVr7.out, HB7.out⟩
        case measure => simp [intOf]; omega
    · have hmm : m = (text.data.toList.length + 15) / 16 := by omega
      have HR1 : Hid (∀ k, k = 16 → (⟨(lowL (numD c + numD SD) k).toArray⟩ : ByteArray) = TB') := fun k h => by
        rw [h, hn, HSn.out, HTg.out m hmm, HTB.out]; rfl
      have hge : ¬ 16 * (m : Int) < (text.size : Int) := by omega
      clear hmm hn htl hlt hm
      go_wp2_with fail
      refine (HDs.out _).mono ?_
      rintro e w4 ⟨⟨vs, rfl, hvs⟩, hb⟩
      have HVs := Lib.hid hvs
      have HVa4 := Lib.hid (HVa.out.next hb)
      have HB1 := Lib.hid (HBel.out.trans (hb.mono HBel.out.size))
      clear hvs hb
      go_wp2_with fail
      refine (plus_any _ vs c SD HD.out HSt.out (by have := HLc.out; omega) (by have := HSl.out; omega) w4 HVa4.out HVs.out).mono ?_
      rintro e w3 ⟨⟨vc, d, rfl, hvc, hd, hn, hl⟩, hb⟩
      have HR : Hid (∀ k, k = 16 → (⟨(lowL (numD d) k).toArray⟩ : ByteArray) = TB') := fun k h => by rw [hn]; exact HR1.out k h
      have HVc := Lib.hid hvc
      have HDd := Lib.hid hd
      have HB3 := Lib.hid (HB1.out.trans (hb.mono HB1.out.size))
      clear hvc hd hn hl hb HR1 HVa HVr HLc HBel HVs HVa4 HB1
      go_wp2_with fail
      have HO := Lib.hid (Ob.start w3 w3.heap.size (Nat.le_refl _))
      have HB4 := Lib.hid ((Below.refl w3.heap.size w3).alloc (Nat.le_refl _) (.cells #[] 5))
      go_loopw [13, 14] (fun o i wr => ∃ k : Nat, k ≤ 16 ∧ i = .int .i64 (k : Int) ∧ Ob wr w3.heap.size o (lowL (numD d) k) ∧ Below w3.heap.size w3 wr) (fun _ i _ => 16 - (intOf i).toNat)
      case atStart => exact ⟨0, by omega, rfl, HO.out, HB4.out⟩
      case round =>
        clear HO HB4
        obtain ⟨k, hk, rfl, hown, hbel⟩ := hrel
        by_cases hlt : k < 16
        · have hdg := digit_any vc d k wr (HVc.out.next hbel)
          rw [digit_byte HDd.out k] at hdg
          have HDg := Lib.hid hdg
          have HS := Lib.hid (lowL_succ (numD d) k)
          have HL := Lib.hid (show (lowL (numD d) k).length ≤ 1099511627776 by rw [lowL_len]; omega)
          have HOw := Lib.hid hown
          have HBel := Lib.hid hbel
          clear hdg hown hbel
          generalize byteAt (numD d) k = bt at *
          have e1 := byte_wrap bt
          have e2 : (bt.toNat : Int) % 256 = (bt.toNat : Int) := by have := bt.toNat_lt; omega
          go_wp2_with (first
            | (go_at_call 53; ((with_reducible refine HDg.out.mono ?_); rintro e w' ⟨rfl, rfl⟩))
            | (at_builtin; refine wpList_push wr rfl _ _ rfl w3.heap.size _ (lowL (numD d) k) rfl rfl HOw.out bt rfl HL.out HBel.out.size ?_; intro v' w1 hown' hb1))
          go_roundw
          case rel => exact ⟨k + 1, by omega, by go_num, by rw [HS.out]; exact hown', HBel.out.trans hb1⟩
          case measure => simp [intOf]; omega
        · obtain rfl : k = 16 := by omega
          have hcv := conv_Ob hown
          rw [HR.out 16 rfl] at hcv
          go_wp2
          go_ret2
          exact ⟨rfl, HB3.out.trans (hbel.mono HB3.out.size)⟩
theorem rtag_no (key text : ByteArray) (hk : key.size ≠ 32) (w : World) :
    Calls Tryz.prog 32 #[.string key, .string text] w fun e w' => e = .returned (.tuple #[.string ByteArray.empty, .int .i64 5]) ∧ w = w' := by
  have e1 : ((key.size : Int) != 32) = true := by simp; omega
  clear hk
  go_enter Tryz.func32, Tryz.ntmps32
  go_wp2
  go_ret2
  exact ⟨rfl, rfl⟩
end Go.Proofs.YtfflpooiebeagaaGreatDoor
namespace Go.Proofs.YtfflpooiebeagaaGreatDoor
open Go.RowKit

theorem clampB_idem (i : Nat) (c : UInt8) : clampB i (clampB i c) = clampB i c := by
  apply UInt8.toNat_inj.mp
  have hc := c.toNat_lt
  by_cases h : i = 3 ∨ i = 7 ∨ i = 11 ∨ i = 15
  · simp only [clampB, if_pos h, UInt8.toNat_mod]; show c.toNat % 16 % 16 = c.toNat % 16; omega
  · by_cases h2 : i = 4 ∨ i = 8 ∨ i = 12
    · simp only [clampB, if_neg h, if_pos h2, UInt8.toNat_mul, UInt8.toNat_div]
      show c.toNat / 4 * 4 % 256 / 4 * 4 % 256 = c.toNat / 4 * 4 % 256
      omega
    · simp only [clampB, if_neg h, if_neg h2]
theorem clampK_get (r : List UInt8) (k i : Nat) (h : i < k) : (clampK r k).getD i 0 = clampB i (r.getD i 0) := by
  rw [clampK, List.getD_eq_getElem?_getD, List.getElem?_map, List.getElem?_range h]; rfl
theorem clampL_idem (r : List UInt8) : clampL (clampL r) = clampL r := by
  show clampK (clampL r) 16 = clampK r 16
  rw [clampK, clampK]
  apply List.map_congr_left
  intro i hi
  rw [List.mem_range] at hi
  rw [clampL, clampK_get _ _ _ hi, clampB_idem]
theorem clampL_take (r : List UInt8) : clampL (r.take 16) = clampL r := by
  show clampK (r.take 16) 16 = clampK r 16
  rw [clampK, clampK]
  apply List.map_congr_left
  intro i hi
  rw [List.mem_range] at hi
  congr 1
  rw [List.getD_eq_getElem?_getD, List.getElem?_take_of_lt hi, List.getD_eq_getElem?_getD]

theorem keyR_app (r s : List UInt8) (hr : r.length = 16) : keyR (r ++ s) = numLow (clampL r) := by
  rw [keyR, List.take_append_of_le_length (by omega), List.take_of_length_le (by omega)]
theorem keyS_app (r s : List UInt8) (hr : r.length = 16) : keyS (r ++ s) = numLow s := by
  rw [keyS, List.drop_append_of_le_length (by omega), List.drop_eq_nil_of_le (by omega), List.nil_append]
theorem tagL_len (key text : List UInt8) : (tagL key text).length = 16 := lowL_len _ _
/-- Bits that are taken away are no matter. -/
theorem tagL_clamp (r s text : List UInt8) (hr : r.length = 16) : tagL (clampL r ++ s) text = tagL (r ++ s) text := by
  rw [tagL, tagL, keyR_app _ _ (clampL_len r), keyR_app _ _ hr, keyS_app _ _ (clampL_len r), keyS_app _ _ hr, clampL_idem]
/-- Another s. -/
theorem tagL_sum (r s text : List UInt8) (hr : r.length = 16) : tagL (r ++ s) text = lowL (accN (numLow (clampL r)) text ((text.length + 15) / 16) + numLow s) 16 := by
  rw [tagL, keyR_app _ _ hr, keyS_app _ _ hr]
theorem accN_zero (text : List UInt8) (m : Nat) : accN 0 text m = 0 := by
  cases m with
  | zero => rfl
  | succ m => rw [accN, Nat.mul_zero, Nat.zero_mod]
theorem accN_nil (r m : Nat) (h : m = 0) : accN r [] m = 0 := by rw [h]; rfl
theorem accN_one (text : List UInt8) (m : Nat) : accN 1 text (m + 1) = (accN 1 text m + (numLow (partL text m) + 256 ^ (partL text m).length)) % PP := by rw [accN, Nat.mul_one]

theorem byteAt_mod (x n k : Nat) (h : k < n) : byteAt (x % 256 ^ n) k = byteAt x k := by
  apply UInt8.toNat_inj.mp
  have e : ∀ y, (byteAt y k).toNat = y / 256 ^ k % 256 := fun y => by rw [byteAt, ← p256]; simp
  rw [e, e]
  obtain ⟨j, rfl⟩ : ∃ j, n = k + 1 + j := ⟨n - (k + 1), by omega⟩
  rw [Nat.pow_add, Nat.pow_succ, Nat.mul_assoc, Nat.mod_mul_right_div_self, Nat.mod_mul_right_mod]
theorem lowL_mod (x n : Nat) : lowL (x % 256 ^ n) n = lowL x n := by
  rw [lowL, lowL]
  apply List.map_congr_left
  intro k hk
  rw [List.mem_range] at hk
  exact byteAt_mod x n k hk
theorem lowL_congr {x y n : Nat} (h : x % 256 ^ n = y % 256 ^ n) : lowL x n = lowL y n := by rw [← lowL_mod, h, lowL_mod]
theorem lowL_inj {x y n : Nat} (h : lowL x n = lowL y n) : x % 256 ^ n = y % 256 ^ n := by rw [← numLow_lowL, h, numLow_lowL]
theorem numLow_inj {l m : List UInt8} (hl : l.length = m.length) (h : numLow l = numLow m) : l = m := by
  induction l generalizing m with
  | nil => cases m with
    | nil => rfl
    | cons => simp at hl
  | cons b l ih => cases m with
    | nil => simp at hl
    | cons c m =>
      rw [numLow, numLow] at h
      have hb := b.toNat_lt
      have hc := c.toNat_lt
      have h1 : b = c := UInt8.toNat_inj.mp (by omega)
      rw [h1, ih (by simpa using hl) (by omega)]
theorem lowL_numLow (l : List UInt8) : lowL (numLow l) l.length = l := by
  apply numLow_inj (lowL_len _ _)
  rw [numLow_lowL, Nat.mod_eq_of_lt (numLow_lt l)]
/-- A sum of 16 bytes, without what goes beyond. -/
def sumT (a b : List UInt8) : List UInt8 := lowL (numLow a + numLow b) 16
theorem sumT_low (x : Nat) (b : List UInt8) : sumT (lowL x 16) b = lowL (x + numLow b) 16 := by
  rw [sumT, numLow_lowL]
  exact lowL_congr (by rw [Nat.mod_add_mod])
theorem numLow_zeros (n : Nat) : numLow (List.replicate n 0) = 0 := by
  induction n with
  | zero => rfl
  | succ n ih => rw [List.replicate_succ, numLow, ih]; rfl
theorem clampL_zeros : clampL (List.replicate 16 0) = List.replicate 16 0 := by decide
theorem clampL_one : clampL (1 :: List.replicate 15 0) = 1 :: List.replicate 15 0 := by decide
theorem numLow_oneL : numLow (1 :: List.replicate 15 0) = 1 := by rw [numLow, numLow_zeros]; rfl

theorem tagL_s (r s text : List UInt8) (hr : r.length = 16) : tagL (r ++ s) text = sumT (tagL (r ++ List.replicate 16 0) text) s := by
  rw [tagL_sum _ _ _ hr, tagL_sum _ _ _ hr, sumT_low, numLow_zeros]; rfl
theorem tagL_more (r s m text : List UInt8) (hr : r.length = 16) : tagL (r ++ sumT s m) text = sumT (tagL (r ++ s) text) m := by
  rw [tagL_sum _ _ _ hr, tagL_sum _ _ _ hr, sumT_low, sumT, numLow_lowL]
  exact lowL_congr (by rw [Nat.add_mod_mod, Nat.add_assoc])
theorem tagL_zero (s text : List UInt8) (hs : s.length = 16) : tagL (List.replicate 16 0 ++ s) text = s := by
  rw [tagL_sum _ _ _ (by simp), clampL_zeros, numLow_zeros, accN_zero, Nat.zero_add, ← hs, lowL_numLow]
theorem tagL_nil (r s : List UInt8) (hr : r.length = 16) (hs : s.length = 16) : tagL (r ++ s) [] = s := by
  rw [tagL_sum _ _ _ hr, show ([] : List UInt8).length = 0 from rfl, accN_nil _ ((0 + 15) / 16) rfl, Nat.zero_add, ← hs, lowL_numLow]
theorem tagL_r1 (s text : List UInt8) : tagL (1 :: List.replicate 15 0 ++ s) text = lowL (accN 1 text ((text.length + 15) / 16) + numLow s) 16 := by
  rw [tagL_sum _ _ _ (by simp), clampL_one, numLow_oneL]
theorem accN_lt (r : Nat) (text : List UInt8) (m : Nat) : accN r text m < PP := by
  cases m with
  | zero => exact (by decide : 0 < PP)
  | succ m => exact Nat.mod_lt _ (by decide)
end Go.Proofs.YtfflpooiebeagaaGreatDoor
namespace Go.Proofs.YtfflpooiebeagaaGreatDoor
open Go.RowKit

def checkB (key text tag : ByteArray) : Bool := decide (key.size = 32 ∧ tag = tagB key text)
end Go.Proofs.YtfflpooiebeagaaGreatDoor
namespace Go.Proofs.YtfflpooiebeagaaGreatDoor
open Go.RowKit


theorem u8_of : ∀ (zs : List Int), (∀ z ∈ zs, (Lit.int .u8 z).wf = true) → ∃ bs : List UInt8, zs.map (Value.int .u8) = u8s bs ∧ bs.length = zs.length
  | [], _ => ⟨[], rfl, rfl⟩
  | z :: zs, h => by
    obtain ⟨bs, hb, hl⟩ := u8_of zs (fun x hx => h x (by simp [hx]))
    obtain ⟨h0, h1⟩ := wf_u8 (h z (by simp))
    refine ⟨UInt8.ofNat z.toNat :: bs, ?_, by simp [hl]⟩
    have hz : z = ((UInt8.ofNat z.toNat).toNat : Int) := by
      have : (UInt8.ofNat z.toNat).toNat = z.toNat % 256 := by simp
      rw [this]; omega
    rw [List.map_cons, hb, u8s, u8s, List.map_cons, ← hz]
def rowB (l : List UInt8) : Array Value := (u8s l).toArray
theorem conv_rowB {w : World} {g n : Nat} {ty : TypeId} {l : List UInt8} (h : Arr w g (rowB l) ty) (hl : l.length = n) :
    (convert 43 9 (.slice (some ⟨g, 0, none⟩) n n)).run Tryz.prog w = .ok (.string ⟨l.toArray⟩) w := by
  have := conv_cells w ⟨g, 0, none⟩ l n (fun j v hv => by
    rw [addr_add, Nat.zero_add]; exact h.cell (by rw [rowB, List.getElem?_toArray]; exact hv))
  rw [hl] at this
  exact this
theorem arrOf16 : Tryz.prog.underlying 103 = some (.array (Tryz.prog.arrayLen 103) (Tryz.prog.elem 103)) := by kernel_rfl
theorem arrLen16 : Tryz.prog.arrayLen 103 = 16 := by kernel_rfl
theorem arrElem16 : Tryz.prog.elem 103 = 5 := by kernel_rfl
theorem arr16_all (g o : Nat) (w : World) :
    (Instr.sliceAt 103 (.pointer (some ⟨g, o, none⟩)) none none none).run Tryz.prog w = .ok (.slice (some ⟨g, o, none⟩) 16 16) w := by
  rw [run_sliceAt_array_all w 103 _ arrOf16, arrElem16, Tryz.sizeOf5, arrLen16]
  simp only [Result.andThen, slicedAt]
  rw [if_neg (by omega), Nat.zero_mul, addr_add]
  rfl

theorem K_parts (K : ByteArray) (_ : K.size = 32) : K.data.toList = (K.extract 0 16).data.toList ++ (K.extract 16 K.size).data.toList := by
  rw [ext_toList, ext_toList, List.drop_zero, Nat.sub_zero, List.take_of_length_le (l := List.drop 16 _) (by simp), List.take_append_drop]

end Go.Proofs.YtfflpooiebeagaaGreatDoor
namespace Go.Proofs.YtfflpooiebeagaaGreatDoor
open Go.RowKit

theorem conv_part {w : World} {g o n cap : Nat} {ty : TypeId} {l : List UInt8} (h : Arr w g (rowB l) ty) (hl : o + n ≤ l.length) :
    (convert 43 9 (.slice (some ⟨g, o, none⟩) n cap)).run Tryz.prog w = .ok (.string ⟨((l.drop o).take n).toArray⟩) w := by
  have hlen : ((l.drop o).take n).length = n := by rw [List.length_take, List.length_drop]; omega
  have := conv_cells w ⟨g, o, none⟩ ((l.drop o).take n) cap (fun j v hv => by
    have hj : j < n := by
      have := (List.getElem?_eq_some_iff.1 hv).1
      rw [u8s_len, hlen] at this; exact this
    rw [addr_add]
    apply h.cell
    rw [rowB, List.getElem?_toArray]
    rw [u8s, List.getElem?_map, List.getElem?_take_of_lt hj, List.getElem?_drop] at hv
    rw [u8s, List.getElem?_map]; exact hv)
  rw [hlen] at this
  exact this






theorem ba_len (l : List UInt8) : (⟨l.toArray⟩ : ByteArray).size = l.length := List.size_toArray

end Go.Proofs.YtfflpooiebeagaaGreatDoor
