/- Rows of numbers (int, none below 0) that a call owns: append. -/
import Derived.Test.YtjbhmdlgokoepaaDoorArr
import Derived.Deep.RegionLaw
namespace Go.Proofs.YtjbhmdlgokoepaaDoor
open Go.RowKit

theorem Tryd.infoI64 : (Tryd.prog.info? 3).map (fun i => (i.zero, i.size, i.bytes)) = some (some (.int .i64 0), 1, 8) := by kernel_rfl

/-- Numbers as cells. -/
def i64s (l : List Nat) : List Value := l.map fun (n : Nat) => .int .i64 (n : Int)
theorem i64s_len (l : List Nat) : (i64s l).length = l.length := by simp [i64s]
theorem i64s_get (l : List Nat) (i : Nat) (h : i < l.length) : (i64s l)[i]? = some (.int .i64 ((l[i] : Nat) : Int)) := by simp [i64s, h]
/-- A row of numbers that the call owns. -/
def Oi (w : World) (base : Nat) (v : Value) (l : List Nat) : Prop := w.ownsRow base 3 1 v l.length (i64s l)
theorem Oi.start (w : World) (base : Nat) (h : base ≤ w.heap.size) : Oi (w.alloc (.cells #[] 3)) base (.slice (some ⟨w.heap.size, 0, none⟩) 0 0) [] :=
  World.ownsRow_lit w #[] 0 h (by unfold maxLen; omega) rfl
theorem Oi.alloc {w : World} {base : Nat} {v : Value} {l : List Nat} (h : Oi w base v l) (o : Obj) : Oi (w.alloc o) base v l := World.ownsRow.alloc h o
theorem Oi.drew {w : World} {base : Nat} {v : Value} {l : List Nat} (h : Oi w base v l) : Oi w.drew base v l := h
theorem Oi.drewN {w : World} {base : Nat} {v : Value} {l : List Nat} (h : Oi w base v l) (n : Nat) : Oi (w.drewN n) base v l := h
/-- Where a row that is not empty lies. -/
theorem Oi.form {w : World} {base : Nat} {v : Value} {l : List Nat} (h : Oi w base v l) (hl : 0 < l.length) :
    ∃ g cap, v = .slice (some ⟨g, 0, none⟩) l.length cap ∧ base ≤ g ∧ ∀ j (hj : j < l.length), w.cell? ⟨g, j, none⟩ = some (.int .i64 ((l[j] : Nat) : Int)) := by
  rcases h.2 with ⟨_, h0⟩ | ⟨g, cap, cur, rfl, hb, _⟩
  · omega
  · refine ⟨g, cap, rfl, hb, fun j hj => ?_⟩
    rw [World.ownsRow.cellAt h j (by omega), i64s_get l j hj]

theorem Oi.next {w w' : World} {base : Nat} {v : Value} {l : List Nat} (h : Oi w base v l) (hb : Below w.heap.size w w') : Oi w' base v l :=
  World.ownsRow.kept (row := none) h ⟨hb.os, hb.tape, hb.output, hb.size, fun i hi _ => hb.block i hi⟩ (Classical.em _)
/-- The walk's law for 'append(w, x)', w a row of the call's own. -/
theorem wpList_pushi (wr : World) {ops : Array Oper} {rest : List Oper} {o : Oper} {a : Act} {Q : Exit → Act → World → Prop} {bv : Int}
    (hgd : o.guard = none) (s x : Operand) (ho : o.op = .call { callee := .builtin .append, args := #[s, x], argTypes := #[41, 41] })
    (base : Nat) (v : Value) (l : List Nat) (hs : a.eval s = v) (hx : a.eval x = .slice (some ⟨wr.heap.size, 0, none⟩) 1 1) (hown : Oi wr base v l) (b : Nat) (hb : bv = (b : Int))
    (hlen : l.length ≤ 1000000000) (hbase : base ≤ wr.heap.size)
    (h : ∀ v' w', Oi w' base v' (l ++ [b]) → Below base wr w' → wpList Tryd.prog ops Q rest (a.put o.dst v') w') :
    wpList Tryd.prog ops Q (o :: rest) a (wr.alloc (.cells #[.int .i64 bv] 3)) := by
  subst hb
  obtain ⟨i0, hi, hz0, hz1, hz2⟩ := info_parts Tryd.infoI64
  have hsz : (wr.alloc (.cells #[.int .i64 (b : Int)] 3)).heap.size = wr.heap.size + 1 := by show (wr.heap.push _).size = _; simp
  refine wpList_append_own _ hgd s x 41 ho base 3 i0 (.int .i64 0) 1 8 Tryd.underlying41 hi hz0 hz1 hz2 rfl (by decide) v l.length (i64s l) hs (World.ownsRow.alloc hown _) ⟨wr.heap.size, 0, none⟩ 1 1 [.int .i64 (b : Int)] hx rfl ?_ ?_ (by unfold maxLen; omega) (by omega) (by omega) ?_
  · intro j u hj
    match j, hj with
    | 0, hj => simp at hj; subst hj; simp [Addr.add]
  · intro u hu; simp at hu; subst hu; rfl
  · intro v' w' h1 h2 _
    refine h v' w' ?_ ?_
    · have e : i64s (l ++ [b]) = i64s l ++ [.int .i64 (b : Int)] := by simp [i64s]
      unfold Oi
      rw [e, List.length_append]; exact h1
    · refine Below.grown ((Below.refl _ _).alloc hbase _) h2 (by omega) ?_
      intro k hk
      rcases hown.2 with ⟨rfl, _⟩ | ⟨g, cap, cur, rfl, hb, _⟩
      · simp [Value.ownBlock] at hk
      · simp [Value.ownBlock] at hk; omega

/-- 'append(w, x)' as one step of a region that draws its order. -/
theorem step_pushi {ops : Array Oper} {o : Oper} {a : Act} (wr W : World) {K : Act → World → Prop} {Q : Exit → Act → World → Prop} {E : Prop} {bv : Int}
    (hg : o.guard = none) (s x : Operand) (ho : o.op = .call { callee := .builtin .append, args := #[s, x], argTypes := #[41, 41] })
    (base : Nat) (v : Value) (l : List Nat) (hs : a.eval s = v) (hx : a.eval x = .slice (some ⟨wr.heap.size, 0, none⟩) 1 1) (hown : Oi wr base v l) (b : Nat) (hb : bv = (b : Int))
    (hW : W.heap = (wr.alloc (.cells #[.int .i64 bv] 3)).heap)
    (hlen : l.length ≤ 1000000000) (hbase : base ≤ wr.heap.size)
    (h : ∀ v' w', Oi w' base v' (l ++ [b]) → Below base W w' → K (a.put o.dst v') w') :
    if Region.wanted o (yielded ops a.tmps) = true then Oper.wp Tryd.prog o a W K Q else E := by
  have hw : Region.wanted o (yielded ops a.tmps) = true := by simp [Region.wanted, hg]
  rw [if_pos hw]
  subst hb
  obtain ⟨i0, hi, hz0, hz1, hz2⟩ := info_parts Tryd.infoI64
  have hsz : W.heap.size = wr.heap.size + 1 := by rw [hW]; show (wr.heap.push _).size = _; simp
  have hcell : ∀ ad, W.cell? ad = (wr.alloc (.cells #[.int .i64 (b : Int)] 3)).cell? ad := fun ad => by unfold World.cell?; rw [hW]
  have hownW : W.ownsRow base 3 1 v l.length (i64s l) := by
    have := World.ownsRow.alloc hown (.cells #[.int .i64 (b : Int)] 3)
    unfold World.ownsRow at this ⊢
    rw [hW]; exact this
  refine wp_append_own _ s x 41 ho base 3 i0 (.int .i64 0) 1 8 Tryd.underlying41 hi hz0 hz1 hz2 rfl (by decide) v l.length (i64s l) hs hownW ⟨wr.heap.size, 0, none⟩ 1 1 [.int .i64 (b : Int)] hx rfl ?_ ?_ (by unfold maxLen; omega) (by omega) (by omega) ?_
  · intro j u hj
    match j, hj with
    | 0, hj => simp at hj; subst hj; rw [hcell]; simp [Addr.add]
  · intro u hu; simp at hu; subst hu; rfl
  · intro v' w' h1 h2 _
    refine h v' w' ?_ ?_
    · have e : i64s (l ++ [b]) = i64s l ++ [.int .i64 (b : Int)] := by simp [i64s]
      unfold Oi
      rw [e, List.length_append]; exact h1
    · refine Below.grown (Below.refl _ _) h2 (by omega) ?_
      intro k hk
      rcases hown.2 with ⟨rfl, _⟩ | ⟨g, cap, cur, rfl, hb, _⟩
      · simp [Value.ownBlock] at hk
      · simp [Value.ownBlock] at hk; omega

/-- A row of numbers, from a block's head on. -/
def RowI (w : World) (g : Nat) (l : List Nat) : Prop := ∀ j (hj : j < l.length), w.cell? ⟨g, j, none⟩ = some (.int .i64 ((l[j] : Nat) : Int))
theorem RowI.at {w : World} {g : Nat} {l : List Nat} (h : RowI w g l) (j : Nat) (hj : j < l.length) : w.cell? ⟨g, j, none⟩ = some (.int .i64 ((l.getD j 0 : Nat) : Int)) := by
  rw [h j hj, List.getD_eq_getElem?_getD, List.getElem?_eq_getElem hj]; rfl
theorem RowI.lt {w : World} {g : Nat} {l : List Nat} (h : RowI w g l) (hl : 0 < l.length) : g < w.heap.size := block_lt_of_cell (h 0 hl)
theorem RowI.below {w w' : World} {B g : Nat} {l : List Nat} (h : RowI w g l) (hb : Below B w w') (hg : g < B) : RowI w' g l := fun j hj => by
  rw [← h j hj]; exact World.cell?_of_block (hb.block _ hg)
theorem RowI.next {w w' : World} {g : Nat} {l : List Nat} (h : RowI w g l) (hl : 0 < l.length) (hb : Below w.heap.size w w') : RowI w' g l := h.below hb (h.lt hl)
theorem RowI.drewN {w : World} {g : Nat} {l : List Nat} (h : RowI w g l) (n : Nat) : RowI (w.drewN n) g l := h
theorem RowI.drew {w : World} {g : Nat} {l : List Nat} (h : RowI w g l) : RowI w.drew g l := h
theorem RowI.alloc {w : World} {g : Nat} {l : List Nat} (h : RowI w g l) (hl : 0 < l.length) (o : Obj) : RowI (w.alloc o) g l := h.next hl ((Below.refl _ _).alloc (Nat.le_refl _) o)
theorem RowI.ofArr {w : World} {g : Nat} {l : List Nat} {t : TypeId} (h : Arr w g (i64s l).toArray t) : RowI w g l := fun j hj => h.cell (by rw [List.getElem?_toArray, i64s_get l j hj])
theorem Oi.row {w : World} {base g cap : Nat} {l : List Nat} (h : Oi w base (.slice (some ⟨g, 0, none⟩) l.length cap) l) : RowI w g l := fun j hj => by
  rw [World.ownsRow.cellAt h j (by omega), i64s_get l j hj]

/-- The walk's law for 'append(w, s...)', w a row of the call's own, s another row. -/
theorem wpList_appendi (wr : World) {ops : Array Oper} {rest : List Oper} {o : Oper} {a : Act} {Q : Exit → Act → World → Prop}
    (hgd : o.guard = none) (s x : Operand) (ho : o.op = .call { callee := .builtin .append, args := #[s, x], argTypes := #[41, 41] })
    (base : Nat) (v : Value) (l : List Nat) (hs : a.eval s = v) (g m c : Nat) (hx : a.eval x = .slice (some ⟨g, 0, none⟩) m c) (hown : Oi wr base v l) (Y : List Nat) (hY : Y.length = m) (hrow : RowI wr g Y)
    (hlen : l.length + m ≤ 1000000000) (hbase : base ≤ wr.heap.size)
    (h : ∀ v' w', Oi w' base v' (l ++ Y) → Below base wr w' → wpList Tryd.prog ops Q rest (a.put o.dst v') w') :
    wpList Tryd.prog ops Q (o :: rest) a wr := by
  obtain ⟨i0, hi, hz0, hz1, hz2⟩ := info_parts Tryd.infoI64
  refine wpList_append_own _ hgd s x 41 ho base 3 i0 (.int .i64 0) 1 8 Tryd.underlying41 hi hz0 hz1 hz2 rfl (by decide) v l.length (i64s l) hs hown ⟨g, 0, none⟩ m c (i64s Y) hx (by rw [i64s_len, hY, Nat.mul_one]) ?_ ?_ (by unfold maxLen; omega) (by omega) hbase ?_
  · intro j u hj
    have hjl : j < Y.length := by have := (List.getElem?_eq_some_iff.1 hj).1; rwa [i64s_len] at this
    rw [i64s_get Y j hjl] at hj
    have ha : (⟨g, 0, none⟩ : Addr).add j = ⟨g, j, none⟩ := by rw [addr_add, Nat.zero_add]
    rw [ha, hrow j hjl]; exact hj
  · intro u hu
    simp only [i64s, List.mem_map] at hu
    obtain ⟨b, _, rfl⟩ := hu
    rfl
  · intro v' w' h1 h2 _
    refine h v' w' ?_ ?_
    · have e : i64s (l ++ Y) = i64s l ++ i64s Y := by simp [i64s]
      unfold Oi
      rw [e, List.length_append, hY]; exact h1
    · exact Below.grown (Below.refl _ _) h2 hbase fun k hk => (World.ownsRow.lt hown k hk).1
/-- A number of an owned row is set. -/
theorem Oi.set {w : World} {base g n cap : Nat} {l : List Nat} (h : w.ownsRow base 3 1 (.slice (some ⟨g, 0, none⟩) n cap) n (i64s l)) (k x : Nat) :
    (w.setCell ⟨g, k, none⟩ (.int .i64 (x : Int))).ownsRow base 3 1 (.slice (some ⟨g, 0, none⟩) n cap) n (i64s (l.set k x)) := by
  have e : i64s (l.set k x) = (i64s l).set k (.int .i64 (x : Int)) := by simp [i64s, List.map_set]
  rw [e]
  exact (h.stored k _).1
end Go.Proofs.YtjbhmdlgokoepaaDoor
