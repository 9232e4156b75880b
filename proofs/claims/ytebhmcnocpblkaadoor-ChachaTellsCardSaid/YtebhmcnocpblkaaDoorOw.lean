/- Rows of numbers of 32 bits that a call owns: append. -/
import Derived.Test.YtebhmcnocpblkaaDoorArr
import Derived.Deep.RegionLaw
namespace Go.Proofs.YtebhmcnocpblkaaDoor
open Go.RowKit

theorem Tryd.infoU32 : (Tryd.prog.info? 22).map (fun i => (i.zero, i.size, i.bytes)) = some (some (.int .u32 0), 1, 4) := by kernel_rfl

/-- A row of numbers that the call owns. -/
def Ow (w : World) (base : Nat) (v : Value) (l : List Nat) : Prop := w.ownsRow base 22 1 v l.length (u32s l)
theorem Ow.start (w : World) (base : Nat) (h : base ≤ w.heap.size) : Ow (w.alloc (.cells #[] 22)) base (.slice (some ⟨w.heap.size, 0, none⟩) 0 0) [] :=
  World.ownsRow_lit w #[] 0 h (by unfold maxLen; omega) rfl
theorem Ow.alloc {w : World} {base : Nat} {v : Value} {l : List Nat} (h : Ow w base v l) (o : Obj) : Ow (w.alloc o) base v l := World.ownsRow.alloc h o
theorem Ow.drew {w : World} {base : Nat} {v : Value} {l : List Nat} (h : Ow w base v l) : Ow w.drew base v l := h
theorem Ow.drewN {w : World} {base : Nat} {v : Value} {l : List Nat} (h : Ow w base v l) (n : Nat) : Ow (w.drewN n) base v l := h
/-- Where a row that is not empty lies. -/
theorem Ow.form {w : World} {base : Nat} {v : Value} {l : List Nat} (h : Ow w base v l) (hl : 0 < l.length) :
    ∃ g cap, v = .slice (some ⟨g, 0, none⟩) l.length cap ∧ base ≤ g ∧ ∀ j (hj : j < l.length), w.cell? ⟨g, j, none⟩ = some (.int .u32 ((l[j] : Nat) : Int)) := by
  rcases h.2 with ⟨_, h0⟩ | ⟨g, cap, cur, rfl, hb, _⟩
  · omega
  · refine ⟨g, cap, rfl, hb, fun j hj => ?_⟩
    rw [World.ownsRow.cellAt h j (by omega), u32s_get l j hj]

theorem Ow.next {w w' : World} {base : Nat} {v : Value} {l : List Nat} (h : Ow w base v l) (hb : Below w.heap.size w w') : Ow w' base v l :=
  World.ownsRow.kept (row := none) h ⟨hb.os, hb.tape, hb.output, hb.size, fun i hi _ => hb.block i hi⟩ (Classical.em _)
/-- The walk's law for 'append(w, x)', w a row of the call's own. -/
theorem wpList_pushw (wr : World) {ops : Array Oper} {rest : List Oper} {o : Oper} {a : Act} {Q : Exit → Act → World → Prop} {bv : Int}
    (hgd : o.guard = none) (s x : Operand) (ho : o.op = .call { callee := .builtin .append, args := #[s, x], argTypes := #[27, 27] })
    (base : Nat) (v : Value) (l : List Nat) (hs : a.eval s = v) (hx : a.eval x = .slice (some ⟨wr.heap.size, 0, none⟩) 1 1) (hown : Ow wr base v l) (b : Nat) (hb : bv = (b : Int))
    (hlen : l.length ≤ 1099511627776) (hbase : base ≤ wr.heap.size)
    (h : ∀ v' w', Ow w' base v' (l ++ [b]) → Below base wr w' → wpList Tryd.prog ops Q rest (a.put o.dst v') w') :
    wpList Tryd.prog ops Q (o :: rest) a (wr.alloc (.cells #[.int .u32 bv] 22)) := by
  subst hb
  obtain ⟨i0, hi, hz0, hz1, hz2⟩ := info_parts Tryd.infoU32
  have hsz : (wr.alloc (.cells #[.int .u32 (b : Int)] 22)).heap.size = wr.heap.size + 1 := by show (wr.heap.push _).size = _; simp
  refine wpList_append_own _ hgd s x 27 ho base 22 i0 (.int .u32 0) 1 4 Tryd.underlying27 hi hz0 hz1 hz2 rfl (by decide) v l.length (u32s l) hs (World.ownsRow.alloc hown _) ⟨wr.heap.size, 0, none⟩ 1 1 [.int .u32 (b : Int)] hx rfl ?_ ?_ (by unfold maxLen; omega) (by omega) (by omega) ?_
  · intro j u hj
    match j, hj with
    | 0, hj => simp at hj; subst hj; simp [Addr.add]
  · intro u hu; simp at hu; subst hu; rfl
  · intro v' w' h1 h2 _
    refine h v' w' ?_ ?_
    · have e : u32s (l ++ [b]) = u32s l ++ [.int .u32 (b : Int)] := by simp [u32s]
      unfold Ow
      rw [e, List.length_append]; exact h1
    · refine Below.grown ((Below.refl _ _).alloc hbase _) h2 (by omega) ?_
      intro k hk
      rcases hown.2 with ⟨rfl, _⟩ | ⟨g, cap, cur, rfl, hb, _⟩
      · simp [Value.ownBlock] at hk
      · simp [Value.ownBlock] at hk; omega

/-- 'append(w, x)' as one step of a region that draws its order. -/
theorem step_pushw {ops : Array Oper} {o : Oper} {a : Act} (wr W : World) {K : Act → World → Prop} {Q : Exit → Act → World → Prop} {E : Prop} {bv : Int}
    (hg : o.guard = none) (s x : Operand) (ho : o.op = .call { callee := .builtin .append, args := #[s, x], argTypes := #[27, 27] })
    (base : Nat) (v : Value) (l : List Nat) (hs : a.eval s = v) (hx : a.eval x = .slice (some ⟨wr.heap.size, 0, none⟩) 1 1) (hown : Ow wr base v l) (b : Nat) (hb : bv = (b : Int))
    (hW : W.heap = (wr.alloc (.cells #[.int .u32 bv] 22)).heap)
    (hlen : l.length ≤ 1099511627776) (hbase : base ≤ wr.heap.size)
    (h : ∀ v' w', Ow w' base v' (l ++ [b]) → Below base W w' → K (a.put o.dst v') w') :
    if Region.wanted o (yielded ops a.tmps) = true then Oper.wp Tryd.prog o a W K Q else E := by
  have hw : Region.wanted o (yielded ops a.tmps) = true := by simp [Region.wanted, hg]
  rw [if_pos hw]
  subst hb
  obtain ⟨i0, hi, hz0, hz1, hz2⟩ := info_parts Tryd.infoU32
  have hsz : W.heap.size = wr.heap.size + 1 := by rw [hW]; show (wr.heap.push _).size = _; simp
  have hcell : ∀ ad, W.cell? ad = (wr.alloc (.cells #[.int .u32 (b : Int)] 22)).cell? ad := fun ad => by unfold World.cell?; rw [hW]
  have hownW : W.ownsRow base 22 1 v l.length (u32s l) := by
    have := World.ownsRow.alloc hown (.cells #[.int .u32 (b : Int)] 22)
    unfold World.ownsRow at this ⊢
    rw [hW]; exact this
  refine wp_append_own _ s x 27 ho base 22 i0 (.int .u32 0) 1 4 Tryd.underlying27 hi hz0 hz1 hz2 rfl (by decide) v l.length (u32s l) hs hownW ⟨wr.heap.size, 0, none⟩ 1 1 [.int .u32 (b : Int)] hx rfl ?_ ?_ (by unfold maxLen; omega) (by omega) (by omega) ?_
  · intro j u hj
    match j, hj with
    | 0, hj => simp at hj; subst hj; rw [hcell]; simp [Addr.add]
  · intro u hu; simp at hu; subst hu; rfl
  · intro v' w' h1 h2 _
    refine h v' w' ?_ ?_
    · have e : u32s (l ++ [b]) = u32s l ++ [.int .u32 (b : Int)] := by simp [u32s]
      unfold Ow
      rw [e, List.length_append]; exact h1
    · refine Below.grown (Below.refl _ _) h2 (by omega) ?_
      intro k hk
      rcases hown.2 with ⟨rfl, _⟩ | ⟨g, cap, cur, rfl, hb, _⟩
      · simp [Value.ownBlock] at hk
      · simp [Value.ownBlock] at hk; omega

/-- A row of numbers, from a block's head on. -/
def RowW (w : World) (g : Nat) (l : List Nat) : Prop := ∀ j (hj : j < l.length), w.cell? ⟨g, j, none⟩ = some (.int .u32 ((l[j] : Nat) : Int))
theorem RowW.at {w : World} {g : Nat} {l : List Nat} (h : RowW w g l) (j : Nat) (hj : j < l.length) : w.cell? ⟨g, j, none⟩ = some (.int .u32 ((l.getD j 0 : Nat) : Int)) := by
  rw [h j hj, List.getD_eq_getElem?_getD, List.getElem?_eq_getElem hj]; rfl
theorem RowW.lt {w : World} {g : Nat} {l : List Nat} (h : RowW w g l) (hl : 0 < l.length) : g < w.heap.size := block_lt_of_cell (h 0 hl)
theorem RowW.below {w w' : World} {B g : Nat} {l : List Nat} (h : RowW w g l) (hb : Below B w w') (hg : g < B) : RowW w' g l := fun j hj => by
  rw [← h j hj]; exact World.cell?_of_block (hb.block _ hg)
theorem RowW.next {w w' : World} {g : Nat} {l : List Nat} (h : RowW w g l) (hl : 0 < l.length) (hb : Below w.heap.size w w') : RowW w' g l := h.below hb (h.lt hl)
theorem RowW.drewN {w : World} {g : Nat} {l : List Nat} (h : RowW w g l) (n : Nat) : RowW (w.drewN n) g l := h
theorem RowW.drew {w : World} {g : Nat} {l : List Nat} (h : RowW w g l) : RowW w.drew g l := h
theorem RowW.alloc {w : World} {g : Nat} {l : List Nat} (h : RowW w g l) (hl : 0 < l.length) (o : Obj) : RowW (w.alloc o) g l := h.next hl ((Below.refl _ _).alloc (Nat.le_refl _) o)
theorem RowW.ofArr {w : World} {g : Nat} {l : List Nat} {t : TypeId} (h : Arr w g (u32s l).toArray t) : RowW w g l := fun j hj => h.cell (by rw [List.getElem?_toArray, u32s_get l j hj])
theorem Ow.row {w : World} {base g cap : Nat} {l : List Nat} (h : Ow w base (.slice (some ⟨g, 0, none⟩) l.length cap) l) : RowW w g l := fun j hj => by
  rw [World.ownsRow.cellAt h j (by omega), u32s_get l j hj]

/-- The walk's law for 'append(w, s...)', w a row of the call's own, s another row. -/
theorem wpList_appendw (wr : World) {ops : Array Oper} {rest : List Oper} {o : Oper} {a : Act} {Q : Exit → Act → World → Prop}
    (hgd : o.guard = none) (s x : Operand) (ho : o.op = .call { callee := .builtin .append, args := #[s, x], argTypes := #[27, 27] })
    (base : Nat) (v : Value) (l : List Nat) (hs : a.eval s = v) (g m c : Nat) (hx : a.eval x = .slice (some ⟨g, 0, none⟩) m c) (hown : Ow wr base v l) (Y : List Nat) (hY : Y.length = m) (hrow : RowW wr g Y)
    (hlen : l.length + m ≤ 1099511627776) (hbase : base ≤ wr.heap.size)
    (h : ∀ v' w', Ow w' base v' (l ++ Y) → Below base wr w' → wpList Tryd.prog ops Q rest (a.put o.dst v') w') :
    wpList Tryd.prog ops Q (o :: rest) a wr := by
  obtain ⟨i0, hi, hz0, hz1, hz2⟩ := info_parts Tryd.infoU32
  refine wpList_append_own _ hgd s x 27 ho base 22 i0 (.int .u32 0) 1 4 Tryd.underlying27 hi hz0 hz1 hz2 rfl (by decide) v l.length (u32s l) hs hown ⟨g, 0, none⟩ m c (u32s Y) hx (by rw [u32s_len, hY, Nat.mul_one]) ?_ ?_ (by unfold maxLen; omega) (by omega) hbase ?_
  · intro j u hj
    have hjl : j < Y.length := by have := (List.getElem?_eq_some_iff.1 hj).1; rwa [u32s_len] at this
    rw [u32s_get Y j hjl] at hj
    have ha : (⟨g, 0, none⟩ : Addr).add j = ⟨g, j, none⟩ := by rw [addr_add, Nat.zero_add]
    rw [ha, hrow j hjl]; exact hj
  · intro u hu
    simp only [u32s, List.mem_map] at hu
    obtain ⟨b, _, rfl⟩ := hu
    rfl
  · intro v' w' h1 h2 _
    refine h v' w' ?_ ?_
    · have e : u32s (l ++ Y) = u32s l ++ u32s Y := by simp [u32s]
      unfold Ow
      rw [e, List.length_append, hY]; exact h1
    · exact Below.grown (Below.refl _ _) h2 hbase fun k hk => (World.ownsRow.lt hown k hk).1
/-- A number of an owned row is set. -/
theorem Ow.set {w : World} {base g n cap : Nat} {l : List Nat} (h : w.ownsRow base 22 1 (.slice (some ⟨g, 0, none⟩) n cap) n (u32s l)) (k x : Nat) :
    (w.setCell ⟨g, k, none⟩ (.int .u32 (x : Int))).ownsRow base 22 1 (.slice (some ⟨g, 0, none⟩) n cap) n (u32s (l.set k x)) := by
  have e : u32s (l.set k x) = (u32s l).set k (.int .u32 (x : Int)) := by simp [u32s, List.map_set]
  rw [e]
  exact (h.stored k _).1
end Go.Proofs.YtebhmcnocpblkaaDoor
