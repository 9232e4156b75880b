/- sha: blocks of memory known whole; the table. -/
import Derived.Test.YtmedlgnllgldiaaDoorSh1
import Derived.Laws.Rows
import Derived.Laws.Tables
import Derived.Laws.CopyOwn
import Derived.Laws.ResultCell
import Derived.Deep.WholeRow
import Derived.Below
import Derived.WalkSpells
import Derived.IntWalk
namespace Go.Proofs.YtmedlgnllgldiaaDoor
open Go.RowKit

/-- Block g holds these cells, none of them frozen. -/
def Arr (w : World) (g : Nat) (cs : Array Value) (t : TypeId) : Prop := w.heap[g]? = some (.cells cs t (0, 0))
theorem Arr.lt {w : World} {g : Nat} {cs : Array Value} {t : TypeId} (h : Arr w g cs t) : g < w.heap.size := by
  by_cases hl : g < w.heap.size
  · exact hl
  · have hn : w.heap[g]? = none := by simp; omega
    rw [Arr, hn] at h; cases h
theorem Arr.cell {w : World} {g : Nat} {cs : Array Value} {t : TypeId} (h : Arr w g cs t) {j : Nat} {v : Value} (hv : cs[j]? = some v) : w.cell? ⟨g, j, none⟩ = some v := by
  rw [cell_of_row w g j cs t (0, 0) h]; exact hv
theorem Arr.frozen {w : World} {g : Nat} {cs : Array Value} {t : TypeId} (h : Arr w g cs t) (j : Nat) : w.frozen? ⟨g, j, none⟩ = false := frozen_of_row w g j cs t h
theorem Arr.new (w : World) (cs : Array Value) (t : TypeId) : Arr (w.alloc (.cells cs t)) w.heap.size cs t := heap_alloc_new w _
theorem Arr.newAt (w : World) {g : Nat} (cs : Array Value) (t : TypeId) (h : g = w.heap.size) : Arr (w.alloc (.cells cs t)) g cs t := by subst h; exact heap_alloc_new w _
theorem Arr.alloc {w : World} {g : Nat} {cs : Array Value} {t : TypeId} (h : Arr w g cs t) (o : Obj) : Arr (w.alloc o) g cs t := (Below.heap_alloc w o g h.lt).trans h
theorem Arr.set {w : World} {g : Nat} {cs : Array Value} {t : TypeId} (h : Arr w g cs t) (i : Nat) (v : Value) : Arr (w.setCell ⟨g, i, none⟩ v) g (cs.setIfInBounds i v) t := heap_setCell_same w g i cs t v h
theorem Arr.other {w : World} {g : Nat} {cs : Array Value} {t : TypeId} (h : Arr w g cs t) (a : Addr) (v : Value) (hn : g ≠ a.block) : Arr (w.setCell a v) g cs t := (heap_setCell_other w a g v hn).trans h
theorem Arr.below {w w' : World} {B g : Nat} {cs : Array Value} {t : TypeId} (h : Arr w g cs t) (hb : Below B w w') (hg : g < B) : Arr w' g cs t := (hb.block g hg).trans h
theorem Arr.next {w w' : World} {g : Nat} {cs : Array Value} {t : TypeId} (h : Arr w g cs t) (hb : Below w.heap.size w w') : Arr w' g cs t := h.below hb h.lt
theorem Arr.drew {w : World} {g : Nat} {cs : Array Value} {t : TypeId} (h : Arr w g cs t) : Arr w.drew g cs t := h
theorem Arr.drewN {w : World} {g : Nat} {cs : Array Value} {t : TypeId} (h : Arr w g cs t) (n : Nat) : Arr (w.drewN n) g cs t := h

/-- The table, where the package lays it. -/
def Tab (w : World) : Prop := ∀ k, k < 64 → w.cell? ⟨0, k, none⟩ = some (.int .u32 (tabN k : Nat))
theorem Tab.lt {w : World} (h : Tab w) : 0 < w.heap.size := block_lt_of_cell (h 0 (by decide))
theorem Tab.alloc {w : World} (h : Tab w) (o : Obj) : Tab (w.alloc o) := fun k hk => by
  rw [← h k hk]; exact World.cell?_of_block (Below.heap_alloc w o _ h.lt)
theorem Tab.set {w : World} (h : Tab w) (a : Addr) (v : Value) (hn : 0 ≠ a.block) : Tab (w.setCell a v) := fun k hk => by
  rw [← h k hk]; exact World.cell?_of_block (heap_setCell_other w a _ v hn)
theorem Tab.below {w w' : World} {B : Nat} (h : Tab w) (hb : Below B w w') (hB : 0 < B) : Tab w' := fun k hk => by
  rw [← h k hk]; exact World.cell?_of_block (hb.block _ hB)
theorem Tab.next {w w' : World} (h : Tab w) (hb : Below w.heap.size w w') : Tab w' := h.below hb h.lt
theorem Tab.drew {w : World} (h : Tab w) : Tab w.drew := h
theorem Tab.drewN {w : World} (h : Tab w) (n : Nat) : Tab (w.drewN n) := h

/-- An array of 64 numbers, of which these are laid. -/
def rowW (l : List Nat) : Array Value := (u32s l ++ List.replicate (64 - l.length) (Value.int .u32 0)).toArray
theorem rowW_size (l : List Nat) (h : l.length ≤ 64) : (rowW l).size = 64 := by simp [rowW, u32s_len]; omega
theorem rowW_get (l : List Nat) (i : Nat) (h : i < l.length) : (rowW l)[i]? = some (.int .u32 ((l.getD i 0 : Nat) : Int)) := by
  unfold rowW
  rw [List.getElem?_toArray, List.getElem?_append_left (by rw [u32s_len]; exact h), u32s_get _ _ h]
  simp [List.getD, h]
theorem rowW_hi (l : List Nat) (i : Nat) (h : l.length ≤ i) (h2 : i < 64) : (rowW l)[i]? = some (.int .u32 0) := by
  unfold rowW
  rw [List.getElem?_toArray, List.getElem?_append_right (by rw [u32s_len]; exact h), u32s_len, List.getElem?_replicate, if_pos (by omega)]
theorem rowW_set (l : List Nat) (x : Nat) (h : l.length < 64) : (rowW l).setIfInBounds l.length (.int .u32 (x : Int)) = rowW (l ++ [x]) := by
  unfold rowW
  obtain ⟨m, hm⟩ : ∃ m, 64 - l.length = m + 1 := ⟨63 - l.length, by omega⟩
  have hm2 : 64 - (l ++ [x]).length = m := by rw [List.length_append]; simp; omega
  rw [hm, hm2, List.setIfInBounds_toArray, List.set_append_right _ _ (by rw [u32s_len]; exact Nat.le_refl _), u32s_len, Nat.sub_self, List.replicate_succ]
  simp [u32s]
theorem rowW_full (l : List Nat) (h : l.length = 64) : rowW l = (u32s l).toArray := by simp [rowW, h]

theorem info_w64 : (Tryd.prog.info? 90).map (·.size) = some 64 := by kernel_rfl
theorem info_s8 : (Tryd.prog.info? 45).map (·.size) = some 8 := by kernel_rfl
/-- A whole array of 64 numbers is loaded. -/
theorem wpList_load64 {ops : Array Oper} {rest : List Oper} {o : Oper} {a : Act} {w : World} {Q : Exit → Act → World → Prop} (hgd : o.guard = none) (x : Operand) (ho : o.op = .load 90 x)
    (g : Nat) (hx : a.eval x = .pointer (some ⟨g, 0, none⟩)) (cs : Array Value) (hs : cs.size = 64) (hg : Arr w g cs 90)
    (h : wpList Tryd.prog ops Q rest (a.put o.dst (.agg cs)) w) : wpList Tryd.prog ops Q (o :: rest) a w :=
  wpList_load_row hgd 90 x ho g hx 90 cs (0, 0) _ hg Tryd.underlying90 rfl (by rw [hs]; exact info_w64) h
theorem wpList_load8 {ops : Array Oper} {rest : List Oper} {o : Oper} {a : Act} {w : World} {Q : Exit → Act → World → Prop} (hgd : o.guard = none) (x : Operand) (ho : o.op = .load 45 x)
    (g : Nat) (hx : a.eval x = .pointer (some ⟨g, 0, none⟩)) (cs : Array Value) (hs : cs.size = 8) (hg : Arr w g cs 45)
    (h : wpList Tryd.prog ops Q rest (a.put o.dst (.agg cs)) w) : wpList Tryd.prog ops Q (o :: rest) a w :=
  wpList_load_row hgd 45 x ho g hx 45 cs (0, 0) _ hg Tryd.underlying45 rfl (by rw [hs]; exact info_s8) h
theorem Arr.row {w : World} {g : Nat} {cs : Array Value} {t : TypeId} (h : Arr w g cs t) (cs' : Array Value) : Arr (w.setRow g cs') g cs' t := setRow_heap w g cs cs' t (0, 0) h
theorem Arr.rowOther {w : World} {g g' : Nat} {cs : Array Value} {t : TypeId} (h : Arr w g cs t) (cs' : Array Value) (hn : g ≠ g') : Arr (w.setRow g' cs') g cs t := (setRow_other w g' g cs' hn).trans h
theorem Tab.row {w : World} (h : Tab w) (g : Nat) (cs : Array Value) (hn : 0 ≠ g) : Tab (w.setRow g cs) := fun k hk => by
  rw [← h k hk]; exact World.cell?_of_block (setRow_other w g _ cs hn)
theorem one_u32s (l : List Nat) : (u32s l).toArray.all (·.oneCell') = true := by simp [u32s, Value.oneCell']
theorem one_rowW (l : List Nat) : (rowW l).all (·.oneCell') = true := by
  unfold rowW
  rw [← List.toArray_appendList]
  simp [u32s, Value.oneCell']
/-- A whole array is stored. -/
theorem wpList_store64 {ops : Array Oper} {rest : List Oper} {o : Oper} {a : Act} {w : World} {Q : Exit → Act → World → Prop} (hgd : o.guard = none) (x y : Operand) (ho : o.op = .store 90 x y)
    (g : Nat) (hx : a.eval x = .pointer (some ⟨g, 0, none⟩)) (cs : Array Value) (hy : a.eval y = .agg cs) (hs : cs.size = 64) (h1 : cs.all (·.oneCell') = true) (old : Array Value) (hz : old.size = 64) (hg : Arr w g old 90)
    (h : wpList Tryd.prog ops Q rest (a.put o.dst undef) (w.setRow g cs)) : wpList Tryd.prog ops Q (o :: rest) a w :=
  wpList_store_row hgd 90 x y ho g cs hx hy 90 old hg (by rw [hs]; exact info_w64) (by omega) h1 h
theorem wpList_store8 {ops : Array Oper} {rest : List Oper} {o : Oper} {a : Act} {w : World} {Q : Exit → Act → World → Prop} (hgd : o.guard = none) (x y : Operand) (ho : o.op = .store 45 x y)
    (g : Nat) (hx : a.eval x = .pointer (some ⟨g, 0, none⟩)) (cs : Array Value) (hy : a.eval y = .agg cs) (hs : cs.size = 8) (h1 : cs.all (·.oneCell') = true) (old : Array Value) (hz : old.size = 8) (hg : Arr w g old 45)
    (h : wpList Tryd.prog ops Q rest (a.put o.dst undef) (w.setRow g cs)) : wpList Tryd.prog ops Q (o :: rest) a w :=
  wpList_store_row hgd 45 x y ho g cs hx hy 45 old hg (by rw [hs]; exact info_s8) (by omega) h1 h
/-- A new array variable gets its value. -/
theorem wpList_store64_new {ops : Array Oper} {rest : List Oper} {o : Oper} {a : Act} {w : World} {Q : Exit → Act → World → Prop} (hgd : o.guard = none) (x y : Operand) (ho : o.op = .store 90 x y)
    (old : Array Value) (hz : old.size = 64) (hx : a.eval x = .pointer (some ⟨w.heap.size, 0, none⟩)) (cs : Array Value) (hy : a.eval y = .agg cs) (hs : cs.size = 64) (h1 : cs.all (·.oneCell') = true)
    (h : wpList Tryd.prog ops Q rest (a.put o.dst undef) (w.alloc (.cells cs 90))) : wpList Tryd.prog ops Q (o :: rest) a (w.alloc (.cells old 90)) :=
  wpList_store64 hgd x y ho w.heap.size hx cs hy hs h1 old hz (Arr.new w old _) (by rw [World.setRow_alloc_new]; exact h)
theorem wpList_store8_new {ops : Array Oper} {rest : List Oper} {o : Oper} {a : Act} {w : World} {Q : Exit → Act → World → Prop} (hgd : o.guard = none) (x y : Operand) (ho : o.op = .store 45 x y)
    (old : Array Value) (hz : old.size = 8) (hx : a.eval x = .pointer (some ⟨w.heap.size, 0, none⟩)) (cs : Array Value) (hy : a.eval y = .agg cs) (hs : cs.size = 8) (h1 : cs.all (·.oneCell') = true)
    (h : wpList Tryd.prog ops Q rest (a.put o.dst undef) (w.alloc (.cells cs 45))) : wpList Tryd.prog ops Q (o :: rest) a (w.alloc (.cells old 45)) :=
  wpList_store8 hgd x y ho w.heap.size hx cs hy hs h1 old hz (Arr.new w old _) (by rw [World.setRow_alloc_new]; exact h)

theorem ret_w64 {fn : Func} {p : Tmp} {R : Ending → World → Prop} {a : Act} {w : World} (h : fn.results = #[.cell p 90]) (g : Nat) (cs : Array Value) (hs : cs.size = 64) (hp : a.tmps.getD p undef = .pointer (some ⟨g, 0, none⟩))
    (hg : Arr w g cs 90) (hd : a.defers = []) (hR : R (.returned (.agg cs)) w) : bodyPost Tryd.prog fn R .ret a w :=
  bodyPost_ret (results_cell_row h a.tmps w g 90 cs (0, 0) _ hp hg Tryd.underlying90 rfl (by rw [hs]; exact info_w64)) hd hR
theorem ret_s8 {fn : Func} {p : Tmp} {R : Ending → World → Prop} {a : Act} {w : World} (h : fn.results = #[.cell p 45]) (g : Nat) (cs : Array Value) (hs : cs.size = 8) (hp : a.tmps.getD p undef = .pointer (some ⟨g, 0, none⟩))
    (hg : Arr w g cs 45) (hd : a.defers = []) (hR : R (.returned (.agg cs)) w) : bodyPost Tryd.prog fn R .ret a w :=
  bodyPost_ret (results_cell_row h a.tmps w g 45 cs (0, 0) _ hp hg Tryd.underlying45 rfl (by rw [hs]; exact info_s8)) hd hR
theorem results_s8_tmp {fn : Func} {p u : Tmp} (h : fn.results = #[.cell p 45, .tmp u]) (tmps : Array Value) (w : World) (g : Nat) (cs : Array Value) (hs : cs.size = 8)
    (hp : tmps.getD p undef = .pointer (some ⟨g, 0, none⟩)) (hg : Arr w g cs 45) :
    (results fn tmps).run Tryd.prog w = .ok (.tuple #[.agg cs, tmps.getD u undef]) w := by
  rw [results_cell_tmp h, hp]
  simp only [asAddr, Sem.run_pure, Result.andThen_ok, run_loadVar_row w g 45 45 cs (0, 0) _ hg Tryd.underlying45 rfl (by rw [hs]; exact info_s8)]
theorem ret_s8_tmp {fn : Func} {p u : Tmp} {R : Ending → World → Prop} {a : Act} {w : World} (h : fn.results = #[.cell p 45, .tmp u]) (g : Nat) (cs : Array Value) (hs : cs.size = 8) (hp : a.tmps.getD p undef = .pointer (some ⟨g, 0, none⟩))
    (hg : Arr w g cs 45) (hd : a.defers = []) (v : Value) (hv : a.tmps.getD u undef = v) (hR : R (.returned (.tuple #[.agg cs, v])) w) : bodyPost Tryd.prog fn R .ret a w := by
  subst hv
  exact bodyPost_ret (results_s8_tmp h a.tmps w g cs hs hp hg) hd hR

/-- A part of a string, as the walk asks for it. -/
theorem slice_str (s : ByteArray) (i j : Int) (a b : Nat) (hi : i = (a : Int)) (hj : j = (b : Int)) (hab : a ≤ b) (hb : b ≤ s.size) (w : World) :
    (Instr.slice 9 (.string s) (some (.int .i64 i)) (some (.int .i64 j)) none).run Tryd.prog w = .ok (.string (s.extract a b)) w := by
  subst hi hj
  have := run_slice_string (P := Tryd.prog) w 9 s .i64 .i64 (a : Int) (b : Int) Tryd.underlying9 (by omega) (by omega) (by omega)
  simpa using this
theorem ext_toList (s : ByteArray) (a b : Nat) : (s.extract a b).data.toList = (s.data.toList.drop a).take (b - a) := by
  simp [ByteArray.data_extract]
theorem ext_size (s : ByteArray) (a b : Nat) (h : b ≤ s.size) : (s.extract a b).size = b - a := by
  rw [ByteArray.size_extract]; omega
end Go.Proofs.YtmedlgnllgldiaaDoor
