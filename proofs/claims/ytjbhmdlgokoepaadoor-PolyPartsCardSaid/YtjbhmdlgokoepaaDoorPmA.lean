/- poly: its arrays whole. -/
import Derived.Test.YtjbhmdlgokoepaaDoorPmN
import Derived.Outline
namespace Go.Proofs.YtjbhmdlgokoepaaDoor
open Go.RowKit

theorem info_n5 : (Tryd.prog.info? 50).map (·.size) = some 5 := by kernel_rfl
theorem wpList_load_n5 {ops : Array Oper} {rest : List Oper} {o : Oper} {a : Act} {w : World} {Q : Exit → Act → World → Prop} (hgd : o.guard = none) (x : Operand) (ho : o.op = .load 50 x)
    (g : Nat) (hx : a.eval x = .pointer (some ⟨g, 0, none⟩)) (cs : Array Value) (hs : cs.size = 5) (hg : Arr w g cs 50)
    (h : wpList Tryd.prog ops Q rest (a.put o.dst (.agg cs)) w) : wpList Tryd.prog ops Q (o :: rest) a w :=
  wpList_load_row hgd 50 x ho g hx 50 cs (0, 0) _ hg Tryd.underlying50 rfl (by rw [hs]; exact info_n5) h
theorem wpList_store_n5 {ops : Array Oper} {rest : List Oper} {o : Oper} {a : Act} {w : World} {Q : Exit → Act → World → Prop} (hgd : o.guard = none) (x y : Operand) (ho : o.op = .store 50 x y)
    (g : Nat) (hx : a.eval x = .pointer (some ⟨g, 0, none⟩)) (cs : Array Value) (hy : a.eval y = .agg cs) (hs : cs.size = 5) (h1 : cs.all (·.oneCell') = true) (old : Array Value) (hz : old.size = 5) (hg : Arr w g old 50)
    (h : wpList Tryd.prog ops Q rest (a.put o.dst undef) (w.setRow g cs)) : wpList Tryd.prog ops Q (o :: rest) a w :=
  wpList_store_row hgd 50 x y ho g cs hx hy 50 old hg (by rw [hs]; exact info_n5) (by omega) h1 h
/-- A new array variable gets its value. -/
theorem wpList_store_n5_new {ops : Array Oper} {rest : List Oper} {o : Oper} {a : Act} {w : World} {Q : Exit → Act → World → Prop} (hgd : o.guard = none) (x y : Operand) (ho : o.op = .store 50 x y)
    (old : Array Value) (hz : old.size = 5) (g : Nat) (hx : a.eval x = .pointer (some ⟨g, 0, none⟩)) (hgs : g = w.heap.size) (cs : Array Value) (hy : a.eval y = .agg cs) (hs : cs.size = 5) (h1 : cs.all (·.oneCell') = true)
    (h : wpList Tryd.prog ops Q rest (a.put o.dst undef) (w.alloc (.cells cs 50))) : wpList Tryd.prog ops Q (o :: rest) a (w.alloc (.cells old 50)) :=
  wpList_store_n5 hgd x y ho w.heap.size (by rw [← hgs]; exact hx) cs hy hs h1 old hz (Arr.new w old _) (by rw [World.setRow_alloc_new]; exact h)
theorem ret_n5 {fn : Func} {p : Tmp} {R : Ending → World → Prop} {a : Act} {w : World} (h : fn.results = #[.cell p 50]) (g : Nat) (cs : Array Value) (hs : cs.size = 5) (hp : a.tmps.getD p undef = .pointer (some ⟨g, 0, none⟩))
    (hg : Arr w g cs 50) (hd : a.defers = []) (hR : R (.returned (.agg cs)) w) : bodyPost Tryd.prog fn R .ret a w :=
  bodyPost_ret (results_cell_row h a.tmps w g 50 cs (0, 0) _ hp hg Tryd.underlying50 rfl (by rw [hs]; exact info_n5)) hd hR

theorem results_n5_tmp {fn : Func} {p u : Tmp} (h : fn.results = #[.cell p 50, .tmp u]) (tmps : Array Value) (w : World) (g : Nat) (cs : Array Value) (hs : cs.size = 5)
    (hp : tmps.getD p undef = .pointer (some ⟨g, 0, none⟩)) (hg : Arr w g cs 50) :
    (results fn tmps).run Tryd.prog w = .ok (.tuple #[.agg cs, tmps.getD u undef]) w := by
  rw [results_cell_tmp h, hp]
  simp only [asAddr, Sem.run_pure, Result.andThen_ok, run_loadVar_row w g 50 50 cs (0, 0) _ hg Tryd.underlying50 rfl (by rw [hs]; exact info_n5)]
theorem ret_n5_tmp {fn : Func} {p u : Tmp} {R : Ending → World → Prop} {a : Act} {w : World} (h : fn.results = #[.cell p 50, .tmp u]) (g : Nat) (cs : Array Value) (hs : cs.size = 5) (hp : a.tmps.getD p undef = .pointer (some ⟨g, 0, none⟩))
    (hg : Arr w g cs 50) (hd : a.defers = []) (v : Value) (hv : a.tmps.getD u undef = v) (hR : R (.returned (.tuple #[.agg cs, v])) w) : bodyPost Tryd.prog fn R .ret a w := by
  subst hv
  exact bodyPost_ret (results_n5_tmp h a.tmps w g cs hs hp hg) hd hR

theorem info_b16 : (Tryd.prog.info? 38).map (·.size) = some 16 := by kernel_rfl
theorem wpList_load_b16 {ops : Array Oper} {rest : List Oper} {o : Oper} {a : Act} {w : World} {Q : Exit → Act → World → Prop} (hgd : o.guard = none) (x : Operand) (ho : o.op = .load 38 x)
    (g : Nat) (hx : a.eval x = .pointer (some ⟨g, 0, none⟩)) (cs : Array Value) (hs : cs.size = 16) (hg : Arr w g cs 38)
    (h : wpList Tryd.prog ops Q rest (a.put o.dst (.agg cs)) w) : wpList Tryd.prog ops Q (o :: rest) a w :=
  wpList_load_row hgd 38 x ho g hx 38 cs (0, 0) _ hg Tryd.underlying38 rfl (by rw [hs]; exact info_b16) h
theorem wpList_store_b16 {ops : Array Oper} {rest : List Oper} {o : Oper} {a : Act} {w : World} {Q : Exit → Act → World → Prop} (hgd : o.guard = none) (x y : Operand) (ho : o.op = .store 38 x y)
    (g : Nat) (hx : a.eval x = .pointer (some ⟨g, 0, none⟩)) (cs : Array Value) (hy : a.eval y = .agg cs) (hs : cs.size = 16) (h1 : cs.all (·.oneCell') = true) (old : Array Value) (hz : old.size = 16) (hg : Arr w g old 38)
    (h : wpList Tryd.prog ops Q rest (a.put o.dst undef) (w.setRow g cs)) : wpList Tryd.prog ops Q (o :: rest) a w :=
  wpList_store_row hgd 38 x y ho g cs hx hy 38 old hg (by rw [hs]; exact info_b16) (by omega) h1 h
/-- A new array variable gets its value. -/
theorem wpList_store_b16_new {ops : Array Oper} {rest : List Oper} {o : Oper} {a : Act} {w : World} {Q : Exit → Act → World → Prop} (hgd : o.guard = none) (x y : Operand) (ho : o.op = .store 38 x y)
    (old : Array Value) (hz : old.size = 16) (g : Nat) (hx : a.eval x = .pointer (some ⟨g, 0, none⟩)) (hgs : g = w.heap.size) (cs : Array Value) (hy : a.eval y = .agg cs) (hs : cs.size = 16) (h1 : cs.all (·.oneCell') = true)
    (h : wpList Tryd.prog ops Q rest (a.put o.dst undef) (w.alloc (.cells cs 38))) : wpList Tryd.prog ops Q (o :: rest) a (w.alloc (.cells old 38)) :=
  wpList_store_b16 hgd x y ho w.heap.size (by rw [← hgs]; exact hx) cs hy hs h1 old hz (Arr.new w old _) (by rw [World.setRow_alloc_new]; exact h)
theorem ret_b16 {fn : Func} {p : Tmp} {R : Ending → World → Prop} {a : Act} {w : World} (h : fn.results = #[.cell p 38]) (g : Nat) (cs : Array Value) (hs : cs.size = 16) (hp : a.tmps.getD p undef = .pointer (some ⟨g, 0, none⟩))
    (hg : Arr w g cs 38) (hd : a.defers = []) (hR : R (.returned (.agg cs)) w) : bodyPost Tryd.prog fn R .ret a w :=
  bodyPost_ret (results_cell_row h a.tmps w g 38 cs (0, 0) _ hp hg Tryd.underlying38 rfl (by rw [hs]; exact info_b16)) hd hR

def u64s (l : List Nat) : List Value := l.map fun (n : Nat) => .int .u64 (n : Int)
theorem u64s_len (l : List Nat) : (u64s l).length = l.length := by simp [u64s]
theorem u64s_get (l : List Nat) (i : Nat) (h : i < l.length) : (u64s l)[i]? = some (.int .u64 ((l[i] : Nat) : Int)) := by simp [u64s, h]
def row5 (x : List Nat) : Array Value := (u64s x).toArray
theorem row5_size {x : List Nat} (h : x.length = 5) : (row5 x).size = 5 := by simp [row5, u64s_len, h]
theorem row5_one (x : List Nat) : (row5 x).all (·.oneCell') = true := by simp [row5, u64s, Value.oneCell']
theorem row5_get {x : List Nat} {k : Nat} (h : k < x.length) : (row5 x)[k]? = some (.int .u64 ((x.getD k 0 : Nat) : Int)) := by
  rw [row5, List.getElem?_toArray, u64s_get x k h, List.getD_eq_getElem?_getD, List.getElem?_eq_getElem h]; rfl
theorem row5_set (x : List Nat) (k n : Nat) : (row5 x).setIfInBounds k (.int .u64 (n : Int)) = row5 (x.set k n) := by
  rw [row5, row5, List.setIfInBounds_toArray]; simp [u64s, List.map_set]
theorem index_n5 (y : List Nat) (hy : y.length = 5) (k : Nat) (h : k < 5) (w : World) : (Instr.index 50 (.agg (row5 y)) (.int .i64 (k : Int))).run Tryd.prog w = .ok (.int .u64 ((y.getD k 0 : Nat) : Int)) w := by
  obtain ⟨a, b, c, d, e, rfl⟩ := five y hy
  match k, h with
  | 0, _ => rfl
  | 1, _ => rfl
  | 2, _ => rfl
  | 3, _ => rfl
  | 4, _ => rfl
theorem Arr.at5 {w : World} {g : Nat} {x : List Nat} (h : Arr w g (row5 x) 50) (k : Nat) (hk : k < x.length) : w.cell? ⟨g, k, none⟩ = some (.int .u64 ((x.getD k 0 : Nat) : Int)) := h.cell (row5_get hk)
theorem Arr.set5 {w : World} {g : Nat} {x : List Nat} (h : Arr w g (row5 x) 50) (k n : Nat) : Arr (w.setCell ⟨g, k, none⟩ (.int .u64 (n : Int))) g (row5 (x.set k n)) 50 := by
  rw [← row5_set]; exact h.set k _
theorem u64_sum {a b : Nat} (h : a + b < 18446744073709551616) : ((a : Int) + (b : Int)) % 18446744073709551616 = ((a + b : Nat) : Int) := by omega
theorem and26 (n : Nat) (h : n < 18446744073709551616) : bits .and .u64 (n : Int) 67108863 = ((n % 67108864 : Nat) : Int) := by
  have := bits_and_u64_nat n 67108863 h (by decide)
  rw [show ((67108863 : Nat) : Int) = 67108863 from rfl] at this
  rw [this, show (67108863 : Nat) = 2 ^ 26 - 1 from rfl, Nat.and_two_pow_sub_one_eq_mod]
end Go.Proofs.YtjbhmdlgokoepaaDoor
