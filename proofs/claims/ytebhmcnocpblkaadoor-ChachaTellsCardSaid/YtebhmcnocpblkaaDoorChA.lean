/- chacha: its arrays whole; the contracts of Stir and sized. -/
import Derived.Test.YtebhmcnocpblkaaDoorChN
import Derived.Outline
namespace Go.Proofs.YtebhmcnocpblkaaDoor
open Go.RowKit

theorem info_q4 : (Tryd.prog.info? 23).map (·.size) = some 4 := by kernel_rfl
theorem wpList_load_q4 {ops : Array Oper} {rest : List Oper} {o : Oper} {a : Act} {w : World} {Q : Exit → Act → World → Prop} (hgd : o.guard = none) (x : Operand) (ho : o.op = .load 23 x)
    (g : Nat) (hx : a.eval x = .pointer (some ⟨g, 0, none⟩)) (cs : Array Value) (hs : cs.size = 4) (hg : Arr w g cs 23)
    (h : wpList Tryd.prog ops Q rest (a.put o.dst (.agg cs)) w) : wpList Tryd.prog ops Q (o :: rest) a w :=
  wpList_load_row hgd 23 x ho g hx 23 cs (0, 0) _ hg Tryd.underlying23 rfl (by rw [hs]; exact info_q4) h
theorem wpList_store_q4 {ops : Array Oper} {rest : List Oper} {o : Oper} {a : Act} {w : World} {Q : Exit → Act → World → Prop} (hgd : o.guard = none) (x y : Operand) (ho : o.op = .store 23 x y)
    (g : Nat) (hx : a.eval x = .pointer (some ⟨g, 0, none⟩)) (cs : Array Value) (hy : a.eval y = .agg cs) (hs : cs.size = 4) (h1 : cs.all (·.oneCell') = true) (old : Array Value) (hz : old.size = 4) (hg : Arr w g old 23)
    (h : wpList Tryd.prog ops Q rest (a.put o.dst undef) (w.setRow g cs)) : wpList Tryd.prog ops Q (o :: rest) a w :=
  wpList_store_row hgd 23 x y ho g cs hx hy 23 old hg (by rw [hs]; exact info_q4) (by omega) h1 h
/-- A new array variable gets its value. -/
theorem wpList_store_q4_new {ops : Array Oper} {rest : List Oper} {o : Oper} {a : Act} {w : World} {Q : Exit → Act → World → Prop} (hgd : o.guard = none) (x y : Operand) (ho : o.op = .store 23 x y)
    (old : Array Value) (hz : old.size = 4) (g : Nat) (hx : a.eval x = .pointer (some ⟨g, 0, none⟩)) (hgs : g = w.heap.size) (cs : Array Value) (hy : a.eval y = .agg cs) (hs : cs.size = 4) (h1 : cs.all (·.oneCell') = true)
    (h : wpList Tryd.prog ops Q rest (a.put o.dst undef) (w.alloc (.cells cs 23))) : wpList Tryd.prog ops Q (o :: rest) a (w.alloc (.cells old 23)) :=
  wpList_store_q4 hgd x y ho w.heap.size (by rw [← hgs]; exact hx) cs hy hs h1 old hz (Arr.new w old _) (by rw [World.setRow_alloc_new]; exact h)
theorem ret_q4 {fn : Func} {p : Tmp} {R : Ending → World → Prop} {a : Act} {w : World} (h : fn.results = #[.cell p 23]) (g : Nat) (cs : Array Value) (hs : cs.size = 4) (hp : a.tmps.getD p undef = .pointer (some ⟨g, 0, none⟩))
    (hg : Arr w g cs 23) (hd : a.defers = []) (hR : R (.returned (.agg cs)) w) : bodyPost Tryd.prog fn R .ret a w :=
  bodyPost_ret (results_cell_row h a.tmps w g 23 cs (0, 0) _ hp hg Tryd.underlying23 rfl (by rw [hs]; exact info_q4)) hd hR

theorem info_n16 : (Tryd.prog.info? 48).map (·.size) = some 16 := by kernel_rfl
theorem wpList_load_n16 {ops : Array Oper} {rest : List Oper} {o : Oper} {a : Act} {w : World} {Q : Exit → Act → World → Prop} (hgd : o.guard = none) (x : Operand) (ho : o.op = .load 48 x)
    (g : Nat) (hx : a.eval x = .pointer (some ⟨g, 0, none⟩)) (cs : Array Value) (hs : cs.size = 16) (hg : Arr w g cs 48)
    (h : wpList Tryd.prog ops Q rest (a.put o.dst (.agg cs)) w) : wpList Tryd.prog ops Q (o :: rest) a w :=
  wpList_load_row hgd 48 x ho g hx 48 cs (0, 0) _ hg Tryd.underlying48 rfl (by rw [hs]; exact info_n16) h
theorem wpList_store_n16 {ops : Array Oper} {rest : List Oper} {o : Oper} {a : Act} {w : World} {Q : Exit → Act → World → Prop} (hgd : o.guard = none) (x y : Operand) (ho : o.op = .store 48 x y)
    (g : Nat) (hx : a.eval x = .pointer (some ⟨g, 0, none⟩)) (cs : Array Value) (hy : a.eval y = .agg cs) (hs : cs.size = 16) (h1 : cs.all (·.oneCell') = true) (old : Array Value) (hz : old.size = 16) (hg : Arr w g old 48)
    (h : wpList Tryd.prog ops Q rest (a.put o.dst undef) (w.setRow g cs)) : wpList Tryd.prog ops Q (o :: rest) a w :=
  wpList_store_row hgd 48 x y ho g cs hx hy 48 old hg (by rw [hs]; exact info_n16) (by omega) h1 h
/-- A new array variable gets its value. -/
theorem wpList_store_n16_new {ops : Array Oper} {rest : List Oper} {o : Oper} {a : Act} {w : World} {Q : Exit → Act → World → Prop} (hgd : o.guard = none) (x y : Operand) (ho : o.op = .store 48 x y)
    (old : Array Value) (hz : old.size = 16) (g : Nat) (hx : a.eval x = .pointer (some ⟨g, 0, none⟩)) (hgs : g = w.heap.size) (cs : Array Value) (hy : a.eval y = .agg cs) (hs : cs.size = 16) (h1 : cs.all (·.oneCell') = true)
    (h : wpList Tryd.prog ops Q rest (a.put o.dst undef) (w.alloc (.cells cs 48))) : wpList Tryd.prog ops Q (o :: rest) a (w.alloc (.cells old 48)) :=
  wpList_store_n16 hgd x y ho w.heap.size (by rw [← hgs]; exact hx) cs hy hs h1 old hz (Arr.new w old _) (by rw [World.setRow_alloc_new]; exact h)
theorem ret_n16 {fn : Func} {p : Tmp} {R : Ending → World → Prop} {a : Act} {w : World} (h : fn.results = #[.cell p 48]) (g : Nat) (cs : Array Value) (hs : cs.size = 16) (hp : a.tmps.getD p undef = .pointer (some ⟨g, 0, none⟩))
    (hg : Arr w g cs 48) (hd : a.defers = []) (hR : R (.returned (.agg cs)) w) : bodyPost Tryd.prog fn R .ret a w :=
  bodyPost_ret (results_cell_row h a.tmps w g 48 cs (0, 0) _ hp hg Tryd.underlying48 rfl (by rw [hs]; exact info_n16)) hd hR

theorem info_i4 : (Tryd.prog.info? 69).map (·.size) = some 4 := by kernel_rfl
theorem wpList_load_i4 {ops : Array Oper} {rest : List Oper} {o : Oper} {a : Act} {w : World} {Q : Exit → Act → World → Prop} (hgd : o.guard = none) (x : Operand) (ho : o.op = .load 69 x)
    (g : Nat) (hx : a.eval x = .pointer (some ⟨g, 0, none⟩)) (cs : Array Value) (hs : cs.size = 4) (hg : Arr w g cs 69)
    (h : wpList Tryd.prog ops Q rest (a.put o.dst (.agg cs)) w) : wpList Tryd.prog ops Q (o :: rest) a w :=
  wpList_load_row hgd 69 x ho g hx 69 cs (0, 0) _ hg Tryd.underlying69 rfl (by rw [hs]; exact info_i4) h
theorem wpList_store_i4 {ops : Array Oper} {rest : List Oper} {o : Oper} {a : Act} {w : World} {Q : Exit → Act → World → Prop} (hgd : o.guard = none) (x y : Operand) (ho : o.op = .store 69 x y)
    (g : Nat) (hx : a.eval x = .pointer (some ⟨g, 0, none⟩)) (cs : Array Value) (hy : a.eval y = .agg cs) (hs : cs.size = 4) (h1 : cs.all (·.oneCell') = true) (old : Array Value) (hz : old.size = 4) (hg : Arr w g old 69)
    (h : wpList Tryd.prog ops Q rest (a.put o.dst undef) (w.setRow g cs)) : wpList Tryd.prog ops Q (o :: rest) a w :=
  wpList_store_row hgd 69 x y ho g cs hx hy 69 old hg (by rw [hs]; exact info_i4) (by omega) h1 h
/-- A new array variable gets its value. -/
theorem wpList_store_i4_new {ops : Array Oper} {rest : List Oper} {o : Oper} {a : Act} {w : World} {Q : Exit → Act → World → Prop} (hgd : o.guard = none) (x y : Operand) (ho : o.op = .store 69 x y)
    (old : Array Value) (hz : old.size = 4) (g : Nat) (hx : a.eval x = .pointer (some ⟨g, 0, none⟩)) (hgs : g = w.heap.size) (cs : Array Value) (hy : a.eval y = .agg cs) (hs : cs.size = 4) (h1 : cs.all (·.oneCell') = true)
    (h : wpList Tryd.prog ops Q rest (a.put o.dst undef) (w.alloc (.cells cs 69))) : wpList Tryd.prog ops Q (o :: rest) a (w.alloc (.cells old 69)) :=
  wpList_store_i4 hgd x y ho w.heap.size (by rw [← hgs]; exact hx) cs hy hs h1 old hz (Arr.new w old _) (by rw [World.setRow_alloc_new]; exact h)
theorem ret_i4 {fn : Func} {p : Tmp} {R : Ending → World → Prop} {a : Act} {w : World} (h : fn.results = #[.cell p 69]) (g : Nat) (cs : Array Value) (hs : cs.size = 4) (hp : a.tmps.getD p undef = .pointer (some ⟨g, 0, none⟩))
    (hg : Arr w g cs 69) (hd : a.defers = []) (hR : R (.returned (.agg cs)) w) : bodyPost Tryd.prog fn R .ret a w :=
  bodyPost_ret (results_cell_row h a.tmps w g 69 cs (0, 0) _ hp hg Tryd.underlying69 rfl (by rw [hs]; exact info_i4)) hd hR

def zero4 : Array Value := #[.int .u32 0, .int .u32 0, .int .u32 0, .int .u32 0]
def row16 (x : List Nat) : Array Value := (u32s x).toArray
theorem row16_size {x : List Nat} (h : x.length = 16) : (row16 x).size = 16 := by simp [row16, u32s_len, h]
theorem row16_one (x : List Nat) : (row16 x).all (·.oneCell') = true := one_u32s x
theorem row16_get {x : List Nat} {k : Nat} (h : k < x.length) : (row16 x)[k]? = some (.int .u32 ((x.getD k 0 : Nat) : Int)) := by
  rw [row16, List.getElem?_toArray, u32s_get x k h, List.getD_eq_getElem?_getD, List.getElem?_eq_getElem h]; rfl
theorem row16_set (x : List Nat) (k n : Nat) : (row16 x).setIfInBounds k (.int .u32 (n : Int)) = row16 (x.set k n) := by
  rw [row16, row16, List.setIfInBounds_toArray]; simp [u32s, List.map_set]
theorem q4_size (q : Q4) : q.cells.size = 4 := rfl
theorem q4_one (q : Q4) : q.cells.all (·.oneCell') = true := by simp [Q4.cells, Value.oneCell']

/-- The steps of a stir. -/
structure Steps (q : Q4) (A1 X1 D1 C1 X2 B1 A2 X3 D2 C2 X4 B2 : Nat) : Prop where
  a1 : ((q.a : Int) + (q.b : Int)) % 4294967296 = (A1 : Int)
  x1 : bits .xor .u32 (q.d : Int) (A1 : Int) = (X1 : Int)
  l1 : X1 < 4294967296
  d1 : D1 = rotl X1 16
  c1 : ((q.c : Int) + (D1 : Int)) % 4294967296 = (C1 : Int)
  x2 : bits .xor .u32 (q.b : Int) (C1 : Int) = (X2 : Int)
  l2 : X2 < 4294967296
  b1 : B1 = rotl X2 12
  a2 : ((A1 : Int) + (B1 : Int)) % 4294967296 = (A2 : Int)
  x3 : bits .xor .u32 (D1 : Int) (A2 : Int) = (X3 : Int)
  l3 : X3 < 4294967296
  d2 : D2 = rotl X3 8
  c2 : ((C1 : Int) + (D2 : Int)) % 4294967296 = (C2 : Int)
  x4 : bits .xor .u32 (B1 : Int) (C2 : Int) = (X4 : Int)
  l4 : X4 < 4294967296
  b2 : B2 = rotl X4 7
  res : stirQ q = ⟨A2, B2, C2, D2⟩
theorem steps {q : Q4} (h : q.ok) : ∃ A1 X1 D1 C1 X2 B1 A2 X3 D2 C2 X4 B2 : Nat, Steps q A1 X1 D1 C1 X2 B1 A2 X3 D2 C2 X4 B2 := by
  obtain ⟨ha, hb, hc, hd⟩ := h
  have l1 := xor2_lt hd (mod32_lt (q.a + q.b))
  have m1 := rotl_lt l1 16
  have l2 := xor2_lt hb (mod32_lt (q.c + rotl (q.d ^^^ ((q.a + q.b) % 4294967296)) 16))
  have m2 := rotl_lt l2 12
  refine ⟨_, _, _, _, _, _, _, _, _, _, _, _, ⟨sum2 q.a q.b, xor32 _ _ hd (mod32_lt _), l1, rfl, sum2 q.c _, xor32 _ _ hb (mod32_lt _), l2, rfl, sum2 _ _, xor32 _ _ m1 (mod32_lt _), xor2_lt m1 (mod32_lt _), rfl, sum2 _ _, xor32 _ _ m2 (mod32_lt _), xor2_lt m2 (mod32_lt _), rfl, rfl⟩⟩
theorem left_c (n : Int) (k : Nat) (hn : (n % 32).toNat = k) (x y : Nat) (hx : x < 4294967296) (hy : y = rotl x k) (w : World) :
    Calls Tryd.prog 20 #[.int .u32 x, .int .i64 n] w fun e w' => e = .returned (.int .u32 (y : Nat)) ∧ w = w' := by
  subst hn hy
  exact left_any x hx n w

set_option maxHeartbeats 1000000 in
set_option maxRecDepth 100000 in
theorem stir_any (q : Q4) (h : q.ok) (w : World) :
    Calls Tryd.prog 11 #[.agg q.cells] w fun e w' => e = .returned (.agg (stirQ q).cells) ∧ Below w.heap.size w w' := by
  obtain ⟨A1, X1, D1, C1, X2, B1, A2, X3, D2, C2, X4, B2, hs⟩ := steps h
  have H1 := Lib.hid (left_c 16 16 rfl X1 D1 hs.l1 hs.d1)
  have H2 := Lib.hid (left_c 12 12 rfl X2 B1 hs.l2 hs.b1)
  have H3 := Lib.hid (left_c 8 8 rfl X3 D2 hs.l3 hs.d2)
  have H4 := Lib.hid (left_c 7 7 rfl X4 B2 hs.l4 hs.b2)
  obtain ⟨e1, e2, z1, z2, e5, e6, z3, z4, e9, e10, z5, z6, e13, e14, z7, z8, e17⟩ := hs
  clear z1 z2 z3 z4 z5 z6 z7 z8
  have HR := Lib.hid e17
  clear e17
  obtain ⟨A, B, C, D⟩ := q
  simp only at e1 e2 e5 e6 ⊢
  clear h
  have hA0 := (Arr.new w (Q4.cells ⟨A, B, C, D⟩) 23).alloc (.cells zero4 23)
  have hZ0 := Arr.newAt (w.alloc (.cells (Q4.cells ⟨A, B, C, D⟩) 23)) (g := w.heap.size + 1) zero4 23 (by simp)
  have HB0 := Lib.hid ((((Below.refl w.heap.size w).alloc (Nat.le_refl _) (.cells (Q4.cells ⟨A, B, C, D⟩) 23)).alloc (by simp) (.cells zero4 23)))
  obtain ⟨W, hW⟩ : ∃ W, W = (w.alloc (.cells (Q4.cells ⟨A, B, C, D⟩) 23)).alloc (.cells zero4 23) := ⟨_, rfl⟩
  rw [← hW] at hA0 hZ0 HB0
  have HA := Lib.hid hA0
  have HZ := Lib.hid hZ0
  clear hA0 hZ0
  unfold Q4.cells at hW ⊢
  unfold zero4 at hW
  go_enter Tryd.func11, Tryd.ntmps11
  go_wp2
  rw [← hW]
  clear hW
  have c0 : W.cell? ⟨w.heap.size, 0, none⟩ = some (.int .u32 (A : Int)) := HA.out.cell (j := 0) rfl
  have c1 : W.cell? ⟨w.heap.size, 1, none⟩ = some (.int .u32 (B : Int)) := HA.out.cell (j := 1) rfl
  have c2 : W.cell? ⟨w.heap.size, 2, none⟩ = some (.int .u32 (C : Int)) := HA.out.cell (j := 2) rfl
  have c3 : W.cell? ⟨w.heap.size, 3, none⟩ = some (.int .u32 (D : Int)) := HA.out.cell (j := 3) rfl
  go_quiet (fail)
  have HZ2 := Lib.hid (HZ.out.drewN nq)
  have HB2 := Lib.hid (Below_drewN HB0.out nq)
  clear c0 c1 c2 c3 HA HZ HB0
  generalize W.drewN nq = w2 at *
  go_wp2_with (first
    | (go_at_call 20; (first
      | ((with_reducible refine (H1.out _).mono ?_); rintro e w' ⟨rfl, rfl⟩)
      | ((with_reducible refine (H2.out _).mono ?_); rintro e w' ⟨rfl, rfl⟩)
      | ((with_reducible refine (H3.out _).mono ?_); rintro e w' ⟨rfl, rfl⟩)
      | ((with_reducible refine (H4.out _).mono ?_); rintro e w' ⟨rfl, rfl⟩)))
    | (with_reducible refine wpList_store_q4 rfl _ _ rfl (w.heap.size + 1) rfl _ rfl rfl (q4_one ⟨A2, B2, C2, D2⟩) _ rfl HZ2.out ?_))
  exact ret_q4 Tryd.results11 (w.heap.size + 1) _ rfl rfl (HZ2.out.row _) rfl ⟨by rw [HR.out]; rfl, below_setRow HB2.out (by omega) _⟩

theorem sized_any (key nonce : ByteArray) (w : World) :
    Calls Tryd.prog 22 #[.string key, .string nonce] w fun e w' => e = .returned (.bool (decide (key.size = 32) && decide (nonce.size = 12))) ∧ w = w' := by
  by_cases h1 : key.size = 32
  · have e1 : ((key.size : Int) == 32) = true := by rw [h1]; rfl
    by_cases h2 : nonce.size = 12
    · have e2 : ((nonce.size : Int) == 12) = true := by rw [h2]; rfl
      have HE := Lib.hid (show (decide (key.size = 32) && decide (nonce.size = 12)) = true by simp [h1, h2])
      clear h1 h2
      go_enter Tryd.func22, Tryd.ntmps22
      go_wp2
      go_ret
      exact ⟨by rw [HE.out]; rfl, rfl⟩
    · have e2 : ((nonce.size : Int) == 12) = false := by simp; omega
      have HE := Lib.hid (show (decide (key.size = 32) && decide (nonce.size = 12)) = false by simp [h2])
      clear h1 h2
      go_enter Tryd.func22, Tryd.ntmps22
      go_wp2
      go_ret
      exact ⟨by rw [HE.out]; rfl, rfl⟩
  · have e1 : ((key.size : Int) == 32) = false := by simp; omega
    have HE := Lib.hid (show (decide (key.size = 32) && decide (nonce.size = 12)) = false by simp [h1])
    clear h1
    go_enter Tryd.func22, Tryd.ntmps22
    go_wp2
    go_ret
    exact ⟨by rw [HE.out]; rfl, rfl⟩
end Go.Proofs.YtebhmcnocpblkaaDoor
