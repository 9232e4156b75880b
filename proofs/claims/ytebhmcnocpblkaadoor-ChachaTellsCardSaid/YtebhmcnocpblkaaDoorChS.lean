/- chacha: the places; the contract of stirred. -/
import Derived.Test.YtebhmcnocpblkaaDoorChA
import Derived.Deep.MidRow
import Derived.StillTailTactics
import Derived.Deep.RegionWith
import Derived.BigRegion
import Derived.Deep.DeepCutAuto
import Derived.Deep.RegionHeld3
namespace Go.Proofs.YtebhmcnocpblkaaDoor
open Go.RowKit

/-- The places, where the package lays them. -/
def plV : List Value := plL.map fun (n : Nat) => .int .i64 (n : Int)
theorem plV_len : plV.length = 32 := rfl
def Pl (w : World) : Prop := ∀ k, k < 32 → w.cell? ⟨0, k, none⟩ = some (.int .i64 (plN k : Nat))
theorem Pl.lt {w : World} (h : Pl w) : 0 < w.heap.size := block_lt_of_cell (h 0 (by decide))
theorem Pl.alloc {w : World} (h : Pl w) (o : Obj) : Pl (w.alloc o) := fun k hk => by
  rw [← h k hk]; exact World.cell?_of_block (Below.heap_alloc w o _ h.lt)
theorem Pl.set {w : World} (h : Pl w) (a : Addr) (v : Value) (hn : 0 ≠ a.block) : Pl (w.setCell a v) := fun k hk => by
  rw [← h k hk]; exact World.cell?_of_block (heap_setCell_other w a _ v hn)
theorem Pl.below {w w' : World} {B : Nat} (h : Pl w) (hb : Below B w w') (hB : 0 < B) : Pl w' := fun k hk => by
  rw [← h k hk]; exact World.cell?_of_block (hb.block _ hB)
theorem Pl.next {w w' : World} (h : Pl w) (hb : Below w.heap.size w w') : Pl w' := h.below hb h.lt
theorem Pl.drew {w : World} (h : Pl w) : Pl w.drew := h
theorem Pl.drewN {w : World} (h : Pl w) (n : Nat) : Pl (w.drewN n) := h
theorem Pl.row {w : World} (h : Pl w) (g : Nat) (cs : Array Value) (hn : 0 ≠ g) : Pl (w.setRow g cs) := fun k hk => by
  rw [← h k hk]; exact World.cell?_of_block (setRow_other w g _ cs hn)
theorem Pl.range {w : World} (h : Pl w) : w.rangeAt 0 0 plV := fun j v hv => by
  have hj : j < 32 := by have := (List.getElem?_eq_some_iff.1 hv).1; simpa [plV_len] using this
  rw [Nat.zero_add, h j hj, ← hv, plV, List.getElem?_map, plN, List.getD_eq_getElem?_getD]
  rw [List.getElem?_eq_getElem (by rw [plL_len]; exact hj)]; rfl
theorem info_pl : (Tryd.prog.info? 70).map (·.size) = some plV.length := by kernel_rfl
theorem under_pl : Tryd.prog.underlying 70 = some (.array 8 69) := by kernel_rfl
theorem wpList_load_pl {ops : Array Oper} {rest : List Oper} {op : Oper} {a : Act} {w : World} {Q : Exit → Act → World → Prop} (hgd : op.guard = none) (ho : op.op = .load 70 (.global 0))
    (hp : Pl w) (PV : Array Value) (hPV : PV = plV.toArray)
    (h : wpList Tryd.prog ops Q rest (a.put op.dst (.agg PV)) w) : wpList Tryd.prog ops Q (op :: rest) a w := by
  subst hPV
  exact wpList_load_mid hgd 70 _ ho 0 0 rfl plV _ hp.range under_pl rfl info_pl h
/-- Four of the places. -/
def plRow (k : Nat) : Array Value := #[.int .i64 (plN (4 * k) : Nat), .int .i64 (plN (4 * k + 1) : Nat), .int .i64 (plN (4 * k + 2) : Nat), .int .i64 (plN (4 * k + 3) : Nat)]
theorem plRow_ext (k : Nat) (h : k < 8) : plV.toArray.extract (4 * k) (4 * k + 4) = plRow k := by
  rcases (show k = 0 ∨ k = 1 ∨ k = 2 ∨ k = 3 ∨ k = 4 ∨ k = 5 ∨ k = 6 ∨ k = 7 by omega) with h | h | h | h | h | h | h | h <;> subst h <;> rfl
theorem plN_ne (m : Nat) (h : m < 8) : plN (4 * m) ≠ plN (4 * m + 1) ∧ plN (4 * m) ≠ plN (4 * m + 2) ∧ plN (4 * m) ≠ plN (4 * m + 3) ∧ plN (4 * m + 1) ≠ plN (4 * m + 2) ∧ plN (4 * m + 1) ≠ plN (4 * m + 3) ∧ plN (4 * m + 2) ≠ plN (4 * m + 3) := by
  rcases (show m = 0 ∨ m = 1 ∨ m = 2 ∨ m = 3 ∨ m = 4 ∨ m = 5 ∨ m = 6 ∨ m = 7 by omega) with h | h | h | h | h | h | h | h <;> subst h <;> decide
theorem index_pl (k : Nat) (h : k < 8) (w : World) : (Instr.index 70 (.agg plV.toArray) (.int .i64 (k : Int))).run Tryd.prog w = .ok (.agg (plRow k)) w := by
  have hag : (isAgg 69).run Tryd.prog w = .ok true w := by
    unfold isAgg; rw [Sem.run_bind, run_underlying Tryd.underlying69 w]; rfl
  have hsz : (sizeOf 69).run Tryd.prog w = .ok 4 w := Tryd.sizeOf69 w
  have hc : (0 : Int) ≤ (k : Int) ∧ (k : Int) < ((8 : Nat) : Int) := by omega
  have he := plRow_ext k h
  simp only [Instr.index, asIntOf, Sem.run_bind, Sem.run_pure, Result.andThen_ok, run_underlying under_pl, if_pos hc, hsz, part, hag, if_true, Int.toNat_natCast, Nat.mul_comm k 4, he]

/-- What the memory is within stirred: the numbers that came in, the answer's place, the numbers that are stirred. -/
def RelC (s s1 s2 : Nat) (x y : List Nat) (w wr : World) : Prop :=
  Arr wr s (row16 x) 48 ∧ Arr wr s1 (row16 (List.replicate 16 0)) 48 ∧ Arr wr s2 (row16 y) 48 ∧ Pl wr ∧ Below s w wr ∧ s < s1 ∧ s1 < s2 ∧ 0 < s
theorem RelC.drew {s s1 s2 : Nat} {x y : List Nat} {w wr : World} (h : RelC s s1 s2 x y w wr) : RelC s s1 s2 x y w wr.drew := ⟨h.1.drew, h.2.1.drew, h.2.2.1.drew, h.2.2.2.1.drew, h.2.2.2.2.1.drew, h.2.2.2.2.2⟩
theorem RelC.drewN {s s1 s2 : Nat} {x y : List Nat} {w wr : World} (h : RelC s s1 s2 x y w wr) (n : Nat) : RelC s s1 s2 x y w (wr.drewN n) := ⟨h.1.drewN _, h.2.1.drewN _, h.2.2.1.drewN _, h.2.2.2.1.drewN _, Below_drewN h.2.2.2.2.1 _, h.2.2.2.2.2⟩
theorem RelC.alloc {s s1 s2 : Nat} {x y : List Nat} {w wr : World} (h : RelC s s1 s2 x y w wr) (o : Obj) : RelC s s1 s2 x y w (wr.alloc o) := ⟨h.1.alloc _, h.2.1.alloc _, h.2.2.1.alloc _, h.2.2.2.1.alloc _, h.2.2.2.2.1.alloc (Nat.le_of_lt h.1.lt) _, h.2.2.2.2.2⟩
theorem RelC.next {s s1 s2 : Nat} {x y : List Nat} {w wr w' : World} (h : RelC s s1 s2 x y w wr) (hb : Below wr.heap.size wr w') : RelC s s1 s2 x y w w' := ⟨h.1.next hb, h.2.1.next hb, h.2.2.1.next hb, h.2.2.2.1.next hb, h.2.2.2.2.1.trans (hb.mono (Nat.le_of_lt h.1.lt)), h.2.2.2.2.2⟩
theorem RelC.set {s s1 s2 : Nat} {x y : List Nat} {w wr : World} (h : RelC s s1 s2 x y w wr) (i v : Nat) : RelC s s1 s2 x (y.set i v) w (wr.setCell ⟨s2, i, none⟩ (.int .u32 (v : Int))) := by
  obtain ⟨h1, h2, h3, h4, h5, h6, h7, h8⟩ := h
  exact ⟨h1.other _ _ (by simp only; omega), h2.other _ _ (by simp only; omega), by have := h3.set i (.int .u32 (v : Int)); rwa [row16_set] at this, h4.set _ _ (by simp only; omega), h5.setCell (by simp only; omega) _, h6, h7, h8⟩

/-- Four cells of a block are set. -/
theorem set4 {w : World} {g : Nat} (h : Arr w g zero4 23) (q : Q4) : Arr (World.setCell (World.setCell (World.setCell (World.setCell w ⟨g, 0, none⟩ (.int .u32 (q.a : Int))) ⟨g, 1, none⟩ (.int .u32 (q.b : Int))) ⟨g, 2, none⟩ (.int .u32 (q.c : Int))) ⟨g, 3, none⟩ (.int .u32 (q.d : Int))) g q.cells 23 :=
  (((h.set 0 _).set 1 _).set 2 _).set 3 _
theorem set4_other {w : World} {g m : Nat} {cs : Array Value} {t : TypeId} (h : Arr w m cs t) (hn : m ≠ g) (q : Q4) : Arr (World.setCell (World.setCell (World.setCell (World.setCell w ⟨g, 0, none⟩ (.int .u32 (q.a : Int))) ⟨g, 1, none⟩ (.int .u32 (q.b : Int))) ⟨g, 2, none⟩ (.int .u32 (q.c : Int))) ⟨g, 3, none⟩ (.int .u32 (q.d : Int))) m cs t :=
  (((h.other _ _ hn).other _ _ hn).other _ _ hn).other _ _ hn
theorem set4_pl {w : World} {g : Nat} (h : Pl w) (hn : 0 ≠ g) (q : Q4) : Pl (World.setCell (World.setCell (World.setCell (World.setCell w ⟨g, 0, none⟩ (.int .u32 (q.a : Int))) ⟨g, 1, none⟩ (.int .u32 (q.b : Int))) ⟨g, 2, none⟩ (.int .u32 (q.c : Int))) ⟨g, 3, none⟩ (.int .u32 (q.d : Int))) :=
  (((h.set _ _ hn).set _ _ hn).set _ _ hn).set _ _ hn
theorem set4_below {a w : World} {B g : Nat} (h : Below B a w) (hg : B ≤ g) (q : Q4) : Below B a (World.setCell (World.setCell (World.setCell (World.setCell w ⟨g, 0, none⟩ (.int .u32 (q.a : Int))) ⟨g, 1, none⟩ (.int .u32 (q.b : Int))) ⟨g, 2, none⟩ (.int .u32 (q.c : Int))) ⟨g, 3, none⟩ (.int .u32 (q.d : Int))) :=
  (((h.setCell hg _).setCell hg _).setCell hg _).setCell hg _
theorem zeros4_next {w w3 : World} (hb : Below (World.drew (w.alloc (.cells #[.int .u32 0, .int .u32 0, .int .u32 0, .int .u32 0] 23))).heap.size (World.drew (w.alloc (.cells #[.int .u32 0, .int .u32 0, .int .u32 0, .int .u32 0] 23))) w3) : Arr w3 w.heap.size zero4 23 :=
  ((Arr.new w zero4 23).drew).next hb
/-- The memory between a round's halves: four stirred numbers lie in a block of their own. -/
def StirCut (s s1 s2 : Nat) (x Y : List Nat) (w : World) (g5 : Nat) (PR : Array Value) (q : Q4) (s6 : Value) (wx : World) : Prop :=
  ∃ g, s6 = .pointer (some ⟨g, 0, none⟩) ∧ g ≠ s2 ∧ Arr wx g q.cells 23 ∧ Arr wx g5 PR 69 ∧ RelC s s1 s2 x Y w wx
theorem stir_a {s s1 s2 : Nat} {x Y : List Nat} {w wa w3 : World} {g5 : Nat} {PR : Array Value} (h : RelC s s1 s2 x Y w wa) (h5 : Arr wa g5 PR 69) (hb : Below wa.drew.heap.size wa.drew w3) (A B C D : Nat) :
    StirCut s s1 s2 x Y w g5 PR ⟨A, B, C, D⟩ (.pointer (some ⟨w3.heap.size, 0, none⟩)) (w3.alloc (.cells #[.int .u32 (A : Int), .int .u32 (B : Int), .int .u32 (C : Int), .int .u32 (D : Int)] 23)) :=
  ⟨w3.heap.size, rfl, (by have := (h.drew.next hb).2.2.1.lt; omega), Arr.new w3 (Q4.cells ⟨A, B, C, D⟩) _, (h5.drew.next hb).alloc _, (h.drew.next hb).alloc _⟩
theorem stir_b {s s1 s2 : Nat} {x Y : List Nat} {w wa w3 : World} {g5 : Nat} {PR : Array Value} (h : RelC s s1 s2 x Y w wa) (h5 : Arr wa g5 PR 69) (hb : Below (World.drew (wa.alloc (.cells #[.int .u32 0, .int .u32 0, .int .u32 0, .int .u32 0] 23))).heap.size (World.drew (wa.alloc (.cells #[.int .u32 0, .int .u32 0, .int .u32 0, .int .u32 0] 23))) w3) (A B C D : Nat) :
    StirCut s s1 s2 x Y w g5 PR ⟨A, B, C, D⟩ (.pointer (some ⟨wa.heap.size, 0, none⟩)) (World.setCell (World.setCell (World.setCell (World.setCell w3 ⟨wa.heap.size, 0, none⟩ (.int .u32 (A : Int))) ⟨wa.heap.size, 1, none⟩ (.int .u32 (B : Int))) ⟨wa.heap.size, 2, none⟩ (.int .u32 (C : Int))) ⟨wa.heap.size, 3, none⟩ (.int .u32 (D : Int))) := by
  have h3 : RelC s s1 s2 x Y w w3 := ((h.alloc _).drew).next hb
  have l5 := h5.lt
  obtain ⟨a1, a2, a3, a4, a5, a6, a7, a8⟩ := h
  obtain ⟨b1, b2, b3, b4, b5, _⟩ := h3
  have l1 := a1.lt
  have l2 := a2.lt
  have l3 := a3.lt
  have l4 := a4.lt
  exact ⟨wa.heap.size, rfl, by omega, set4 (zeros4_next hb) ⟨A, B, C, D⟩, set4_other (((h5.alloc _).drew).next hb) (by omega) ⟨A, B, C, D⟩,
    set4_other b1 (by omega) ⟨A, B, C, D⟩, set4_other b2 (by omega) ⟨A, B, C, D⟩, set4_other b3 (by omega) ⟨A, B, C, D⟩, set4_pl b4 (by omega) ⟨A, B, C, D⟩, set4_below b5 (Nat.le_of_lt l1) ⟨A, B, C, D⟩, a6, a7, a8⟩
/-- Two blocks: a row of places, the numbers. -/
def Two (g5 s2 : Nat) (PR : Array Value) (Y : List Nat) (w : World) : Prop := Arr w g5 PR 69 ∧ Arr w s2 (row16 Y) 48
theorem Two.drew {g5 s2 : Nat} {PR : Array Value} {Y : List Nat} {w : World} (h : Two g5 s2 PR Y w) : Two g5 s2 PR Y w.drew := ⟨h.1.drew, h.2.drew⟩
theorem Two.alloc {g5 s2 : Nat} {PR : Array Value} {Y : List Nat} {w : World} (h : Two g5 s2 PR Y w) (o : Obj) : Two g5 s2 PR Y (w.alloc o) := ⟨h.1.alloc _, h.2.alloc _⟩
theorem Two.next {g5 s2 : Nat} {PR : Array Value} {Y : List Nat} {w w' : World} (h : Two g5 s2 PR Y w) (hb : Below w.heap.size w w') : Two g5 s2 PR Y w' := ⟨h.1.next hb, h.2.next hb⟩
theorem Two.set4 {g5 s2 g : Nat} {PR : Array Value} {Y : List Nat} {w : World} (h : Two g5 s2 PR Y w) (h1 : g5 ≠ g) (h2 : s2 ≠ g) (q : Q4) : Two g5 s2 PR Y (World.setCell (World.setCell (World.setCell (World.setCell w ⟨g, 0, none⟩ (.int .u32 (q.a : Int))) ⟨g, 1, none⟩ (.int .u32 (q.b : Int))) ⟨g, 2, none⟩ (.int .u32 (q.c : Int))) ⟨g, 3, none⟩ (.int .u32 (q.d : Int))) :=
  ⟨set4_other h.1 h1 q, set4_other h.2 h2 q⟩
theorem Two.held {g5 s2 p0 p1 p2 p3 : Nat} {A B C D : Nat} {Y : List Nat} {w : World} (h : Two g5 s2 #[.int .i64 (p0 : Int), .int .i64 (p1 : Int), .int .i64 (p2 : Int), .int .i64 (p3 : Int)] Y w)
    (hy : (row16 Y)[p0]? = some (.int .u32 (A : Int)) ∧ (row16 Y)[p1]? = some (.int .u32 (B : Int)) ∧ (row16 Y)[p2]? = some (.int .u32 (C : Int)) ∧ (row16 Y)[p3]? = some (.int .u32 (D : Int))) :
    w.cell? ⟨g5, 0, none⟩ = some (.int .i64 (p0 : Int)) ∧ w.cell? ⟨g5, 1, none⟩ = some (.int .i64 (p1 : Int)) ∧ w.cell? ⟨g5, 2, none⟩ = some (.int .i64 (p2 : Int)) ∧ w.cell? ⟨g5, 3, none⟩ = some (.int .i64 (p3 : Int)) ∧
    w.cell? ⟨s2, p0, none⟩ = some (.int .u32 (A : Int)) ∧ w.cell? ⟨s2, p1, none⟩ = some (.int .u32 (B : Int)) ∧ w.cell? ⟨s2, p2, none⟩ = some (.int .u32 (C : Int)) ∧ w.cell? ⟨s2, p3, none⟩ = some (.int .u32 (D : Int)) :=
  ⟨h.1.cell (j := 0) rfl, h.1.cell (j := 1) rfl, h.1.cell (j := 2) rfl, h.1.cell (j := 3) rfl, h.2.cell hy.1, h.2.cell hy.2.1, h.2.cell hy.2.2.1, h.2.cell hy.2.2.2⟩
/-- Two blocks: a row of places, four numbers. -/
def Four (g5 g6 : Nat) (PR QR : Array Value) (w : World) : Prop := Arr w g5 PR 69 ∧ Arr w g6 QR 23
theorem Four.drew {g5 g6 : Nat} {PR QR : Array Value} {w : World} (h : Four g5 g6 PR QR w) : Four g5 g6 PR QR w.drew := ⟨h.1.drew, h.2.drew⟩
theorem Four.set {g5 g6 g : Nat} {PR QR : Array Value} {w : World} (h : Four g5 g6 PR QR w) (h1 : g5 ≠ g) (h2 : g6 ≠ g) (i : Nat) (v : Value) : Four g5 g6 PR QR (w.setCell ⟨g, i, none⟩ v) := ⟨h.1.other _ _ h1, h.2.other _ _ h2⟩
theorem Four.held {g5 g6 p0 p1 p2 p3 A B C D : Nat} {w : World} (h : Four g5 g6 #[.int .i64 (p0 : Int), .int .i64 (p1 : Int), .int .i64 (p2 : Int), .int .i64 (p3 : Int)] #[.int .u32 (A : Int), .int .u32 (B : Int), .int .u32 (C : Int), .int .u32 (D : Int)] w) :
    w.cell? ⟨g5, 0, none⟩ = some (.int .i64 (p0 : Int)) ∧ w.cell? ⟨g5, 1, none⟩ = some (.int .i64 (p1 : Int)) ∧ w.cell? ⟨g5, 2, none⟩ = some (.int .i64 (p2 : Int)) ∧ w.cell? ⟨g5, 3, none⟩ = some (.int .i64 (p3 : Int)) ∧
    w.cell? ⟨g6, 0, none⟩ = some (.int .u32 (A : Int)) ∧ w.cell? ⟨g6, 1, none⟩ = some (.int .u32 (B : Int)) ∧ w.cell? ⟨g6, 2, none⟩ = some (.int .u32 (C : Int)) ∧ w.cell? ⟨g6, 3, none⟩ = some (.int .u32 (D : Int)) :=
  ⟨h.1.cell (j := 0) rfl, h.1.cell (j := 1) rfl, h.1.cell (j := 2) rfl, h.1.cell (j := 3) rfl, h.2.cell (j := 0) rfl, h.2.cell (j := 1) rfl, h.2.cell (j := 2) rfl, h.2.cell (j := 3) rfl⟩

set_option maxHeartbeats 1000000 in
set_option maxRecDepth 100000 in
theorem stirred_any (x : List Nat) (hx : All32 x) (w : World) (hp : Pl w) :
    Calls Tryd.prog 24 #[.agg (row16 x)] w fun e w' => e = .returned (.agg (row16 (endL x))) ∧ Below w.heap.size w w' := by
  have HX := Lib.hid hx
  have HZ := Lib.hid (row16_size hx.1)
  have HO := Lib.hid (row16_one x)
  have HS0 := Lib.hid hp.lt
  obtain ⟨R, hR⟩ : ∃ R, R = row16 x := ⟨_, rfl⟩
  have HRd := Lib.hid hR
  have hZ0 : (#[.int .u32 0, .int .u32 0, .int .u32 0, .int .u32 0, .int .u32 0, .int .u32 0, .int .u32 0, .int .u32 0, .int .u32 0, .int .u32 0, .int .u32 0, .int .u32 0, .int .u32 0, .int .u32 0, .int .u32 0, .int .u32 0] : Array Value) = row16 (List.replicate 16 0) := rfl
  have hrel0 : ∀ zz, zz = row16 (List.replicate 16 0) → RelC w.heap.size (w.heap.size + 1) (w.heap.size + 1 + 1) x x w (((w.alloc (.cells (row16 x) 48)).alloc (.cells zz 48)).alloc (.cells (row16 x) 48)) := by
    rintro zz rfl
    refine ⟨((Arr.new w _ _).alloc _).alloc _, (Arr.newAt (w.alloc _) _ _ (by simp)).alloc _, Arr.newAt ((w.alloc _).alloc _) _ _ (by simp), ((hp.alloc _).alloc _).alloc _, (((Below.refl _ _).alloc (Nat.le_refl _) _).alloc (by simp) _).alloc (by simp; omega) _, by omega, by omega, hp.lt⟩
  have HRel0 := Lib.hid (hrel0 _ hZ0)
  obtain ⟨PV, hPV⟩ : ∃ PV, PV = plV.toArray := ⟨_, rfl⟩
  have HPV := Lib.hid hPV
  have HIX := Lib.hid index_pl
  rw [← hPV] at HIX
  clear hPV
  rw [← hR] at HZ HO HRel0 ⊢
  obtain ⟨Z, hZ⟩ : ∃ Z, Z = row16 (endL x) := ⟨_, rfl⟩
  rw [← hZ]
  have HE : Hid (∀ k, k = 10 → row16 (sumL (rdN x k) x) = Z) := fun k hk => by rw [hZ, hk]; rfl
  clear hZ
  have HA0 := Lib.hid ((Arr.new w R 48).alloc (.cells #[.int .u32 0, .int .u32 0, .int .u32 0, .int .u32 0, .int .u32 0, .int .u32 0, .int .u32 0, .int .u32 0, .int .u32 0, .int .u32 0, .int .u32 0, .int .u32 0, .int .u32 0, .int .u32 0, .int .u32 0, .int .u32 0] 48))
  clear hx hp hR hrel0 hZ0
  go_enter Tryd.func24, Tryd.ntmps24
  go_wp2_with (first
    | (with_reducible refine wpList_load_n16 rfl _ rfl w.heap.size rfl _ HZ.out HA0.out ?_)
    | (with_reducible refine wpList_store_n16_new rfl _ _ rfl _ (by simp) _ rfl (by simp) _ rfl HZ.out HO.out ?_))
  clear HA0
  generalize w.heap.size + 1 + 1 = s2 at *
  generalize w.heap.size + 1 = s1 at *
  go_loopw [9] (fun i wr => ∃ k : Nat, k ≤ 10 ∧ i = .int .i64 (k : Int) ∧ RelC w.heap.size s1 s2 x (rdN x k) w wr) (fun i _ => 10 - (intOf i).toNat)
  case atStart => exact ⟨0, by omega, rfl, HRel0.out⟩
  case round =>
    clear HRel0
    obtain ⟨k, hk, rfl, hrel⟩ := hrel
    by_cases hlt : k < 10
    · have HY := Lib.hid (rdN_32 HX.out k)
      have HRel := Lib.hid hrel
      have HP := Lib.hid hrel.2.2.2.1
      clear hrel
      go_wp2_with (with_reducible refine wpList_load_pl rfl rfl HP.out _ HPV.out ?_)
      clear HP
      go_loopw [12] (fun j wr => ∃ m : Nat, m ≤ 8 ∧ j = .int .i64 (m : Int) ∧ RelC w.heap.size s1 s2 x (st8 (rdN x k) m) w wr) (fun j _ => 8 - (intOf j).toNat)
      case atStart => exact ⟨0, by omega, rfl, HRel.out⟩
      case round =>
        clear HRel
        obtain ⟨m, hm, rfl, hrel⟩ := hrel
        by_cases hmt : m < 8
        · have hY := st8_32 HY.out m
          have hst : st8 (rdN x k) (m + 1) = stirAt (st8 (rdN x k) m) (plN (4 * m)) (plN (4 * m + 1)) (plN (4 * m + 2)) (plN (4 * m + 3)) := rfl
          have hix := HIX.out m hmt
          obtain ⟨d01, d02, d03, d12, d13, d23⟩ := plN_ne m hmt
          have b0 := plN_lt (4 * m)
          have b1 := plN_lt (4 * m + 1)
          have b2 := plN_lt (4 * m + 2)
          have b3 := plN_lt (4 * m + 3)
          unfold plRow at hix
          rw [stirAt, putQ] at hst
          generalize st8 (rdN x k) m = Y at *
          generalize plN (4 * m) = p0 at *
          generalize plN (4 * m + 1) = p1 at *
          generalize plN (4 * m + 2) = p2 at *
          generalize plN (4 * m + 3) = p3 at *
          have HS := Lib.hid (stir_any (getQ Y p0 p1 p2 p3) (getQ_ok hY p0 p1 p2 p3))
          have hy0 := row16_get (x := Y) (k := p0) (by rw [hY.1]; exact b0)
          have hy1 := row16_get (x := Y) (k := p1) (by rw [hY.1]; exact b1)
          have hy2 := row16_get (x := Y) (k := p2) (by rw [hY.1]; exact b2)
          have hy3 := row16_get (x := Y) (k := p3) (by rw [hY.1]; exact b3)
          obtain ⟨q, hq⟩ : ∃ q, q = stirQ (getQ Y p0 p1 p2 p3) := ⟨_, rfl⟩
          rw [← hq] at hst HS
          clear hq
          obtain ⟨A2, B2, C2, D2⟩ := q
          simp only at hst
          have HST := Lib.hid hst
          unfold getQ at HS
          have Hy := Lib.hid (And.intro hy0 (And.intro hy1 (And.intro hy2 hy3)))
          clear hst hy0 hy1 hy2 hy3 hY
          generalize Y.getD p0 0 = A at *
          generalize Y.getD p1 0 = B at *
          generalize Y.getD p2 0 = C at *
          generalize Y.getD p3 0 = D at *
          have HRel := Lib.hid hrel
          clear hrel
          unfold Q4.cells at HS
          simp only at HS
          go_wp2_with (first
            | (with_reducible refine wpList_store_i4_new rfl _ _ rfl _ (by simp) _ rfl rfl _ rfl (by simp) (by simp [Value.oneCell']) ?_))
          have hP5 := Arr.new wr #[.int .i64 (p0 : Int), .int .i64 (p1 : Int), .int .i64 (p2 : Int), .int .i64 (p3 : Int)] 69
          have hrel := HRel.out.alloc (.cells #[.int .i64 (p0 : Int), .int .i64 (p1 : Int), .int .i64 (p2 : Int), .int .i64 (p3 : Int)] 69)
          obtain ⟨g5, hg5⟩ : ∃ g5, g5 = wr.heap.size := ⟨_, rfl⟩
          rw [← hg5] at hP5 ⊢
          have hg5n : g5 ≠ s2 := by have := HRel.out.2.2.1.lt; omega
          obtain ⟨wa, hwa⟩ : ∃ wa, wa = wr.alloc (.cells #[.int .i64 (p0 : Int), .int .i64 (p1 : Int), .int .i64 (p2 : Int), .int .i64 (p3 : Int)] 69) := ⟨_, rfl⟩
          rw [← hwa] at hP5 hrel ⊢
          clear hg5 hwa HRel
          have c0 : wa.cell? ⟨g5, 0, none⟩ = some (.int .i64 (p0 : Int)) := hP5.cell (j := 0) rfl
          have c1 : wa.cell? ⟨g5, 1, none⟩ = some (.int .i64 (p1 : Int)) := hP5.cell (j := 1) rfl
          have c2 : wa.cell? ⟨g5, 2, none⟩ = some (.int .i64 (p2 : Int)) := hP5.cell (j := 2) rfl
          have c3 : wa.cell? ⟨g5, 3, none⟩ = some (.int .i64 (p3 : Int)) := hP5.cell (j := 3) rfl
          have y0 := hrel.2.2.1.cell Hy.out.1
          have y1 := hrel.2.2.1.cell Hy.out.2.1
          have y2 := hrel.2.2.1.cell Hy.out.2.2.1
          have y3 := hrel.2.2.1.cell Hy.out.2.2.2
          have hl2 := hrel.2.2.1.lt
          have hl5 := hP5.lt
          have HT2 : Hid (Two g5 s2 #[.int .i64 (p0 : Int), .int .i64 (p1 : Int), .int .i64 (p2 : Int), .int .i64 (p3 : Int)] Y wa) := ⟨hP5, hrel.2.2.1⟩
          have i0 : (0 : Int) ≤ (p0 : Int) := by omega
          have i1 : (0 : Int) ≤ (p1 : Int) := by omega
          have i2 : (0 : Int) ≤ (p2 : Int) := by omega
          have i3 : (0 : Int) ≤ (p3 : Int) := by omega
          have j0 : (p0 : Int) < 16 := by omega
          have j1 : (p1 : Int) < 16 := by omega
          have j2 : (p2 : Int) < 16 := by omega
          have j3 : (p3 : Int) < 16 := by omega
          have HRel := Lib.hid hrel
          have HP5 := Lib.hid hP5
          have HD := Lib.hid (And.intro d01 (And.intro d02 (And.intro d03 (And.intro d12 (And.intro d13 d23)))))
          clear hrel hP5 d01 d02 d03 d12 d13 d23
          simp only [Act.put]
          go_cut [6] (fun s6 wx => StirCut w.heap.size s1 s2 x Y w g5 #[.int .i64 (p0 : Int), .int .i64 (p1 : Int), .int .i64 (p2 : Int), .int .i64 (p3 : Int)] ⟨A2, B2, C2, D2⟩ s6 wx)
          case first =>
            go_region_held3 (fun w' => w'.cell? ⟨g5, 0, none⟩ = some (.int .i64 (p0 : Int)) ∧ w'.cell? ⟨g5, 1, none⟩ = some (.int .i64 (p1 : Int)) ∧ w'.cell? ⟨g5, 2, none⟩ = some (.int .i64 (p2 : Int)) ∧ w'.cell? ⟨g5, 3, none⟩ = some (.int .i64 (p3 : Int)) ∧ w'.cell? ⟨s2, p0, none⟩ = some (.int .u32 (A : Int)) ∧ w'.cell? ⟨s2, p1, none⟩ = some (.int .u32 (B : Int)) ∧ w'.cell? ⟨s2, p2, none⟩ = some (.int .u32 (C : Int)) ∧ w'.cell? ⟨s2, p3, none⟩ = some (.int .u32 (D : Int)))
              (first
                | with_reducible exact HT2.out.drew.held Hy.out
                | with_reducible exact (HT2.out.drew.alloc (.cells #[.int .u32 0, .int .u32 0, .int .u32 0, .int .u32 0] 23)).held Hy.out
                | with_reducible exact ((HT2.out.alloc (.cells #[.int .u32 0, .int .u32 0, .int .u32 0, .int .u32 0] 23)).drew).held Hy.out
                | with_reducible exact HT3.out.held Hy.out
                | with_reducible exact (HT3.out.alloc (.cells #[.int .u32 0, .int .u32 0, .int .u32 0, .int .u32 0] 23)).held Hy.out
                | with_reducible exact (HT3.out.alloc (.cells #[.int .u32 (A2 : Int), .int .u32 (B2 : Int), .int .u32 (C2 : Int), .int .u32 (D2 : Int)] 23)).held Hy.out
                | with_reducible exact (HT3.out.set4 (Nat.ne_of_lt hl5) (Nat.ne_of_lt hl2) ⟨A2, B2, C2, D2⟩).held Hy.out)
              (first
                | (go_at_call 11; (with_reducible refine (HS.out (World.drew wa)).mono ?_); rintro e w3 ⟨rfl, hb⟩; have HT3 := Lib.hid (HT2.out.drew.next hb))
                | (go_at_call 11; (with_reducible refine (HS.out (World.drew (wa.alloc (.cells #[.int .u32 0, .int .u32 0, .int .u32 0, .int .u32 0] 23)))).mono ?_); rintro e w3 ⟨rfl, hb⟩; have HT3 := Lib.hid (((HT2.out.alloc (.cells #[.int .u32 0, .int .u32 0, .int .u32 0, .int .u32 0] 23)).drew).next hb); have hz := zeros4_next hb; have n0 : w3.cell? ⟨wa.heap.size, 0, none⟩ = some (.int .u32 0) := hz.cell (j := 0) rfl; have n1 : w3.cell? ⟨wa.heap.size, 1, none⟩ = some (.int .u32 0) := hz.cell (j := 1) rfl; have n2 : w3.cell? ⟨wa.heap.size, 2, none⟩ = some (.int .u32 0) := hz.cell (j := 2) rfl; have n3 : w3.cell? ⟨wa.heap.size, 3, none⟩ = some (.int .u32 0) := hz.cell (j := 3) rfl; have nf := hz.frozen))
            all_goals
              go_wp2_with fail
              go_meet
              first
                | with_reducible exact stir_a HRel.out HP5.out hb A2 B2 C2 D2
                | with_reducible exact stir_b HRel.out HP5.out hb A2 B2 C2 D2
          case rest =>
          obtain ⟨g6, rfl, hg6n, hg6, hg5, hrel⟩ := hcut
          have HF : Hid (Four g5 g6 #[.int .i64 (p0 : Int), .int .i64 (p1 : Int), .int .i64 (p2 : Int), .int .i64 (p3 : Int)] #[.int .u32 (A2 : Int), .int .u32 (B2 : Int), .int .u32 (C2 : Int), .int .u32 (D2 : Int)] wc) := ⟨hg5, hg6⟩
          have y0 := hrel.2.2.1.cell Hy.out.1
          have y1 := hrel.2.2.1.cell Hy.out.2.1
          have y2 := hrel.2.2.1.cell Hy.out.2.2.1
          have y3 := hrel.2.2.1.cell Hy.out.2.2.2
          have f0 := hrel.2.2.1.frozen p0
          have f1 := hrel.2.2.1.frozen p1
          have f2 := hrel.2.2.1.frozen p2
          have f3 := hrel.2.2.1.frozen p3
          obtain ⟨d01, d02, d03, d12, d13, d23⟩ := HD.out
          have HR2 := Lib.hid hrel
          clear hrel hg5 hg6 HT2 HRel HP5
          go_wp2
          go_region_held3 (fun w' => w'.cell? ⟨g5, 0, none⟩ = some (.int .i64 (p0 : Int)) ∧ w'.cell? ⟨g5, 1, none⟩ = some (.int .i64 (p1 : Int)) ∧ w'.cell? ⟨g5, 2, none⟩ = some (.int .i64 (p2 : Int)) ∧ w'.cell? ⟨g5, 3, none⟩ = some (.int .i64 (p3 : Int)) ∧ w'.cell? ⟨g6, 0, none⟩ = some (.int .u32 (A2 : Int)) ∧ w'.cell? ⟨g6, 1, none⟩ = some (.int .u32 (B2 : Int)) ∧ w'.cell? ⟨g6, 2, none⟩ = some (.int .u32 (C2 : Int)) ∧ w'.cell? ⟨g6, 3, none⟩ = some (.int .u32 (D2 : Int)))
            (first
              | with_reducible exact HF.out.drew.held
              | with_reducible exact (HF.out.set hg5n hg6n _ _).drew.held
              | with_reducible exact ((HF.out.set hg5n hg6n _ _).set hg5n hg6n _ _).drew.held
              | with_reducible exact (((HF.out.set hg5n hg6n _ _).set hg5n hg6n _ _).set hg5n hg6n _ _).drew.held
              | with_reducible exact ((((HF.out.set hg5n hg6n _ _).set hg5n hg6n _ _).set hg5n hg6n _ _).set hg5n hg6n _ _).drew.held)
            (fail)
          go_wp2
          go_roundw
          case rel => exact ⟨m + 1, hmt, by go_num, by rw [HST.out]; exact ((((HR2.out.set p0 A2).set p1 B2).set p2 C2).set p3 D2).drew⟩
          case measure => simp [intOf]; omega
        · obtain rfl : m = 8 := by omega
          have HRel := Lib.hid hrel
          clear hrel
          go_wp2
          go_roundw
          case rel => exact ⟨k + 1, hlt, by go_num, by rw [rdN]; exact HRel.out⟩
          case measure => simp [intOf]; omega
    · obtain rfl : k = 10 := by omega
      have HRel := Lib.hid hrel
      clear hrel
      have HY := Lib.hid (rdN_32 HX.out 10)
      have HE2 : Hid (∀ j, j = 16 → row16 (sumK (rdN x 10) x j) = Z) := fun j hj => by rw [hj, sumK_full HY.out.1 HX.out.1]; exact HE.out 10 rfl
      have H0 : Hid (RelC w.heap.size s1 s2 x (sumK (rdN x 10) x 0) w wr) := by rw [sumK_zero]; exact HRel.out
      clear HE HRel
      generalize rdN x 10 = Y at *
      go_wp2
      go_loopw [55] (fun i wr => ∃ j : Nat, j ≤ 16 ∧ i = .int .i64 (j : Int) ∧ RelC w.heap.size s1 s2 x (sumK Y x j) w wr) (fun i _ => 16 - (intOf i).toNat)
      case atStart => exact ⟨0, by omega, rfl, H0.out⟩
      case round =>
        clear H0
        obtain ⟨j, hj, rfl, hrel⟩ := hrel
        by_cases hjt : j < 16
        · have cy := hrel.2.2.1.cell (v := .int .u32 ((Y.getD j 0 : Nat) : Int)) (j := j) (by rw [row16_get (by rw [sumK_len HY.out.1 HX.out.1 hj]; exact hjt), List.getD_eq_getElem?_getD, sumK_at HY.out.1 HX.out.1 hjt]; rfl)
          have cx := hrel.1.cell (j := j) (row16_get (x := x) (by rw [HX.out.1]; exact hjt))
          have hf := hrel.2.2.1.frozen j
          have hss := sum2 (Y.getD j 0) (x.getD j 0)
          have hset := hrel.set j ((Y.getD j 0 + x.getD j 0) % 4294967296)
          rw [sumK_set HY.out.1 HX.out.1 hjt] at hset
          have HSet := Lib.hid hset
          clear hset hrel
          generalize (Y.getD j 0 + x.getD j 0) % 4294967296 = SM at *
          generalize Y.getD j 0 = YJ at *
          generalize x.getD j 0 = XJ at *
          go_wp2
          go_region
          go_wp2
          go_roundw
          case rel => exact ⟨j + 1, hjt, by go_num, HSet.out.drew⟩
          case measure => simp [intOf]; omega
        · obtain rfl : j = 16 := by omega
          have hA := hrel.2.2.1
          have hZs : Z.size = 16 := by rw [← HE2.out 16 rfl]; exact row16_size (sumK_len HY.out.1 HX.out.1 (Nat.le_refl _))
          have hZo : Z.all (·.oneCell') = true := by rw [← HE2.out 16 rfl]; exact row16_one _
          rw [HE2.out 16 rfl] at hA
          have HA := Lib.hid hA
          have HA1 := Lib.hid hrel.2.1
          have HB := Lib.hid (And.intro hrel.2.2.2.2.1 hrel.2.2.2.2.2.1)
          have HZs := Lib.hid hZs
          have HZo := Lib.hid hZo
          have HZ0 := Lib.hid (row16_size (x := List.replicate 16 0) rfl)
          clear hA hrel hZs hZo HE2 HY HX HIX HPV HRd
          generalize row16 (List.replicate 16 0) = Z0 at *
          go_wp2_with (first
            | (with_reducible refine wpList_load_n16 rfl _ rfl s2 rfl _ HZs.out HA.out ?_)
            | (with_reducible refine wpList_store_n16 rfl _ _ rfl s1 rfl _ rfl HZs.out HZo.out _ HZ0.out HA1.out ?_))
          exact ret_n16 Tryd.results24 s1 _ HZs.out rfl (HA1.out.row _) rfl ⟨rfl, below_setRow HB.out.1 (Nat.le_of_lt HB.out.2) _⟩
end Go.Proofs.YtebhmcnocpblkaaDoor
