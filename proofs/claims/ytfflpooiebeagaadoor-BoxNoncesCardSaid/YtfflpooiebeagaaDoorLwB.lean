/- Layer 7's laws: an act read whole; 'fixed'. -/
import Derived.Test.YtfflpooiebeagaaDoorLwA
import Derived.Deep.MidRow
namespace Go.Proofs.YtfflpooiebeagaaDoor
open Go.RowKit

theorem info_act : (Tryd.prog.info? 29).map (·.size) = some 5 := by kernel_rfl
theorem actC_one (x : ActB) : (actC x).all (·.oneCell') = true := by simp [actC, Value.oneCell']
theorem actC_size (x : ActB) : (actC x).size = 5 := rfl
/-- An act is read, wherever it lies. -/
theorem run_load_act (w : World) (a : Addr) (x : ActB) (hc : ∀ (j : Nat) (v : Value), (actC x).toList[j]? = some v → w.cell? (a.add j) = some v) :
    (Instr.loadAt 29 (.pointer (some a))).run Tryd.prog w = .ok (actV x) w := by
  have hl : (loadCells a 5).run Tryd.prog w = .ok (actC x) w := by
    have := run_loadCells_list (P := Tryd.prog) w a (actC x).toList hc
    simpa [actC_size] using this
  obtain ⟨i, hi, hs⟩ := Option.map_eq_some_iff.1 info_act
  have hagg : (isAgg 29).run Tryd.prog w = .ok true w := by
    unfold isAgg
    rw [Sem.run_bind, run_underlying Tryd.underlying29 w]
    rfl
  simp [Instr.loadAt, Instr.sureAddr, loadVar, Sem.run_bind, hagg, sizeOf, typeInfo, hi, hs, hl, actV]

/-- Filled up by bytes 0, and cut. -/
def fixB (s : ByteArray) (n : Nat) : ByteArray := (s ++ zeros n).extract 0 n
theorem fixB_size (s : ByteArray) (n : Nat) : (fixB s n).size = n := by
  rw [fixB, ext_size _ _ _ (by rw [ByteArray.size_append, zeros_size]; omega)]; omega
def fixedA (x : ActB) : ActB := if 10 ≤ x.kind then { x with kind := x.kind - 10 } else { x with K := fixB x.K 32, N := fixB x.N 12 }

theorem wpList_load_act {ops : Array Oper} {rest : List Oper} {o : Oper} {a : Act} {w : World} {Q : Exit → Act → World → Prop} (hgd : o.guard = none) (x : Operand) (ho : o.op = .load 29 x)
    (g : Nat) (hx : a.eval x = .pointer (some ⟨g, 0, none⟩)) (cs : Array Value) (hs : cs.size = 5) (hg : Arr w g cs 29)
    (h : wpList Tryd.prog ops Q rest (a.put o.dst (.agg cs)) w) : wpList Tryd.prog ops Q (o :: rest) a w :=
  wpList_load_row hgd 29 x ho g hx 29 cs (0, 0) _ hg Tryd.underlying29 rfl (by rw [hs]; exact info_act) h
theorem wpList_store_act {ops : Array Oper} {rest : List Oper} {o : Oper} {a : Act} {w : World} {Q : Exit → Act → World → Prop} (hgd : o.guard = none) (x y : Operand) (ho : o.op = .store 29 x y)
    (g : Nat) (hx : a.eval x = .pointer (some ⟨g, 0, none⟩)) (cs : Array Value) (hy : a.eval y = .agg cs) (hs : cs.size = 5) (h1 : cs.all (·.oneCell') = true) (old : Array Value) (hz : old.size = 5) (hg : Arr w g old 29)
    (h : wpList Tryd.prog ops Q rest (a.put o.dst undef) (w.setRow g cs)) : wpList Tryd.prog ops Q (o :: rest) a w :=
  wpList_store_row hgd 29 x y ho g cs hx hy 29 old hg (by rw [hs]; exact info_act) (by omega) h1 h
/-- A new variable gets its value. -/
theorem wpList_store_act_new {ops : Array Oper} {rest : List Oper} {o : Oper} {a : Act} {w : World} {Q : Exit → Act → World → Prop} (hgd : o.guard = none) (x y : Operand) (ho : o.op = .store 29 x y)
    (old : Array Value) (hz : old.size = 5) (g : Nat) (hx : a.eval x = .pointer (some ⟨g, 0, none⟩)) (hgs : g = w.heap.size) (cs : Array Value) (hy : a.eval y = .agg cs) (hs : cs.size = 5) (h1 : cs.all (·.oneCell') = true)
    (h : wpList Tryd.prog ops Q rest (a.put o.dst undef) (w.alloc (.cells cs 29))) : wpList Tryd.prog ops Q (o :: rest) a (w.alloc (.cells old 29)) :=
  wpList_store_act hgd x y ho w.heap.size (by rw [← hgs]; exact hx) cs hy hs h1 old hz (Arr.new w old _) (by rw [World.setRow_alloc_new]; exact h)
theorem ret_act {fn : Func} {p : Tmp} {R : Ending → World → Prop} {a : Act} {w : World} (h : fn.results = #[.cell p 29]) (g : Nat) (cs : Array Value) (hs : cs.size = 5) (hp : a.tmps.getD p undef = .pointer (some ⟨g, 0, none⟩))
    (hg : Arr w g cs 29) (hd : a.defers = []) (hR : R (.returned (.agg cs)) w) : bodyPost Tryd.prog fn R .ret a w :=
  bodyPost_ret (results_cell_row h a.tmps w g 29 cs (0, 0) _ hp hg Tryd.underlying29 rfl (by rw [hs]; exact info_act)) hd hR

theorem actZ : (#[.int .i64 0, .string ⟨#[]⟩, .string ⟨#[]⟩, .string ⟨#[]⟩, .string ⟨#[]⟩] : Array Value) = actC ⟨0, ⟨#[]⟩, ⟨#[]⟩, ⟨#[]⟩, ⟨#[]⟩⟩ := rfl
theorem wrap10 {k : Int} (h : (Lit.int .i64 k).wf = true) (h1 : 10 ≤ k) : IntKind.i64.wrap (k - 10) = k - 10 := by
  simp [Lit.wf, IntKind.min, IntKind.max, IntKind.bits, IntKind.signed] at h
  rw [IntKind.wrap_i64]; omega

set_option maxRecDepth 100000 in
theorem fixed7_any (x : ActB) (hk : (Lit.int .i64 x.kind).wf = true) (hK : x.K.size ≤ 1000) (hN : x.N.size ≤ 1000) (w : World) :
    Calls Tryd.prog 9 #[actV x] w fun e w' => e = .returned (actV (fixedA x)) ∧ Below w.heap.size w w' := by
  obtain ⟨kind, K, N, D, T⟩ := x
  by_cases h1 : 10 ≤ kind
  · have hw := wrap10 hk h1
    have e1 : fixedA ⟨kind, K, N, D, T⟩ = ⟨kind - 10, K, N, D, T⟩ := by simp [fixedA, h1]
    rw [e1]
    clear hk e1
    unfold actV actC
    go_enter Tryd.func9, Tryd.ntmps9
    go_wp2
    exact ret_act rfl (w.heap.size + 1) _ rfl rfl (Arr.newAt _ _ _ (by simp)) rfl ⟨rfl, ((Below.refl w.heap.size w).alloc (Nat.le_refl _) _).alloc (by simp) _⟩
  · have b1 : decide (10 ≤ kind) = false := decide_eq_false h1
    have e1 : fixedA ⟨kind, K, N, D, T⟩ = ⟨kind, fixB K 32, fixB N 12, D, T⟩ := by simp [fixedA, h1]
    rw [e1]
    clear hk e1
    unfold actV actC
    have zz := zeros_size 32
    have zz2 := zeros_size 12
    have hc1 : ∀ w : World, (Op.stringOp .add K (zeros 32)).run Tryd.prog w = .ok (.string (K ++ zeros 32)) w := fun w => cat_run _ _ (by rw [zz]; show K.size + 32 ≤ _; simp only at hK; omega) w
    have hc2 : ∀ w : World, (Op.stringOp .add N (zeros 12)).run Tryd.prog w = .ok (.string (N ++ zeros 12)) w := fun w => cat_run _ _ (by rw [zz2]; show N.size + 12 ≤ _; simp only at hN; omega) w
    have hz1 : 32 ≤ (K ++ zeros 32).size := by rw [ByteArray.size_append, zz]; omega
    have hz2 : 12 ≤ (N ++ zeros 12).size := by rw [ByteArray.size_append, zz2]; omega
    unfold fixB
    generalize K ++ zeros 32 = KB at *
    generalize N ++ zeros 12 = NB at *
    clear hK hN zz zz2
    have mk32 := makeZ 32 (by decide)
    have mk12 := makeZ 12 (by decide)
    rw [show ((32 : Nat) : Int) = 32 from rfl] at mk32
    rw [show ((12 : Nat) : Int) = 12 from rfl] at mk12
    have cvg : ∀ (n : Nat) {w : World} {g : Nat}, Arr w g (zrow n) 5 → (convert 42 9 (.slice (some ⟨g, 0, none⟩) n n)).run Tryd.prog w = .ok (.string (zeros n)) w := by
      intro n w g h
      have := conv_cells w ⟨g, 0, none⟩ (List.replicate n 0) n (fun j v hv => by
        rw [addr_add, Nat.zero_add]; exact h.cell (by rw [zrow, List.getElem?_toArray]; exact hv))
      rw [List.length_replicate] at this
      rw [this, zeros]; simp
    have q1 := cvg 32 (w := (((w.alloc (.cells #[.int .i64 kind, .string K, .string N, .string D, .string T] 29)).alloc (.cells #[.int .i64 0, .string ⟨#[]⟩, .string ⟨#[]⟩, .string ⟨#[]⟩, .string ⟨#[]⟩] 29)).alloc (.cells (zrow 32) 5)).drew) (g := w.heap.size + 1 + 1) (Arr.newAt _ (zrow 32) 5 (by simp))
    have q2 := cvg 12 (w := ((((w.alloc (.cells #[.int .i64 kind, .string (KB.extract 0 32), .string N, .string D, .string T] 29)).alloc (.cells #[.int .i64 0, .string ⟨#[]⟩, .string ⟨#[]⟩, .string ⟨#[]⟩, .string ⟨#[]⟩] 29)).alloc (.cells (zrow 32) 5)).alloc (.cells (zrow 12) 5)).drew.drew) (g := w.heap.size + 1 + 1 + 1) (Arr.newAt _ (zrow 12) 5 (by simp))
    clear cvg
    go_enter Tryd.func9, Tryd.ntmps9
    go_wp2
    go_region
    go_wp2
    go_region
    go_wp2
    refine ret_act rfl (w.heap.size + 1) _ rfl rfl ((((Arr.newAt _ _ _ (by simp)).alloc _).alloc _).drew.drew) rfl ⟨rfl, ?_⟩
    exact ((((((Below.refl w.heap.size w).alloc (Nat.le_refl _) _).alloc (by simp) _).alloc (by simp; omega) _).alloc (by simp; omega) _).drew).drew
end Go.Proofs.YtfflpooiebeagaaDoor
