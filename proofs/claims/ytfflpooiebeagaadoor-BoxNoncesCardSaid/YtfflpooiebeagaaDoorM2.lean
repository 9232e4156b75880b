/- strings.Builder: the contract of WriteString, walked here (the library's own does not fit this translation's copyCheck); String is the shelf's. BTwo strings.Builders of one call, written in turn and read one after the other. Contract of octet.Fill, over the library's strings.Repeat. -/
import Derived.Test.YtfflpooiebeagaaDoorM1
import Derived.Test.YtfflpooiebeagaaDoorShelf
import Derived.Lib.Builder
import Derived.Lib.Repeat
import Derived.Lib.AppendStr
import Derived.Laws.Externs
namespace Go.Proofs.YtfflpooiebeagaaDoor
open Go.RowKit

theorem repeatL_zero (c : Nat) : Lib.repeatL [(0 : UInt8)] c = List.replicate c 0 := by
  induction c with
  | zero => rfl
  | succ c ih => rw [Lib.repeatL, ih, List.replicate_succ]; rfl

theorem sizeBld : (Tryd.prog.info? 83).map (·.size) = some 2 := by kernel_rfl
theorem liesBld : liesAt Tryd.prog Tryd.prog.depth 83 (2 / Tryd.prog.cellsOf 83) 0 83 1 = true := by kernel_rfl

set_option maxHeartbeats 1000000 in
set_option maxRecDepth 100000 in
theorem copyCheck_used (b : Nat) (w : World) (h0 : w.cell? ⟨b, 0, none⟩ = some (.pointer (some ⟨b, 0, none⟩))) :
    Calls Tryd.prog 62 #[.pointer (some ⟨b, 0, none⟩)] w fun e w' => e = .returned (.tuple #[]) ∧ w = w' := by
  obtain ⟨j, hj, _⟩ := Option.map_eq_some_iff.1 sizeBld
  go_enter Tryd.func62, Tryd.ntmps62
  go_wp2
  rw [Lib.run_neq_ptr_same w _ Tryd.underlying81 hj]
  go_wp2
  go_end0
  exact ⟨rfl, rfl⟩

set_option maxHeartbeats 1000000 in
set_option maxRecDepth 100000 in
theorem copyCheck_fresh (b : Nat) (w : World) (h0 : w.cell? ⟨b, 0, none⟩ = some (.pointer none)) (hsh : w.shape? b = some (83, 2)) (hfz : w.frozen? ⟨b, 0, none⟩ = false) :
    Calls Tryd.prog 62 #[.pointer (some ⟨b, 0, none⟩)] w fun e w' => e = .returned (.tuple #[]) ∧ w.setCell ⟨b, 0, none⟩ (.pointer (some ⟨b, 0, none⟩)) = w' := by
  obtain ⟨j, hj, hjs⟩ := Option.map_eq_some_iff.1 sizeBld
  go_enter Tryd.func62, Tryd.ntmps62
  go_wp2
  rw [Lib.run_to_unsafe w ⟨b, 0, none⟩ Tryd.underlying81 Tryd.underlying125 hj (by rw [hjs]; decide) hsh (Nat.zero_lt_succ 1)]
  simp only [Result.andThen]
  rw [Oper.upon_value]
  go_wp2
  rw [run_callFunc_extern Tryd.func71 (by kernel_rfl) (by kernel_rfl) (by kernel_rfl) (e := Extern.AbiNoEscape.same) (by kernel_rfl)]
  rw [Lib.run_noEscape]
  simp only [Result.andThen]
  rw [Oper.upon_value]
  go_wp2
  rw [Lib.run_from_unsafe w ⟨b, 0, none⟩ Tryd.underlying125 Tryd.underlying81 hj hsh liesBld]
  simp only [Result.andThen]
  rw [Oper.upon_value]
  go_wp2
  go_end0
  exact ⟨rfl, rfl⟩

/-- Block b is a builder of the call's own (blocks from B on) that holds these bytes. -/
def Bld (w : World) (B b : Nat) (l : List UInt8) : Prop := Lib.IsBuilder 83 5 B b (Lib.byteCells l) w

theorem copyCheck_any (B b : Nat) (l : List UInt8) (w : World) (h : Bld w B b l) :
    Calls Tryd.prog 62 #[.pointer (some ⟨b, 0, none⟩)] w fun e w' => e = .returned (.tuple #[]) ∧ (Lib.BuilderAt 83 5 B b (.pointer (some ⟨b, 0, none⟩)) (Lib.byteCells l) w' ∧ Below B w w' ∧ ∀ k, k ≠ b → w'.heap[k]? = w.heap[k]?) := by
  rcases h with h | h
  · refine (copyCheck_fresh b w h.cell0 h.shape h.frozen0).mono ?_
    rintro e w' ⟨rfl, rfl⟩
    exact ⟨rfl, h.used _, (Below.refl B w).setCell (p := ⟨b, 0, none⟩) h.1 _, fun k hk => Below.heap_setCell _ _ _ _ hk⟩
  · refine (copyCheck_used b w h.cell0).mono ?_
    rintro e w' ⟨rfl, rfl⟩
    exact ⟨rfl, h, Below.refl B _, fun _ _ => rfl⟩

set_option maxHeartbeats 2000000 in
set_option maxRecDepth 100000 in
theorem writeStringK_any (B b : Nat) (l : List UInt8) (s : ByteArray) (w : World) (h : Bld w B b l) (hlen : l.length + s.size ≤ 140737488355328) (hBw : B ≤ w.heap.size) :
    Calls Tryd.prog 41 #[.pointer (some ⟨b, 0, none⟩), .string s] w fun e w' => e = .returned (.tuple #[.int .i64 s.size, .nilIface]) ∧ (Bld w' B b (l ++ s.data.toList) ∧ Below B w w' ∧ ∀ (g : Nat) (cs : Array Value) (t : TypeId), t ≠ 5 → g ≠ b → w.heap[g]? = some (.cells cs t (0, 0)) → w'.heap[g]? = some (.cells cs t (0, 0))) := by
  obtain ⟨i0, hi, hz0, hz1, hz2⟩ := info_parts Tryd.infoU8
  have HL := Lib.hid hlen
  clear hlen
  go_enter Tryd.func41, Tryd.ntmps41
  go_wp2_with (first
    | (go_at_call 62; (with_reducible refine (copyCheck_any B b l _ h).mono ?_); rintro e w1 ⟨rfl, h1, hb1, hk1⟩; have HK1 := Lib.hid hk1; clear hk1; obtain ⟨hB, v, hbk, hown, hne⟩ := h1; have c0 : w1.cell? ⟨b, 0, none⟩ = some (.pointer (some ⟨b, 0, none⟩)) := (by rw [Lib.cell_of_heap hbk]; rfl); have c1 : w1.cell? ⟨b, 1, none⟩ = some v := (by rw [Lib.cell_of_heap hbk]; rfl); rw [Lib.byteCells_length] at hown)
    | (at_builtin; refine Lib.wpList_append_own_string _ rfl _ _ 42 9 rfl B 5 i0 Tryd.underlying42 Tryd.underlying9 hi hz0 hz1 hz2 _ _ _ rfl hown s rfl (by have := HL.out; unfold maxLen; omega) HL.out (by have := hb1.size; omega) ?_))
  intro v' w2 hown' hgrow _
  have hlt : b < w1.heap.size := by
    rcases Nat.lt_or_ge b w1.heap.size with h' | h'
    · exact h'
    · simp [Array.getElem?_eq_none h'] at hbk
  have hb2 : w2.heap[b]? = some (.cells #[.pointer (some ⟨b, 0, none⟩), v] 83 (0, 0)) := by
    rw [hgrow.block b hlt (fun e => hne e.symm)]
    exact hbk
  have d0 : w2.cell? ⟨b, 0, none⟩ = some (.pointer (some ⟨b, 0, none⟩)) := by rw [Lib.cell_of_heap hb2]; rfl
  have d1 : w2.cell? ⟨b, 1, none⟩ = some v := by rw [Lib.cell_of_heap hb2]; rfl
  have f1 : w2.frozen? ⟨b, 1, none⟩ = false := Lib.frozen_of_heap hb2 1
  obtain ⟨ao, n', cap, rfl⟩ : ∃ ao n' cap, v' = .slice ao n' cap := by
    rcases hown'.2 with ⟨hv, _⟩ | ⟨g, cap, cur, hv, _⟩
    · exact ⟨_, _, _, hv⟩
    · exact ⟨_, _, _, hv⟩
  go_wp2
  go_ret2
  refine ⟨rfl, .inr ?_, ?_, ?_⟩
  · rw [Lib.byteCells_append]
    exact Lib.BuilderAt.put (T := 83) (e := 5) hB hb2 (bs' := Lib.byteCells l ++ Lib.strCells s) (by simpa [Lib.strCells_length, Lib.byteCells_length] using hown') (by decide)
  · exact (hb1.grown hgrow (by have := hb1.size; omega) (fun k hk => (hown.lt k hk).1)).setCell (p := ⟨b, 1, none⟩) hB _
  · intro g cs t ht hgb hg
    have hg1 : w1.heap[g]? = some (.cells cs t (0, 0)) := (HK1.out g hgb).trans hg
    have hlg : g < w1.heap.size := by
      rcases Nat.lt_or_ge g w1.heap.size with h' | h'
      · exact h'
      · simp [Array.getElem?_eq_none h'] at hg1
    have hno := Lib.ownBlock_ne hown hg1 ht
    exact (Below.heap_setCell _ _ _ _ hgb).trans ((hgrow.block g hlg (fun e => hno e.symm)).trans hg1)
theorem writeString_any (B b : Nat) (l : List UInt8) (s : ByteArray) (w : World) (h : Bld w B b l) (hlen : l.length + s.size ≤ 140737488355328) (hBw : B ≤ w.heap.size) :
    Calls Tryd.prog 41 #[.pointer (some ⟨b, 0, none⟩), .string s] w fun e w' => e = .returned (.tuple #[.int .i64 s.size, .nilIface]) ∧ (Bld w' B b (l ++ s.data.toList) ∧ Below B w w') :=
  (writeStringK_any B b l s w h hlen hBw).mono fun _ _ ⟨h1, h2, h3, _⟩ => ⟨h1, h2, h3⟩

/-- A builder that has just been declared. -/
theorem Bld.new (w : World) (B : Nat) (hB : B ≤ w.heap.size) : Bld (w.alloc (.cells #[.pointer none, .slice none 0 0] 83)) B w.heap.size [] :=
  .inl ⟨hB, _, by show (w.heap.push _)[w.heap.size]? = _; simp, World.ownsRow_nil _ _ _ _, by simp [Value.ownBlock]⟩

theorem Bld.lt {w : World} {B b : Nat} {l : List UInt8} (h : Bld w B b l) : b < w.heap.size := by
  rcases h with h | h
  · exact h.lt
  · exact h.lt
/-- A builder stays as it is where nothing that was there turns. -/
theorem Bld.next {w w' : World} {B b : Nat} {l : List UInt8} (h : Bld w B b l) (hb : Below w.heap.size w w') : Bld w' B b l := by
  have hk : w.grownBy w' none := ⟨hb.os, hb.tape, hb.output, hb.size, fun i hi _ => hb.block i hi⟩
  rcases h with ⟨hB, v, hc, hown, hne⟩ | ⟨hB, v, hc, hown, hne⟩
  · exact .inl ⟨hB, v, (hb.block b (Lib.BuilderAt.lt ⟨hB, v, hc, hown, hne⟩)).trans hc, hown.kept (row := none) hk (Classical.em _), hne⟩
  · exact .inr ⟨hB, v, (hb.block b (Lib.BuilderAt.lt ⟨hB, v, hc, hown, hne⟩)).trans hc, hown.kept (row := none) hk (Classical.em _), hne⟩

theorem bldString_any (B b : Nat) (l : List UInt8) (w : World) (h : Bld w B b l) (hBw : B ≤ w.heap.size) :
    Calls Tryd.prog 42 #[.pointer (some ⟨b, 0, none⟩)] w fun e w' => e = .returned (.string ⟨l.toArray⟩) ∧ Below B w w' :=
  Tryd.Builder_String_any B b l w h hBw
theorem bldLen_any (B b : Nat) (l : List UInt8) (w : World) (h : Bld w B b l) :
    Calls Tryd.prog 39 #[.pointer (some ⟨b, 0, none⟩)] w fun e w' => e = .returned (.int .i64 ((l.length : Nat) : Int)) ∧ w = w' :=
  (Tryd.Builder_Len B b (Lib.byteCells l) w h).mono fun _ _ ⟨h1, h2⟩ => ⟨by rw [h1, Lib.byteCells_length], h2.symm⟩
end Go.Proofs.YtfflpooiebeagaaDoor
namespace Go.Proofs.YtfflpooiebeagaaDoor
open Go.RowKit

/-- The block of an own row lies where it lay, or is new. -/
def Lies (H : Nat) (v v' : Value) : Prop := v'.ownBlock = v.ownBlock ∨ ∃ g, v'.ownBlock = some g ∧ H ≤ g
/-- But for block b and the row r all that was there is as it was. -/
def KeptBut (w w' : World) (b : Nat) (r : Option Nat) : Prop := ∀ g, g < w.heap.size → g ≠ b → some g ≠ r → w'.heap[g]? = w.heap[g]?

theorem run_append_lies {P : Program} (w : World) (base : Nat) (t u ty e : TypeId) (i : TypeInfo) (ht : P.underlying t = some (.slice e)) (hu : P.underlying u = some .string) (hi : P.info? e = some i) (hz : i.zero = some (.int .u8 0))
    (hsize : i.size = 1) (hby : i.bytes = 1) (v : Value) (n : Nat) (xs : List Value) (hown : w.ownsRow base e 1 v n xs) (s : ByteArray)
    (h63 : n + s.size ≤ maxLen) (hbytes : n + s.size ≤ 140737488355328) (hbase : base ≤ w.heap.size) :
    ∃ v' w', (Builtin.append_ #[t, u] ty #[v, .string s]).run P w = .ok v' w' ∧ w'.ownsRow base e 1 v' (n + s.size) (xs ++ Lib.strCells s) ∧ w.grownBy w' v.ownBlock ∧ (v' = .slice none 0 0 ↔ v = .slice none 0 0 ∧ s.size = 0) ∧ Lies w.heap.size v v' := by
  obtain ⟨v', w', hr, h2, h3, h4⟩ := Lib.run_append_own_string (P := P) w base t u ty e i ht hu hi hz hsize hby v n xs hown s h63 hbytes hbase
  refine ⟨v', w', hr, h2, h3, h4, ?_⟩
  have hsmall : n + s.size ≤ 9223372036854775807 := by simp only [maxLen] at h63; omega
  have hxl : xs.length = n := by simpa using hown.1
  rcases hown.2 with ⟨rfl, rfl⟩ | ⟨g, cap, cur, rfl, hbg, hg, hnc, hcm, hcs, htake⟩
  · have hx : xs = [] := List.eq_nil_of_length_eq_zero hxl
    obtain ⟨v2, w2, hr2, g2, _, _⟩ := Lib.run_append_own_string (P := P) w w.heap.size t u ty e i ht hu hi hz hsize hby (.slice none 0 0) 0 xs (by rw [hx]; exact World.ownsRow_nil w _ e 1) s h63 hbytes (Nat.le_refl _)
    rw [hr] at hr2
    injection hr2 with e1 e2
    rw [e1]
    rcases hb : v2.ownBlock with _ | k
    · exact .inl (by rw [hb]; rfl)
    · exact .inr ⟨k, hb, (g2.lt k hb).1⟩
  · by_cases hroom : n + s.size ≤ cap
    · have hr2 := Lib.run_append_room_string (P := P) (w := w) t u ty e i ht hu hi hsize g n cap cur hg s hroom (by omega)
      rw [hr] at hr2
      injection hr2 with e1 e2
      exact .inl (by rw [e1]; rfl)
    · have holds : ∀ j u, xs[j]? = some u → w.cell? ((⟨g, 0, none⟩ : Addr).add j) = some u := hown.cells (g := g) rfl
      have hr2 := Lib.run_append_grow_string (P := P) (w := w) t u ty e i (.int .u8 0) ht hu hi hz ⟨g, 0, none⟩ n cap xs (by rw [hsize]; simpa using hxl) holds s (by omega) (by omega) (by rw [hby]; exact growslice_fits (by omega) (by omega))
      rw [hr] at hr2
      injection hr2 with e1 e2
      exact .inr ⟨w.heap.size, by rw [e1]; rfl, Nat.le_refl _⟩

theorem wpList_append_lies {P : Program} {w : World} {ops : Array Oper} {rest : List Oper} {o : Oper} {a : Act} {Q : Exit → Act → World → Prop} (hgd : o.guard = none) (sl x : Operand) (t u : TypeId)
    (ho : o.op = .call { callee := .builtin .append, args := #[sl, x], argTypes := #[t, u] })
    (base : Nat) (e : TypeId) (i : TypeInfo) (ht : P.underlying t = some (.slice e)) (hu : P.underlying u = some .string) (hi : P.info? e = some i) (hz : i.zero = some (.int .u8 0))
    (hsize : i.size = 1) (hby : i.bytes = 1)
    (v : Value) (n : Nat) (xs : List Value) (hs : a.eval sl = v) (hown : w.ownsRow base e 1 v n xs) (s : ByteArray) (hx : a.eval x = .string s)
    (h63 : n + s.size ≤ maxLen) (hbytes : n + s.size ≤ 140737488355328) (hbase : base ≤ w.heap.size)
    (h : ∀ v' w', w'.ownsRow base e 1 v' (n + s.size) (xs ++ Lib.strCells s) → w.grownBy w' v.ownBlock → (v' = .slice none 0 0 ↔ v = .slice none 0 0 ∧ s.size = 0) → Lies w.heap.size v v' → wpList P ops Q rest (a.put o.dst v') w') : wpList P ops Q (o :: rest) a w := by
  refine wpList_plain hgd fun K hK => ?_
  obtain ⟨v', w', hr, h2, h3, h4, h5⟩ := run_append_lies (P := P) w base t u o.type e i ht hu hi hz hsize hby v n xs hown s h63 hbytes hbase
  unfold Oper.wp execOp
  simp only [ho, resolve, invoke, builtin, Sem.run_bind, Sem.run_pure, Result.andThen_ok, List.map_toArray, List.map_cons, List.map_nil, hs, hx, hr]
  exact hK _ _ (h v' w' h2 h3 h4 h5)

/-- Block b is a builder whose row of bytes is v and holds l. -/
def BldV (w : World) (B b : Nat) (v : Value) (l : List UInt8) : Prop :=
  ∃ p, (p = .pointer none ∨ p = .pointer (some ⟨b, 0, none⟩)) ∧ B ≤ b ∧ w.heap[b]? = some (.cells #[p, v] 83 (0, 0)) ∧ w.ownsRow B 5 1 v l.length (Lib.byteCells l)

theorem heap_lt {w : World} {b : Nat} {o : Obj} (h : w.heap[b]? = some o) : b < w.heap.size := (Array.getElem?_eq_some_iff.1 h).1

theorem ownsRow_of {w w' : World} {B : Nat} {v : Value} {n : Nat} {xs : List Value} {e : TypeId} (h : w.ownsRow B e 1 v n xs) (hk : ∀ g, v.ownBlock = some g → w'.heap[g]? = w.heap[g]?) : w'.ownsRow B e 1 v n xs := by
  refine ⟨h.1, ?_⟩
  rcases h.2 with hn | ⟨g, cap, cur, rfl, hb, hgg, rest⟩
  · exact .inl hn
  · exact .inr ⟨g, cap, cur, rfl, hb, (hk g rfl).trans hgg, rest⟩

theorem BldV.of {w w' : World} {B b : Nat} {v : Value} {l : List UInt8} (h : BldV w B b v l) (hb : w'.heap[b]? = w.heap[b]?) (hk : ∀ g, v.ownBlock = some g → w'.heap[g]? = w.heap[g]?) : BldV w' B b v l := by
  obtain ⟨p, hp, hB, hc, ho⟩ := h
  exact ⟨p, hp, hB, hb.trans hc, ownsRow_of ho hk⟩

theorem BldV.lt {w : World} {B b : Nat} {v : Value} {l : List UInt8} (h : BldV w B b v l) : b < w.heap.size := by
  obtain ⟨p, hp, hB, hc, ho⟩ := h
  exact heap_lt hc
theorem BldV.row {w : World} {B b : Nat} {v : Value} {l : List UInt8} (h : BldV w B b v l) : ∀ k, v.ownBlock = some k → B ≤ k ∧ k < w.heap.size := by
  obtain ⟨p, hp, hB, hc, ho⟩ := h
  exact ho.lt
/-- A builder's row is no block of another type than bytes. -/
theorem BldV.ne {w : World} {B b : Nat} {v : Value} {l : List UInt8} (h : BldV w B b v l) {g : Nat} {cs : Array Value} {t : TypeId} {fr : Nat × Nat} (hg : w.heap[g]? = some (.cells cs t fr)) (ht : t ≠ 5) : v.ownBlock ≠ some g := by
  obtain ⟨p, hp, hB, hc, ho⟩ := h
  exact Lib.ownBlock_ne ho hg ht

theorem copyCheckV_any (B b : Nat) (v : Value) (l : List UInt8) (w : World) (h : BldV w B b v l) :
    Calls Tryd.prog 62 #[.pointer (some ⟨b, 0, none⟩)] w fun e w' => e = .returned (.tuple #[]) ∧ w'.heap[b]? = some (.cells #[.pointer (some ⟨b, 0, none⟩), v] 83 (0, 0)) ∧ w'.ownsRow B 5 1 v l.length (Lib.byteCells l) ∧ Below B w w' ∧ w'.heap.size = w.heap.size ∧ ∀ k, k ≠ b → w'.heap[k]? = w.heap[k]? := by
  have hne : v.ownBlock ≠ some b := by
    obtain ⟨p, hp, hB, hc, ho⟩ := h
    exact Lib.ownBlock_ne ho hc (by decide)
  obtain ⟨p, hp, hB, hc, ho⟩ := h
  rcases hp with rfl | rfl
  · refine (copyCheck_fresh b w (by rw [Lib.cell_of_heap hc]; rfl) (by simp [World.shape?, hc]) (Lib.frozen_of_heap hc 0)).mono ?_
    rintro e w' ⟨rfl, rfl⟩
    have hk : ∀ k, k ≠ b → (w.setCell ⟨b, 0, none⟩ (.pointer (some ⟨b, 0, none⟩))).heap[k]? = w.heap[k]? := fun k hk => Below.heap_setCell _ _ _ _ hk
    refine ⟨rfl, ?_, ownsRow_of ho (fun g hg => hk g (fun e => hne (e ▸ hg))), (Below.refl B w).setCell (p := ⟨b, 0, none⟩) hB _, by simp [World.setCell], hk⟩
    simp [World.setCell, Array.getElem?_modify, hc]
  · refine (copyCheck_used b w (by rw [Lib.cell_of_heap hc]; rfl)).mono ?_
    rintro e w' ⟨rfl, rfl⟩
    exact ⟨rfl, hc, ho, Below.refl B _, rfl, fun _ _ => rfl⟩

set_option maxHeartbeats 2000000 in
set_option maxRecDepth 100000 in
theorem writeStringV_any (B b : Nat) (v : Value) (l : List UInt8) (s : ByteArray) (w : World) (h : BldV w B b v l) (hlen : l.length + s.size ≤ 140737488355328) (hBw : B ≤ w.heap.size) :
    Calls Tryd.prog 41 #[.pointer (some ⟨b, 0, none⟩), .string s] w fun e w' => e = .returned (.tuple #[.int .i64 s.size, .nilIface]) ∧ ∃ v', BldV w' B b v' (l ++ s.data.toList) ∧ (v' = .slice none 0 0 ↔ v = .slice none 0 0 ∧ s.size = 0) ∧ Lies w.heap.size v v' ∧ Below B w w' ∧ KeptBut w w' b v.ownBlock := by
  obtain ⟨i0, hi, hz0, hz1, hz2⟩ := info_parts Tryd.infoU8
  have HL := Lib.hid hlen
  have hB : B ≤ b := by
    obtain ⟨p, hp, hB, hc, ho⟩ := h
    exact hB
  clear hlen
  go_enter Tryd.func41, Tryd.ntmps41
  go_wp2_with (first
    | (go_at_call 62; (with_reducible refine (copyCheckV_any B b v l _ h).mono ?_); rintro e w1 ⟨rfl, hbk, hown, hb1, hsz, hk1⟩; have HK1 := Lib.hid hk1; have HSZ := Lib.hid hsz; clear hk1 hsz; have c0 : w1.cell? ⟨b, 0, none⟩ = some (.pointer (some ⟨b, 0, none⟩)) := (by rw [Lib.cell_of_heap hbk]; rfl); have c1 : w1.cell? ⟨b, 1, none⟩ = some v := (by rw [Lib.cell_of_heap hbk]; rfl))
    | (at_builtin; refine wpList_append_lies rfl _ _ 42 9 rfl B 5 i0 Tryd.underlying42 Tryd.underlying9 hi hz0 hz1 hz2 _ _ _ rfl hown s rfl (by have := HL.out; unfold maxLen; omega) HL.out (by have := hb1.size; omega) ?_))
  intro v' w2 hown' hgrow hnil hlies
  have hne : v.ownBlock ≠ some b := Lib.ownBlock_ne hown hbk (by decide)
  have hlt : b < w1.heap.size := heap_lt hbk
  have hb2 : w2.heap[b]? = some (.cells #[.pointer (some ⟨b, 0, none⟩), v] 83 (0, 0)) := by
    rw [hgrow.block b hlt (fun e => hne e.symm)]
    exact hbk
  have d0 : w2.cell? ⟨b, 0, none⟩ = some (.pointer (some ⟨b, 0, none⟩)) := by rw [Lib.cell_of_heap hb2]; rfl
  have d1 : w2.cell? ⟨b, 1, none⟩ = some v := by rw [Lib.cell_of_heap hb2]; rfl
  have f1 : w2.frozen? ⟨b, 1, none⟩ = false := Lib.frozen_of_heap hb2 1
  obtain ⟨ao, n', cap, rfl⟩ : ∃ ao n' cap, v' = .slice ao n' cap := by
    rcases hown'.2 with ⟨hv, _⟩ | ⟨g, cap, cur, hv, _⟩
    · exact ⟨_, _, _, hv⟩
    · exact ⟨_, _, _, hv⟩
  have HN := Lib.hid hnil
  have HLi := Lib.hid hlies
  clear hnil hlies
  go_wp2
  go_ret2
  have hk3 : ∀ k, k ≠ b → (w2.setCell ⟨b, 1, none⟩ (.slice ao n' cap)).heap[k]? = w2.heap[k]? := fun k hk => Below.heap_setCell _ _ _ _ hk
  have hne' : (Value.slice ao n' cap).ownBlock ≠ some b := Lib.ownBlock_ne hown' hb2 (by decide)
  have hz : s.size = 0 ↔ s = ByteArray.empty := by simp
  refine ⟨rfl, .slice ao n' cap, ⟨_, .inr rfl, hB, ?_, ?_⟩, by rw [hz]; exact HN.out, ?_, ?_, ?_⟩
  · simp [World.setCell, Array.getElem?_modify, hb2]
  · rw [Lib.byteCells_append]
    have hl : (l ++ s.data.toList).length = l.length + s.size := by rw [List.length_append, Array.length_toList]; rfl
    rw [hl]
    exact ownsRow_of hown' (fun g hg => hk3 g (fun e => hne' (e ▸ hg)))
  · rw [← HSZ.out]; exact HLi.out
  · exact (hb1.grown hgrow (by have := hb1.size; omega) (fun k hk => (hown.lt k hk).1)).setCell (p := ⟨b, 1, none⟩) hB _
  · intro g hg hgb hgr
    exact (hk3 g hgb).trans ((hgrow.block g (by have := HSZ.out; omega) hgr).trans (HK1.out g hgb))

theorem freeze_heap (w : World) (a : Addr) (n k : Nat) (h : k ≠ a.block) : (w.freeze a n).heap[k]? = w.heap[k]? := by
  unfold World.freeze
  split
  · rfl
  · simp [Array.getElem?_modify, Ne.symm h]

set_option maxHeartbeats 2000000 in
set_option maxRecDepth 100000 in
theorem bldStringV_nil (b : Nat) (p : Value) (w : World) (hbk : w.heap[b]? = some (.cells #[p, .slice none 0 0] 83 (0, 0))) :
    Calls Tryd.prog 42 #[.pointer (some ⟨b, 0, none⟩)] w fun e w' => e = .returned (.string ⟨#[]⟩) ∧ w' = w.drew := by
  have hUS : ∀ W : World, (Builtin.unsafeString_ #[112, 3] 9 #[.pointer none, .int .i64 0]).run Tryd.prog W = .ok (.string .empty) W := fun W => Lib.run_unsafeString_none W _ _ _ none
  have c1 : w.drew.cell? ⟨b, 1, none⟩ = some (.slice none 0 0) := by
    have : w.drew.heap[b]? = some (.cells #[p, .slice none 0 0] 83 (0, 0)) := hbk
    rw [Lib.cell_of_heap this]; rfl
  have hSD : (Builtin.unsafeSliceData_ #[42] 112 #[.slice none 0 0]).run Tryd.prog w.drew = .ok (.pointer none) w.drew := rfl
  go_enter Tryd.func42, Tryd.ntmps42
  go_wp2
  go_region
  all_goals (go_wp2; go_ret; exact ⟨rfl, rfl⟩)

theorem cells1 : Tryd.prog.cellsOf 5 = 1 := by kernel_rfl

set_option maxHeartbeats 2000000 in
set_option maxRecDepth 100000 in
theorem bldStringV_row (B b : Nat) (v : Value) (l : List UInt8) (w : World) (h : BldV w B b v l) (h0 : l ≠ []) :
    Calls Tryd.prog 42 #[.pointer (some ⟨b, 0, none⟩)] w fun e w' => e = .returned (.string ⟨l.toArray⟩) ∧ Below B w w' ∧ KeptBut w w' b v.ownBlock := by
  obtain ⟨p, hp, hB, hbk, hown⟩ := h
  have hl0 : l.length ≠ 0 := by simpa using h0
  obtain ⟨g, cap, cur, rfl, hbg, hg, hnc, hcm, hcs, htake⟩ : ∃ g cap cur, v = .slice (some ⟨g, 0, none⟩) l.length cap ∧ B ≤ g ∧ w.heap[g]? = some (.cells cur 5 (0, 0)) ∧ l.length ≤ cap ∧ cap ≤ maxLen ∧ cur.size = cap * 1 ∧ cur.toList.take (l.length * 1) = Lib.byteCells l := by
    rcases hown.2 with ⟨_, hz⟩ | ⟨g, cap, cur, hv, r⟩
    · exact absurd hz hl0
    · exact ⟨g, cap, cur, hv, r⟩
  have c1 : w.drew.cell? ⟨b, 1, none⟩ = some (.slice (some ⟨g, 0, none⟩) l.length cap) := by
    have : w.drew.heap[b]? = some (.cells #[p, .slice (some ⟨g, 0, none⟩) l.length cap] 83 (0, 0)) := hbk
    rw [Lib.cell_of_heap this]; rfl
  have hSD : (Builtin.unsafeSliceData_ #[42] 112 #[.slice (some ⟨g, 0, none⟩) l.length cap]).run Tryd.prog w.drew = .ok (.pointer (some ⟨g, 0, none⟩)) w.drew :=
    Lib.run_unsafeSliceData_row _ _ _ _ _ _ (by omega)
  have hUS : (Builtin.unsafeString_ #[112, 3] 9 #[.pointer (some ⟨g, 0, none⟩), .int .i64 l.length]).run Tryd.prog w.drew = .ok (.string ⟨l.toArray⟩) (w.drew.freeze ⟨g, 0, none⟩ l.length) := by
    refine Lib.run_unsafeString_row w.drew 112 3 9 5 Tryd.underlying112 cells1 g cur.size (by have hg' : w.drew.heap[g]? = some (.cells cur 5 (0, 0)) := hg; simp [World.shape?, hg']) l h0 (by omega) (by unfold maxLen at hcm; omega) ?_
    intro j x hx
    have := hown.cells (g := g) rfl j (.int .u8 x.toNat) (by simp [Lib.byteCells, hx])
    exact this
  go_enter Tryd.func42, Tryd.ntmps42
  go_wp2
  go_region
  all_goals (go_wp2; go_ret; exact ⟨rfl, Lib.below_freeze (Below.drew (Below.refl B w)) (p := ⟨g, 0, none⟩) hbg _, fun k _ _ hk => freeze_heap w.drew ⟨g, 0, none⟩ _ k (fun e => hk (by rw [e]; rfl))⟩)

theorem bldStringV_any (B b : Nat) (v : Value) (l : List UInt8) (w : World) (h : BldV w B b v l) (hn : l = [] → v = .slice none 0 0) :
    Calls Tryd.prog 42 #[.pointer (some ⟨b, 0, none⟩)] w fun e w' => e = .returned (.string ⟨l.toArray⟩) ∧ Below B w w' ∧ KeptBut w w' b v.ownBlock := by
  by_cases h0 : l = []
  · obtain ⟨p, hp, hB, hbk, hown⟩ := h
    rw [hn h0] at hbk
    refine (bldStringV_nil b p w hbk).mono ?_
    rintro e w' ⟨rfl, rfl⟩
    exact ⟨by rw [h0], (Below.refl B w).drew, fun _ _ _ _ => rfl⟩
  · exact bldStringV_row B b v l w h h0

/-- BTwo builders, whose rows are two. -/
def BTwo (w : World) (B b1 b2 : Nat) (l1 l2 : List UInt8) : Prop :=
  b1 ≠ b2 ∧ ∃ v1 v2, BldV w B b1 v1 l1 ∧ BldV w B b2 v2 l2 ∧ (l1 = [] → v1 = .slice none 0 0) ∧ (l2 = [] → v2 = .slice none 0 0) ∧ ∀ g, v1.ownBlock = some g → v2.ownBlock ≠ some g

theorem BTwo.symm {w : World} {B b1 b2 : Nat} {l1 l2 : List UInt8} (h : BTwo w B b1 b2 l1 l2) : BTwo w B b2 b1 l2 l1 := by
  obtain ⟨hne, v1, v2, h1, h2, n1, n2, ha⟩ := h
  exact ⟨hne.symm, v2, v1, h2, h1, n2, n1, fun g h3 h4 => ha g h4 h3⟩
theorem BTwo.next {w w' : World} {B b1 b2 : Nat} {l1 l2 : List UInt8} (h : BTwo w B b1 b2 l1 l2) (hb : Below w.heap.size w w') : BTwo w' B b1 b2 l1 l2 := by
  obtain ⟨hne, v1, v2, h1, h2, n1, n2, ha⟩ := h
  exact ⟨hne, v1, v2, h1.of (hb.block _ h1.lt) (fun g hg => hb.block _ (h1.row g hg).2), h2.of (hb.block _ h2.lt) (fun g hg => hb.block _ (h2.row g hg).2), n1, n2, ha⟩

/-- Blocks of other types than bytes stay where but the builder and its row turn. -/
theorem KeptBut.other {w w' : World} {B b : Nat} {v : Value} {l : List UInt8} (hk : KeptBut w w' b v.ownBlock) (h : BldV w B b v l) {g : Nat} {cs : Array Value} {t : TypeId} (ht : t ≠ 5) (hgb : g ≠ b) (hg : w.heap[g]? = some (.cells cs t (0, 0))) : w'.heap[g]? = some (.cells cs t (0, 0)) :=
  (hk g (heap_lt hg) hgb (fun e => h.ne hg ht e.symm)).trans hg

/-- The other builder stays. -/
theorem BldV.kept {w w' : World} {B b1 b2 : Nat} {v1 v2 : Value} {l1 l2 : List UInt8} (h1 : BldV w B b1 v1 l1) (h2 : BldV w B b2 v2 l2) (hne : b1 ≠ b2) (ha : ∀ g, v1.ownBlock = some g → v2.ownBlock ≠ some g) (hk : KeptBut w w' b1 v1.ownBlock) : BldV w' B b2 v2 l2 := by
  have e1 : ∀ g, v2.ownBlock = some g → g ≠ b1 := by
    intro g hg e
    obtain ⟨p, hp, hB, hc, ho⟩ := h1
    exact h2.ne hc (by decide) (by rw [hg, e])
  have e2 : some b2 ≠ v1.ownBlock := by
    obtain ⟨p, hp, hB, hc, ho⟩ := h2
    exact fun e => h1.ne hc (by decide) e.symm
  exact h2.of (hk b2 h2.lt (fun e => hne e.symm) e2) (fun g hg => hk g (h2.row g hg).2 (e1 g hg) (fun e => ha g e.symm hg))

theorem BTwo.write (B b1 b2 : Nat) (l1 l2 : List UInt8) (s : ByteArray) (w : World) (h : BTwo w B b1 b2 l1 l2) (hlen : l1.length + s.size ≤ 140737488355328) (hBw : B ≤ w.heap.size) :
    Calls Tryd.prog 41 #[.pointer (some ⟨b1, 0, none⟩), .string s] w fun e w' => e = .returned (.tuple #[.int .i64 s.size, .nilIface]) ∧ BTwo w' B b1 b2 (l1 ++ s.data.toList) l2 ∧ Below B w w' ∧ ∀ (g : Nat) (cs : Array Value) (t : TypeId), t ≠ 5 → g ≠ b1 → w.heap[g]? = some (.cells cs t (0, 0)) → w'.heap[g]? = some (.cells cs t (0, 0)) := by
  obtain ⟨hne, v1, v2, h1, h2, n1, n2, ha⟩ := h
  refine (writeStringV_any B b1 v1 l1 s w h1 hlen hBw).mono ?_
  rintro e w' ⟨rfl, v', h1', hnil, hl, hb, hk⟩
  refine ⟨rfl, ⟨hne, v', v2, h1', h1.kept h2 hne ha hk, ?_, n2, ?_⟩, hb, fun g cs t ht hgb hg => hk.other h1 ht hgb hg⟩
  · intro e
    have e1 := List.append_eq_nil_iff.1 e
    exact hnil.2 ⟨n1 e1.1, by have := congrArg List.length e1.2; rw [Array.length_toList] at this; exact this⟩
  · intro g hg hg2
    rcases hl with e | ⟨g', e, hge⟩
    · exact ha g (e ▸ hg) hg2
    · rw [e] at hg
      injection hg with hg
      have := (h2.row g hg2).2
      omega
theorem BTwo.read (B b1 b2 : Nat) (l1 l2 : List UInt8) (w : World) (h : BTwo w B b1 b2 l1 l2) :
    Calls Tryd.prog 42 #[.pointer (some ⟨b1, 0, none⟩)] w fun e w' => e = .returned (.string ⟨l1.toArray⟩) ∧ Bld w' B b2 l2 ∧ Below B w w' := by
  obtain ⟨hne, v1, v2, h1, h2, n1, n2, ha⟩ := h
  refine (bldStringV_any B b1 v1 l1 w h1 n1).mono ?_
  rintro e w' ⟨rfl, hb, hk⟩
  refine ⟨rfl, ?_, hb⟩
  have h3 := h1.kept h2 hne ha hk
  obtain ⟨p, hp, hB, hc, ho⟩ := h3
  have hno := Lib.ownBlock_ne ho hc (by decide)
  have hat : Lib.BuilderAt 83 5 B b2 p (Lib.byteCells l2) w' := ⟨hB, v2, hc, by rw [Lib.byteCells_length]; exact ho, hno⟩
  rcases hp with rfl | rfl
  · exact .inl hat
  · exact .inr hat
theorem BldV.new (w : World) (B : Nat) (hB : B ≤ w.heap.size) : BldV (w.alloc (.cells #[.pointer none, .slice none 0 0] 83)) B w.heap.size (.slice none 0 0) [] :=
  ⟨_, .inl rfl, hB, by show (w.heap.push _)[w.heap.size]? = _; simp, World.ownsRow_nil _ _ _ _⟩
theorem BTwo.new (w : World) (B : Nat) (hB : B ≤ w.heap.size) :
    BTwo ((w.alloc (.cells #[.pointer none, .slice none 0 0] 83)).alloc (.cells #[.pointer none, .slice none 0 0] 83)) B w.heap.size (w.heap.size + 1) [] [] := by
  have h1 := BldV.new w B hB
  have hs : (w.alloc (.cells #[.pointer none, .slice none 0 0] 83)).heap.size = w.heap.size + 1 := Array.size_push _
  have h2 := BldV.new (w.alloc (.cells #[.pointer none, .slice none 0 0] 83)) B (by omega)
  rw [hs] at h2
  refine ⟨by omega, _, _, h1.of (Lib.alloc_old _ _ _ (by omega)) (fun g hg => by simp [Value.ownBlock] at hg), h2, fun _ => rfl, fun _ => rfl, fun g hg => by simp [Value.ownBlock] at hg⟩
end Go.Proofs.YtfflpooiebeagaaDoor
namespace Go.Proofs.YtfflpooiebeagaaDoor
open Go.RowKit
set_option maxHeartbeats 400000 in
theorem fill_main (s : ByteArray) (n : Nat) (hs : s.size ≤ 1048576) (h1 : 1 ≤ n) (hn : n ≤ 1048576) (hm : s.size % n ≠ 0) (w : World) :
    Calls Tryd.prog 55 #[.string s, .int .i64 n] w fun e w' => e = .returned (.string (fillI s n)) ∧ Below w.heap.size w w' := by
  have hlt : s.size % n < n := Nat.mod_lt _ (by omega)
  have a1 : ((n : Int) < 1) = False := by simp; omega
  have hmod : ((s.size : Int) % (n : Int) == 0) = false := by
    have : ((s.size : Int) % (n : Int)) = ((s.size % n : Nat) : Int) := by simp
    rw [this]; simp; omega
  have a2 : decide ((n : Int) < 1) = false := by simp; omega
  go_enter Tryd.func55, Tryd.ntmps55
  go_wp2_with fail
  rw [show ((n : Int) - (s.size : Int) % (n : Int)) = ((n - s.size % n : Nat) : Int) from by omega]
  refine (Tryd.strings_Repeat _ _ _ (by omega) (by show 1 * _ ≤ _; omega)).mono ?_
  rintro e w' ⟨rfl, hb⟩
  rw [show (ByteArray.mk #[0]).data.toList = [(0 : UInt8)] from rfl, repeatL_zero]
  go_wp2_with fail
  go_ret
  exact ⟨by rw [fillI, if_neg (by omega), Int.toNat_natCast, fillMore, if_neg hm]; rfl, hb⟩

theorem fill_even (s : ByteArray) (n : Nat) (h1 : 1 ≤ n) (hm : s.size % n = 0) (w : World) :
    Calls Tryd.prog 55 #[.string s, .int .i64 n] w fun e w' => e = .returned (.string (fillI s n)) ∧ Below w.heap.size w w' := by
  have a1 : ((n : Int) < 1) = False := by simp; omega
  have hmod : ((s.size : Int) % (n : Int) == 0) = true := by
    have : ((s.size : Int) % (n : Int)) = ((s.size % n : Nat) : Int) := by simp
    rw [this]; simp; omega
  have a2 : decide ((n : Int) < 1) = false := by simp; omega
  go_enter Tryd.func55, Tryd.ntmps55
  go_wp2_with fail
  go_ret
  exact ⟨by rw [fillI, if_neg (by omega), Int.toNat_natCast, fillMore, if_pos hm, app_zeros0]; rfl, Below.refl _ _⟩

theorem fill_none (s : ByteArray) (n : Int) (h1 : n < 1) (w : World) :
    Calls Tryd.prog 55 #[.string s, .int .i64 n] w fun e w' => e = .returned (.string (fillI s n)) ∧ Below w.heap.size w w' := by
  have a2 : decide (n < 1) = true := by simp; omega
  go_enter Tryd.func55, Tryd.ntmps55
  go_wp2_with fail
  go_ret
  exact ⟨by rw [fillI, if_pos h1]; rfl, Below.refl _ _⟩

/-- Fill: every text of up to 2^20 bytes, every n up to 2^20. -/
theorem fill_any (s : ByteArray) (n : Int) (hs : s.size ≤ 1048576) (hn : n ≤ 1048576) (w : World) :
    Calls Tryd.prog 55 #[.string s, .int .i64 n] w fun e w' => e = .returned (.string (fillI s n)) ∧ Below w.heap.size w w' := by
  by_cases h : n < 1
  · exact fill_none s n h w
  · obtain ⟨m, rfl⟩ := Int.eq_ofNat_of_zero_le (show 0 ≤ n from by omega)
    by_cases hm : s.size % m = 0
    · exact fill_even s m (by omega) hm w
    · exact fill_main s m hs (by omega) (by omega) hm w
end Go.Proofs.YtfflpooiebeagaaDoor
