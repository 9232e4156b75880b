/- Layer 7's laws: acts among the arguments; where an act lies in a variable; keys of maps. -/
import Derived.Test.YtfflpooiebeagaaDoorLwB
import Derived.Test.YtfflpooiebeagaaDoorMpK
import Derived.Test.YtfflpooiebeagaaDoorBxC
namespace Go.Proofs.YtfflpooiebeagaaDoor
open Go.RowKit

/-- An act as it may come in. -/
structure ActOk (x : ActB) : Prop where
  kind : (Lit.int .i64 x.kind).wf = true
  K : x.K.size ≤ maxLen
  N : x.N.size ≤ maxLen
  D : x.D.size ≤ maxLen
  T : x.T.size ≤ maxLen
/-- A row of acts. -/
def IsActs (w : World) (a : Option Addr) (len cap : Nat) (zs : List ActB) : Prop :=
  (a = none ∧ len = 0 ∧ cap = 0 ∧ zs = []) ∨
  ∃ x : Addr, a = some x ∧ len ≤ cap ∧ cap ≤ maxLen ∧ zs.length = len ∧ (∀ (i : Nat) (y : ActB), zs[i]? = some y → ∀ (j : Nat) (v : Value), (actC y).toList[j]? = some v → w.cell? (x.add (i * 5 + j)) = some v) ∧ (∀ y ∈ zs, ActOk y) ∧ (0 < len → x.block < w.heap.size)
theorem IsActs.len {w : World} {a : Option Addr} {len cap : Nat} {zs : List ActB} (h : IsActs w a len cap zs) : zs.length = len ∧ len ≤ maxLen := by
  rcases h with ⟨_, h1, _, h2⟩ | ⟨x, _, h1, h2, h3, _⟩
  · rw [h1, h2]; exact ⟨rfl, Nat.zero_le _⟩
  · exact ⟨h3, by omega⟩
theorem IsActs.next {w w' : World} {a : Option Addr} {len cap : Nat} {zs : List ActB} (h : IsActs w a len cap zs) (hb : Below w.heap.size w w') : IsActs w' a len cap zs := by
  rcases h with h | ⟨x, h0, h1, h2, h3, h4, h5, h6⟩
  · exact .inl h
  · refine .inr ⟨x, h0, h1, h2, h3, fun i y hi j v hj => ?_, h5, fun h => Nat.lt_of_lt_of_le (h6 h) hb.size⟩
    have hlt := h6 (by have := (List.getElem?_eq_some_iff.1 hi).1; omega)
    have := h4 i y hi j v hj
    have e : (x.add (i * 5 + j)).block = x.block := by unfold Addr.add; split <;> rfl
    exact (World.cell?_of_block (by rw [e]; exact hb.block _ hlt)).trans this
/-- The k-th act is read, as long as what was there stays. -/
theorem IsActs.load {w : World} {a : Option Addr} {len cap : Nat} {zs : List ActB} (h : IsActs w a len cap zs) {k : Nat} (hk : k < len) :
    ∃ (x : Addr) (y : ActB), a = some x ∧ zs[k]? = some y ∧ ActOk y ∧ ∀ w', Below w.heap.size w w' → (Instr.loadAt 29 (.pointer (some (x.add (k * 5))))).run Tryd.prog w' = .ok (actV y) w' := by
  rcases h with ⟨_, h1, _⟩ | ⟨x, h0, h1, h2, h3, h4, h5, h6⟩
  · omega
  · have hi : k < zs.length := by omega
    refine ⟨x, zs[k], h0, List.getElem?_eq_getElem hi, h5 _ (List.getElem_mem hi), fun w' hb => run_load_act w' _ _ fun j v hj => ?_⟩
    have hx : IsActs w' (some x) len cap zs := IsActs.next (.inr ⟨x, rfl, h1, h2, h3, h4, h5, h6⟩) hb
    rcases hx with ⟨e, _⟩ | ⟨x', e, _, _, _, h4', _⟩
    · cases e
    · cases e
      have := h4' k zs[k] (List.getElem?_eq_getElem hi) j v hj
      rwa [Addr.add_add]

/-- A load whose run is known. -/
theorem wpList_load_eq {P : Program} {ops : Array Oper} {rest : List Oper} {o : Oper} {a : Act} {w : World} {Q : Exit → Act → World → Prop} (hgd : o.guard = none) (ty : TypeId) (x : Operand) (ho : o.op = .load ty x)
    (p : Value) (hx : a.eval x = p) (v : Value) (hr : (Instr.loadAt ty p).run P w = .ok v w) (h : wpList P ops Q rest (a.put o.dst v) w) : wpList P ops Q (o :: rest) a w := by
  refine wpList_plain hgd fun K' hK' => ?_
  unfold Oper.wp
  simp [execOp, ho, hx, hr, Result.andThen]
  exact hK' _ _ h

/-- What is left of an act that is not large. -/
theorem largeA_no {x : ActB} (h : largeA x = false) : x.K.size ≤ 100 ∧ x.N.size ≤ 100 ∧ x.D.size ≤ 500 ∧ x.T.size ≤ 500 := by
  simp [largeA] at h; omega
theorem fixedA_sizes {x : ActB} (h : largeA x = false) : (fixedA x).K.size ≤ 100 ∧ (fixedA x).N.size ≤ 100 ∧ (fixedA x).D.size ≤ 500 ∧ (fixedA x).T.size ≤ 500 := by
  have := largeA_no h
  unfold fixedA
  split
  · exact this
  · refine ⟨?_, ?_, this.2.2.1, this.2.2.2⟩
    · show (fixB _ 32).size ≤ 100; rw [fixB_size]; omega
    · show (fixB _ 12).size ≤ 100; rw [fixB_size]; omega

/-- A variable that holds an act. -/
def ActAt (w : World) (g : Nat) (x : ActB) : Prop := Arr w g (actC x) 29
theorem ActAt.c0 {w : World} {g : Nat} {x : ActB} (h : ActAt w g x) : w.cell? ⟨g, 0, none⟩ = some (.int .i64 x.kind) := Arr.cell h rfl
theorem ActAt.c1 {w : World} {g : Nat} {x : ActB} (h : ActAt w g x) : w.cell? ⟨g, 1, none⟩ = some (.string x.K) := Arr.cell h rfl
theorem ActAt.c2 {w : World} {g : Nat} {x : ActB} (h : ActAt w g x) : w.cell? ⟨g, 2, none⟩ = some (.string x.N) := Arr.cell h rfl
theorem ActAt.c3 {w : World} {g : Nat} {x : ActB} (h : ActAt w g x) : w.cell? ⟨g, 3, none⟩ = some (.string x.D) := Arr.cell h rfl
theorem ActAt.c4 {w : World} {g : Nat} {x : ActB} (h : ActAt w g x) : w.cell? ⟨g, 4, none⟩ = some (.string x.T) := Arr.cell h rfl
theorem ActAt.next {w w' : World} {g : Nat} {x : ActB} (h : ActAt w g x) (hb : Below w.heap.size w w') : ActAt w' g x := Arr.next h hb

theorem tl7_ne {a b : ByteArray} (h : ¬ a = b) : (a.toList == b.toList) = false := by
  have e : ∀ s : ByteArray, s.toList = s.data.toList := fun s => by
    obtain ⟨⟨l⟩⟩ := s
    exact ByteArray.toList_mk l
  rw [e, e]
  exact beq_false_of_ne fun e => h (ba_ext e)
noncomputable def keyTy (t : TypeId) : TypeId := match Tryd.prog.underlying t with | some (.map k _) => k | _ => 0
noncomputable def elTy (t : TypeId) : TypeId := match Tryd.prog.underlying t with | some (.map _ e) => e | _ => 0
theorem laidOut7 : laidOutB Tryd.prog = true := by kernel_rfl
end Go.Proofs.YtfflpooiebeagaaDoor
