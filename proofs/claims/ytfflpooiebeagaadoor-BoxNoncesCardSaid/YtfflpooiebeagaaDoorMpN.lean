/- Maps of the call's own, whose keys are structs of strings: told by what stands at each key. -/
import Derived.Maps.RangeWalk
import Derived.Maps.OwnOps
import Derived.DeepKeys4
import Derived.Test.YtfflpooiebeagaaDoorM1
namespace Go.Proofs.YtfflpooiebeagaaDoor
open Go.RowKit

section
open Go.Maps (Keyed)
variable {P : Program} {k : TypeId} {w : World} {b n : Nat} {F : List UInt8 → Option Value}

/-- Each element stands for itself. -/
def heldR (v : Value) : Option (DataW Value × List MemPlace) := some (.held v, [])

/-- Block b is a map of n entries; at each key stands what F tells. -/
def MapIs (w : World) (P : Program) (k : TypeId) (b n : Nat) (F : List UInt8 → Option Value) : Prop :=
  ∃ D : DataW Value, w.ownsMap P k heldR b n D ∧ Maps.size D = n ∧ (∀ kb, Maps.has D (.string kb) = (F kb).isSome) ∧ ∀ kb v, F kb = some v → ∀ z, D.atKey (.string kb) z = .held v

theorem MapIs.new (w : World) (P : Program) (k : TypeId) : MapIs (w.alloc (.map #[] 0)) P k w.heap.size 0 (fun _ => none) :=
  ⟨.map [], World.ownsMap_made _ _ _ _, rfl, fun _ => rfl, fun _ _ h => by cases h⟩
theorem MapIs.lt (h : MapIs w P k b n F) : b < w.heap.size := by obtain ⟨D, h, _⟩ := h; exact h.lt
theorem MapIs.of {w' : World} (h : MapIs w P k b n F) (hb : w'.heap[b]? = w.heap[b]?) : MapIs w' P k b n F := by
  obtain ⟨D, ⟨es, clock, h1, h2⟩, h3⟩ := h
  exact ⟨D, ⟨es, clock, hb.trans h1, h2⟩, h3⟩
theorem MapIs.next {w' : World} {B : Nat} (h : MapIs w P k b n F) (hb : Below B w w') (hB : b < B) : MapIs w' P k b n F := h.of (hb.block b hB)
theorem MapIs.drew (h : MapIs w P k b n F) : MapIs w.drew P k b n F := h.of rfl
theorem MapIs.alloc (h : MapIs w P k b n F) (o : Obj) : MapIs (w.alloc o) P k b n F := h.of (Below.heap_alloc w o b h.lt)
theorem MapIs.at (h : MapIs w P k b n F) : ∃ D : DataW Value, w.ownsMap P k heldR b n D ∧ Maps.size D = n ∧ (∀ kb, Maps.has D (.string kb) = (F kb).isSome) ∧ ∀ kb z, D.atKey (.string kb) (.held z) = .held ((F kb).getD z) := by
  obtain ⟨D, h, hs, hh, ha⟩ := h
  refine ⟨D, h, hs, hh, fun kb z => ?_⟩
  cases hF : F kb with
  | none => exact Maps.atKey_of_not_has (by rw [hh, hF]; rfl) _
  | some v => exact ha kb v hF _

/-- The block is no block of cells. -/
theorem MapIs.ne {g : Nat} {cs : Array Value} {t : TypeId} {fr : Nat × Nat} (h : MapIs w P k b n F) (hg : w.heap[g]? = some (.cells cs t fr)) : b ≠ g := by
  obtain ⟨D, ⟨es, clock, h1, _⟩, _⟩ := h
  intro e
  rw [e, hg] at h1
  cases h1
theorem MapIs.ne_map {k' : TypeId} {b' n' : Nat} {F' : List UInt8 → Option Value} (_ : MapIs w P k b n F) (_ : MapIs w P k' b' n' F') (hne : n ≠ n') : b ≠ b' := by
  rename_i h h'
  obtain ⟨D, ⟨es, clock, h1, h2, h3, h4⟩, hs, _⟩ := h
  obtain ⟨D', ⟨es', clock', h1', h2', h3', h4'⟩, hs', _⟩ := h'
  intro e
  subst e
  rw [h1] at h1'
  cases h1'
  rw [h4] at hs
  rw [h4'] at hs'
  have e1 : Maps.size (DataW.map ((es.toList.map (WideElems.rg P k heldR)).foldr DataW.insert [])) = es.size := by rw [Maps.size_eq, length_sorted]; simp
  have e2 : Maps.size (DataW.map ((es.toList.map (WideElems.rg P k' heldR)).foldr DataW.insert [])) = es.size := by rw [Maps.size_eq, length_sorted]; simp
  omega

/-- What stands at the keys behind a store. -/
def putF (F : List UInt8 → Option Value) (kb : List UInt8) (v : Value) : List UInt8 → Option Value := fun x => if x = kb then some v else F x
def putN (F : List UInt8 → Option Value) (kb : List UInt8) (n : Nat) : Nat := if (F kb).isSome = true then n else n + 1

theorem MapIs.store {t e : TypeId} (h : MapIs w P k b n F) (K : Keyed P k) (ht : P.underlying t = some (.map k e)) (hn : n < maxLen) {key val : Value} {kb : List UInt8} (hkey : keyOf P k key = some (.string kb)) :
    ∃ w', (Instr.mapUpdate t (.map (some b)) key val).run P w = .ok () w' ∧ MapIs w' P k b (putN F kb n) (putF F kb val) ∧ w.grownBy w' (some b) ∧ w'.heap.size = w.heap.size := by
  obtain ⟨D, h, hs, hh, ha⟩ := h
  have hkl := K.key hkey
  have hm := h.isMap
  obtain ⟨w', hrun, hown, hturn⟩ := h.store (R := heldR) K ht hn (val := val) hkey (d := .held val) (ps := []) rfl
  have hsz : Maps.size (D.put (.string kb) (.held val)) = putN F kb n := by
    rw [Maps.size_put (h.tidy K), hh, hs]; rfl
  have hsize : w'.heap.size = w.heap.size := by
    obtain ⟨es, clock, es', clock', _, rfl⟩ := hturn
    simp [ChangeMaps.setBlock]
  have hown' : w'.ownsMap P k heldR b (putN F kb n) (D.put (.string kb) (.held val)) := by
    have h3 : Maps.size (D.put (.string kb) (.held val)) = putN F kb n := hsz
    obtain ⟨es, clock, h1, h2, h4, h5⟩ := hown
    refine ⟨es, clock, h1, h2, ?_, h5⟩
    rw [h5, Maps.size_eq, length_sorted, List.length_map, Array.length_toList] at h3
    omega
  refine ⟨w', hrun, ⟨_, hown', hsz, fun x => ?_, fun x v hx z => ?_⟩, hturn.grown, hsize⟩
  · by_cases e : x = kb
    · subst e
      rw [Maps.has_put_same hm hkl]; simp [putF]
    · rw [Maps.has_put_other (fun h => e (by injection h)), hh]; simp [putF, e]
  · by_cases e : x = kb
    · subst e
      rw [Maps.atKey_put_same hm hkl]
      simp only [putF, if_true, Option.some.injEq] at hx
      rw [hx]
    · rw [Maps.atKey_put_other (fun h => e (by injection h))]
      simp only [putF, if_neg e] at hx
      exact ha x v hx z

variable {ops : Array Oper} {rest : List Oper} {o : Oper} {a : Act} {Q : Exit → Act → World → Prop}

/-- 'v, ok := m[k]'. -/
theorem wpList_look_is_ok (hg : o.guard = none) (m x : Operand) (t : TypeId) (hop : o.op = Op.lookup t m x true)
    (k e : TypeId) (K : Keyed P k) (ht : P.underlying t = some (.map k e)) {z : Value} (hz : (zeroValue e).run P w = .ok z w) (b n : Nat) (F : List UInt8 → Option Value)
    (hm : a.eval m = .map (some b)) (h : MapIs w P k b n F) (key : Value) (kb : List UInt8) (hx : a.eval x = key) (hkey : keyOf P k key = some (.string kb))
    (hK : wpList P ops Q rest (a.put o.dst (.tuple #[(F kb).getD z, .bool (F kb).isSome])) w) : wpList P ops Q (o :: rest) a w := by
  obtain ⟨D, hD, hs, hh, ha⟩ := h.at
  refine wpList_lookup_own_ok w hg m x t hop k e K ht heldR hz (.held z) [] rfl b n D hm hD key _ hx hkey fun v ps hv => ?_
  rw [ha] at hv
  simp only [heldR, Option.some.injEq, Prod.mk.injEq, DataW.held.injEq] at hv
  rw [hv.1, hh]
  exact hK

/-- 'm[k]'. -/
theorem wpList_look_is (hg : o.guard = none) (m x : Operand) (t : TypeId) (hop : o.op = Op.lookup t m x false)
    (k e : TypeId) (K : Keyed P k) (ht : P.underlying t = some (.map k e)) {z : Value} (hz : (zeroValue e).run P w = .ok z w) (b n : Nat) (F : List UInt8 → Option Value)
    (hm : a.eval m = .map (some b)) (h : MapIs w P k b n F) (key : Value) (kb : List UInt8) (hx : a.eval x = key) (hkey : keyOf P k key = some (.string kb))
    (hK : wpList P ops Q rest (a.put o.dst ((F kb).getD z)) w) : wpList P ops Q (o :: rest) a w := by
  refine wpList_plain hg fun K' hK' => ?_
  obtain ⟨D, hD, hs, hh, ha⟩ := h.at
  obtain ⟨v, ps, hrun, hv⟩ := hD.lookup K ht hz (zd := .held z) (zp := []) rfl hkey
  rw [ha] at hv
  simp only [heldR, Option.some.injEq, Prod.mk.injEq, DataW.held.injEq] at hv
  unfold Oper.wp
  simp [execOp, hop, hm, hx, hrun, Result.andThen]
  rw [hv.1]
  exact hK' _ _ hK

/-- 'm[k] = v'. -/
theorem wpList_store_is (hg : o.guard = none) (m x v : Operand) (t : TypeId) (hop : o.op = Op.mapUpdate t m x v)
    (k e : TypeId) (K : Keyed P k) (ht : P.underlying t = some (.map k e)) (b n : Nat) (F : List UInt8 → Option Value)
    (hm : a.eval m = .map (some b)) (h : MapIs w P k b n F) (hn : n < maxLen) (key val : Value) (kb : List UInt8) (hx : a.eval x = key) (hv : a.eval v = val) (hkey : keyOf P k key = some (.string kb))
    (hK : ∀ w', MapIs w' P k b (putN F kb n) (putF F kb val) → w.grownBy w' (some b) → w'.heap.size = w.heap.size → wpList P ops Q rest (a.put o.dst undef) w') :
    wpList P ops Q (o :: rest) a w := by
  refine wpList_plain hg fun K' hK' => ?_
  obtain ⟨w', hrun, r1, r2, r3⟩ := h.store K ht hn (val := val) hkey
  unfold Oper.wp
  simp [execOp, hop, hm, hx, hv, hrun, Result.andThen]
  exact hK' _ _ (hK w' r1 r2 r3)

/-- 'len(m)'. -/
theorem wpList_len_is (hg : o.guard = none) (m : Operand) (t : TypeId) (hop : o.op = Op.call { callee := Callee.builtin Builtin.len, args := #[m], argTypes := #[t] })
    (k e : TypeId) (ht : P.underlying t = some (.map k e)) (b n : Nat) (F : List UInt8 → Option Value) (hm : a.eval m = .map (some b)) (h : MapIs w P k b n F)
    (hK : wpList P ops Q rest (a.put o.dst (.int .i64 n)) w) : wpList P ops Q (o :: rest) a w := by
  obtain ⟨D, hD, hs, _⟩ := h
  refine wpList_len_own w hg m t hop k e ht heldR b n D hm hD ?_
  rw [hs]
  exact hK
end
end Go.Proofs.YtfflpooiebeagaaDoor
