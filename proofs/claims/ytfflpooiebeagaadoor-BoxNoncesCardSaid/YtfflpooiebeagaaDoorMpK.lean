/- Keys that are structs of strings. -/
import Derived.Test.YtfflpooiebeagaaDoorMpN
namespace Go.Proofs.YtfflpooiebeagaaDoor
open Go.RowKit

section
variable {P : Program}
/-- The fields of a struct type: type, place, and that it has a name. -/
def fieldsOf (P : Program) (k : TypeId) : Option (List (TypeId × Nat × Bool)) :=
  match P.underlying k with
  | some (.struct fs) => some (fs.toList.map fun f => (f.type, f.offset, f.name != "_"))
  | _ => none
theorem fieldsOf_some {k : TypeId} {l : List (TypeId × Nat × Bool)} (h : fieldsOf P k = some l) : ∃ fs, P.underlying k = some (.struct fs) ∧ fs.toList.map (fun f => (f.type, f.offset, f.name != "_")) = l := by
  unfold fieldsOf at h
  split at h
  · rename_i fs hu
    exact ⟨fs, hu, by simpa using h⟩
  · cases h
theorem flat_one {α β : Type} (f : α → β) (l : List α) : (l.map fun i => [f i]).flatten = l.map f := by
  induction l with
  | nil => rfl
  | cons a l ih => rw [List.map_cons, List.flatten_cons, ih]; rfl
theorem range_getD {β : Type} (xs : List ByteArray) (f : ByteArray → β) : ((List.range xs.length).map fun i => f (xs.getD i ByteArray.empty)) = xs.map f := by
  apply List.ext_getElem
  · rw [List.length_map, List.length_map, List.length_range]
  · intro i h1 h2
    have hi : i < xs.length := by rw [List.length_map] at h2; exact h2
    rw [List.getElem_map, List.getElem_map, List.getElem_range, List.getD_eq_getElem?_getD, List.getElem?_eq_getElem hi]; rfl
/-- The bytes of such a key. -/
def kbs (xs : List ByteArray) : List UInt8 := keyBytes (xs.map fun (x : ByteArray) => Lit.string x.data.toList)
/-- What a map needs of its key's type: a struct of n strings. -/
structure StrKey (P : Program) (k S : TypeId) (n : Nat) : Prop where
  keyed : Maps.Keyed P k
  fields : fieldsOf P k = some ((List.range n).map fun i => (S, i, true))
  str : P.underlying S = some .string
  one : P.cellsOf S = 1
  all : P.cellsOf k = n
  isKey : P.keyType k = true
  pos : 0 < P.types.size

theorem keyLits_str {S : TypeId} (hS : P.underlying S = some .string) (d : Nat) {a : ByteArray} (h : a.size ≤ maxLen) : P.keyLits (d + 1) S [.string a] = some [.string a.data.toList] := by
  simp [Program.keyLits, hS, h]

theorem mapM_str {S : TypeId} (hS : P.underlying S = some .string) (d : Nat) (cs : List Value) (xs : List ByteArray) (hcs : cs = xs.map Value.string) (hx : ∀ x ∈ xs, x.size ≤ maxLen) :
    ∀ l : List Nat, (∀ i ∈ l, i < xs.length) → (l.mapM fun i => P.keyLits (d + 1) S ((cs.drop i).take 1)) = some (l.map fun i => [Lit.string (xs.getD i ByteArray.empty).data.toList]) := by
  intro l
  induction l with
  | nil => intro _; rfl
  | cons i l ih =>
    intro h
    have hi := h i (List.mem_cons_self ..)
    have hc : (cs.drop i).take 1 = [.string (xs.getD i ByteArray.empty)] := by
      rw [hcs, ← List.map_drop, List.drop_eq_getElem_cons hi, List.map_cons, List.take_succ_cons, List.take_zero, List.getD_eq_getElem?_getD, List.getElem?_eq_getElem hi]; rfl
    have hz : (xs.getD i ByteArray.empty).size ≤ maxLen := by
      rw [List.getD_eq_getElem?_getD, List.getElem?_eq_getElem hi]; exact hx _ (List.getElem_mem hi)
    rw [List.mapM_cons, hc, keyLits_str hS d hz, ih (fun j hj => h j (List.mem_cons_of_mem _ hj))]
    rfl

theorem StrKey.keyOf {k S : TypeId} {n : Nat} (K : StrKey P k S n) {xs : List ByteArray} (hl : xs.length = n) (hx : ∀ x ∈ xs, x.size ≤ maxLen) :
    Go.keyOf P k (.agg (xs.map Value.string).toArray) = some (.string (kbs xs)) := by
  obtain ⟨fs, hu, hf⟩ := fieldsOf_some K.fields
  have hpos := K.pos
  obtain ⟨d, hd⟩ : ∃ d, P.types.size + 1 = d + 1 + 1 := ⟨P.types.size - 1, by omega⟩
  have hform : (Value.agg (xs.map Value.string).toArray).formed P k = true := by
    simp [Value.formed, hu, K.all, hl]
  have hnm : fs.all (fun f => f.name != "_") = true := by
    rw [Array.all_eq_true_iff_forall_mem]
    intro f hfm
    have : (f.type, f.offset, f.name != "_") ∈ (List.range n).map fun i => (S, i, true) := by
      rw [← hf]; exact List.mem_map.2 ⟨f, by simpa using hfm, rfl⟩
    obtain ⟨i, _, e⟩ := List.mem_map.1 this
    simp only [Prod.mk.injEq] at e
    exact e.2.2.symm
  have hm : (fs.toList.mapM fun f => P.keyLits (d + 1) f.type ((((xs.map Value.string).toArray.toList).drop f.offset).take (P.cellsOf f.type))) = some ((List.range n).map fun i => [Lit.string (xs.getD i ByteArray.empty).data.toList]) := by
    have h1 : (fs.toList.mapM fun f => P.keyLits (d + 1) f.type ((((xs.map Value.string).toArray.toList).drop f.offset).take (P.cellsOf f.type))) =
        ((fs.toList.map (fun f => (f.type, f.offset, f.name != "_"))).mapM fun t => P.keyLits (d + 1) t.1 ((((xs.map Value.string).toArray.toList).drop t.2.1).take (P.cellsOf t.1))) := by
      rw [List.mapM_map]; rfl
    rw [h1, hf, List.mapM_map]
    have h2 := mapM_str (P := P) K.str d (xs.map Value.string).toArray.toList xs rfl hx (List.range n) (fun i hi => by rw [hl]; exact List.mem_range.1 hi)
    rw [← h2]
    simp only [Function.comp_def, K.one]
  have hlen : (xs.map Value.string).toArray.toList.length = P.cellsOf k := by simp [K.all, hl]
  have hkl : P.keyLits (P.types.size + 1) k (xs.map Value.string).toArray.toList = some (xs.map fun (x : ByteArray) => Lit.string x.data.toList) := by
    rw [hd]
    have hflat : ((List.range n).map fun i => [Lit.string (xs.getD i ByteArray.empty).data.toList]).flatten = xs.map fun (x : ByteArray) => Lit.string x.data.toList := by
      rw [flat_one (fun i => Lit.string (xs.getD i ByteArray.empty).data.toList), ← hl]
      exact range_getD xs (fun (x : ByteArray) => Lit.string x.data.toList)
    conv => lhs; unfold Program.keyLits
    rw [hu]
    simp only
    rw [if_pos ⟨hlen, hnm⟩, hm, Option.map_some, hflat]
  unfold Go.keyOf
  rw [hu]
  simp only [K.isKey, hform, Bool.and_self, if_true]
  rw [show (Value.agg (xs.map Value.string).toArray).cells.toList = (xs.map Value.string).toArray.toList from rfl, hkl]
  rfl

theorem StrKey.inj {k S : TypeId} {n : Nat} (K : StrKey P k S n) {xs ys : List ByteArray} (hl : xs.length = n) (hx : ∀ x ∈ xs, x.size ≤ maxLen) (hm : ys.length = n) (hy : ∀ y ∈ ys, y.size ≤ maxLen) (h : kbs xs = kbs ys) : xs = ys := by
  have h1 := K.keyOf hl hx
  rw [h] at h1
  have e := K.keyed.inj h1 (K.keyOf hm hy)
  injection e with e
  have e2 := congrArg Array.toList e
  simp only at e2
  exact (List.map_inj_right (fun a b h => by injection h)).1 e2
end
end Go.Proofs.YtfflpooiebeagaaDoor
