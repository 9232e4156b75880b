/- Going through a map whose keys are structs of strings. -/
import Derived.Test.YtfflpooiebeagaaDoorMpK
namespace Go.Proofs.YtfflpooiebeagaaDoor
open Go.RowKit

section
variable {P : Program}
theorem mapM_some {α β : Type} {f : α → Option β} : ∀ {l : List α} {r : List β}, l.mapM f = some r → ∀ i ∈ l, ∃ y, f i = some y := by
  intro l
  induction l with
  | nil => intro r _ i hi; cases hi
  | cons a l ih =>
    intro r h i hi
    rw [List.mapM_cons] at h
    cases ha : f a with
    | none => rw [ha] at h; cases h
    | some y =>
      rcases List.mem_cons.1 hi with rfl | hi
      · exact ⟨y, ha⟩
      · cases hl : l.mapM f with
        | none => rw [ha, hl] at h; cases h
        | some r' => exact ih hl i hi

theorem keyLits_inv {S : TypeId} (hS : P.underlying S = some .string) {d : Nat} {c : Value} {y : List Lit} (h : P.keyLits (d + 1) S [c] = some y) : ∃ a : ByteArray, c = .string a ∧ a.size ≤ maxLen := by
  unfold Program.keyLits at h
  rw [hS] at h
  cases c <;> simp at h
  exact ⟨_, rfl, h.1⟩

theorem StrKey.lit {k S : TypeId} {n : Nat} (K : StrKey P k S n) {v : Value} {kl : Lit} (h : Go.keyOf P k v = some kl) : ∃ kb, kl = .string kb := by
  obtain ⟨fs, hu, hf⟩ := fieldsOf_some K.fields
  unfold Go.keyOf at h
  rw [hu] at h
  simp only at h
  split at h
  · obtain ⟨ls, _, e⟩ := Option.map_eq_some_iff.1 h
    exact ⟨_, e.symm⟩
  · cases h

theorem StrKey.inv {k S : TypeId} {n : Nat} (K : StrKey P k S n) {v : Value} {kl : Lit} (h : Go.keyOf P k v = some kl) : ∃ xs : List ByteArray, xs.length = n ∧ (∀ x ∈ xs, x.size ≤ maxLen) ∧ v = .agg (xs.map Value.string).toArray := by
  obtain ⟨fs, hu, hf⟩ := fieldsOf_some K.fields
  unfold Go.keyOf at h
  rw [hu] at h
  simp only at h
  split at h
  · rename_i hc
    simp only [Bool.and_eq_true] at hc
    obtain ⟨ls, hls, _⟩ := Option.map_eq_some_iff.1 h
    obtain ⟨cs, rfl⟩ : ∃ cs, v = .agg cs := by
      have := hc.2
      cases v <;> simp [Value.formed, hu] at this
      exact ⟨_, rfl⟩
    have hsz : cs.size = n := by
      have := hc.2
      simp only [Value.formed, hu, beq_iff_eq] at this
      rw [this, K.all]
    obtain ⟨d, hd⟩ : ∃ d, P.types.size + 1 = d + 1 + 1 := ⟨P.types.size - 1, by have := K.pos; omega⟩
    rw [hd] at hls
    conv at hls => lhs; unfold Program.keyLits
    rw [hu] at hls
    simp only at hls
    split at hls
    · obtain ⟨r, hr, _⟩ := Option.map_eq_some_iff.1 hls
      have h1 : (fs.toList.mapM fun f => P.keyLits (d + 1) f.type (((Value.agg cs).cells.toList.drop f.offset).take (P.cellsOf f.type))) =
          ((fs.toList.map (fun f => (f.type, f.offset, f.name != "_"))).mapM fun t => P.keyLits (d + 1) t.1 (((Value.agg cs).cells.toList.drop t.2.1).take (P.cellsOf t.1))) := by
        rw [List.mapM_map]; rfl
      rw [h1, hf, List.mapM_map] at hr
      have hall := mapM_some hr
      have hcell : ∀ i (hi : i < cs.size), ∃ a : ByteArray, cs[i] = .string a ∧ a.size ≤ maxLen := by
        intro i hi
        obtain ⟨y, hy⟩ := hall i (List.mem_range.2 (by omega))
        simp only [Function.comp_def, K.one] at hy
        have e : ((Value.agg cs).cells.toList.drop i).take 1 = [cs[i]] := by
          show (cs.toList.drop i).take 1 = _
          rw [List.drop_eq_getElem_cons (by simpa using hi), List.take_succ_cons, List.take_zero, Array.getElem_toList]
        rw [e] at hy
        exact keyLits_inv K.str hy
      have hex : ∀ l : List Value, (∀ v ∈ l, ∃ a : ByteArray, v = .string a ∧ a.size ≤ maxLen) → ∃ xs : List ByteArray, xs.length = l.length ∧ (∀ x ∈ xs, x.size ≤ maxLen) ∧ l = xs.map Value.string := by
        intro l
        induction l with
        | nil => intro _; exact ⟨[], rfl, (fun _ h => by cases h), rfl⟩
        | cons v l ih =>
          intro h
          obtain ⟨a, rfl, ha⟩ := h v (List.mem_cons_self ..)
          obtain ⟨xs, e1, e2, rfl⟩ := ih fun v hv => h v (List.mem_cons_of_mem _ hv)
          refine ⟨a :: xs, by simp, fun x hx => ?_, by simp⟩
          rcases List.mem_cons.1 hx with rfl | hx
          · exact ha
          · exact e2 x hx
      obtain ⟨xs, e1, e2, e3⟩ := hex cs.toList fun v hv => by
        obtain ⟨i, hi, rfl⟩ := List.getElem_of_mem hv
        rw [Array.getElem_toList]
        exact hcell i (by simpa using hi)
      refine ⟨xs, by rw [e1, Array.length_toList, hsz], e2, ?_⟩
      rw [← e3]
    · cases hls
  · cases h

/-- A loop through the map of block b, its iterator block r: cnt entries are still to come. -/
def MapRng (w : World) (P : Program) (k : TypeId) (b r n : Nat) (F : List UInt8 → Option Value) (cnt : Nat) : Prop :=
  ∃ (D : DataW Value) (left : Lit → Bool), w.ranges P k heldR b r n D left cnt ∧ Maps.size D = n ∧ (∀ kb, Maps.has D (.string kb) = (F kb).isSome) ∧ ∀ kb v, F kb = some v → ∀ z, D.atKey (.string kb) z = .held v
variable {k : TypeId} {w : World} {b r n cnt : Nat} {F : List UInt8 → Option Value}
theorem MapRng.is (h : MapRng w P k b r n F cnt) : MapIs w P k b n F := by
  obtain ⟨D, left, h, h1, h2, h3⟩ := h
  exact ⟨D, h.owns, h1, h2, h3⟩
theorem MapRng.left (h : MapRng w P k b r n F cnt) : w.rangeLeft b r = cnt := by
  obtain ⟨D, left, h, _⟩ := h
  exact h.left_eq
theorem MapRng.lt (h : MapRng w P k b r n F cnt) : b < w.heap.size ∧ r < w.heap.size := by
  obtain ⟨D, left, h, _⟩ := h
  exact ⟨h.owns.lt, h.lt⟩
theorem MapRng.next {w' : World} (h : MapRng w P k b r n F cnt) (hb : Below w.heap.size w w') : MapRng w' P k b r n F cnt := by
  obtain ⟨h1, h2⟩ := h.lt
  obtain ⟨D, left, h, h3⟩ := h
  exact ⟨D, left, h.kept (row := none) ⟨hb.os, hb.tape, hb.output, hb.size, fun i hi _ => hb.block i hi⟩ (by simp) (by simp), h3⟩

variable {ops : Array Oper} {rest : List Oper} {o : Oper} {a : Act} {Q : Exit → Act → World → Prop}
/-- 'range m'. -/
theorem wpList_range_is (hg : o.guard = none) (m : Operand) (t : TypeId) (hop : o.op = Op.range t m) (k e : TypeId) (K : Maps.Keyed P k) (ht : P.underlying t = some (.map k e)) (b n : Nat) (F : List UInt8 → Option Value)
    (hm : a.eval m = .map (some b)) (h : MapIs w P k b n F)
    (hK : ∀ w', MapRng w' P k b w.heap.size n F n → Below w.heap.size w w' → w'.heap.size = w.heap.size + 1 → wpList P ops Q rest (a.put o.dst (.pointer (some ⟨w.heap.size, 0, none⟩))) w') : wpList P ops Q (o :: rest) a w := by
  obtain ⟨D, hD, hs, hh, ha⟩ := h
  refine wpList_range_own w hg m t hop k e K ht heldR b n D hm hD fun w' hr hgr hsz => hK w' ⟨D, _, by rw [← hs]; rw [hs]; exact hs ▸ hr, hs, hh, ha⟩ ⟨hgr.os, hgr.tape, hgr.output, hgr.size, fun i hi => hgr.block i hi (by simp)⟩ hsz

/-- The next entry. -/
theorem wpList_next_is {α β : Type} (hg : o.guard = none) (it : Operand) (hop : o.op = Op.next it false) (k S : TypeId) (m : Nat) (K : StrKey P k S m) (mkK : α → Value) (mkV : β → Value)
    (b r n : Nat) (F : List UInt8 → Option Value) (cnt : Nat) (invK : ∀ key kl, Go.keyOf P k key = some kl → ∃ x, key = mkK x) (invV : ∀ kb v, F kb = some v → ∃ c, v = mkV c)
    (hit : a.eval it = .pointer (some ⟨r, 0, none⟩)) (h : MapRng w P k b r n F cnt)
    (hDone : wpList P ops Q rest (a.put o.dst (.tuple #[.bool false])) w)
    (hMore : ∀ (x : α) (c : β) (kb : List UInt8) (w' : World) (cnt' : Nat), Go.keyOf P k (mkK x) = some (.string kb) → F kb = some (mkV c) → MapRng w' P k b r n F cnt' → cnt' < cnt → w.grownBy w' (some r) → w'.heap.size = w.heap.size →
      (Instr.entry (.pointer (some ⟨r, 0, none⟩))).run P w' = .ok (.tuple #[mkK x, mkV c]) w' → wpList P ops Q rest (a.put o.dst (.tuple #[.bool true, mkK x, mkV c])) w') :
    wpList P ops Q (o :: rest) a w := by
  obtain ⟨D, left, h, hs, hh, ha⟩ := h
  refine wpList_plain hg fun K' hK' => ?_
  unfold Oper.wp
  rcases h.next K.keyed o.type with ⟨h0, hl, hrun⟩ | ⟨key, v, kl, y, w', cnt', hkey, hlk, hv, hat, hrun, hrg, hlt, hgr, hsz, hen⟩
  · simp [execOp, hop, hit, hrun, Result.andThen]
    exact hK' _ _ hDone
  · obtain ⟨x, rfl⟩ := invK key kl hkey
    obtain ⟨kb, rfl⟩ := K.lit hkey
    simp only [heldR, Option.some.injEq] at hv
    subst hv
    have hF : F kb = some v := by
      have h1 := Maps.has_true_of_atKey hat
      rw [hh] at h1
      cases hF : F kb with
      | none => rw [hF] at h1; cases h1
      | some v' =>
        have h2 := ha kb v' hF (.held v)
        rw [hat] at h2
        injection h2 with h2
        rw [h2]
    obtain ⟨c, rfl⟩ := invV kb v hF
    simp [execOp, hop, hit, hrun, Result.andThen]
    exact hK' _ _ (hMore x c kb w' cnt' hkey hF ⟨D, _, hrg, hs, hh, ha⟩ hlt hgr hsz hen)
end
end Go.Proofs.YtfflpooiebeagaaDoor
