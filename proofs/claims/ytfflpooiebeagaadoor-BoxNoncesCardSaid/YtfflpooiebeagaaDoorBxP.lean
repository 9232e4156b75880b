/- box, the landed code: the box in memory; Real, Ideal, Len, Left, Key, sized. -/
import Derived.Test.YtfflpooiebeagaaDoorLwC
import Derived.Test.YtfflpooiebeagaaDoorR7K
import Derived.Test.YtfflpooiebeagaaDoorMC
import Derived.Test.YtfflpooiebeagaaDoorM7
namespace Go.Proofs.YtfflpooiebeagaaDoor
open Go.RowKit

/-- The listed variables that a box wants. -/
def PKB (w : World) : Prop := Tab w ∧ PK w
theorem PKB.next {w w' : World} (h : PKB w) (hb : Below w.heap.size w w') : PKB w' := ⟨h.1.next hb, h.2.next hb⟩
theorem PKB.alloc {w : World} (h : PKB w) (o : Obj) : PKB (w.alloc o) := h.next ((Below.refl w.heap.size w).alloc (Nat.le_refl _) o)

theorem laidOutB7 : laidOutB Tryd.prog = true := by kernel_rfl
theorem mapB : Tryd.prog.underlying 52 = some (.map (keyTy 52) (elTy 52)) := by kernel_rfl
theorem keyB : StrKey Tryd.prog (keyTy 52) 9 2 where
  keyed := Maps.Keyed.of_law (deep_law_laid laidOutB7 (m := 2) (by omega) (of_decide_eq_true (by kernel_rfl)) (by kernel_rfl) (by kernel_rfl))
  fields := by kernel_rfl
  str := Tryd.underlying9
  one := by kernel_rfl
  all := by kernel_rfl
  isKey := by kernel_rfl
  pos := of_decide_eq_true (by kernel_rfl)
theorem zeroB7 (w : World) : (zeroValue (elTy 52)).run Tryd.prog w = .ok (.agg #[.string ⟨#[]⟩, .string ⟨#[]⟩, .string ⟨#[]⟩]) w := by kernel_rfl
def rowV (r : RowB) : Value := .agg #[.string r.d, .string r.t, .string r.s]
def RelB (F : List UInt8 → Option Value) (T : List RowB) : Prop := ∀ k n : ByteArray, k.size ≤ 1000 → n.size ≤ 1000 → F (kbs [k, n]) = (findB T k n).map rowV
theorem two_leB {k n : ByteArray} (hk : k.size ≤ 1000) (hn : n.size ≤ 1000) : ∀ x ∈ [k, n], x.size ≤ maxLen := by
  intro x hx
  rcases List.mem_cons.1 hx with rfl | hx
  · exact Nat.le_trans hk (by decide)
  · obtain rfl := List.mem_singleton.1 hx; exact Nat.le_trans hn (by decide)
theorem keyB_of {k n : ByteArray} (hk : k.size ≤ 1000) (hn : n.size ≤ 1000) : Go.keyOf Tryd.prog (keyTy 52) (.agg #[.string k, .string n]) = some (.string (kbs [k, n])) := keyB.keyOf (xs := [k, n]) rfl (two_leB hk hn)
theorem RelB.put {F : List UInt8 → Option Value} {T : List RowB} (h : RelB F T) {r : RowB} (hk : r.k.size ≤ 1000) (hn : r.n.size ≤ 1000) (hf : findB T r.k r.n = none) : RelB (putF F (kbs [r.k, r.n]) (rowV r)) (T ++ [r]) := by
  intro k n h1 h2
  rw [findB_append]
  by_cases e : r.k = k ∧ r.n = n
  · obtain ⟨rfl, rfl⟩ := e
    rw [hf, putF, if_pos rfl]
    simp [sameB]
  · have hne : ¬ kbs [k, n] = kbs [r.k, r.n] := fun e2 => by
      have := keyB.inj rfl (two_leB h1 h2) rfl (two_leB hk hn) e2
      simp only [List.cons.injEq, and_true] at this
      exact e ⟨this.1.symm, this.2.symm⟩
    rw [putF, if_neg hne, h k n h1 h2, if_neg (fun e2 => e (sameB_iff.1 e2))]
    cases findB T k n <;> rfl

/-- The box in memory. -/
def BxL (w : World) (own : Nat → Prop) (p : Value) (st : StB) : Prop :=
  ∃ (g : Nat) (mv : Value), p = .pointer (some ⟨g, 0, none⟩) ∧ own g ∧ (∀ h, own h → h < w.heap.size) ∧ Arr w g #[.string st.draws, mv] 54 ∧ WfB st.T ∧
    ((st = realB ∧ mv = .map none) ∨ (st.ideal = true ∧ ∃ (bm : Nat) (F : List UInt8 → Option Value), mv = .map (some bm) ∧ own bm ∧ MapIs w Tryd.prog (keyTy 52) bm st.T.length F ∧ RelB F st.T))
theorem BxL.keep {w w' : World} {own : Nat → Prop} {p : Value} {st : StB} (h : BxL w own p st) (hk : ∀ g, own g → w'.heap[g]? = w.heap[g]?) : BxL w' own p st := by
  obtain ⟨g, mv, hp, hg, hlt, hA, hwf, hm⟩ := h
  refine ⟨g, mv, hp, hg, fun x hx => ?_, (hk g hg).trans hA, hwf, ?_⟩
  · have h1 := hk x hx
    rw [Array.getElem?_eq_getElem (hlt x hx)] at h1
    exact (Array.getElem?_eq_some_iff.1 h1).1
  · rcases hm with hm | ⟨hi, bm, F, h1, h2, h3, h4⟩
    · exact .inl hm
    · exact .inr ⟨hi, bm, F, h1, h2, h3.of (hk bm h2), h4⟩

theorem boxReal_any (w : World) :
    Calls Tryd.prog 14 #[] w fun e w' => ∃ (p : Value) (own : Nat → Prop), e = .returned p ∧ BxL w' own p realB ∧ (∀ g, own g → w.heap.size ≤ g) ∧ Below w.heap.size w w' := by
  go_enter Tryd.func14, Tryd.ntmps14
  go_wp2
  go_ret
  exact ⟨_, fun h => h = w.heap.size, rfl, ⟨w.heap.size, _, rfl, rfl, fun h e => by subst e; simp, Arr.new w _ _, WfB.nil, .inl ⟨rfl, rfl⟩⟩, fun g e => by subst e; exact Nat.le_refl _, (Below.refl w.heap.size w).alloc (Nat.le_refl _) _⟩

theorem boxIdeal_any (draws : ByteArray) (w : World) :
    Calls Tryd.prog 7 #[.string draws] w fun e w' => ∃ (p : Value) (own : Nat → Prop), e = .returned p ∧ BxL w' own p (idealB draws) ∧ (∀ g, own g → w.heap.size ≤ g) ∧ Below w.heap.size w w' := by
  have hmm := @run_makeMap Tryd.prog
  have hM := (MapIs.new w Tryd.prog (keyTy 52))
  have hb1 := (Below.refl w.heap.size w).alloc (Nat.le_refl _) (.map #[] 0)
  go_enter Tryd.func7, Tryd.ntmps7
  go_wp2
  go_ret
  have hs : (w.alloc (.map #[] 0)).heap.size = w.heap.size + 1 := Array.size_push _
  have hA := Arr.new (w.alloc (.map #[] 0)) #[.string draws, .map (some w.heap.size)] 54
  have hz : ((w.alloc (.map #[] 0)).alloc (.cells #[.string draws, .map (some w.heap.size)] 54)).heap.size = w.heap.size + 2 := by rw [show ((w.alloc (.map #[] 0)).alloc (.cells #[.string draws, .map (some w.heap.size)] 54)).heap.size = (w.alloc (.map #[] 0)).heap.size + 1 from Array.size_push _, hs]
  rw [hs] at hA
  refine ⟨_, fun h => h = w.heap.size ∨ h = w.heap.size + 1, rfl, ⟨w.heap.size + 1, _, rfl, .inr rfl, fun h e => ?_, hA, WfB.nil, .inr ⟨rfl, w.heap.size, _, rfl, .inl rfl, hM.alloc _, fun _ _ _ _ => rfl⟩⟩, fun g e => ?_, hb1.alloc hb1.size _⟩
  · rw [hz]; rcases e with rfl | rfl <;> omega
  · rcases e with rfl | rfl <;> omega

theorem boxLeft_any {own : Nat → Prop} {p : Value} {st : StB} (w : World) (h : BxL w own p st) : Calls Tryd.prog 13 #[p] w fun e w' => e = .returned (.int .i64 (st.draws.size : Int)) ∧ Below w.heap.size w w' := by
  obtain ⟨g, mv, rfl, _, _, hA, _⟩ := h
  have c1 : w.cell? ⟨g, 0, none⟩ = some (.string st.draws) := hA.cell rfl
  go_enter Tryd.func13, Tryd.ntmps13
  go_wp2
  go_ret
  exact ⟨rfl, Below.refl _ _⟩
theorem boxLen_any {own : Nat → Prop} {p : Value} {st : StB} (w : World) (h : BxL w own p st) : Calls Tryd.prog 12 #[p] w fun e w' => e = .returned (.int .i64 (st.T.length : Int)) ∧ Below w.heap.size w w' := by
  obtain ⟨g, mv, rfl, _, _, hA, _, hm⟩ := h
  have c2 : w.cell? ⟨g, 1, none⟩ = some mv := hA.cell rfl
  rcases hm with ⟨rfl, rfl⟩ | ⟨hi, bm, F, rfl, _, hM, _⟩
  · go_enter Tryd.func12, Tryd.ntmps12
    go_wp2
    go_ret
    exact ⟨rfl, Below.refl _ _⟩
  · go_enter Tryd.func12, Tryd.ntmps12
    go_wp2_with (first
      | (at_len; with_reducible refine wpList_len_is rfl _ 52 rfl _ _ mapB bm _ F rfl hM ?_))
    go_ret
    exact ⟨rfl, Below.refl _ _⟩

set_option maxHeartbeats 1000000 in
theorem boxKey_any (master domain : ByteArray) (_ : master.size ≤ 1000) (hd : domain.size ≤ 1000) (epoch : Nat) (he : epoch < 18446744073709551616) (w : World) (htab : Tab w) :
    Calls Tryd.prog 15 #[.string master, .string domain, .int .u64 (epoch : Int)] w fun e w' => e = .returned (bxKeyR master domain epoch) ∧ Below w.heap.size w w' := by
  have HT := Lib.hid htab
  by_cases hm32 : master.size = 32
  · have b1 : (master.size : Int) = 32 := by omega
    by_cases hd255 : domain.size ≤ 255
    · have b2 : decide (255 < (domain.size : Int)) = false := decide_eq_false (by omega)
      rw [keyR_ok ⟨hm32, hd255⟩]
      have H1 := Lib.hid (fun w => high_any domain.size (by omega) 2 w)
      have H2 := Lib.hid (fun w => high_any epoch he 8 w)
      rw [show toldN 2 = 2 from rfl] at H1
      rw [show toldN 8 = 8 from rfl] at H2
      have hD := fun w (h : Tab w) => derive_any saltB master (infoB domain epoch) 32 (by decide) (by omega) (by rw [infoB_size]; omega) w h
      have hR : exR (macL saltB.data.toList master.data.toList) (infoB domain epoch).data.toList 32 = .tuple #[.string (bxKeyB master domain epoch), .int .i64 0] := rfl
      rw [hR] at hD
      have hz := infoB_size domain epoch
      obtain ⟨A, hA⟩ : ∃ A : ByteArray, A = ⟨((lowL domain.size 2).reverse).toArray⟩ := ⟨_, rfl⟩
      obtain ⟨Z, hZ⟩ : ∃ Z : ByteArray, Z = ⟨((lowL epoch 8).reverse).toArray⟩ := ⟨_, rfl⟩
      have hI : infoB domain epoch = A ++ domain ++ Z := by rw [hA, hZ]; rfl
      rw [← hA] at H1
      rw [← hZ] at H2
      have hAs : A.size ≤ 1000 := by
        have := congrArg ByteArray.size hI
        rw [hz, ByteArray.size_append, ByteArray.size_append] at this; omega
      have hZs : Z.size ≤ 1000 := by
        have := congrArg ByteArray.size hI
        rw [hz, ByteArray.size_append, ByteArray.size_append] at this; omega
      have c1 : ∀ w : World, (Op.stringOp .add A domain).run Tryd.prog w = .ok (.string (A ++ domain)) w := fun w => cat_run _ _ (by omega) w
      have c2 : ∀ w : World, (Op.stringOp .add (A ++ domain) Z).run Tryd.prog w = .ok (.string (infoB domain epoch)) w := fun w => by rw [hI]; exact cat_run _ _ (by rw [ByteArray.size_append]; omega) w
      generalize A ++ domain = AD at *
      generalize infoB domain epoch = I at *
      generalize bxKeyB master domain epoch = KB at *
      have d0 : (0 : Int) ≤ (domain.size : Int) := by omega
      have d1 : (domain.size : Int) ≤ 255 := by omega
      have HDe := Lib.hid hD
      rw [show saltB = ⟨#[112, 111, 115, 116, 104, 111, 114, 110]⟩ from rfl] at HDe
      clear hD hR hz hA hZ hI hAs hZs hd he hd255 hm32
      go_enter Tryd.func15, Tryd.ntmps15
      go_wp2_with (first
        | (go_at_call 20; (first
          | ((with_reducible refine (H1.out _).mono ?_); rintro e w1 ⟨rfl, hb1⟩)
          | ((with_reducible refine (H2.out _).mono ?_); rintro e w2 ⟨rfl, hb2⟩)))
        | (go_at_call 21; (with_reducible refine (HDe.out _ ((HT.out.next hb1).next hb2)).mono ?_); rintro e w3 ⟨rfl, hb3⟩))
      go_ret2
      exact ⟨rfl, Below_next (Below_next hb1 hb2) hb3⟩
    · have b2 : decide (255 < (domain.size : Int)) = true := decide_eq_true (by omega)
      rw [keyR_no (fun h => hd255 h.2)]
      clear hd he hd255 hm32
      go_enter Tryd.func15, Tryd.ntmps15
      go_wp2
      go_ret2
      exact ⟨rfl, Below.refl _ _⟩
  · have b1 : ¬ (master.size : Int) = 32 := by omega
    rw [keyR_no (fun h => hm32 h.1)]
    clear hd he hm32
    go_enter Tryd.func15, Tryd.ntmps15
    go_wp2
    go_ret2
    exact ⟨rfl, Below.refl _ _⟩
end Go.Proofs.YtfflpooiebeagaaDoor
