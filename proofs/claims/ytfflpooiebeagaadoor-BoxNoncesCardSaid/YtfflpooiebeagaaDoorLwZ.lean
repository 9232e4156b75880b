/- Acts among the arguments, opened: a slice of them, one by value. -/
import Derived.Test.YtfflpooiebeagaaDoorLwC
import Derived.Test.YtfflpooiebeagaaDoorM1
namespace Go.Proofs.YtfflpooiebeagaaDoor
open Go.RowKit Go.WideShapes Go.ChangeShapes

theorem cellsAct : Tryd.prog.cellsOf 29 = 5 := by kernel_rfl
theorem cellsActI : Tryd.prog.cellsOf 3 = 1 := by kernel_rfl
theorem cellsActS : Tryd.prog.cellsOf 9 = 1 := by kernel_rfl
theorem lt_of_cell {w : World} {a : Addr} {v : Value} (h : w.cell? a = some v) : a.block < w.heap.size := by
  unfold World.cell? at h
  cases hb : w.heap[a.block]? with
  | none => rw [hb] at h; cases h
  | some o => exact (Array.getElem?_eq_some_iff.1 hb).1
theorem cells_each {w : World} {base : Nat} {a : Addr} {n : Nat} {cs : List Value} (h : w.cells? base a n = some cs) : cs.length = n ∧ ∀ j v, cs[j]? = some v → w.cell? (a.add j) = some v := by
  unfold World.cells? at h
  split at h
  · have hl := mapM_some_length h
    refine ⟨by simpa using hl, fun j v hj => ?_⟩
    have hjn : j < n := by
      have := (List.getElem?_eq_some_iff.1 hj).1
      rw [hl, List.length_range] at this
      exact this
    have := mapM_some_get h j j (by rw [List.getElem?_range hjn])
    rw [this, hj]
  · cases h

set_option maxRecDepth 100000 in
theorem trod_act {H : Type} {enc : TypeId × Value → H} {w : World} {base : Nat} {spare : Nat → Bool} {held : Bool} {fuel : Nat} {cs : List Value} {x : DataW H × List MemPlace}
    (h : DataW.trod enc Tryd.prog w base spare held fuel 29 cs = some x) : ∃ y : ActB, cs = (actC y).toList ∧ ActOk y := by
  obtain ⟨xs, n, rfl, rfl, hl, hxl, hf⟩ := DataW.trod_struct Tryd.underlying29 h
  have hl5 : cs.length = 5 := hl.trans cellsAct
  have hx5 : xs.length = 5 := hxl
  match cs, hl5 with
  | [c0, c1, c2, c3, c4], _ =>
    have h0 : DataW.trod enc Tryd.prog w base spare held n 3 (([c0, c1, c2, c3, c4].drop 0).take (Tryd.prog.cellsOf 3)) = xs[0]? := hf 0 _ rfl
    have h1 : DataW.trod enc Tryd.prog w base spare held n 9 (([c0, c1, c2, c3, c4].drop 1).take (Tryd.prog.cellsOf 9)) = xs[1]? := hf 1 _ rfl
    have h2 : DataW.trod enc Tryd.prog w base spare held n 9 (([c0, c1, c2, c3, c4].drop 2).take (Tryd.prog.cellsOf 9)) = xs[2]? := hf 2 _ rfl
    have h3 : DataW.trod enc Tryd.prog w base spare held n 9 (([c0, c1, c2, c3, c4].drop 3).take (Tryd.prog.cellsOf 9)) = xs[3]? := hf 3 _ rfl
    have h4 : DataW.trod enc Tryd.prog w base spare held n 9 (([c0, c1, c2, c3, c4].drop 4).take (Tryd.prog.cellsOf 9)) = xs[4]? := hf 4 _ rfl
    simp only [cellsActI, cellsActS, List.drop_zero, List.drop_succ_cons, List.take_succ_cons, List.take_zero] at h0 h1 h2 h3 h4
    rw [List.getElem?_eq_getElem (by omega)] at h0 h1 h2 h3 h4
    obtain ⟨k, e0, _, w0⟩ := DataW.trod_int Tryd.underlying3 h0
    obtain ⟨a, e1, _, w1⟩ := DataW.trod_string Tryd.underlying9 h1
    obtain ⟨b, e2, _, w2⟩ := DataW.trod_string Tryd.underlying9 h2
    obtain ⟨c, e3, _, w3⟩ := DataW.trod_string Tryd.underlying9 h3
    obtain ⟨d, e4, _, w4⟩ := DataW.trod_string Tryd.underlying9 h4
    simp only [List.cons.injEq, and_true] at e0 e1 e2 e3 e4
    subst e0 e1 e2 e3 e4
    exact ⟨⟨k, a, b, c, d⟩, rfl, w0, w1, w2, w3, w4⟩

set_option maxRecDepth 100000 in
theorem open_acts {H : Type} {enc : TypeId × Value → H} {w : World} {r : Reach} {b0 : Nat} {v : Value} {d : DataW H} {p : List MemPlace}
    (hval : Value.okWide Tryd.prog w r b0 22 v) (h : DataW.Trod enc Tryd.prog w 0 (fun _ => true) true 22 v d p) :
    ∃ a len cap zs, v = .slice a len cap ∧ IsActs w a len cap zs := by
  obtain ⟨a, len, cap, rfl⟩ := okWide_slice Tryd.underlying22 hval
  obtain ⟨fuel, hf⟩ := h
  rcases DataW.trod_slice Tryd.underlying22 hf with ⟨hcs, _⟩ | ⟨x, l, c, elems, rest, n, _, hcs, _, _, hl, hm, hlen, hel, _, _⟩
  · simp [Value.cells] at hcs
    obtain ⟨rfl, rfl, rfl⟩ := hcs
    exact ⟨_, _, _, [], rfl, .inl ⟨rfl, rfl, rfl, rfl⟩⟩
  · simp [Value.cells] at hcs
    obtain ⟨rfl, rfl, rfl⟩ := hcs
    have each : ∀ i, i < len → ∃ y : ActB, ActOk y ∧ ∀ (j : Nat) (v : Value), (actC y).toList[j]? = some v → w.cell? (x.add (i * 5 + j)) = some v := by
      intro i hi
      have h1 := hel i hi
      rw [List.getElem?_eq_getElem (by omega), cellsAct, Option.bind_eq_some_iff] at h1
      obtain ⟨cs, hcs, htr⟩ := h1
      obtain ⟨y, rfl, hy⟩ := trod_act htr
      refine ⟨y, hy, fun j v hj => ?_⟩
      have := (cells_each hcs).2 j v hj
      rwa [Addr.add_add] at this
    obtain ⟨zs, hzl, hz⟩ : ∃ zs : List ActB, zs.length = len ∧ ∀ (i : Nat) (y : ActB), zs[i]? = some y → ActOk y ∧ ∀ (j : Nat) (v : Value), (actC y).toList[j]? = some v → w.cell? (x.add (i * 5 + j)) = some v := by
      have : ∀ m, m ≤ len → ∃ zs : List ActB, zs.length = m ∧ ∀ (i : Nat) (y : ActB), zs[i]? = some y → ActOk y ∧ ∀ (j : Nat) (v : Value), (actC y).toList[j]? = some v → w.cell? (x.add (i * 5 + j)) = some v := by
        intro m
        induction m with
        | zero => intro _; exact ⟨[], rfl, fun i y h => by simp at h⟩
        | succ m ih =>
          intro hm
          obtain ⟨zs, h1, h2⟩ := ih (by omega)
          obtain ⟨y, hy⟩ := each m (by omega)
          refine ⟨zs ++ [y], by simp [h1], fun i z hi => ?_⟩
          by_cases him : i < m
          · rw [List.getElem?_append_left (by omega)] at hi
            exact h2 i z hi
          · rw [List.getElem?_append_right (by omega)] at hi
            have h0 : i - zs.length = 0 := by
              have := (List.getElem?_eq_some_iff.1 hi).1
              simp at this; omega
            rw [h0] at hi
            simp at hi
            subst hi
            obtain rfl : i = m := by omega
            exact hy
      exact this len (Nat.le_refl _)
    refine ⟨_, _, _, zs, rfl, .inr ⟨x, rfl, hl, hm, hzl, fun i y hi => (hz i y hi).2, fun y hy => ?_, fun hpos => ?_⟩⟩
    · obtain ⟨i, hi⟩ := List.getElem?_of_mem hy
      exact (hz i y hi).1
    · obtain ⟨y, hy, hc⟩ := each 0 hpos
      have := lt_of_cell (hc 0 _ rfl)
      have e : (x.add (0 * 5 + 0)).block = x.block := by unfold Addr.add; split <;> rfl
      rwa [e] at this

set_option maxRecDepth 100000 in
theorem open_act {H : Type} {enc : TypeId × Value → H} {w : World} {base : Nat} {spare : Nat → Bool} {held : Bool} {r : Reach} {b0 : Nat} {v : Value} {d : DataW H} {p : List MemPlace}
    (hval : Value.okWide Tryd.prog w r b0 29 v) (h : DataW.Trod enc Tryd.prog w base spare held 29 v d p) : ∃ y : ActB, v = .agg (actC y) ∧ ActOk y := by
  simp only [Value.okWide, Tryd.underlying29] at hval
  obtain ⟨cs, rfl, hs, _⟩ := hval
  obtain ⟨fuel, hf⟩ := h
  obtain ⟨y, hy, hok⟩ := trod_act hf
  refine ⟨y, ?_, hok⟩
  have : cs.toList = (actC y).toList := hy
  rw [Array.toList_inj.1 this]
end Go.Proofs.YtfflpooiebeagaaDoor
