/- A mailbox and a row of bools among the arguments, opened; the laws with their row's arguments. -/
import Derived.Test.YtmaephjonfeijaaDoorApV
import Derived.Test.YtmaephjonfeijaaDoorApK
import Derived.Test.YtmaephjonfeijaaDoorM1
import Derived.Deep.Grids
namespace Go.Proofs.YtmaephjonfeijaaDoor
open Go.RowKit Go.WideShapes Go.ChangeShapes

theorem cellsABox : Tryd.prog.cellsOf 25 = 2 := by kernel_rfl
theorem cellsAStr : Tryd.prog.cellsOf 9 = 1 := by kernel_rfl
set_option maxRecDepth 100000 in
theorem trod_abox {H : Type} {enc : TypeId × Value → H} {w : World} {base : Nat} {spare : Nat → Bool} {held : Bool} {fuel : Nat} {cs : List Value} {x : DataW H × List MemPlace}
    (h : DataW.trod enc Tryd.prog w base spare held fuel 25 cs = some x) : ∃ L D : ByteArray, cs = [.string L, .string D] := by
  obtain ⟨xs, n, rfl, rfl, hl, hxl, hf⟩ := DataW.trod_struct Tryd.underlying25 h
  have hl2 : cs.length = 2 := hl.trans cellsABox
  have hx2 : xs.length = 2 := hxl
  match cs, hl2 with
  | [c0, c1], _ =>
    have h0 : DataW.trod enc Tryd.prog w base spare held n 9 (([c0, c1].drop 0).take (Tryd.prog.cellsOf 9)) = xs[0]? := hf 0 _ rfl
    have h1 : DataW.trod enc Tryd.prog w base spare held n 9 (([c0, c1].drop 1).take (Tryd.prog.cellsOf 9)) = xs[1]? := hf 1 _ rfl
    simp only [cellsAStr, List.drop_zero, List.drop_succ_cons, List.take_succ_cons, List.take_zero] at h0 h1
    rw [List.getElem?_eq_getElem (by omega)] at h0 h1
    obtain ⟨a, e0, _, w0⟩ := DataW.trod_string Tryd.underlying9 h0
    obtain ⟨b, e1, _, w1⟩ := DataW.trod_string Tryd.underlying9 h1
    simp only [List.cons.injEq, and_true] at e0 e1
    subst e0 e1
    exact ⟨a, b, rfl⟩
set_option maxRecDepth 100000 in
theorem open_abox {H : Type} {enc : TypeId × Value → H} {w : World} {base : Nat} {spare : Nat → Bool} {held : Bool} {r : Reach} {b0 : Nat} {v : Value} {d : DataW H} {p : List MemPlace}
    (hval : Value.okWide Tryd.prog w r b0 25 v) (h : DataW.Trod enc Tryd.prog w base spare held 25 v d p) : ∃ L D : ByteArray, v = .agg #[.string L, .string D] := by
  simp only [Value.okWide, Tryd.underlying25] at hval
  obtain ⟨cs, rfl, hs, _⟩ := hval
  obtain ⟨fuel, hf⟩ := h
  obtain ⟨L, D, hy⟩ := trod_abox hf
  refine ⟨L, D, ?_⟩
  have : cs.toList = [.string L, .string D] := hy
  rw [show cs = #[.string L, .string D] from Array.toList_inj.1 this]
/-- A mailbox of two strings. -/
def boxOf (L D : ByteArray) : BoxA := ⟨L.data.toList, D.data.toList⟩
theorem boxOf_V (L D : ByteArray) : boxV (boxOf L D) = .agg #[.string L, .string D] := by rw [boxV, boxOf, ba_of, ba_of]
theorem bls_of {w : World} {a : Option Addr} {len cap : Nat} (h : (a = none ∧ len = 0 ∧ cap = 0) ∨ ∃ (x : Addr) (B : Nat → Bool), a = some x ∧ len ≤ cap ∧ cap ≤ maxLen ∧ ∀ i, i < cap → w.cell? (x.add i) = some (.bool (B i))) : ∃ zs, IsBls w a len cap zs := by
  rcases h with ⟨rfl, rfl, rfl⟩ | ⟨x, B, rfl, h1, h2, h3⟩
  · exact ⟨[], .inl ⟨rfl, rfl, rfl, rfl⟩⟩
  · refine ⟨(List.range cap).map B, .inr ⟨x, rfl, h1, h2, by simp, fun i hi => ?_⟩⟩
    have hi' : i < cap := by simpa using hi
    rw [h3 i hi', List.getD_eq_getElem?_getD, List.getElem?_map, List.getElem?_range hi']
    rfl

theorem addrReads_walkX (C : AddrC) (s : ByteArray) (_ : s.size ≤ maxLen) (W : World) :
    Calls Tryd.prog 3 #[.string s] W fun e w' => e = .returned (.bool true) ∧ Below W.heap.size W w' := addrReads_walk C s W
theorem addrTells_walkX (C : AddrC) (s : ByteArray) (_ : s.size ≤ maxLen) (W : World) :
    Calls Tryd.prog 4 #[.string s] W fun e w' => e = .returned (.bool true) ∧ Below W.heap.size W w' := addrTells_walk C s W
theorem addrWrites_walkX (C : AddrC) (L D : ByteArray) (W : World) :
    Calls Tryd.prog 5 #[.agg #[.string L, .string D]] W fun e w' => e = .returned (.bool true) ∧ Below W.heap.size W w' := by
  have := addrWrites_walk C (boxOf L D) W
  rwa [boxOf_V] at this
theorem addrBack_walkX (C : AddrC) (L D s : ByteArray) (_ : s.size ≤ maxLen) (W : World) :
    Calls Tryd.prog 6 #[.agg #[.string L, .string D], .string s] W fun e w' => e = .returned (.bool true) ∧ Below W.heap.size W w' := by
  have := addrBack_walk C (boxOf L D) s W
  rwa [boxOf_V] at this
theorem addrSmall_walkX (C : AddrC) (L D : ByteArray) (a : Option Addr) (len cap : Nat) (zs : List Bool) (W : World) (hz : IsBls W a len cap zs) :
    Calls Tryd.prog 7 #[.agg #[.string L, .string D], .slice a len cap] W fun e w' => e = .returned (.bool true) ∧ Below W.heap.size W w' := by
  have := addrSmall_walk C (boxOf L D) a len cap zs W hz
  rwa [boxOf_V] at this
theorem addrRoutes_walkX (C : AddrC) (L D : ByteArray) (a : Option Addr) (len cap : Nat) (ss : List ByteArray) (W : World) (hl : IsTexts W a len cap ss) :
    Calls Tryd.prog 8 #[.agg #[.string L, .string D], .slice a len cap] W fun e w' => e = .returned (.bool true) ∧ Below W.heap.size W w' := by
  have := addrRoutes_walk C (boxOf L D) a len cap ss W hl
  rwa [boxOf_V] at this
theorem addrQuotes_walkX (C : AddrC) (L D : ByteArray) (a : Option Addr) (len cap : Nat) (zs : List Bool) (W : World) (hz : IsBls W a len cap zs) :
    Calls Tryd.prog 9 #[.agg #[.string L, .string D], .slice a len cap] W fun e w' => e = .returned (.bool true) ∧ Below W.heap.size W w' := by
  have := addrQuotes_walk C (boxOf L D) a len cap zs W hz
  rwa [boxOf_V] at this
end Go.Proofs.YtmaephjonfeijaaDoor
