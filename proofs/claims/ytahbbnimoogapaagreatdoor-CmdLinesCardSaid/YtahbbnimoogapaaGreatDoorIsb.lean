/- A slice of bools that came in. -/
import Derived.Test.YtahbbnimoogapaaGreatDoorM1
namespace Go.Proofs.YtahbbnimoogapaaGreatDoor
open Go.RowKit

/-- The slice value a, len, cap is a row of these bools (those behind len are its spare room). -/
def IsBls (w : World) (a : Option Addr) (len cap : Nat) (zs : List Bool) : Prop :=
  (a = none ∧ len = 0 ∧ cap = 0 ∧ zs = []) ∨ (∃ x, a = some x ∧ len ≤ cap ∧ cap ≤ maxLen ∧ zs.length = cap ∧ ∀ i, i < zs.length → w.cell? (x.add i) = some (.bool (zs.getD i false)))
theorem IsBls.at {w : World} {a : Option Addr} {len cap : Nat} {zs : List Bool} (h : IsBls w a len cap zs) {i : Nat} (hi : i < len) : ∃ x, a = some x ∧ w.cell? (x.add i) = some (.bool (zs.getD i false)) := by
  rcases h with ⟨_, rfl, _⟩ | ⟨x, rfl, h1, h2, h3, h4⟩
  · omega
  · exact ⟨x, rfl, h4 i (by omega)⟩
theorem IsBls.next {w w' : World} {a : Option Addr} {len cap : Nat} {zs : List Bool} (h : IsBls w a len cap zs) (hb : Below w.heap.size w w') : IsBls w' a len cap zs := by
  rcases h with h | ⟨x, rfl, h1, h2, h3, h4⟩
  · exact .inl h
  · exact .inr ⟨x, rfl, h1, h2, h3, fun i hi => (hb.cell (World.block_lt_of_cell? _ _ (h4 i hi))).trans (h4 i hi)⟩
theorem bls_of {w : World} {a : Option Addr} {len cap : Nat} (h : (a = none ∧ len = 0 ∧ cap = 0) ∨ ∃ (x : Addr) (B : Nat → Bool), a = some x ∧ len ≤ cap ∧ cap ≤ maxLen ∧ ∀ i, i < cap → w.cell? (x.add i) = some (.bool (B i))) : ∃ zs, IsBls w a len cap zs := by
  rcases h with ⟨rfl, rfl, rfl⟩ | ⟨x, B, rfl, h1, h2, h3⟩
  · exact ⟨[], .inl ⟨rfl, rfl, rfl, rfl⟩⟩
  · refine ⟨(List.range cap).map B, .inr ⟨x, rfl, h1, h2, by simp, fun i hi => ?_⟩⟩
    have hi' : i < cap := by simpa using hi
    rw [h3 i hi', List.getD_eq_getElem?_getD, List.getElem?_map, List.getElem?_range hi']
    rfl
end Go.Proofs.YtahbbnimoogapaaGreatDoor
