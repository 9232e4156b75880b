/- A slice of bools that came in. -/
import Derived.Test.YtmaephjonfeijaaDoorM1
namespace Go.Proofs.YtmaephjonfeijaaDoor
open Go.RowKit

/-- The slice value a, len, cap is a row of these bools (those behind len are its spare room). -/
def IsBls (w : World) (a : Option Addr) (len cap : Nat) (zs : List Bool) : Prop :=
  (a = none ∧ len = 0 ∧ cap = 0 ∧ zs = []) ∨ (∃ x, a = some x ∧ len ≤ cap ∧ cap ≤ maxLen ∧ zs.length = cap ∧ ∀ i, i < zs.length → w.cell? (x.add i) = some (.bool (zs.getD i false)))
theorem IsBls.at {w : World} {a : Option Addr} {len cap : Nat} {zs : List Bool} (h : IsBls w a len cap zs) {i : Nat} (hi : i < len) : ∃ x, a = some x ∧ w.cell? (x.add i) = some (.bool (zs.getD i false)) := by
  rcases h with ⟨_, rfl, _⟩ | ⟨x, rfl, h1, h2, h3, h4⟩
  · omega
  · exact ⟨x, rfl, h4 i (by omega)⟩
theorem IsBls.next {w w' : World} {a : Option Addr} {len cap : Nat} {zs : List Bool} (h : IsBls w a len cap zs) (hb : Below w.heap.size w w') : IsBls w' a len cap zs := by
  rcases h with h | ⟨x, rfl, h1, h2, h3, h4⟩
  · exact .inl h
  · exact .inr ⟨x, rfl, h1, h2, h3, fun i hi => (hb.cell (World.block_lt_of_cell? _ _ (h4 i hi))).trans (h4 i hi)⟩
end Go.Proofs.YtmaephjonfeijaaDoor
