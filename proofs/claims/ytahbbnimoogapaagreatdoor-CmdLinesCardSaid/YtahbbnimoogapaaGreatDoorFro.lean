/- What a call may write: the blocks that are one's own. -/
import Derived.Test.YtahbbnimoogapaaGreatDoorM1
namespace Go.Proofs.YtahbbnimoogapaaGreatDoor
open Go.RowKit

/-- But for the blocks that are one's own all that was there is as it was. -/
structure Fro (own : Nat → Prop) (w w' : World) : Prop where
  os : w'.os = w.os
  tape : w'.tape = w.tape
  output : w'.output = w.output
  size : w.heap.size ≤ w'.heap.size
  block : ∀ g, g < w.heap.size → ¬ own g → w'.heap[g]? = w.heap[g]?
theorem Fro.of_below {own : Nat → Prop} {w w' : World} (h : Below w.heap.size w w') : Fro own w w' := ⟨h.os, h.tape, h.output, h.size, fun g hg _ => h.block g hg⟩
theorem Fro.below {own : Nat → Prop} {B : Nat} {w w' : World} (h : Fro own w w') (ho : ∀ g, own g → B ≤ g) (hB : B ≤ w.heap.size) : Below B w w' :=
  ⟨h.os, h.tape, h.output, h.size, fun g hg => h.block g (Nat.lt_of_lt_of_le hg hB) fun e => Nat.not_lt.2 (ho g e) hg⟩
end Go.Proofs.YtahbbnimoogapaaGreatDoor
