/- What layer 7's laws need of the code: its contracts, as one record. -/
import Derived.Test.YtfflpooiebeagaaDoorBxN
import Derived.Test.YtfflpooiebeagaaDoorFro
namespace Go.Proofs.YtfflpooiebeagaaDoor
open Go.RowKit

/-- What layer 7's laws need of the code. P: the listed variables; Bx: a box, the blocks that are its own, what it holds. -/
structure BoxB (P : World → Prop) (Bx : World → (Nat → Prop) → Value → StB → Prop) : Prop where
  next : ∀ {w w' : World}, P w → Below w.heap.size w w' → P w'
  alloc : ∀ {w : World} (o : Obj), P w → P (w.alloc o)
  keep : ∀ {w w' : World} {own : Nat → Prop} {p : Value} {st : StB}, Bx w own p st → (∀ g, own g → w'.heap[g]? = w.heap[g]?) → Bx w' own p st
  lt : ∀ {w : World} {own : Nat → Prop} {p : Value} {st : StB}, Bx w own p st → ∀ g, own g → g < w.heap.size
  ptr : ∀ {w : World} {own : Nat → Prop} {p : Value} {st : StB}, Bx w own p st → ∃ g, p = .pointer (some ⟨g, 0, none⟩)
  key : ∀ master domain : ByteArray, master.size ≤ 100 → domain.size ≤ 500 → ∀ epoch : Nat, epoch < 18446744073709551616 → ∀ w, P w → Calls Tryd.prog 15 #[.string master, .string domain, .int .u64 (epoch : Int)] w fun e w' => e = .returned (bxKeyR master domain epoch) ∧ Below w.heap.size w w'
  real : ∀ w, P w → Calls Tryd.prog 14 #[] w fun e w' => ∃ (p : Value) (own : Nat → Prop), e = .returned p ∧ Bx w' own p realB ∧ (∀ g, own g → w.heap.size ≤ g) ∧ Below w.heap.size w w'
  ideal : ∀ draws : ByteArray, draws.size ≤ 1048576 → ∀ w, P w → Calls Tryd.prog 7 #[.string draws] w fun e w' => ∃ (p : Value) (own : Nat → Prop), e = .returned p ∧ Bx w' own p (idealB draws) ∧ (∀ g, own g → w.heap.size ≤ g) ∧ Below w.heap.size w w'
  seal' : ∀ {own : Nat → Prop} {p : Value} {st : StB} (k n d t : ByteArray), k.size ≤ 1000 → n.size ≤ 1000 → d.size ≤ 1000000000000000 → t.size ≤ 1048576 → st.T.length ≤ 1000 → st.draws.size ≤ 1048576 → ∀ w, P w → Bx w own p st →
    Calls Tryd.prog 10 #[p, .string k, .string n, .string d, .string t] w fun e w' => e = .returned (bxSealR st k n d t) ∧ ∃ own' : Nat → Prop, Bx w' own' p (bxSealT st k n d t) ∧ (∀ g, own' g → own g ∨ w.heap.size ≤ g) ∧ Fro own w w'
  open' : ∀ {own : Nat → Prop} {p : Value} {st : StB} (k n d s : ByteArray), k.size ≤ 1000 → n.size ≤ 1000 → d.size ≤ 1048576 → s.size ≤ 1048576 → st.T.length ≤ 1000 → st.draws.size ≤ 1048576 → ∀ w, P w → Bx w own p st →
    Calls Tryd.prog 11 #[p, .string k, .string n, .string d, .string s] w fun e w' => e = .returned (bxOpenR st k n d s) ∧ Below w.heap.size w w'
  len : ∀ {own : Nat → Prop} {p : Value} {st : StB}, st.T.length ≤ 1000 → ∀ w, P w → Bx w own p st → Calls Tryd.prog 12 #[p] w fun e w' => e = .returned (.int .i64 (st.T.length : Int)) ∧ Below w.heap.size w w'
  left : ∀ {own : Nat → Prop} {p : Value} {st : StB}, st.draws.size ≤ 1048576 → ∀ w, P w → Bx w own p st → Calls Tryd.prog 13 #[p] w fun e w' => e = .returned (.int .i64 (st.draws.size : Int)) ∧ Below w.heap.size w w'
structure BoxC (P : World → Prop) (Bx : World → (Nat → Prop) → Value → StB → Prop) : Prop extends BoxB P Bx where
  awake : ∀ w, P w → Calls Tryd.prog 6 #[] w fun e w' => e = .returned (.bool true) ∧ Below w.heap.size w w'

section
variable {P : World → Prop} {Bx : World → (Nat → Prop) → Value → StB → Prop}
theorem BoxB.nextB (C : BoxB P Bx) {w w' : World} {own : Nat → Prop} {p : Value} {st : StB} (h : Bx w own p st) (hb : Below w.heap.size w w') : Bx w' own p st := C.keep h fun g hg => hb.block g (C.lt h g hg)
/-- Another box stays where the one is written. -/
theorem BoxB.other (C : BoxB P Bx) {w w' : World} {own own2 : Nat → Prop} {p : Value} {st : StB} (h : Bx w own2 p st) (hf : Fro own w w') (ha : ∀ g, own2 g → ¬ own g) : Bx w' own2 p st := C.keep h fun g hg => hf.block g (C.lt h g hg) (ha g hg)
/-- What a seal leaves: blocks laid since the loop's round began, blocks that are not the box's own. -/
theorem seal_sep (C : BoxB P Bx) {W wr w4 w5 : World} {own own5 : Nat → Prop} {p : Value} {st : StB} (hbel : Below W.heap.size W wr) (hbx : Bx wr own p st) (hown : ∀ g, own g → W.heap.size ≤ g) (hb4 : Below wr.heap.size wr w4) (hown5 : ∀ g, own5 g → own g ∨ w4.heap.size ≤ g) (hf : Fro own w4 w5) :
    (∀ g, wr.heap.size ≤ g → g < w4.heap.size → w5.heap[g]? = w4.heap[g]?) ∧ (∀ g, ¬ own g → g < wr.heap.size → w5.heap[g]? = w4.heap[g]?) ∧ Below W.heap.size W w5 ∧ (∀ g, own5 g → W.heap.size ≤ g) ∧ (∀ g, ¬ own g → g < wr.heap.size → ¬ own5 g) := by
  have h4 := hb4.size
  have hs := hbel.size
  refine ⟨fun g h1 h2 => hf.block g h2 fun e => ?_, fun g h1 h2 => hf.block g (by omega) h1, (hbel.trans (hb4.mono hs)).trans (hf.below hown (by omega)), fun g h => ?_, fun g h1 h2 h3 => ?_⟩
  · have := C.lt hbx g e; omega
  · rcases hown5 g h with h | h
    · exact hown g h
    · omega
  · rcases hown5 g h3 with h | h
    · exact h1 h
    · omega
end
end Go.Proofs.YtfflpooiebeagaaDoor
