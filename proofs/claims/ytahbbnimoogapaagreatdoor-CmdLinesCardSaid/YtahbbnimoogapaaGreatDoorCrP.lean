/- The document's own layer 10: Write of whatever command. -/
import Derived.Test.YtahbbnimoogapaaGreatDoorCrI
import Derived.Test.YtahbbnimoogapaaGreatDoorCrJ
import Derived.Test.YtahbbnimoogapaaGreatDoorCrK
import Derived.Test.YtahbbnimoogapaaGreatDoorCrL
import Derived.Test.YtahbbnimoogapaaGreatDoorCrM
namespace Go.Proofs.YtahbbnimoogapaaGreatDoor
open Go.RowKit

theorem rwrite10_any (c : CmdA) (h0 : c.text.length ≤ 524288) (h1 : c.box.loc.length ≤ 524288) (h2 : c.box.dom.length ≤ 524288) (w : World) :
    Calls Tryz.prog 15 #[cmdV c] w fun e w' => e = .returned (wriV c) ∧ Below w.heap.size w w' := by
  by_cases hv : c.verb < 1 ∨ 9 < c.verb
  · exact rwrite10_none c hv w
  · obtain ⟨k, hk⟩ : ∃ k : Nat, c.verb = k := ⟨c.verb.toNat, by omega⟩
    have hk' : k = 1 ∨ k = 2 ∨ k = 3 ∨ k = 4 ∨ (k = 5 ∨ k = 6 ∨ k = 8) ∨ (k = 7 ∨ k = 9) := by omega
    rcases hk' with h | h | h | h | h | h
    · exact rwrite10_helo c k hk (.inl h) h0 h1 h2 w
    · exact rwrite10_helo c k hk (.inr h) h0 h1 h2 w
    · exact rwrite10_mail c k hk h h0 h1 h2 w
    · exact rwrite10_rcpt c k hk h h0 h1 h2 w
    · exact rwrite10_rest c k hk h h0 h1 h2 w
    · exact rwrite10_text c k hk h h0 h1 h2 w
end Go.Proofs.YtahbbnimoogapaaGreatDoor
