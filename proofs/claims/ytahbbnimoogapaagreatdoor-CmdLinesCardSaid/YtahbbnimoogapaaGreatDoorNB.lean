/- What layer 9's laws need of the code: its contracts, as one record; large; own. AddrTells: its walk over the record. AddrReads: its walk over the record. -/
import Derived.Test.YtahbbnimoogapaaGreatDoorMH
import Derived.Test.YtahbbnimoogapaaGreatDoorBas
import Derived.Test.YtahbbnimoogapaaGreatDoorOs
import Derived.OwnWalk
import Derived.Test.YtahbbnimoogapaaGreatDoorBlw
import Derived.Deep.RegionHeld3
namespace Go.Proofs.YtahbbnimoogapaaGreatDoor
open Go.RowKit

/-- Are texts too long? -/
def largeS (ss : List ByteArray) : Bool := ss.any fun s => decide (2048 < s.size)
theorem largeS_no {ss : List ByteArray} : largeS ss = false ↔ ∀ s ∈ ss, s.size ≤ 2048 := by
  rw [largeS, List.any_eq_false]
  constructor
  · intro h s hs
    have := h s hs
    simp at this
    omega
  · intro h s hs
    have := h s hs
    simp
    omega
/-- Texts that were just laid. -/
theorem texts_new (w : World) (ss : List ByteArray) : ∀ i, i < ss.length → (w.alloc (.cells (strV ss).toArray 9)).cell? ((⟨w.heap.size, 0, none⟩ : Addr).add i) = some (.string (ss.getD i ByteArray.empty)) := fun i hi => by
  rw [addr_add, Nat.zero_add]
  exact (Arr.new w _ _).cell (by rw [List.getElem?_toArray, strV_get ss i hi])

theorem info_abox : (Tryz.prog.info? 24).map (·.size) = some 2 := by kernel_rfl
theorem results_rbox1 {fn : Func} {p : Tmp} (h : fn.results = #[.cell p 30]) (tmps : Array Value) (w : World) (g : Nat) (cs : Array Value) (hs : cs.size = 2) (hp : tmps.getD p undef = .pointer (some ⟨g, 0, none⟩)) (hg : Arr w g cs 30) :
    (results fn tmps).run Tryz.prog w = .ok (.agg cs) w := by
  have hp' : tmps[p]?.getD undef = .pointer (some ⟨g, 0, none⟩) := by simpa using hp
  simp [results, h, hp', asAddr, run_loadVar_row w g 30 30 cs (0, 0) _ hg Tryz.underlying30 rfl (by rw [hs]; exact info_box)]
end Go.Proofs.YtahbbnimoogapaaGreatDoor
namespace Go.Proofs.YtahbbnimoogapaaGreatDoor
open Go.RowKit

theorem domR_form (l : List UInt8) : ∃ S e, domR l = .tuple #[.string S, .int .i64 e] := by
  unfold domR
  split
  · exact ⟨_, _, rfl⟩
  · exact ⟨_, _, rfl⟩

end Go.Proofs.YtahbbnimoogapaaGreatDoor
namespace Go.Proofs.YtahbbnimoogapaaGreatDoor
open Go.RowKit

theorem readV_form (o : Option (BoxA × List UInt8)) : ∃ A B R e, readV o = .tuple #[.agg #[.string A, .string B], .string R, .int .i64 e] := by
  cases o with
  | none => exact ⟨_, _, _, _, rfl⟩
  | some p => exact ⟨_, _, _, _, rfl⟩
theorem parseV_form (o : Option BoxA) : ∃ A B e, parseV o = .tuple #[.agg #[.string A, .string B], .int .i64 e] := by
  cases o with
  | none => exact ⟨_, _, _, rfl⟩
  | some p => exact ⟨_, _, _, rfl⟩

theorem and4 {a b c d : Prop} (ha : a) (hb : b) (hc : c) (hd : d) : a ∧ b ∧ c ∧ d := ⟨ha, hb, hc, hd⟩
theorem four_next {w w' : World} {g1 g2 g3 g4 : Nat} {a b c d e f u v : Value} (h : (w.cell? ⟨g1, 0, none⟩ = some a ∧ w.cell? ⟨g1, 1, none⟩ = some b) ∧ (w.cell? ⟨g2, 0, none⟩ = some c ∧ w.cell? ⟨g2, 1, none⟩ = some d) ∧ (w.cell? ⟨g3, 0, none⟩ = some e ∧ w.cell? ⟨g3, 1, none⟩ = some f) ∧ (w.cell? ⟨g4, 0, none⟩ = some u ∧ w.cell? ⟨g4, 1, none⟩ = some v)) (hb : Below w.heap.size w w') :
    (w'.cell? ⟨g1, 0, none⟩ = some a ∧ w'.cell? ⟨g1, 1, none⟩ = some b) ∧ (w'.cell? ⟨g2, 0, none⟩ = some c ∧ w'.cell? ⟨g2, 1, none⟩ = some d) ∧ (w'.cell? ⟨g3, 0, none⟩ = some e ∧ w'.cell? ⟨g3, 1, none⟩ = some f) ∧ (w'.cell? ⟨g4, 0, none⟩ = some u ∧ w'.cell? ⟨g4, 1, none⟩ = some v) :=
  ⟨box_next h.1 hb, box_next h.2.1 hb, box_next h.2.2.1 hb, box_next h.2.2.2 hb⟩

end Go.Proofs.YtahbbnimoogapaaGreatDoor
