/- What calls leave: cells, blocks, rows of one byte. -/
import Derived.Test.YtahbbnimoogapaaGreatDoorBas
import Derived.Test.YtahbbnimoogapaaGreatDoorM1
namespace Go.Proofs.YtahbbnimoogapaaGreatDoor
open Go.RowKit

theorem cell_next {w w' : World} {a : Addr} {v : Value} (h : w.cell? a = some v) (hb : Below w.heap.size w w') : w'.cell? a = some v := (hb.cell (World.block_lt_of_cell? _ _ h)).trans h
theorem box_next {w w' : World} {g : Nat} {u v : Value} (h : w.cell? ⟨g, 0, none⟩ = some u ∧ w.cell? ⟨g, 1, none⟩ = some v) (hb : Below w.heap.size w w') : w'.cell? ⟨g, 0, none⟩ = some u ∧ w'.cell? ⟨g, 1, none⟩ = some v := ⟨cell_next h.1 hb, cell_next h.2 hb⟩
theorem box_new (w : World) (u v : Value) (t : TypeId) : (w.alloc (.cells #[u, v] t)).cell? ⟨w.heap.size, 0, none⟩ = some u ∧ (w.alloc (.cells #[u, v] t)).cell? ⟨w.heap.size, 1, none⟩ = some v := ⟨(Arr.new w _ t).cell rfl, (Arr.new w _ t).cell rfl⟩
theorem below_one (w : World) (o : Obj) : Below w.heap.size w (w.alloc o) := (Below.refl _ _).alloc (Nat.le_refl _) o
theorem below_drew (w : World) : Below w.heap.size w w.drew := (Below.refl _ _).drew
theorem below_new {w w' : World} (h : Below w.heap.size w w') (o : Obj) : Below w.heap.size w (w'.alloc o) := h.alloc h.size o
theorem ob_one (w : World) (base : Nat) (h : base ≤ w.heap.size) (c : UInt8) (z : Int) (hz : z = (c.toNat : Int)) : Ob (w.alloc (.cells #[.int .u8 z] 5)) base (.slice (some ⟨w.heap.size, 0, none⟩) 1 1) [c] := by
  subst hz
  exact World.ownsRow_lit w #[.int .u8 (c.toNat : Int)] 1 h (by unfold maxLen; omega) rfl
theorem conv_one (w : World) (c : UInt8) (z : Int) (hz : z = (c.toNat : Int)) : (convert 59 9 (.slice (some ⟨w.heap.size, 0, none⟩) 1 1)).run Tryz.prog (w.alloc (.cells #[.int .u8 z] 5)) = .ok (.string (ba [c])) (w.alloc (.cells #[.int .u8 z] 5)) := conv_Ob (ob_one w w.heap.size (Nat.le_refl _) c z hz)
end Go.Proofs.YtahbbnimoogapaaGreatDoor
