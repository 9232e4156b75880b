/- poly: the listed variable: what the row's condition gives the walks; a start that meets it. -/
import Derived.Test.YtjbhmdlgokoepaaDoorRows
import Derived.Test.YtjbhmdlgokoepaaDoorPmH
import Derived.LaidMore
import Derived.Lib.LaidTab
import Derived.Stop.Joined
namespace Go.Proofs.YtjbhmdlgokoepaaDoor
open Go.RowKit

theorem gKp : Tryd.prog.globalNamed "posthorn/poly.kept" = some 0 := by kernel_rfl
theorem tKp : (Tryd.prog.globals[0]?).map (·.type) = some 38 := by kernel_rfl
theorem cellsB1 : Tryd.prog.cellsOf 5 = 1 := by kernel_rfl
theorem cellsB16 : Tryd.prog.cellsOf 38 = 16 := by kernel_rfl
def keptI : List Int := keptL.map fun (b : UInt8) => (b.toNat : Int)
theorem laidKp : ([("posthorn/poly.kept", Rows.laid_posthorn_poly_kept)] : List (String × DataW Unit)) = [("posthorn/poly.kept", Lib.tabData .u8 keptI)] := by rfl

theorem tab_of_laid {W : World} (h : laidMetH Tryd.prog [("posthorn/poly.kept", Rows.laid_posthorn_poly_kept)] W) : Kp W := by
  rw [MakeChecks.laidMetH_plain _ _ _ (by kernel_rfl), laidKp] at h
  have hT := Lib.tabIs_of_head gKp tKp Tryd.underlying38 Tryd.underlying5 cellsB1 cellsB16 h
  intro k hk
  have hc := hT.cell gKp k (by show k < keptI.length; simp [keptI, keptL_len, hk])
  rw [hc]
  have : keptI.getD k 0 = ((keptL.getD k 0).toNat : Int) := by
    simp only [keptI, List.getD_eq_getElem?_getD, List.getElem?_map]
    rw [List.getElem?_eq_getElem (by rw [keptL_len]; exact hk)]; rfl
  rw [this]

/-- The door's own heap meets the condition. -/
theorem door_met (os : Os) (args : Array Value) : laidMetH Tryd.prog [("posthorn/poly.kept", Rows.laid_posthorn_poly_kept)] ((World.doorLaid Tryd.prog 400 os).forCall (fun _ _ => 0) ⟨#[], args, []⟩).memory :=
  laidMetH_of_parts3 (fuel := 70) (laidMet_of_run' 70 (by kernel_rfl) (by kernel_rfl)) (by kernel_rfl) (by kernel_rfl)
end Go.Proofs.YtjbhmdlgokoepaaDoor
