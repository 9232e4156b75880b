/- The listed variable: what the row's condition gives the walks; a start that meets it. -/
import Derived.Test.YtmedlgnllgldiaaDoorRows
import Derived.Test.YtmedlgnllgldiaaDoorSh2
import Derived.LaidMore
import Derived.Lib.LaidTab
import Derived.Stop.Joined
namespace Go.Proofs.YtmedlgnllgldiaaDoor
open Go.RowKit

theorem gTab : Tryd.prog.globalNamed "posthorn/sha.table" = some 0 := by kernel_rfl
theorem tTab : (Tryd.prog.globals[0]?).map (·.type) = some 90 := by kernel_rfl
theorem cells1 : Tryd.prog.cellsOf 43 = 1 := by kernel_rfl
theorem cells64 : Tryd.prog.cellsOf 90 = 64 := by kernel_rfl
def tabI : List Int := tabL.map fun (n : Nat) => (n : Int)
theorem laidTab : ([("posthorn/sha.table", Rows.laid_posthorn_sha_table)] : List (String × DataW Unit)) = [("posthorn/sha.table", Lib.tabData .u32 tabI)] := by rfl

theorem tab_of_laid {W : World} (h : laidMetH Tryd.prog [("posthorn/sha.table", Rows.laid_posthorn_sha_table)] W) : Tab W := by
  rw [MakeChecks.laidMetH_plain _ _ _ (by kernel_rfl), laidTab] at h
  have hT := Lib.tabIs_of_head gTab tTab Tryd.underlying90 Tryd.underlying43 cells1 cells64 h
  intro k hk
  have hc := hT.cell gTab k (by show k < tabI.length; simp [tabI, tabL_len, hk])
  rw [hc]
  have : tabI.getD k 0 = ((tabN k : Nat) : Int) := by
    simp only [tabI, tabN, List.getD_eq_getElem?_getD, List.getElem?_map]
    cases tabL[k]? <;> simp
  rw [this]

/-- The door's own heap meets the condition. -/
theorem door_met (os : Os) (args : Array Value) : laidMetH Tryd.prog [("posthorn/sha.table", Rows.laid_posthorn_sha_table)] ((World.doorLaid Tryd.prog 400 os).forCall (fun _ _ => 0) ⟨#[], args, []⟩).memory :=
  laidMetH_of_parts3 (fuel := 70) (laidMet_of_run' 70 (by kernel_rfl) (by kernel_rfl)) (by kernel_rfl) (by kernel_rfl)
end Go.Proofs.YtmedlgnllgldiaaDoor
