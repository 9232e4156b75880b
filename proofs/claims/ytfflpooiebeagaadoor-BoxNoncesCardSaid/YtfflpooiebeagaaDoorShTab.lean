/- sha's listed variable: what the condition on it gives the walks. -/
import Derived.Test.YtfflpooiebeagaaDoorRows
import Derived.Test.YtfflpooiebeagaaDoorM9
import Derived.LaidMore
import Derived.Lib.LaidTab
import Derived.Stop.Joined
namespace Go.Proofs.YtfflpooiebeagaaDoor
open Go.RowKit

theorem gTab : Tryd.prog.globalNamed "posthorn/sha.table" = some 2 := by kernel_rfl
theorem tTab : (Tryd.prog.globals[2]?).map (·.type) = some 145 := by kernel_rfl
theorem shCells1 : Tryd.prog.cellsOf 65 = 1 := by kernel_rfl
theorem shCells64 : Tryd.prog.cellsOf 145 = 64 := by kernel_rfl
def tabI : List Int := tabL.map fun (n : Nat) => (n : Int)
theorem laidTab : ([("posthorn/sha.table", Rows.laid_posthorn_sha_table)] : List (String × DataW Unit)) = [("posthorn/sha.table", Lib.tabData .u32 tabI)] := by rfl

theorem sh_of_laid {W : World} (h : laidMetH Tryd.prog [("posthorn/sha.table", Rows.laid_posthorn_sha_table)] W) : Tab W := by
  rw [MakeChecks.laidMetH_plain _ _ _ (by kernel_rfl), laidTab] at h
  have hT := Lib.tabIs_of_head gTab tTab Tryd.underlying145 Tryd.underlying65 shCells1 shCells64 h
  intro k hk
  have hc := hT.cell gTab k (by show k < tabI.length; simp [tabI, tabL_len, hk])
  rw [hc]
  have : tabI.getD k 0 = ((tabN k : Nat) : Int) := by
    simp only [tabI, tabN, List.getD_eq_getElem?_getD, List.getElem?_map]
    cases tabL[k]? <;> simp
  rw [this]

end Go.Proofs.YtfflpooiebeagaaDoor
