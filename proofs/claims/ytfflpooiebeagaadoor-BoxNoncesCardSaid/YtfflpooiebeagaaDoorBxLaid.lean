/- The three listed variables: what the rows' condition gives the walks; a start that meets it. -/
import Derived.Test.YtfflpooiebeagaaDoorShTab
import Derived.Test.YtfflpooiebeagaaDoorAdTab
import Derived.Test.YtfflpooiebeagaaDoorBxP
import Derived.LaidMore
import Derived.OpenShut
import Derived.Lib.LaidTab
import Derived.Stop.Joined
namespace Go.Proofs.YtfflpooiebeagaaDoor
open Go.RowKit

theorem laid_cons {P : Program} {W : World} {a : String × DataW Unit} {l : List (String × DataW Unit)} (h : laidMet P (a :: l) W) : laidMet P [a] W ∧ laidMet P l W := by
  obtain ⟨ps, ⟨g, t, cs, fuel, p, q, h1, h2, h3, h4, h5, h6⟩, hn, ha⟩ := h
  subst h6
  exact ⟨⟨MemPlace.row ⟨g, 0, none⟩ cs.size ++ p, ⟨g, t, cs, fuel, p, [], h1, h2, h3, h4, rfl, by rw [List.append_nil]⟩, (List.nodup_append.1 hn).1, fun b off hb => ha b off (List.mem_append_left _ hb)⟩, ⟨q, h5, (List.nodup_append.1 hn).2.1, fun b off hb => ha b off (List.mem_append_right _ hb)⟩⟩
theorem tab_of_laid {W : World} (h : laidMetH Tryd.prog [("posthorn/chacha.places", Rows.laid_posthorn_chacha_places), ("posthorn/poly.kept", Rows.laid_posthorn_poly_kept), ("posthorn/sha.table", Rows.laid_posthorn_sha_table)] W) : PKB W := by
  rw [MakeChecks.laidMetH_plain _ _ _ (by kernel_rfl)] at h
  obtain ⟨h1, h23⟩ := laid_cons h
  obtain ⟨h2, h3⟩ := laid_cons h23
  refine ⟨sh_of_laid ?_, pl_of_laid ?_, kp_of_laid ?_⟩
  · rw [MakeChecks.laidMetH_plain _ _ _ (by kernel_rfl)]; exact h3
  · rw [MakeChecks.laidMetH_plain _ _ _ (by kernel_rfl)]; exact h1
  · rw [MakeChecks.laidMetH_plain _ _ _ (by kernel_rfl)]; exact h2

/-- The door's own heap meets the condition. -/
theorem door_met (os : Os) (args : Array Value) : laidMetH Tryd.prog [("posthorn/chacha.places", Rows.laid_posthorn_chacha_places), ("posthorn/poly.kept", Rows.laid_posthorn_poly_kept), ("posthorn/sha.table", Rows.laid_posthorn_sha_table)] ((World.doorLaid Tryd.prog 400 os).forCall (fun _ _ => 0) ⟨#[], args, []⟩).memory :=
  laidMetH_of_parts3 (fuel := 70) (laidMet_of_run' 70 (by kernel_rfl) (by kernel_rfl)) (by kernel_rfl) (by kernel_rfl)
end Go.Proofs.YtfflpooiebeagaaDoor
