/- chacha's and poly's listed variables: what the conditions on them give the walks. -/
import Derived.Test.YtfflpooiebeagaaDoorRows
import Derived.Test.YtfflpooiebeagaaDoorM6
import Derived.Test.YtfflpooiebeagaaDoorM3
import Derived.LaidMore
import Derived.OpenShut
import Derived.Lib.LaidTab
import Derived.Stop.Joined
namespace Go.Proofs.YtfflpooiebeagaaDoor
open Go.RowKit

theorem gPl : Tryd.prog.globalNamed "posthorn/chacha.places" = some 0 := by kernel_rfl
theorem tPl : (Tryd.prog.globals[0]?).map (·.type) = some 114 := by kernel_rfl
theorem cellsI : Tryd.prog.cellsOf 3 = 1 := by kernel_rfl
theorem cellsI4 : Tryd.prog.cellsOf 113 = 4 := by kernel_rfl
theorem cellsPl : Tryd.prog.cellsOf 114 = 32 := by kernel_rfl
def plZ : List (List Int) := [[0, 4, 8, 12], [1, 5, 9, 13], [2, 6, 10, 14], [3, 7, 11, 15], [0, 5, 10, 15], [1, 6, 11, 12], [2, 7, 8, 13], [3, 4, 9, 14]]
theorem plZ_at (i r : Nat) (hi : i < 8) (hr : r < 4) : (plZ.getD i []).getD r 0 = ((plN (4 * i + r) : Nat) : Int) := by
  rcases (show i = 0 ∨ i = 1 ∨ i = 2 ∨ i = 3 ∨ i = 4 ∨ i = 5 ∨ i = 6 ∨ i = 7 by omega) with h | h | h | h | h | h | h | h <;> subst h <;>
    rcases (show r = 0 ∨ r = 1 ∨ r = 2 ∨ r = 3 by omega) with h | h | h | h <;> subst h <;> rfl
theorem plZ_len (i : Nat) (hi : i < 8) : (plZ.getD i []).length = 4 := by
  rcases (show i = 0 ∨ i = 1 ∨ i = 2 ∨ i = 3 ∨ i = 4 ∨ i = 5 ∨ i = 6 ∨ i = 7 by omega) with h | h | h | h | h | h | h | h <;> subst h <;> rfl
theorem laidPl : ([("posthorn/chacha.places", Rows.laid_posthorn_chacha_places)] : List (String × DataW Unit)) = [("posthorn/chacha.places", .agg (plZ.map fun zs => Lib.tabData .i64 zs))] := by rfl

theorem pl_of_laid {W : World} (h : laidMetH Tryd.prog [("posthorn/chacha.places", Rows.laid_posthorn_chacha_places)] W) : Pl W := by
  rw [MakeChecks.laidMetH_plain _ _ _ (by kernel_rfl), laidPl] at h
  obtain ⟨ps, ⟨g', t', cs, fuel, p, q, hg', ht', hvar, hd, _, _⟩, _⟩ := h
  obtain rfl := Option.some.inj (gPl.symm.trans hg')
  obtain rfl := Option.some.inj (tPl.symm.trans ht')
  obtain ⟨xs, m, _, hx, hl, hxl, hel⟩ := DataW.trod_array under_pl hd
  have hx1 : xs.map (·.1) = plZ.map fun zs => (Lib.tabData .i64 zs : DataW Unit) := by
    have := congrArg Prod.fst hx
    simpa using this.symm
  intro k hk
  have hi : k / 4 < 8 := by omega
  have h1 := hel (k / 4) hi
  rw [cellsI4] at h1
  have hxi : xs[k / 4]? = some (xs[k / 4]'(by omega)) := List.getElem?_eq_getElem (by omega)
  have hdat : (xs[k / 4]'(by omega)).1 = Lib.tabData .i64 (plZ.getD (k / 4) []) := by
    have h2 : (xs.map (·.1))[k / 4]? = (plZ.map fun zs => (Lib.tabData .i64 zs : DataW Unit))[k / 4]? := by rw [hx1]
    rw [List.getElem?_map, hxi, List.getElem?_map, Option.map_some] at h2
    have h8 : k / 4 < plZ.length := hi
    rw [List.getElem?_eq_getElem h8, Option.map_some] at h2
    rw [Option.some.inj h2, List.getD_eq_getElem?_getD, List.getElem?_eq_getElem h8]; rfl
  rw [hxi] at h1
  have hrow := Lib.cells_of_tab (zs := plZ.getD (k / 4) []) (p := (xs[k / 4]'(by omega)).2) Tryd.underlying113 Tryd.underlying3 cellsI cellsI4 (by rw [h1, ← hdat])
  have hc := World.var?_cell gPl hvar k
  have hk4 : ((cs.toList.drop (k / 4 * 4)).take 4)[k % 4]? = cs[k]? := by
    rw [List.getElem?_take, if_pos (by omega), List.getElem?_drop, show k / 4 * 4 + k % 4 = k by omega, Array.getElem?_toList]
  rw [hrow, List.getElem?_map] at hk4
  have hlen := plZ_len (k / 4) hi
  have hat := plZ_at (k / 4) (k % 4) hi (by omega)
  rw [show 4 * (k / 4) + k % 4 = k by omega] at hat
  rw [List.getElem?_eq_getElem (by omega), Option.map_some] at hk4
  rw [List.getD_eq_getElem?_getD (l := plZ.getD (k / 4) []), List.getElem?_eq_getElem (by omega), Option.getD_some] at hat
  rw [hat] at hk4
  rw [hc]
  simpa using hk4.symm


theorem gKp : Tryd.prog.globalNamed "posthorn/poly.kept" = some 1 := by kernel_rfl
theorem tKp : (Tryd.prog.globals[1]?).map (·.type) = some 98 := by kernel_rfl
theorem cellsB1 : Tryd.prog.cellsOf 5 = 1 := by kernel_rfl
theorem cellsB16 : Tryd.prog.cellsOf 98 = 16 := by kernel_rfl
def keptI : List Int := keptL.map fun (b : UInt8) => (b.toNat : Int)
theorem laidKp : ([("posthorn/poly.kept", Rows.laid_posthorn_poly_kept)] : List (String × DataW Unit)) = [("posthorn/poly.kept", Lib.tabData .u8 keptI)] := by rfl

theorem kp_of_laid {W : World} (h : laidMetH Tryd.prog [("posthorn/poly.kept", Rows.laid_posthorn_poly_kept)] W) : Kp W := by
  rw [MakeChecks.laidMetH_plain _ _ _ (by kernel_rfl), laidKp] at h
  have hT := Lib.tabIs_of_head gKp tKp Tryd.underlying98 Tryd.underlying5 cellsB1 cellsB16 h
  intro k hk
  have hc := hT.cell gKp k (by show k < keptI.length; simp [keptI, keptL_len, hk])
  rw [hc]
  have : keptI.getD k 0 = ((keptL.getD k 0).toNat : Int) := by
    simp only [keptI, List.getD_eq_getElem?_getD, List.getElem?_map]
    rw [List.getElem?_eq_getElem (by rw [keptL_len]; exact hk)]; rfl
  rw [this]
end Go.Proofs.YtfflpooiebeagaaDoor
