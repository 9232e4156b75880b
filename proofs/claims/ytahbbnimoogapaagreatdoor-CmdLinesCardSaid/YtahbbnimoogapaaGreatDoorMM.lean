/- What layer 10's landed code reads of variables: its own table of verbs, the library's table of powers of ten, the library's error of syntax. The nine listed variables of layer 10's rows: what they give the walks; a start that meets the rows' condition. -/
import Derived.Test.YtahbbnimoogapaaGreatDoorMK
import Derived.Test.YtahbbnimoogapaaGreatDoorBas
import Derived.Lib.SmallJoins
import Derived.Lib.ItoaNum
import Derived.Test.YtahbbnimoogapaaGreatDoorRows
import Derived.LaidMore
import Derived.OpenShut
import Derived.Lay
import Derived.Stop.Joined
import Derived.Stop.LaidErr
import Derived.Lib.LaidTab
namespace Go.Proofs.YtahbbnimoogapaaGreatDoor
open Go.RowKit

theorem gVerbs : Tryz.prog.globalNamed "posthorn/cmd.verbs" = some 0 := by kernel_rfl
theorem gPow : Tryz.prog.globalNamed "internal/strconv.uint64pow10" = some 3 := by kernel_rfl
theorem gSyn : Tryz.prog.globalNamed "strconv.ErrSyntax" = some 1 := by kernel_rfl
/-- What the variables hold. -/
structure Tb (w : World) : Prop where
  verbs : ∀ k, k < 10 → w.cell? ⟨0, k, none⟩ = some (.string (ba (vb k)))
  pow : Lib.TabIs Tryz.prog w "internal/strconv.uint64pow10" .u64 Lib.pow10Tab
  syn : ∃ (tp : TypeId) (p : Value), w.var? Tryz.prog "strconv.ErrSyntax" = some #[.iface tp p]
theorem Tb.next {w w' : World} (h : Tb w) (hb : Below w.heap.size w w') : Tb w' := by
  refine ⟨fun k hk => ?_, Joins.tab_stays gPow h.pow hb (Nat.le_refl _), ?_⟩
  · have h1 := h.verbs k hk
    rw [hb.cell (show (⟨0, k, none⟩ : Addr).block < w.heap.size from World.block_lt_of_cell? w _ h1)]
    exact h1
  · obtain ⟨tp, p, h1⟩ := h.syn
    exact ⟨tp, p, Joins.var_stays gSyn h1 hb (Nat.le_refl _)⟩
theorem Tb.drew {w : World} (h : Tb w) : Tb w.drew := ⟨h.verbs, h.pow, h.syn⟩
theorem Tb.drewN {w : World} (h : Tb w) (n : Nat) : Tb (w.drewN n) := ⟨h.verbs, h.pow, h.syn⟩
theorem Tb.alloc {w : World} (h : Tb w) (o : Obj) : Tb (w.alloc o) := h.next ((Below.refl _ w).alloc (Nat.le_refl _) o)
/-- The start of a call and what is Below it. -/
theorem Tb.of {w w' : World} (h : Tb w) (hb : Below w.heap.size w w') : Tb w' := h.next hb
/-- An int64. -/
abbrev I64 (n : Int) : Prop := -9223372036854775808 ≤ n ∧ n ≤ 9223372036854775807
end Go.Proofs.YtahbbnimoogapaaGreatDoor
namespace Go.Proofs.YtahbbnimoogapaaGreatDoor
open Go.RowKit Go.ChangeShapes

/-- What the rows list. -/
abbrev laidL : List (String × DataW Unit) := [("math/bits.deBruijn32tab", Rows.laid_math_bits_deBruijn32tab), ("math/bits.deBruijn64tab", Rows.laid_math_bits_deBruijn64tab), ("internal/strconv.uint64pow10", Rows.laid_internal_strconv_uint64pow10), ("unicode/utf8.acceptRanges", Rows.laid_unicode_utf8_acceptRanges), ("strconv.ErrRange", Rows.laid_strconv_ErrRange), ("strconv.ErrSyntax", Rows.laid_strconv_ErrSyntax), ("posthorn/cmd.verbs", Rows.laid_posthorn_cmd_verbs), ("unicode.CaseRanges", Rows.laid_unicode_CaseRanges), ("unicode/utf8.first", Rows.laid_unicode_utf8_first)]
theorem laidL_shaped (os : Os) (args : Array Value) : ((World.laidAll Tryz.prog os laidL).forCall (fun _ _ => 0) ⟨#[], args, []⟩).Shaped Tryz.checked.prog := World.shaped_of_ZipB (by kernel_rfl) (by kernel_rfl)
theorem door_met (os : Os) (args : Array Value) : laidMetH Tryz.prog laidL ((World.laidAll Tryz.prog os laidL).forCall (fun _ _ => 0) ⟨#[], args, []⟩).memory := by
  rw [MakeChecks.laidMetH_plain _ _ _ (by kernel_rfl)]
  exact laidMet_laidAll _ (by kernel_rfl) (by kernel_rfl)

theorem tPow : (Tryz.prog.globals[3]?).map (·.type) = some 166 := by kernel_rfl
theorem cellsU64 : Tryz.prog.cellsOf 141 = 1 := by kernel_rfl
theorem cellsPow : Tryz.prog.cellsOf 166 = 20 := by kernel_rfl
theorem laidPow : (Rows.laid_internal_strconv_uint64pow10 : DataW Unit) = Lib.tabData .u64 Lib.pow10Tab := by rfl
theorem tSyn : (Tryz.prog.globals[1]?).map (·.type) = some 86 := by kernel_rfl
theorem cellsErr : Tryz.prog.cellsOf 173 = 1 := by kernel_rfl
theorem cellsErrS : Tryz.prog.cellsOf 9 = 1 := by kernel_rfl
theorem starErr : "*" ++ "errors.errorString" = "*errors.errorString" := by decide
theorem rowErr (u : TypeId) (h : Tryz.prog.typeName? 3 u = some "*errors.errorString") : u = 171 :=
  typeName_ptr_named (nm := "errors.errorString") (by rw [starErr]; kernel_rfl) (by kernel_rfl) (by decide) u (by rw [starErr]; exact h)
theorem tVerbs : (Tryz.prog.globals[0]?).map (·.type) = some 80 := by kernel_rfl
theorem cellsVerbs : Tryz.prog.cellsOf 80 = 10 := by kernel_rfl
theorem laidVerbs : (Rows.laid_posthorn_cmd_verbs : DataW Unit) = .agg (vbL.map fun l => .lit (.string l)) := by rfl
theorem tb_of_laid {W : World} (h : laidMetH Tryz.prog laidL W) : Tb W := by
  rw [MakeChecks.laidMetH_plain _ _ _ (by kernel_rfl)] at h
  have h1 := h.tail.tail
  rw [laidPow] at h1
  have hT := Lib.tabIs_of_head gPow tPow Tryz.underlying166 Tryz.underlying141 cellsU64 cellsPow h1
  have h2 := h1.tail.tail.tail
  obtain ⟨a0, s0, hv0, -, -, -⟩ := laid_sentinel h2 gSyn tSyn Tryz.underlying86 rowErr Tryz.underlying171 Tryz.underlying173 rfl rfl Tryz.underlying9 cellsErr cellsErrS
  have h3 := h2.tail
  rw [laidVerbs] at h3
  refine ⟨fun k hk => ?_, hT, _, _, hv0⟩
  obtain ⟨ps, ⟨g, t, cs, fuel, p, q, hg, ht, hv, hd, _⟩, _, _⟩ := h3
  obtain rfl := Option.some.inj (gVerbs.symm.trans hg)
  obtain rfl := Option.some.inj (tVerbs.symm.trans ht)
  obtain ⟨xs, m, _, hx, hl, hn, hf⟩ := DataW.trod_array Tryz.underlying80 hd
  have h4 := hf k hk
  rw [cellsErrS, Nat.mul_one, List.getElem?_eq_getElem (by omega)] at h4
  obtain ⟨s, e1, e2, _⟩ := DataW.trod_string Tryz.underlying9 h4
  have e3 : (xs.map (·.1))[k]? = some (.lit (.string s.data.toList)) := by
    rw [List.getElem?_map, List.getElem?_eq_getElem (by omega), e2]; rfl
  have e4 := (Prod.mk.inj hx).1
  have e5 : xs.map (·.1) = vbL.map fun l => .lit (.string l) := by injection e4 with e; exact e.symm
  rw [e5, List.getElem?_map] at e3
  have hkv : k < vbL.length := hk
  rw [List.getElem?_eq_getElem hkv] at e3
  have e6 : vbL[k] = s.data.toList := by
    have := Option.some.inj e3
    injection this with this
    injection this
  have e7 : cs.toList[k]? = some (.string s) := by
    have := congrArg (·[0]?) e1
    rw [List.getElem?_take_of_lt (by decide), List.getElem?_drop, Nat.add_zero] at this
    exact this
  have h5 := World.var?_cell gVerbs hv k
  rw [h5, ← Array.getElem?_toList, e7]
  rw [vb, List.getD_eq_getElem?_getD, List.getElem?_eq_getElem hkv, Option.getD_some, e6, ba_of]
end Go.Proofs.YtahbbnimoogapaaGreatDoor
