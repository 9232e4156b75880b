/- The document's own layer 8: Unstuff, Join, Stuff. -/
import Derived.Test.YtmaephjonfeijaaDoorR8B
namespace Go.Proofs.YtmaephjonfeijaaDoor
open Go.RowKit

theorem byte0 {s : ByteArray} : s.data.toList[0]? = some 46 ↔ ∃ h : 0 < s.size, s[0] = 46 := by
  constructor
  · intro h
    have h1 : 0 < s.size := by
      have := (List.getElem?_eq_some_iff.1 h).1
      simpa using this
    refine ⟨h1, ?_⟩
    rw [byte_at h1] at h
    exact Option.some.inj h
  · rintro ⟨h1, h2⟩
    rw [byte_at h1, h2]
theorem dot_is {s : ByteArray} : s = ⟨#[46]⟩ ↔ s.data.toList = [46] := by
  constructor
  · rintro rfl; rfl
  · intro h
    apply ByteArray.ext
    apply Array.toList_inj.1
    exact h

theorem dot_eq (s : ByteArray) : (s.toList == [46]) = decide (s = ⟨#[46]⟩) := by
  rw [← tl8, show (⟨#[46]⟩ : ByteArray).toList = [46] from ByteArray.toList_mk _]

theorem joinL_len (L : List (List UInt8)) : (joinL L).length = (L.map List.length).sum + 2 * L.length := by
  induction L with
  | nil => rfl
  | cons x L ih => rw [joinL, List.length_append, List.length_cons, List.length_cons, ih, List.map_cons, List.sum_cons, List.length_cons]; omega
theorem lsB_size (ss : List ByteArray) : ((lsB ss).map List.length).sum = sizeB ss := by
  induction ss with
  | nil => rfl
  | cons s ss ih => rw [sizeB_cons, ← ih]; simp [lsB]
theorem lsB_len (ss : List ByteArray) : (lsB ss).length = ss.length := by simp [lsB]
theorem sizeB_take {ss : List ByteArray} {k : Nat} (hk : k < ss.length) : sizeB (ss.take (k + 1)) = sizeB (ss.take k) + (ss.getD k ByteArray.empty).size := by
  rw [List.getD_eq_getElem?_getD, List.getElem?_eq_getElem hk, sizeB, List.take_add_one, List.getElem?_eq_getElem hk, List.map_append, List.sum_append]
  simp only [sizeB, Option.toList_some, List.map_cons, List.map_nil, List.sum_cons, List.sum_nil, Option.getD_some, Nat.add_zero]
theorem sizeB_take_le (ss : List ByteArray) (k : Nat) : sizeB (ss.take k) ≤ sizeB ss := by
  induction ss generalizing k with
  | nil => simp [sizeB]
  | cons s ss ih =>
    cases k with
    | zero => simp [sizeB]
    | succ k => rw [List.take_succ_cons, sizeB_cons, sizeB_cons]; have := ih k; omega
theorem sizeB_at {ss : List ByteArray} {k : Nat} (hk : k < ss.length) : (ss.getD k ByteArray.empty).size ≤ sizeB ss := by
  have h1 := sizeB_take hk
  have h2 := sizeB_take_le ss (k + 1)
  omega
theorem lsB_take {ss : List ByteArray} {k : Nat} (hk : k < ss.length) : lsB (ss.take (k + 1)) = lsB (ss.take k) ++ [(ss.getD k ByteArray.empty).data.toList] := by
  rw [List.getD_eq_getElem?_getD, List.getElem?_eq_getElem hk, List.take_add_one, List.getElem?_eq_getElem hk, lsB, List.map_append]
  rfl
theorem joinL_take {ss : List ByteArray} {k : Nat} (hk : k < ss.length) : ba (joinL (lsB (ss.take (k + 1)))) = ba (joinL (lsB (ss.take k))) ++ ((ss.getD k ByteArray.empty) ++ ⟨#[13, 10]⟩) := by
  rw [lsB_take hk, joinL_append, ← ba_append]
  congr 1

end Go.Proofs.YtmaephjonfeijaaDoor
