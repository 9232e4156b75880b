/- Plain: lines that have no end in them; stuffed bytes; their sizes. -/
import Derived.Test.YtmpchbhimfjomaaLnL
namespace Go.Proofs.Ytmpchbhimfjomaa
open Go.RowKit

def crlf : ByteArray := ⟨#[13, 10]⟩
theorem crlf_list (X : ByteArray) : (X ++ crlf).data.toList = X.data.toList ++ [13, 10] := by simp [crlf]
theorem crlf_size (X : ByteArray) : (X ++ crlf).size = X.size + 2 := by rw [ByteArray.size_append]; rfl
/-- All texts before a place have no end in them. -/
def OneTo (ss : List ByteArray) (k : Nat) : Prop := ∀ j, j < k → OneL (ss.getD j ByteArray.empty).data.toList
theorem OneTo.step {ss : List ByteArray} {k : Nat} (h : OneTo ss k) (h1 : OneL (ss.getD k ByteArray.empty).data.toList) : OneTo ss (k + 1) := fun j hj => by
  by_cases e : j = k
  · subst e; exact h1
  · exact h j (by omega)
theorem OneTo.all {ss : List ByteArray} (h : OneTo ss ss.length) : ∀ x ∈ lsB ss, OneL x := fun x hx => by
  obtain ⟨s, hs, rfl⟩ := List.mem_map.1 hx
  obtain ⟨i, hi, rfl⟩ := List.getElem_of_mem hs
  have := h i hi
  rwa [List.getD_eq_getElem?_getD, List.getElem?_eq_getElem hi] at this
theorem stuffL_len (ss : List ByteArray) : (stuffL (lsB ss)).length ≤ sizeB ss + 3 * ss.length + 3 ∧ 1 ≤ (stuffL (lsB ss)).length := by
  rw [← stuff_eq, joinL_len, lsB_size, lsB_len, sizeB_snoc, List.length_append, dotsB_len]
  have := dotsB_size ss
  have e2 : (⟨#[46]⟩ : ByteArray).size = 1 := rfl
  simp only [List.length_cons, List.length_nil]
  omega
theorem cut_last (F : ByteArray) : (F.extract 0 (F.size - 1)).data.toList = F.data.toList.dropLast := by
  rw [ext_toList, List.drop_zero, List.dropLast_eq_take]
  simp
end Go.Proofs.Ytmpchbhimfjomaa
