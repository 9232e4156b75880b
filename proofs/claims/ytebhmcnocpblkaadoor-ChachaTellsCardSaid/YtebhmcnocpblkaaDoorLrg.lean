/- Texts too long to be looked at; rows of one, two, three texts. -/
import Derived.Test.YtebhmcnocpblkaaDoorArr
namespace Go.Proofs.YtebhmcnocpblkaaDoor
open Go.RowKit

/-- Is a text too long to be looked at? -/
def largeB (ts : List ByteArray) : Bool := ts.any fun s => decide (2048 < s.size)
theorem largeB_false (ts : List ByteArray) (h : ∀ i, i < ts.length → (ts.getD i ByteArray.empty).size ≤ 2048) : largeB ts = false := by
  rw [largeB, List.any_eq_false]
  intro s hs
  obtain ⟨i, hi, rfl⟩ := List.getElem_of_mem hs
  have := h i hi
  rw [List.getD_eq_getElem?_getD, List.getElem?_eq_getElem hi] at this
  simpa using this
theorem largeB_true (ts : List ByteArray) (i : Nat) (hi : i < ts.length) (h : 2048 < (ts.getD i ByteArray.empty).size) : largeB ts = true := by
  rw [List.getD_eq_getElem?_getD, List.getElem?_eq_getElem hi] at h
  rw [largeB, List.any_eq_true]
  exact ⟨ts[i], List.getElem_mem _, by simpa using h⟩
theorem largeB_all (ts : List ByteArray) (h : largeB ts = false) (s : ByteArray) (hs : s ∈ ts) : s.size ≤ 2048 := by
  rw [largeB, List.any_eq_false] at h
  have := h s hs
  simpa using this

/-- The cells of a row of one, two, three texts. -/
theorem cells_one1 (w : World) (x : ByteArray) : ∀ i, i < 1 → (w.alloc (.cells #[.string x] 9)).cell? ⟨w.heap.size, i, none⟩ = some (.string ([x].getD i ByteArray.empty)) := by
  intro i hi
  match i, hi with
  | 0, _ => exact (Arr.new w #[.string x] 9).cell rfl
theorem cells_two (w : World) (x y : ByteArray) : ∀ i, i < 2 → (w.alloc (.cells #[.string x, .string y] 9)).cell? ⟨w.heap.size, i, none⟩ = some (.string ([x, y].getD i ByteArray.empty)) := by
  intro i hi
  match i, hi with
  | 0, _ => exact (Arr.new w #[.string x, .string y] 9).cell rfl
  | 1, _ => exact (Arr.new w #[.string x, .string y] 9).cell rfl
theorem cells_three (w : World) (x y z : ByteArray) : ∀ i, i < 3 → (w.alloc (.cells #[.string x, .string y, .string z] 9)).cell? ⟨w.heap.size, i, none⟩ = some (.string ([x, y, z].getD i ByteArray.empty)) := by
  intro i hi
  match i, hi with
  | 0, _ => exact (Arr.new w #[.string x, .string y, .string z] 9).cell rfl
  | 1, _ => exact (Arr.new w #[.string x, .string y, .string z] 9).cell rfl
  | 2, _ => exact (Arr.new w #[.string x, .string y, .string z] 9).cell rfl
end Go.Proofs.YtebhmcnocpblkaaDoor
