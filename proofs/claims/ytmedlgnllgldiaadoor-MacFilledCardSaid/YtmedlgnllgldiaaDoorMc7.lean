/- mac: large; what a law of layer 3 keeps. -/
import Derived.Test.YtmedlgnllgldiaaDoorMc6
namespace Go.Proofs.YtmedlgnllgldiaaDoor
open Go.RowKit

/-- Is a text too long to be looked at? -/
def largeB (ts : List ByteArray) : Bool := ts.any fun s => decide (2048 < s.size)
theorem largeB_false (ts : List ByteArray) (h : ∀ i, i < ts.length → (ts.getD i ByteArray.empty).size ≤ 2048) : largeB ts = false := by
  rw [largeB, List.any_eq_false]
  intro s hs
  obtain ⟨i, hi, rfl⟩ := List.getElem_of_mem hs
  have := h i hi
  rw [List.getD_eq_getElem?_getD, List.getElem?_eq_getElem hi] at this
  simpa using this
theorem largeB_true (ts : List ByteArray) (i : Nat) (hi : i < ts.length) (h : 2048 < (ts.getD i ByteArray.empty).size) : largeB ts = true := by
  rw [List.getD_eq_getElem?_getD, List.getElem?_eq_getElem hi] at h
  rw [largeB, List.any_eq_true]
  exact ⟨ts[i], List.getElem_mem _, by simpa using h⟩
theorem largeB_all (ts : List ByteArray) (h : largeB ts = false) (s : ByteArray) (hs : s ∈ ts) : s.size ≤ 2048 := by
  rw [largeB, List.any_eq_false] at h
  have := h s hs
  simpa using this

set_option maxHeartbeats 1000000 in
theorem large_any (a : Nat) (ts : List ByteArray) (n : Nat) (hn : ts.length = n) (hn3 : n ≤ 3) (w : World) (hc : ∀ i, i < n → w.cell? ⟨a, i, none⟩ = some (.string (ts.getD i ByteArray.empty))) :
    Calls Tryd.prog 12 #[.slice (some ⟨a, 0, none⟩) n n] w fun e w' => e = .returned (.bool (largeB ts)) ∧ w = w' := by
  have HC := Lib.hid hc
  clear hc
  go_enter Tryd.func12, Tryd.ntmps12
  go_wp2_with fail
  have HL := Lib.hid (largeB_false ts)
  have HTr := Lib.hid (largeB_true ts)
  have HN := Lib.hid hn
  clear hn
  go_loop [6] (fun x => ∃ k : Nat, k ≤ n ∧ x = .int .i64 (k : Int) ∧ ∀ i, i < k → (ts.getD i ByteArray.empty).size ≤ 2048) (fun x => n - (intOf x).toNat)
  case atStart => exact ⟨0, by omega, rfl, fun i hi => absurd hi (by omega)⟩
  case round =>
    obtain ⟨k, hk, rfl, hsm⟩ := hrel
    have HSm := Lib.hid hsm
    clear hsm
    by_cases hlt : k < n
    · have hcr := HC.out k hlt
      have htr := HTr.out k (by rw [HN.out]; exact hlt)
      have hsz : ∀ (_ : (ts.getD k ByteArray.empty).size ≤ 2048) i, i < k + 1 → (ts.getD i ByteArray.empty).size ≤ 2048 := fun h i hi => by
        rcases Nat.lt_or_ge i k with h1 | h1
        · exact HSm.out i h1
        · obtain rfl : i = k := by omega
          exact h
      have HSz := Lib.hid hsz
      have HTk := Lib.hid htr
      clear hsz htr
      generalize hT : ts.getD k ByteArray.empty = T at *
      have HTT := Lib.hid hT
      clear hT
      by_cases hbig : 2048 < T.size
      · go_wp2
        go_ret
        exact ⟨by rw [HTk.out hbig]; rfl, rfl⟩
      · have hle : T.size ≤ 2048 := by omega
        go_wp2
        go_round
        case rel => exact ⟨k + 1, by omega, by go_num, HSz.out hle⟩
        case measure => simp [intOf]; omega
    · obtain rfl : k = n := by omega
      go_wp2
      go_ret
      exact ⟨by rw [HL.out (by rw [HN.out]; exact HSm.out)]; rfl, rfl⟩
/-- The cells of a row of one, two, three texts. -/
theorem cells_one1 (w : World) (x : ByteArray) : ∀ i, i < 1 → (w.alloc (.cells #[.string x] 9)).cell? ⟨w.heap.size, i, none⟩ = some (.string ([x].getD i ByteArray.empty)) := by
  intro i hi
  match i, hi with
  | 0, _ => exact (Arr.new w #[.string x] 9).cell rfl
theorem cells_two (w : World) (x y : ByteArray) : ∀ i, i < 2 → (w.alloc (.cells #[.string x, .string y] 9)).cell? ⟨w.heap.size, i, none⟩ = some (.string ([x, y].getD i ByteArray.empty)) := by
  intro i hi
  match i, hi with
  | 0, _ => exact (Arr.new w #[.string x, .string y] 9).cell rfl
  | 1, _ => exact (Arr.new w #[.string x, .string y] 9).cell rfl
theorem cells_three (w : World) (x y z : ByteArray) : ∀ i, i < 3 → (w.alloc (.cells #[.string x, .string y, .string z] 9)).cell? ⟨w.heap.size, i, none⟩ = some (.string ([x, y, z].getD i ByteArray.empty)) := by
  intro i hi
  match i, hi with
  | 0, _ => exact (Arr.new w #[.string x, .string y, .string z] 9).cell rfl
  | 1, _ => exact (Arr.new w #[.string x, .string y, .string z] 9).cell rfl
  | 2, _ => exact (Arr.new w #[.string x, .string y, .string z] 9).cell rfl
/-- 'large' at a row that has just been laid. -/
theorem large1 (w : World) (x : ByteArray) : Calls Tryd.prog 12 #[.slice (some ⟨w.heap.size, 0, none⟩) 1 1] (w.alloc (.cells #[.string x] 9)) fun e w' => e = .returned (.bool (largeB [x])) ∧ w.alloc (.cells #[.string x] 9) = w' :=
  large_any _ [x] 1 rfl (by decide) _ (cells_one1 w x)
theorem large2 (w : World) (x y : ByteArray) : Calls Tryd.prog 12 #[.slice (some ⟨w.heap.size, 0, none⟩) 2 2] (w.alloc (.cells #[.string x, .string y] 9)) fun e w' => e = .returned (.bool (largeB [x, y])) ∧ w.alloc (.cells #[.string x, .string y] 9) = w' :=
  large_any _ [x, y] 2 rfl (by decide) _ (cells_two w x y)
theorem large3 (w : World) (x y z : ByteArray) : Calls Tryd.prog 12 #[.slice (some ⟨w.heap.size, 0, none⟩) 3 3] (w.alloc (.cells #[.string x, .string y, .string z] 9)) fun e w' => e = .returned (.bool (largeB [x, y, z])) ∧ w.alloc (.cells #[.string x, .string y, .string z] 9) = w' :=
  large_any _ [x, y, z] 3 rfl (by decide) _ (cells_three w x y z)
end Go.Proofs.YtmedlgnllgldiaaDoor
