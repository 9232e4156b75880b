/- 'large' of layer 4's laws. -/
import Derived.Test.YtebhmcnocpblkaaDoorChC
import Derived.Test.YtebhmcnocpblkaaDoorLrg
namespace Go.Proofs.YtebhmcnocpblkaaDoor
open Go.RowKit

set_option maxHeartbeats 1000000 in
theorem large_any4 (a : Nat) (ts : List ByteArray) (n : Nat) (hn : ts.length = n) (hn3 : n ≤ 3) (w : World) (hc : ∀ i, i < n → w.cell? ⟨a, i, none⟩ = some (.string (ts.getD i ByteArray.empty))) :
    Calls Tryd.prog 10 #[.slice (some ⟨a, 0, none⟩) n n] w fun e w' => e = .returned (.bool (largeB ts)) ∧ w = w' := by
  have HC := Lib.hid hc
  clear hc
  go_enter Tryd.func10, Tryd.ntmps10
  go_wp2_with fail
  have HL := Lib.hid (largeB_false ts)
  have HTr := Lib.hid (largeB_true ts)
  have HN := Lib.hid hn
  clear hn
  go_loop [6] (fun x => ∃ k : Nat, k ≤ n ∧ x = .int .i64 (k : Int) ∧ ∀ i, i < k → (ts.getD i ByteArray.empty).size ≤ 2048) (fun x => n - (intOf x).toNat)
  case atStart => exact ⟨0, by omega, rfl, fun i hi => absurd hi (by omega)⟩
  case round =>
    obtain ⟨k, hk, rfl, hsm⟩ := hrel
    have HSm := Lib.hid hsm
    clear hsm
    by_cases hlt : k < n
    · have hcr := HC.out k hlt
      have htr := HTr.out k (by rw [HN.out]; exact hlt)
      have hsz : ∀ (_ : (ts.getD k ByteArray.empty).size ≤ 2048) i, i < k + 1 → (ts.getD i ByteArray.empty).size ≤ 2048 := fun h i hi => by
        rcases Nat.lt_or_ge i k with h1 | h1
        · exact HSm.out i h1
        · obtain rfl : i = k := by omega
          exact h
      have HSz := Lib.hid hsz
      have HTk := Lib.hid htr
      clear hsz htr
      generalize hT : ts.getD k ByteArray.empty = T at *
      have HTT := Lib.hid hT
      clear hT
      by_cases hbig : 2048 < T.size
      · go_wp2
        go_ret
        exact ⟨by rw [HTk.out hbig]; rfl, rfl⟩
      · have hle : T.size ≤ 2048 := by omega
        go_wp2
        go_round
        case rel => exact ⟨k + 1, by omega, by go_num, HSz.out hle⟩
        case measure => simp [intOf]; omega
    · obtain rfl : k = n := by omega
      go_wp2
      go_ret
      exact ⟨by rw [HL.out (by rw [HN.out]; exact HSm.out)]; rfl, rfl⟩
/-- 'large' at a row that has just been laid. -/
theorem lg4_1 (w : World) (x : ByteArray) : Calls Tryd.prog 10 #[.slice (some ⟨w.heap.size, 0, none⟩) 1 1] (w.alloc (.cells #[.string x] 9)) fun e w' => e = .returned (.bool (largeB [x])) ∧ w.alloc (.cells #[.string x] 9) = w' :=
  large_any4 _ [x] 1 rfl (by decide) _ (cells_one1 w x)
theorem lg4_2 (w : World) (x y : ByteArray) : Calls Tryd.prog 10 #[.slice (some ⟨w.heap.size, 0, none⟩) 2 2] (w.alloc (.cells #[.string x, .string y] 9)) fun e w' => e = .returned (.bool (largeB [x, y])) ∧ w.alloc (.cells #[.string x, .string y] 9) = w' :=
  large_any4 _ [x, y] 2 rfl (by decide) _ (cells_two w x y)
theorem lg4_3 (w : World) (x y z : ByteArray) : Calls Tryd.prog 10 #[.slice (some ⟨w.heap.size, 0, none⟩) 3 3] (w.alloc (.cells #[.string x, .string y, .string z] 9)) fun e w' => e = .returned (.bool (largeB [x, y, z])) ∧ w.alloc (.cells #[.string x, .string y, .string z] 9) = w' :=
  large_any4 _ [x, y, z] 3 rfl (by decide) _ (cells_three w x y z)
end Go.Proofs.YtebhmcnocpblkaaDoor
