/- Contract of octet.Fill, over the library's strings.Repeat. -/
import Derived.Test.YtjbhmdlgokoepaaDoorBld
namespace Go.Proofs.YtjbhmdlgokoepaaDoor
open Go.RowKit
set_option maxHeartbeats 400000 in
theorem fill_main (s : ByteArray) (n : Nat) (hs : s.size ≤ 1048576) (h1 : 1 ≤ n) (hn : n ≤ 1048576) (hm : s.size % n ≠ 0) (w : World) :
    Calls Tryd.prog 35 #[.string s, .int .i64 n] w fun e w' => e = .returned (.string (fillI s n)) ∧ Below w.heap.size w w' := by
  have hlt : s.size % n < n := Nat.mod_lt _ (by omega)
  have a1 : ((n : Int) < 1) = False := by simp; omega
  have hmod : ((s.size : Int) % (n : Int) == 0) = false := by
    have : ((s.size : Int) % (n : Int)) = ((s.size % n : Nat) : Int) := by simp
    rw [this]; simp; omega
  have a2 : decide ((n : Int) < 1) = false := by simp; omega
  go_enter Tryd.func35, Tryd.ntmps35
  go_wp2_with fail
  rw [show ((n : Int) - (s.size : Int) % (n : Int)) = ((n - s.size % n : Nat) : Int) from by omega]
  refine (Tryd.strings_Repeat _ _ _ (by omega) (by show 1 * _ ≤ _; omega)).mono ?_
  rintro e w' ⟨rfl, hb⟩
  rw [show (ByteArray.mk #[0]).data.toList = [(0 : UInt8)] from rfl, repeatL_zero]
  go_wp2_with fail
  go_ret
  exact ⟨by rw [fillI, if_neg (by omega), Int.toNat_natCast, fillMore, if_neg hm]; rfl, hb⟩

theorem fill_even (s : ByteArray) (n : Nat) (h1 : 1 ≤ n) (hm : s.size % n = 0) (w : World) :
    Calls Tryd.prog 35 #[.string s, .int .i64 n] w fun e w' => e = .returned (.string (fillI s n)) ∧ Below w.heap.size w w' := by
  have a1 : ((n : Int) < 1) = False := by simp; omega
  have hmod : ((s.size : Int) % (n : Int) == 0) = true := by
    have : ((s.size : Int) % (n : Int)) = ((s.size % n : Nat) : Int) := by simp
    rw [this]; simp; omega
  have a2 : decide ((n : Int) < 1) = false := by simp; omega
  go_enter Tryd.func35, Tryd.ntmps35
  go_wp2_with fail
  go_ret
  exact ⟨by rw [fillI, if_neg (by omega), Int.toNat_natCast, fillMore, if_pos hm, app_zeros0]; rfl, Below.refl _ _⟩

theorem fill_none (s : ByteArray) (n : Int) (h1 : n < 1) (w : World) :
    Calls Tryd.prog 35 #[.string s, .int .i64 n] w fun e w' => e = .returned (.string (fillI s n)) ∧ Below w.heap.size w w' := by
  have a2 : decide (n < 1) = true := by simp; omega
  go_enter Tryd.func35, Tryd.ntmps35
  go_wp2_with fail
  go_ret
  exact ⟨by rw [fillI, if_pos h1]; rfl, Below.refl _ _⟩

/-- Fill: every text of up to 2^20 bytes, every n up to 2^20. -/
theorem fill_any (s : ByteArray) (n : Int) (hs : s.size ≤ 1048576) (hn : n ≤ 1048576) (w : World) :
    Calls Tryd.prog 35 #[.string s, .int .i64 n] w fun e w' => e = .returned (.string (fillI s n)) ∧ Below w.heap.size w w' := by
  by_cases h : n < 1
  · exact fill_none s n h w
  · obtain ⟨m, rfl⟩ := Int.eq_ofNat_of_zero_le (show 0 ≤ n from by omega)
    by_cases hm : s.size % m = 0
    · exact fill_even s m (by omega) hm w
    · exact fill_main s m hs (by omega) (by omega) hm w
end Go.Proofs.YtjbhmdlgokoepaaDoor
