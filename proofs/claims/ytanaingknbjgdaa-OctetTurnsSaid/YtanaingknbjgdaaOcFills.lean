/- OctetFills: the law's walk. -/
import Derived.Test.YtanaingknbjgdaaOcSame
namespace Go.Proofs.Ytanaingknbjgdaa
open Go.RowKit

theorem zeros_size (k : Nat) : (zeros k).size = k := by simp [zeros, ByteArray.size]
theorem fillI_pos (s : ByteArray) (k : Nat) (h : 1 ≤ k) : fillI s k = s ++ zeros (fillMore s.size k) := by
  rw [fillI, if_neg (by omega), Int.toNat_natCast]
theorem fillI_size (s : ByteArray) (k : Nat) (h : 1 ≤ k) : (fillI s k).size = s.size + fillMore s.size k := by
  rw [fillI_pos s k h, ByteArray.size_append, zeros_size]
theorem fillMore_lt (l k : Nat) (h : 1 ≤ k) : fillMore l k < k := by
  unfold fillMore
  split
  · omega
  · have := Nat.mod_lt l (show k > 0 by omega); omega
theorem fillMore_mod (l k : Nat) (h : 1 ≤ k) : (l + fillMore l k) % k = 0 := by
  unfold fillMore
  have hlt := Nat.mod_lt l (show k > 0 by omega)
  split
  · simpa
  · rw [show l + (k - l % k) = l / k * k + k from by have := Nat.div_add_mod l k; rw [Nat.mul_comm] at this; omega]
    simp
theorem fillI_again (s : ByteArray) (k : Nat) (h : 1 ≤ k) : fillI (fillI s k) k = fillI s k := by
  rw [fillI_pos (fillI s k) k h, fillMore, if_pos, app_zeros0]
  rw [fillI_size s k h]; exact fillMore_mod _ _ h
theorem fillI_ahead (s : ByteArray) (k : Nat) (h : 1 ≤ k) : ((fillI s k).extract 0 s.size) = s := by
  rw [fillI_pos s k h]
  apply ByteArray.ext
  simp
theorem fillI_behind (s : ByteArray) (k : Nat) (h : 1 ≤ k) (i : Nat) (h1 : s.size ≤ i) (h2 : i < (fillI s k).size) : (fillI s k)[i] = 0 := by
  have : ∀ f : ByteArray, f = s ++ zeros (fillMore s.size k) → ∀ h : i < f.size, f[i] = 0 := by
    intro f hf h
    subst hf
    rw [ByteArray.getElem_append_right h1]
    simp [zeros, ByteArray.getElem_eq_getElem_data]
  exact this _ (fillI_pos s k h) h2

set_option maxHeartbeats 400000 in
theorem fills_main (s : ByteArray) (k : Nat) (h : s.size ≤ 4096) (h1 : 1 ≤ k) (h2 : k ≤ 255) (w : World) :
    Calls Try.prog 7 #[.string s, .int .u8 k] w fun e w' => e = .returned (.bool true) ∧ Below w.heap.size w w' := by
  have hbel := Below.refl w.heap.size w
  have hf0 := fillI_size s k h1
  have hlt := fillMore_lt s.size k h1
  have c1 : ∀ w, Calls Try.prog 25 #[.string s, .int .i64 k] w fun e w' => e = .returned (.string (fillI s k)) ∧ Below w.heap.size w w' := fun w => fill_any s k (by omega) (by omega) w
  have c2 : ∀ w, Calls Try.prog 25 #[.string (fillI s k), .int .i64 k] w fun e w' => e = .returned (.string (fillI s k)) ∧ Below w.heap.size w w' := fun w => by
    have := fill_any (fillI s k) k (by omega) (by omega) w
    rw [fillI_again s k h1] at this
    exact this
  have C1 := Lib.hid c1
  have C2 := Lib.hid c2
  have a1 : ((fillI s k).size : Int) % (k : Int) = 0 := by
    have : ((s.size + fillMore s.size k) % k) = 0 := fillMore_mod s.size k h1
    rw [hf0]; omega
  have a2 : ((((fillI s k).size : Int) % (k : Int)) != 0) = false := by rw [a1]; rfl
  have a3 : ((fillI s k).extract 0 s.size).toList = s.toList := by rw [fillI_ahead s k h1]
  have a4 : ((k : Int) == 0) = false := by simp; omega
  have hz := fillI_behind s k h1
  have hge : s.size ≤ (fillI s k).size := by omega
  have hup : (fillI s k).size < s.size + k := by omega
  have hup2 : (fillI s k).size < 5000 := by omega
  generalize fillI s k = f at *
  have HZ := Lib.hid hz
  clear hz c1 c2 hf0 hlt a1
  go_enter Try.func7, Try.ntmps7
  go_wp2_with (first
    | (go_at_call 9; ((with_reducible refine (awake_any _).mono ?_); rintro e w' ⟨rfl, hb⟩; replace hbel := Below_next hbel hb; clear hb))
    | (go_at_call 25; (first | (with_reducible refine (C1.out _).mono ?_) | (with_reducible refine (C2.out _).mono ?_)); rintro e w' ⟨rfl, hb⟩; replace hbel := Below_next hbel hb; clear hb))
  clear a2 a3 C1 C2
  go_loop [7] (fun i => ∃ j : Nat, s.size ≤ j ∧ j ≤ f.size ∧ i = .int .i64 j) (fun i => f.size - (intOf i).toNat)
  case atStart => exact ⟨s.size, Nat.le_refl _, hge, rfl⟩
  case round =>
    obtain ⟨j, hj1, hj2, rfl⟩ := hrel
    by_cases hlt : j < f.size
    · have hzj : f[j] = 0 := HZ.out j hj1 hlt
      have hzb : ((f[j].toNat : Int) != 0) = false := by rw [hzj]; rfl
      clear hzj
      go_wp2
      go_round
      case rel => exact ⟨j + 1, by omega, by omega, by go_num⟩
      case measure => simp [intOf]; omega
    · go_wp2
      go_ret
      exact ⟨rfl, hbel⟩

theorem fills_zero (s : ByteArray) (h : s.size ≤ 4096) (w : World) :
    Calls Try.prog 7 #[.string s, .int .u8 0] w fun e w' => e = .returned (.bool true) ∧ Below w.heap.size w w' := by
  have hbel := Below.refl w.heap.size w
  have c1 : ∀ w, Calls Try.prog 25 #[.string s, .int .i64 0] w fun e w' => e = .returned (.string s) ∧ Below w.heap.size w w' := fun w => by
    have := fill_none s 0 (by decide) w
    rw [fillI, if_pos (by decide)] at this
    exact this
  have C1 := Lib.hid c1
  clear c1
  go_enter Try.func7, Try.ntmps7
  go_wp2_with (first
    | (go_at_call 9; ((with_reducible refine (awake_any _).mono ?_); rintro e w' ⟨rfl, hb⟩; replace hbel := Below_next hbel hb; clear hb))
    | (go_at_call 25; ((with_reducible refine (C1.out _).mono ?_); rintro e w' ⟨rfl, hb⟩; replace hbel := Below_next hbel hb; clear hb)))
  go_ret
  exact ⟨by simp, hbel⟩

theorem fills_big (s : ByteArray) (k : Int) (h : 4096 < s.size) (w0 : s.size ≤ maxLen) (w : World) :
    Calls Try.prog 7 #[.string s, .int .u8 k] w fun e w' => e = .returned (.bool true) ∧ Below w.heap.size w w' := by
  have hbel := Below.refl w.heap.size w
  go_enter Try.func7, Try.ntmps7
  go_wp2_with (go_at_call 9; ((with_reducible refine (awake_any _).mono ?_); rintro e w' ⟨rfl, hb⟩; replace hbel := Below_next hbel hb; clear hb))
  go_ret
  exact ⟨rfl, hbel⟩

theorem wf_u8 {a : Int} (h : (Lit.int .u8 a).wf = true) : 0 ≤ a ∧ a ≤ 255 := by simpa [Lit.wf, IntKind.min, IntKind.max, IntKind.signed, IntKind.bits] using h

theorem octetFills_walk (s : ByteArray) (a1 : Int) (w0 : s.size ≤ maxLen) (w1 : (Lit.int .u8 a1).wf = true) (w : World) :
    Calls Try.prog 7 #[.string s, .int .u8 a1] w fun e w' => e = .returned (.bool true) ∧ Below w.heap.size w w' := by
  by_cases h : 4096 < s.size
  · exact fills_big s a1 h w0 w
  · have h1 := wf_u8 w1
    by_cases hz : a1 = 0
    · subst hz; exact fills_zero s (by omega) w
    · obtain ⟨k, rfl⟩ := Int.eq_ofNat_of_zero_le h1.1
      exact fills_main s k (by omega) (by omega) (by omega) w
end Go.Proofs.Ytanaingknbjgdaa
