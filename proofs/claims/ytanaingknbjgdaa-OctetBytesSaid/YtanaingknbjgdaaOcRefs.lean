/- Contracts of the reference's functions of layer 1. -/
import Derived.Test.YtanaingknbjgdaaOcBack
namespace Go.Proofs.Ytanaingknbjgdaa
open Go.RowKit

theorem round_any (n k : Int) (h0 : -9223372036854775808 ≤ n) (h : n ≤ 9223372036854775807) (hk : 1 ≤ k) (hk2 : k ≤ 4611686018427387904) (w : World) :
    Calls Try.prog 29 #[.int .i64 n, .int .i64 k] w fun e w' => e = .returned (.int .i64 (n % k)) ∧ w = w' := by
  have hk0 : (k == 0) = false := by simp; omega
  have hm : n.tmod k = n % k ∨ n.tmod k + k = n % k ∧ n.tmod k < 0 := by
    by_cases hn : 0 ≤ n
    · left; exact Int.tmod_eq_emod_of_nonneg hn
    · rw [Int.tmod_eq_emod]
      by_cases hd : k ∣ n
      · left; simp [hd]
      · right
        have hlt := Int.emod_lt_of_pos n (show 0 < k by omega)
        rw [if_neg (by simp [hd]; omega)]; omega
  have hl := Int.emod_nonneg n (show k ≠ 0 by omega)
  have hlt := Int.emod_lt_of_pos n (show 0 < k by omega)
  by_cases hn : 0 ≤ n
  · clear hm
    go_enter Try.func29, Try.ntmps29
    go_wp2
    go_ret
    exact ⟨rfl, rfl⟩
  · rcases hm with hm | ⟨hm, hneg⟩
    · have ht : 0 ≤ n.tmod k := by omega
      have HM := Lib.hid hm
      clear hm
      go_enter Try.func29, Try.ntmps29
      go_wp2
      go_ret
      exact ⟨ret_int HM.out, rfl⟩
    · have ht : -k ≤ n.tmod k := by omega
      have HM := Lib.hid hm
      clear hm
      go_enter Try.func29, Try.ntmps29
      go_wp2
      go_ret
      exact ⟨ret_int HM.out, rfl⟩

set_option maxHeartbeats 400000 in
theorem rleft_any (x : Nat) (hx : x < 4294967296) (n : Int) (h0 : -9223372036854775808 ≤ n) (h : n ≤ 9223372036854775807) (w : World) :
    Calls Try.prog 15 #[.int .u32 x, .int .i64 n] w fun e w' => e = .returned (.int .u32 (rotl x (n % 32).toNat : Nat)) ∧ w = w' := by
  have HR := Lib.hid (round_any n 32 h0 h (by decide) (by decide))
  obtain ⟨m, hm⟩ : ∃ m : Nat, n % 32 = (m : Int) := Int.eq_ofNat_of_zero_le (by omega)
  have hml : m < 32 := by omega
  rw [hm] at HR ⊢
  rw [Int.toNat_natCast]
  clear hm
  go_enter Try.func15, Try.ntmps15
  go_wp2_with fail
  go_loop [0, 5] (fun x' i => ∃ j : Nat, j ≤ m ∧ i = .int .i64 j ∧ x' = .int .u32 (rotl x j : Nat)) (fun _ i => m - (intOf i).toNat)
  case atStart => exact ⟨0, Nat.zero_le _, rfl, by rw [rotl_zero hx]⟩
  case round =>
    obtain ⟨j, hj, rfl, rfl⟩ := hrel
    by_cases hjm : j < m
    · have hlt := rotl_lt hx j
      have hs : rotl (rotl x j) 1 = rotl x (j + 1) := by rw [rotl_rotl hx (by omega) (by decide), Nat.mod_eq_of_lt (by omega)]
      rw [rotl_one hlt] at hs
      have HS := Lib.hid hs
      clear hs
      generalize rotl x j = y at *
      have hyi : (y : Int) < 4294967296 := by omega
      go_wp2_with (go_at_call 29; ((with_reducible refine (HR.out _).mono ?_); rintro e w' ⟨rfl, rfl⟩))
      go_round
      case rel => exact ⟨j + 1, by omega, by go_num, by rw [← HS.out]; go_num⟩
      case measure => simp [intOf]; omega
    · obtain rfl : j = m := by omega
      go_wp2_with (go_at_call 29; ((with_reducible refine (HR.out _).mono ?_); rintro e w' ⟨rfl, rfl⟩))
      go_ret
      exact ⟨rfl, rfl⟩

theorem rright_any (x : Nat) (hx : x < 4294967296) (n : Int) (h0 : -9223372036854775808 ≤ n) (h : n ≤ 9223372036854775807) (w : World) :
    Calls Try.prog 17 #[.int .u32 x, .int .i64 n] w fun e w' => e = .returned (.int .u32 (rotr x (n % 32).toNat : Nat)) ∧ w = w' := by
  have HR := Lib.hid (round_any n 32 h0 h (by decide) (by decide))
  have hL := rleft_any x hx (32 - n % 32) (by omega) (by omega)
  rw [show ((32 - n % 32) % 32).toNat = (32 - (n % 32).toNat) % 32 from by omega, ← rotr_eq hx (by omega)] at hL
  have HL := Lib.hid hL
  have b0 : 0 ≤ n % 32 := by omega
  have b1 : n % 32 < 32 := by omega
  clear hL
  go_enter Try.func17, Try.ntmps17
  go_wp2_with (first
    | (go_at_call 29; ((with_reducible refine (HR.out _).mono ?_); rintro e w' ⟨rfl, rfl⟩))
    | (go_at_call 15; ((with_reducible refine (HL.out _).mono ?_); rintro e w' ⟨rfl, rfl⟩)))
  go_ret
  exact ⟨rfl, rfl⟩

theorem lowL_step (x k : Nat) : ((x / 256 ^ k : Nat) : Int) % 256 = ((byteAt x k).toNat : Int) := by
  rw [byteAt, UInt8.toNat_ofNat', p256]
  omega

theorem wrap_div {y : Nat} (h : y < 18446744073709551616) : IntKind.u64.wrap ((y : Int) / 256) = ((y / 256 : Nat) : Int) := by
  rw [IntKind.wrap_u64]; omega

set_option maxHeartbeats 400000 in
theorem rlow_any (x : Nat) (hx : x < 18446744073709551616) (n : Int) (w : World) :
    Calls Try.prog 19 #[.int .u64 x, .int .i64 n] w fun e w' => e = .returned (.string ⟨(lowL x (toldN n)).toArray⟩) ∧ Below w.heap.size w w' := by
  have HX0 := Lib.hid hx
  clear hx
  go_enter Try.func19, Try.ntmps19
  go_wp2_with fail
  have hst := Ob.start w w.heap.size (Nat.le_refl _)
  have hbe := (Below.refl w.heap.size w).alloc (Nat.le_refl _) (.cells #[] 5)
  go_loopw [0, 5, 6] (fun x' v i wr => ∃ k : Nat, k ≤ toldN n ∧ i = .int .i64 k ∧ x' = .int .u64 (x / 256 ^ k : Nat) ∧ Ob wr w.heap.size v (lowL x k) ∧ Below w.heap.size w wr) (fun _ _ i _ => toldN n - (intOf i).toNat)
  case atStart => exact ⟨0, Nat.zero_le _, rfl, by simp, hst, hbe⟩
  case round =>
    clear hst hbe
    obtain ⟨k, hk, rfl, rfl, hown, hbel⟩ := hrel
    have hlk := lowL_len x k
    have hk64 := toldN_le n
    have hqs : x / 256 ^ k / 256 = x / 256 ^ (k + 1) := by rw [Nat.div_div_eq_div_mul, Nat.pow_succ]
    have HW := Lib.hid (wrap_div (Nat.lt_of_le_of_lt (Nat.div_le_self x (256 ^ k)) HX0.out))
    have hbt := lowL_step x k
    have HQ := Lib.hid hqs
    have HB := Lib.hid hbt
    have HL := Lib.hid hlk
    clear hqs hbt hlk
    by_cases hlt : k < toldN n
    · have d1 : (k : Int) < n := by unfold toldN at hlt; omega
      have d2 : k < 64 := by omega
      generalize x / 256 ^ k = y at *
      go_wp2_with (at_builtin; refine wpList_push wr rfl _ _ rfl w.heap.size _ (lowL x k) rfl rfl hown (byteAt x k) HB.out (by rw [HL.out]; omega) hbel.size ?_)
      intro v' w1 hown' hb1
      go_wp2
      go_roundw
      case rel => exact ⟨k + 1, by omega, by go_num, by rw [← HQ.out]; exact congrArg _ HW.out, by rw [lowL_succ]; exact hown', hbel.trans hb1⟩
      case measure => simp [intOf]; omega
    · obtain rfl : k = toldN n := by omega
      have d3 : ¬ ((toldN n : Int) < n ∧ (toldN n : Int) < 64) := by unfold toldN; omega
      by_cases d1 : ((toldN n : Nat) : Int) < n
      · have d2 : ¬ ((toldN n : Nat) : Int) < 64 := fun h => d3 ⟨d1, h⟩
        clear d3 HB HQ HL
        generalize hN : toldN n = N at *
        have HN := Lib.hid hN
        clear hN
        go_wp2_with (with_reducible refine wpList_ob_string _ rfl _ rfl hown rfl ?_)
        go_ret
        exact ⟨by rw [HN.out]; rfl, hbel⟩
      · clear d3 HB HQ HL
        generalize hN : toldN n = N at *
        have HN := Lib.hid hN
        clear hN
        go_wp2_with (with_reducible refine wpList_ob_string _ rfl _ rfl hown rfl ?_)
        go_ret
        exact ⟨by rw [HN.out]; rfl, hbel⟩
end Go.Proofs.Ytanaingknbjgdaa
