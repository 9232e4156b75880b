/- Contracts of octet's functions on words: turns, Left, Right, told; what they come to as plain functions. -/
import Derived.Test.YtanaingknbjgdaaProg
import Derived.WalkKit
import Derived.Lib.Hide
import Derived.Laws.Bits64b
namespace Go.Proofs.Ytanaingknbjgdaa
open Go.RowKit

/-- A word turned round to the left by k. -/
def rotl (x k : Nat) : Nat := (x * 2 ^ k) % 4294967296 ||| x / 2 ^ (32 - k)
def rotr (x k : Nat) : Nat := x / 2 ^ k ||| (x * 2 ^ (32 - k)) % 4294967296

theorem pow2_pos (k : Nat) : 0 < 2 ^ k := Nat.two_pow_pos k
theorem div_lt32 {x : Nat} (h : x < 4294967296) (k : Nat) : x / 2 ^ k < 4294967296 := Nat.lt_of_le_of_lt (Nat.div_le_self _ _) h

theorem rotl_lt {x : Nat} (h : x < 4294967296) (k : Nat) : rotl x k < 4294967296 :=
  Nat.or_lt_two_pow (n := 32) (Nat.mod_lt _ (by decide)) (div_lt32 h _)
theorem rotr_lt {x : Nat} (h : x < 4294967296) (k : Nat) : rotr x k < 4294967296 :=
  Nat.or_lt_two_pow (n := 32) (div_lt32 h _) (Nat.mod_lt _ (by decide))

theorem or32 (a b : Nat) (ha : a < 4294967296) (hb : b < 4294967296) : bits .or .u32 (a : Int) (b : Int) = ((a ||| b : Nat) : Int) := u32_or_nat a b ha hb

theorem left_num (x : Nat) (hx : x < 4294967296) (n : Int) :
    bits .or .u32 ((x : Int) * 2 ^ (n % 32).toNat % 4294967296) ((x : Int) / 2 ^ (32 - n % 32).toNat) = ((rotl x (n % 32).toNat : Nat) : Int) := by
  have h0 : 0 ≤ n % 32 := by omega
  have h1 : n % 32 < 32 := by omega
  obtain ⟨m, hm⟩ := Int.eq_ofNat_of_zero_le h0
  rw [hm] at h1 ⊢
  have e : (32 - (m : Int)).toNat = 32 - m := by omega
  rw [e, Int.toNat_natCast]
  have := or32 (x * 2 ^ m % 4294967296) (x / 2 ^ (32 - m)) (Nat.mod_lt _ (by decide)) (div_lt32 hx _)
  simp only [Int.natCast_emod, Int.natCast_mul, Int.natCast_pow, Int.natCast_ediv, Int.cast_ofNat_Int] at this
  rw [this]
  rfl

theorem right_num (x : Nat) (hx : x < 4294967296) (n : Int) :
    bits .or .u32 ((x : Int) / 2 ^ (n % 32).toNat) ((x : Int) * 2 ^ (32 - n % 32).toNat % 4294967296) = ((rotr x (n % 32).toNat : Nat) : Int) := by
  have h0 : 0 ≤ n % 32 := by omega
  have h1 : n % 32 < 32 := by omega
  obtain ⟨m, hm⟩ := Int.eq_ofNat_of_zero_le h0
  rw [hm] at h1 ⊢
  have e : (32 - (m : Int)).toNat = 32 - m := by omega
  rw [e, Int.toNat_natCast]
  have := or32 (x / 2 ^ m) (x * 2 ^ (32 - m) % 4294967296) (div_lt32 hx _) (Nat.mod_lt _ (by decide))
  simp only [Int.natCast_emod, Int.natCast_mul, Int.natCast_pow, Int.natCast_ediv, Int.cast_ofNat_Int] at this
  rw [this]
  rfl

theorem and31 (n : Int) : bits .and .u64 (IntKind.u64.wrap n) 31 = n % 32 := by
  rw [IntKind.wrap_u64]
  have h0 : 0 ≤ n % 18446744073709551616 := by omega
  obtain ⟨m, hm⟩ := Int.eq_ofNat_of_zero_le h0
  have h1 : n % 18446744073709551616 < 18446744073709551616 := by omega
  rw [hm] at h1 ⊢
  have := bits_and_u64_nat m 31 (by omega) (by decide)
  rw [show ((31 : Nat) : Int) = 31 from rfl] at this
  rw [this, show (31 : Nat) = 2 ^ 5 - 1 from rfl, Nat.and_two_pow_sub_one_eq_mod]
  omega

theorem turns_any (n : Int) (w : World) :
    Calls Try.prog 28 #[.int .i64 n] w fun e w' => e = .returned (.int .u64 (n % 32)) ∧ w = w' := by
  go_enter Try.func28, Try.ntmps28
  go_wp2
  go_ret
  exact ⟨congrArg (fun x => Ending.returned (.int .u64 x)) (and31 n), rfl⟩

theorem ret_int {k : IntKind} {a b : Int} (h : a = b) : Ending.returned (.int k a) = .returned (.int k b) := by rw [h]

theorem left_any (x : Nat) (hx : x < 4294967296) (n : Int) (w : World) :
    Calls Try.prog 14 #[.int .u32 x, .int .i64 n] w fun e w' => e = .returned (.int .u32 ((rotl x (n % 32).toNat : Nat) : Int)) ∧ w = w' := by
  have h0 : 0 ≤ n % 32 := by omega
  have h1 : n % 32 ≤ 31 := by omega
  have hx2 : (x : Int) < 4294967296 := by omega
  go_enter Try.func14, Try.ntmps14
  go_wp2_with (go_at_call 28; refine (turns_any _ _).mono ?_; rintro e w' ⟨rfl, rfl⟩)
  go_ret
  exact ⟨ret_int (left_num x hx n), rfl⟩

theorem right_any (x : Nat) (hx : x < 4294967296) (n : Int) (w : World) :
    Calls Try.prog 16 #[.int .u32 x, .int .i64 n] w fun e w' => e = .returned (.int .u32 ((rotr x (n % 32).toNat : Nat) : Int)) ∧ w = w' := by
  have h0 : 0 ≤ n % 32 := by omega
  have h1 : n % 32 ≤ 31 := by omega
  have hx2 : (x : Int) < 4294967296 := by omega
  go_enter Try.func16, Try.ntmps16
  go_wp2_with (go_at_call 28; refine (turns_any _ _).mono ?_; rintro e w' ⟨rfl, rfl⟩)
  go_ret
  exact ⟨ret_int (right_num x hx n), rfl⟩

/-- How many bytes are told where n are asked for. -/
def toldN (n : Int) : Nat := min n.toNat 64
theorem toldN_le (n : Int) : toldN n ≤ 64 := by unfold toldN; omega

theorem told_any (n : Int) (w : World) :
    Calls Try.prog 30 #[.int .i64 n] w fun e w' => e = .returned (.int .i64 (toldN n : Nat)) ∧ w = w' := by
  rcases (show n < 0 ∨ (0 ≤ n ∧ n ≤ 64) ∨ 64 < n from by omega) with h | ⟨h, h2⟩ | h
  all_goals
    go_enter Try.func30, Try.ntmps30
    go_wp2
    all_goals
      go_ret
      refine ⟨ret_int ?_, rfl⟩
      unfold toldN
      omega
end Go.Proofs.Ytanaingknbjgdaa
