/- OctetBack: the law's walk. -/
import Derived.Test.YtanaingknbjgdaaOcParts
import Derived.Deep.RegionWith
import Derived.Outline
namespace Go.Proofs.Ytanaingknbjgdaa
open Go.RowKit

theorem numLow_lowL (x n : Nat) : numLow (lowL x n) = x % 256 ^ n := by
  induction n with
  | zero => simp [lowL, numLow]; omega
  | succ n ih =>
    rw [lowL_succ, numLow_append, ih, lowL_len]
    simp only [numLow, Nat.mul_zero, Nat.add_zero, byteAt]
    rw [UInt8.toNat_ofNat', ← p256]
    have : x % 256 ^ (n + 1) = x % 256 ^ n + 256 ^ n * (x / 256 ^ n % 256) := by rw [Nat.pow_succ, Nat.mod_mul]
    exact this.symm

theorem lowL_back (x : Nat) (hx : x < 18446744073709551616) : numLow (lowL x 8) = x := by
  rw [numLow_lowL]; exact Nat.mod_eq_of_lt hx

theorem xorL_back : ∀ (a b : List UInt8), a.length = b.length → xorL (xorL a b) b = a
  | [], [], _ => rfl
  | a :: l, b :: m, h => by
    have := xorL_back l m (by simpa using h)
    unfold xorL at this ⊢
    simp only [List.zipWith_cons_cons, this]
    rw [UInt8.xor_assoc, UInt8.xor_self, UInt8.xor_zero]
theorem xorB_back (a b : ByteArray) (h : b.size = a.size) : (xorB a b).size = a.size ∧ xorB (xorB a b) b = a := by
  have hl : a.data.toList.length = b.data.toList.length := by simp [h]
  have hs : (xorB a b).size = a.size := by
    rw [xorB, if_pos h]
    show (xorL a.data.toList b.data.toList).toArray.size = _
    simp [xorL_len _ _ hl]
  refine ⟨hs, ?_⟩
  rw [xorB, if_pos (by omega)]
  apply ByteArray.ext
  rw [xorB, if_pos h]
  show (xorL (xorL a.data.toList b.data.toList) b.data.toList).toArray = _
  rw [xorL_back _ _ hl]

set_option maxHeartbeats 1000000 in
theorem back_main (x : Nat) (n : Int) (a b : ByteArray) (hx : x < 18446744073709551616) (ha : a.size ≤ 4096) (hb : b.size ≤ 4096) (w : World) :
    Calls Try.prog 5 #[.int .u64 x, .int .i64 n, .string a, .string b] w fun e w' => e = .returned (.bool true) ∧ Below w.heap.size w w' := by
  have hbel := Below.refl w.heap.size w
  have hW : x % 4294967296 < 4294967296 := Nat.mod_lt _ (by decide)
  have hWx : (x : Int) % 4294967296 = ((x % 4294967296 : Nat) : Int) := u32_of x
  obtain ⟨W, hWd⟩ : ∃ W, W = x % 4294967296 := ⟨_, rfl⟩
  rw [← hWd] at hW hWx
  have hn : (n % 32).toNat < 32 := by omega
  have c1 : ∀ w, Calls Try.prog 14 #[.int .u32 W, .int .i64 n] w fun e w' => e = .returned (.int .u32 (rotl W (n % 32).toNat : Nat)) ∧ w = w' := left_any W hW n
  have c2 : ∀ w, Calls Try.prog 16 #[.int .u32 (rotl W (n % 32).toNat : Nat), .int .i64 n] w fun e w' => e = .returned (.int .u32 W) ∧ w = w' := fun w => by
    have := right_any (rotl W (n % 32).toNat) (rotl_lt hW _) n w
    rw [rotr_rotl hW hn] at this
    exact this
  have c3 : ∀ w, Calls Try.prog 14 #[.int .u32 W, .int .i64 0] w fun e w' => e = .returned (.int .u32 W) ∧ w = w' := fun w => by
    have := left_any W hW 0 w
    rw [show ((0 : Int) % 32).toNat = 0 from rfl, rotl_zero hW] at this
    exact this
  have c4 : ∀ w, Calls Try.prog 14 #[.int .u32 W, .int .i64 32] w fun e w' => e = .returned (.int .u32 W) ∧ w = w' := fun w => by
    have := left_any W hW 32 w
    rw [show ((32 : Int) % 32).toNat = 0 from rfl, rotl_zero hW] at this
    exact this
  have c5 : ∀ w, Calls Try.prog 18 #[.int .u64 x, .int .i64 8] w fun e w' => e = .returned (.string ⟨(lowL x 8).toArray⟩) ∧ Below w.heap.size w w' := low_any x hx 8
  have c6 : ∀ w, Calls Try.prog 20 #[.int .u64 x, .int .i64 8] w fun e w' => e = .returned (.string ⟨(lowL x 8).reverse.toArray⟩) ∧ Below w.heap.size w w' := high_any x hx 8
  have c7 : ∀ w, Calls Try.prog 10 #[.string ⟨(lowL x 8).toArray⟩] w fun e w' => e = .returned (.tuple #[.int .u64 x, .int .i64 0]) ∧ w = w' := fun w => by
    have := fromLow_any ⟨(lowL x 8).toArray⟩ w
    rw [show (ByteArray.mk (lowL x 8).toArray).size = 8 from (by show (lowL x 8).toArray.size = 8; simp [lowL_len]), show (ByteArray.mk (lowL x 8).toArray).data.toList = lowL x 8 from rfl, lowL_back x hx] at this
    exact this
  have c8 : ∀ w, Calls Try.prog 12 #[.string ⟨(lowL x 8).reverse.toArray⟩] w fun e w' => e = .returned (.tuple #[.int .u64 x, .int .i64 0]) ∧ w = w' := fun w => by
    have := fromHigh_any ⟨(lowL x 8).reverse.toArray⟩ w
    rw [show (ByteArray.mk (lowL x 8).reverse.toArray).size = 8 from (by show (lowL x 8).reverse.toArray.size = 8; simp [lowL_len]), show (ByteArray.mk (lowL x 8).reverse.toArray).data.toList = (lowL x 8).reverse from rfl, numHigh_reverse, lowL_back x hx] at this
    exact this
  generalize (ByteArray.mk (lowL x 8).toArray) = LO at *
  generalize (ByteArray.mk (lowL x 8).reverse.toArray) = HI at *
  obtain ⟨k, hk⟩ : ∃ k : Nat, min (a.size : Int) (b.size : Int) = (k : Int) := ⟨min a.size b.size, by omega⟩
  have hka : k ≤ a.size := by omega
  have hkb : k ≤ b.size := by omega
  have sa : (a.extract 0 k).size = k := by rw [ByteArray.size_extract]; omega
  have sb : (b.extract 0 k).size = k := by rw [ByteArray.size_extract]; omega
  have xb := xorB_back (a.extract 0 k) (b.extract 0 k) (by omega)
  have c9 : ∀ w, Calls Try.prog 22 #[.string (a.extract 0 k), .string (b.extract 0 k)] w fun e w' => e = .returned (.tuple #[.string (xorB (a.extract 0 k) (b.extract 0 k)), .int .i64 0]) ∧ Below w.heap.size w w' := fun w => by
    have := xor_any (a.extract 0 k) (b.extract 0 k) (by omega) (by omega) w
    rw [xorE, if_pos (by omega)] at this
    exact this
  have c10 : ∀ w, Calls Try.prog 22 #[.string (xorB (a.extract 0 k) (b.extract 0 k)), .string (b.extract 0 k)] w fun e w' => e = .returned (.tuple #[.string (a.extract 0 k), .int .i64 0]) ∧ Below w.heap.size w w' := fun w => by
    have := xor_any (xorB (a.extract 0 k) (b.extract 0 k)) (b.extract 0 k) (by omega) (by omega) w
    rw [xorE, if_pos (by omega), xb.2] at this
    exact this
  have C1 := Lib.hid c1
  have C2 := Lib.hid c2
  have C3 := Lib.hid c3
  have C4 := Lib.hid c4
  have C5 := Lib.hid c5
  have C6 := Lib.hid c6
  have C7 := Lib.hid c7
  have C8 := Lib.hid c8
  have C9 := Lib.hid c9
  have C10 := Lib.hid c10
  generalize xorB (a.extract 0 k) (b.extract 0 k) = X at *
  clear c1 c2 c3 c4 c5 c6 c7 c8 c9 c10 xb sa sb hW hWd hn
  go_enter Try.func5, Try.ntmps5
  go_wp2_with (first
    | (go_at_call 9; ((with_reducible refine (awake_any _).mono ?_); rintro e w' ⟨rfl, hb⟩; replace hbel := Below_next hbel hb; clear hb))
    | (go_at_call 14; (first | (with_reducible refine (C1.out _).mono ?_) | (with_reducible refine (C3.out _).mono ?_) | (with_reducible refine (C4.out _).mono ?_)); rintro e w' ⟨rfl, rfl⟩)
    | (go_at_call 16; ((with_reducible refine (C2.out _).mono ?_); rintro e w' ⟨rfl, rfl⟩))
    | (go_at_call 18; ((with_reducible refine (C5.out _).mono ?_); rintro e w' ⟨rfl, hb⟩; replace hbel := Below_next hbel hb; clear hb))
    | (go_at_call 20; ((with_reducible refine (C6.out _).mono ?_); rintro e w' ⟨rfl, hb⟩; replace hbel := Below_next hbel hb; clear hb))
    | (go_at_call 10; ((with_reducible refine (C7.out _).mono ?_); rintro e w' ⟨rfl, rfl⟩))
    | (go_at_call 12; ((with_reducible refine (C8.out _).mono ?_); rintro e w' ⟨rfl, rfl⟩)))
  go_region_with (go_at_call 22; ((with_reducible refine (C9.out _).mono ?_); rintro e w' ⟨rfl, hb⟩; replace hbel := Below_next hbel.drew hb; clear hb))
  go_wp2_with (go_at_call 22; ((with_reducible refine (C10.out _).mono ?_); rintro e w' ⟨rfl, hb⟩; replace hbel := Below_next hbel hb; clear hb))
  go_ret
  exact ⟨by simp, hbel⟩

theorem back_big (x n : Int) (a b : ByteArray) (wa : a.size ≤ maxLen) (wb : b.size ≤ maxLen) (h : 4096 < a.size ∨ a.size ≤ 4096 ∧ 4096 < b.size) (w : World) :
    Calls Try.prog 5 #[.int .u64 x, .int .i64 n, .string a, .string b] w fun e w' => e = .returned (.bool true) ∧ Below w.heap.size w w' := by
  have hbel := Below.refl w.heap.size w
  rcases h with h | ⟨h, h'⟩
  all_goals
    go_enter Try.func5, Try.ntmps5
    go_wp2_with (go_at_call 9; ((with_reducible refine (awake_any _).mono ?_); rintro e w' ⟨rfl, hb⟩; replace hbel := Below_next hbel hb; clear hb))
    go_ret
    exact ⟨rfl, hbel⟩

theorem octetBack_walk (a0 a1 : Int) (a b : ByteArray) (w0 : (Lit.int .u64 a0).wf = true) (_ : (Lit.int .i64 a1).wf = true) (wa : a.size ≤ maxLen) (wb : b.size ≤ maxLen) (w : World) :
    Calls Try.prog 5 #[.int .u64 a0, .int .i64 a1, .string a, .string b] w fun e w' => e = .returned (.bool true) ∧ Below w.heap.size w w' := by
  by_cases ha : a.size ≤ 4096
  · by_cases hb : b.size ≤ 4096
    · have h0 := wf_u64 w0
      obtain ⟨x, rfl⟩ := Int.eq_ofNat_of_zero_le h0.1
      exact back_main x a1 a b (by omega) ha hb w
    · exact back_big a0 a1 a b wa wb (.inr ⟨ha, by omega⟩) w
  · exact back_big a0 a1 a b wa wb (.inl (by omega)) w
end Go.Proofs.Ytanaingknbjgdaa
