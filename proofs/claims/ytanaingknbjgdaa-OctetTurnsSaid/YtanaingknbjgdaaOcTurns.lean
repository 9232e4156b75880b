/- OctetTurns: the law's walk. -/
import Derived.Test.YtanaingknbjgdaaOcRefs3
namespace Go.Proofs.Ytanaingknbjgdaa
open Go.RowKit

set_option maxHeartbeats 1000000 in
theorem turns_main (x : Nat) (n : Int) (s : ByteArray) (hx : x < 18446744073709551616) (h0 : -9223372036854775808 ≤ n) (h1 : n ≤ 9223372036854775807) (hs : s.size ≤ 4096) (w : World) :
    Calls Try.prog 3 #[.int .u64 x, .int .i64 n, .string s] w fun e w' => e = .returned (.bool true) ∧ Below w.heap.size w w' := by
  have hbel := Below.refl w.heap.size w
  have hW : x % 4294967296 < 4294967296 := Nat.mod_lt _ (by decide)
  have hWx : (x : Int) % 4294967296 = ((x % 4294967296 : Nat) : Int) := u32_of x
  obtain ⟨W, hWd⟩ : ∃ W, W = x % 4294967296 := ⟨_, rfl⟩
  rw [← hWd] at hW hWx
  have C1 := Lib.hid (left_any W hW n)
  have C2 := Lib.hid (right_any W hW n)
  have C3 := Lib.hid (rleft_any W hW n h0 h1)
  have C4 := Lib.hid (rright_any W hW n h0 h1)
  have C5 := Lib.hid (low_any x hx n)
  have C6 := Lib.hid (high_any x hx n)
  have C7 := Lib.hid (rlow_any x hx n)
  have C8 := Lib.hid (rhigh_any x hx n)
  have C9 := Lib.hid (fromLow_any s)
  have C10 := Lib.hid (fromHigh_any s)
  have C11 := Lib.hid (rfromLow_any s (by omega))
  have C12 := Lib.hid (rfromHigh_any s (by omega))
  clear hW hWd hx h0 h1
  generalize (ByteArray.mk (lowL x (toldN n)).toArray) = LO at *
  generalize (ByteArray.mk (lowL x (toldN n)).reverse.toArray) = HI at *
  generalize rotl W (n % 32).toNat = RL at *
  generalize rotr W (n % 32).toNat = RR at *
  generalize fitNum s.size (numLow s.data.toList) = FL at *
  generalize fitNum s.size (numHigh s.data.toList) = FH at *
  generalize fitErr s.size = FE at *
  go_enter Try.func3, Try.ntmps3
  go_wp2_with (first
    | (go_at_call 9; ((with_reducible refine (awake_any _).mono ?_); rintro e w' ⟨rfl, hb⟩; replace hbel := Below_next hbel hb; clear hb))
    | (go_at_call 14; ((with_reducible refine (C1.out _).mono ?_); rintro e w' ⟨rfl, rfl⟩))
    | (go_at_call 16; ((with_reducible refine (C2.out _).mono ?_); rintro e w' ⟨rfl, rfl⟩))
    | (go_at_call 15; ((with_reducible refine (C3.out _).mono ?_); rintro e w' ⟨rfl, rfl⟩))
    | (go_at_call 17; ((with_reducible refine (C4.out _).mono ?_); rintro e w' ⟨rfl, rfl⟩))
    | (go_at_call 18; ((with_reducible refine (C5.out _).mono ?_); rintro e w' ⟨rfl, hb⟩; replace hbel := Below_next hbel hb; clear hb))
    | (go_at_call 20; ((with_reducible refine (C6.out _).mono ?_); rintro e w' ⟨rfl, hb⟩; replace hbel := Below_next hbel hb; clear hb))
    | (go_at_call 19; ((with_reducible refine (C7.out _).mono ?_); rintro e w' ⟨rfl, hb⟩; replace hbel := Below_next hbel hb; clear hb))
    | (go_at_call 21; ((with_reducible refine (C8.out _).mono ?_); rintro e w' ⟨rfl, hb⟩; replace hbel := Below_next hbel hb; clear hb))
    | (go_at_call 10; ((with_reducible refine (C9.out _).mono ?_); rintro e w' ⟨rfl, rfl⟩))
    | (go_at_call 12; ((with_reducible refine (C10.out _).mono ?_); rintro e w' ⟨rfl, rfl⟩))
    | (go_at_call 11; ((with_reducible refine (C11.out _).mono ?_); rintro e w' ⟨rfl, hb⟩; replace hbel := Below_next hbel hb; clear hb))
    | (go_at_call 13; ((with_reducible refine (C12.out _).mono ?_); rintro e w' ⟨rfl, rfl⟩)))
  go_ret
  exact ⟨by simp, hbel⟩

theorem turns_big (x n : Int) (s : ByteArray) (w0 : s.size ≤ maxLen) (h : 4096 < s.size) (w : World) :
    Calls Try.prog 3 #[.int .u64 x, .int .i64 n, .string s] w fun e w' => e = .returned (.bool true) ∧ Below w.heap.size w w' := by
  have hbel := Below.refl w.heap.size w
  go_enter Try.func3, Try.ntmps3
  go_wp2_with (go_at_call 9; ((with_reducible refine (awake_any _).mono ?_); rintro e w' ⟨rfl, hb⟩; replace hbel := Below_next hbel hb; clear hb))
  go_ret
  exact ⟨rfl, hbel⟩

theorem wf_i64 {a : Int} (h : (Lit.int .i64 a).wf = true) : -9223372036854775808 ≤ a ∧ a ≤ 9223372036854775807 := by simpa [Lit.wf, IntKind.min, IntKind.max, IntKind.signed, IntKind.bits] using h

theorem octetTurns_walk (a0 a1 : Int) (s : ByteArray) (w0 : (Lit.int .u64 a0).wf = true) (w1 : (Lit.int .i64 a1).wf = true) (ws : s.size ≤ maxLen) (w : World) :
    Calls Try.prog 3 #[.int .u64 a0, .int .i64 a1, .string s] w fun e w' => e = .returned (.bool true) ∧ Below w.heap.size w w' := by
  by_cases h : s.size ≤ 4096
  · have h0 := wf_u64 w0
    obtain ⟨x, rfl⟩ := Int.eq_ofNat_of_zero_le h0.1
    exact turns_main x a1 s (by omega) (wf_i64 w1).1 (wf_i64 w1).2 h w
  · exact turns_big a0 a1 s ws (by omega) w
end Go.Proofs.Ytanaingknbjgdaa
