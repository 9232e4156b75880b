/- OctetParts: the law's walk. -/
import Derived.Test.YtanaingknbjgdaaOcFills
import Derived.Test.YtanaingknbjgdaaOcRot
import Derived.Deep.QuietTactic
import Derived.BigQuiet
namespace Go.Proofs.Ytanaingknbjgdaa
open Go.RowKit

theorem lowB_get (x N k : Nat) (A : ByteArray) (hA : A = ⟨(lowL x N).toArray⟩) (h : k < A.size) : A[k] = byteAt x k := by
  subst hA
  rw [ByteArray.getElem_eq_getElem_data]
  simp [lowL]
theorem lowB_size (x N : Nat) (A : ByteArray) (hA : A = ⟨(lowL x N).toArray⟩) : A.size = N := by
  subst hA; show (lowL x N).toArray.size = N; simp [lowL_len]
theorem highB_size (x N : Nat) (B : ByteArray) (hB : B = ⟨(lowL x N).reverse.toArray⟩) : B.size = N := by
  subst hB; show (lowL x N).reverse.toArray.size = N; simp [lowL_len]
theorem highB_get (x N k : Nat) (B : ByteArray) (hB : B = ⟨(lowL x N).reverse.toArray⟩) (hk : k < N) (h : B.size - 1 - k < B.size) : B[B.size - 1 - k] = byteAt x k := by
  have hs := highB_size x N B hB
  have e : ∀ i, (hi : i < B.size) → i = N - 1 - k → B[i] = byteAt x k := by
    intro i hi e
    subst e
    subst hB
    rw [ByteArray.getElem_eq_getElem_data]
    simp [List.getElem_reverse, lowL]
    congr 1; omega
  exact e _ h (by omega)
theorem byteAt_zero (x k : Nat) (hx : x < 18446744073709551616) (hk : 8 ≤ k) : byteAt x k = 0 := by
  have h : (18446744073709551616 : Nat) ≤ 2 ^ (8 * k) := Nat.pow_le_pow_right (n := 2) (i := 64) (by decide) (by omega)
  rw [byteAt, Nat.div_eq_of_lt (Nat.lt_of_lt_of_le hx h)]; rfl


theorem u32_of (x : Nat) : (x : Int) % 4294967296 = ((x % 4294967296 : Nat) : Int) := by omega

set_option maxHeartbeats 1000000 in
theorem parts_main (x n m : Nat) (hx : x < 18446744073709551616) (hn : n ≤ 255) (hm : m ≤ 255) (w : World) :
    Calls Try.prog 6 #[.int .u64 x, .int .u8 n, .int .u8 m] w fun e w' => e = .returned (.bool true) ∧ Below w.heap.size w w' := by
  have hbel := Below.refl w.heap.size w
  have hW : x % 4294967296 < 4294967296 := Nat.mod_lt _ (by decide)
  obtain ⟨W, hWd⟩ : ∃ W, W = x % 4294967296 := ⟨_, rfl⟩
  rw [← hWd] at hW
  have c1 : ∀ w, Calls Try.prog 14 #[.int .u32 ((x : Int) % 4294967296), .int .i64 n] w fun e w' => e = .returned (.int .u32 (rotl W (n % 32) : Nat)) ∧ w = w' := fun w => by
    rw [u32_of, ← hWd]
    have := left_any W hW n w
    rw [show ((n : Int) % 32).toNat = n % 32 from by omega] at this
    exact this
  have c2 : ∀ w, Calls Try.prog 14 #[.int .u32 (rotl W (n % 32) : Nat), .int .i64 m] w fun e w' => e = .returned (.int .u32 (rotl W ((n + m) % 32) : Nat)) ∧ w = w' := fun w => by
    have := left_any (rotl W (n % 32)) (rotl_lt hW _) m w
    rw [show ((m : Int) % 32).toNat = m % 32 from by omega, rotl_rotl hW (Nat.mod_lt _ (by decide)) (Nat.mod_lt _ (by decide)), ← Nat.add_mod] at this
    exact this
  have c3 : ∀ w, Calls Try.prog 14 #[.int .u32 ((x : Int) % 4294967296), .int .i64 ((n : Int) + (m : Int))] w fun e w' => e = .returned (.int .u32 (rotl W ((n + m) % 32) : Nat)) ∧ w = w' := fun w => by
    rw [u32_of, ← hWd]
    have := left_any W hW ((n : Int) + m) w
    rw [show (((n : Int) + m) % 32).toNat = (n + m) % 32 from by omega] at this
    exact this
  obtain ⟨A, hA⟩ : ∃ A : ByteArray, A = ⟨(lowL x (toldN n)).toArray⟩ := ⟨_, rfl⟩
  obtain ⟨B, hB⟩ : ∃ B : ByteArray, B = ⟨(lowL x (toldN n)).reverse.toArray⟩ := ⟨_, rfl⟩
  have c4 : ∀ w, Calls Try.prog 18 #[.int .u64 x, .int .i64 n] w fun e w' => e = .returned (.string A) ∧ Below w.heap.size w w' := by rw [hA]; exact low_any x hx n
  have c5 : ∀ w, Calls Try.prog 20 #[.int .u64 x, .int .i64 n] w fun e w' => e = .returned (.string B) ∧ Below w.heap.size w w' := by rw [hB]; exact high_any x hx n
  have sA := lowB_size x _ A hA
  have sB := highB_size x _ B hB
  have b1 : ((B.size : Int) != (A.size : Int)) = false := by rw [sA, sB]; simp
  have bounds : A.size ≤ 64 ∧ B.size ≤ 64 ∧ A.size ≤ B.size ∧ B.size ≤ A.size := by have := toldN_le n; omega
  obtain ⟨l1, l2, l3, l4⟩ := bounds
  have hN : toldN n = min n 64 := by unfold toldN; rw [Int.toNat_natCast]
  have b2 : ((A.size : Int) != min (n : Int) 64) = false := by rw [sA, hN, show min (n : Int) 64 = ((min n 64 : Nat) : Int) from by omega]; simp
  have g1 : ∀ k, (h : k < A.size) → (h2 : B.size - 1 - k < B.size) → A[k] = B[B.size - 1 - k] := fun k h h2 => by
    rw [lowB_get x _ k A hA h, highB_get x _ k B hB (by omega) h2]
  have g2 : ∀ k, (h : k < A.size) → 8 ≤ k → A[k] = 0 := fun k h h8 => by rw [lowB_get x _ k A hA h, byteAt_zero x k hx h8]
  have C1 := Lib.hid c1
  have C2 := Lib.hid c2
  have C3 := Lib.hid c3
  have C4 := Lib.hid c4
  have C5 := Lib.hid c5
  have G1 := Lib.hid g1
  have G2 := Lib.hid g2
  clear c1 c2 c3 c4 c5 g1 g2 hA hB sA sB hN hWd hW
  go_enter Try.func6, Try.ntmps6
  go_wp2_with (first
    | (go_at_call 9; ((with_reducible refine (awake_any _).mono ?_); rintro e w' ⟨rfl, hb⟩; replace hbel := Below_next hbel hb; clear hb))
    | (go_at_call 14; (first | (with_reducible refine (C1.out _).mono ?_) | (with_reducible refine (C2.out _).mono ?_) | (with_reducible refine (C3.out _).mono ?_)); rintro e w' ⟨rfl, rfl⟩)
    | (go_at_call 18; ((with_reducible refine (C4.out _).mono ?_); rintro e w' ⟨rfl, hb⟩; replace hbel := Below_next hbel hb; clear hb))
    | (go_at_call 20; ((with_reducible refine (C5.out _).mono ?_); rintro e w' ⟨rfl, hb⟩; replace hbel := Below_next hbel hb; clear hb)))
  clear C1 C2 C3 C4 C5
  go_loopw [53] (fun i wr => ∃ k : Nat, k ≤ A.size ∧ i = .int .i64 k ∧ Below w.heap.size w wr) (fun i _ => A.size - (intOf i).toNat)
  case atStart => exact ⟨0, Nat.zero_le _, rfl, hbel⟩
  case round =>
    clear hbel
    obtain ⟨k, hk, rfl, hbel⟩ := hrel
    by_cases hlt : k < A.size
    · obtain ⟨j, hj⟩ : ∃ j, j = B.size - 1 - k := ⟨_, rfl⟩
      have hlb : j < B.size := by omega
      have e1 : A[k] = B[j] := by subst hj; exact G1.out k hlt hlb
      have q1 : ((A[k].toNat : Int) != (B[j].toNat : Int)) = false := by rw [e1]; simp
      have HJ := Lib.hid hj
      clear e1 hj
      by_cases h8 : 8 ≤ k
      · have e2 := G2.out k hlt h8
        have q2 : ((A[k].toNat : Int) != 0) = false := by rw [e2]; rfl
        have q3 : decide ((8 : Int) ≤ (k : Int)) = true := by simp; omega
        clear e2
        go_wp2
        have hj := HJ.out
        have t3 : IntKind.i64.wrap ((B.size : Int) - 1) = (B.size : Int) - 1 := IntWalk.i64_in _ (by omega)
        have t4 : IntKind.i64.wrap ((B.size : Int) - 1 - (k : Int)) = (j : Int) := by rw [IntWalk.i64_in _ (by omega)]; omega
        clear hj
        go_quiet (fail)
        clear t3 t4
        go_wp2
        go_roundw
        case rel => exact ⟨k + 1, by omega, by go_num, Below_drewN hbel _⟩
        case measure => simp [intOf]; omega
      · have q3 : decide ((8 : Int) ≤ (k : Int)) = false := by simp; omega
        go_wp2
        have hj := HJ.out
        have t3 : IntKind.i64.wrap ((B.size : Int) - 1) = (B.size : Int) - 1 := IntWalk.i64_in _ (by omega)
        have t4 : IntKind.i64.wrap ((B.size : Int) - 1 - (k : Int)) = (j : Int) := by rw [IntWalk.i64_in _ (by omega)]; omega
        clear hj
        go_quiet (fail)
        clear t3 t4
        go_wp2
        go_roundw
        case rel => exact ⟨k + 1, by omega, by go_num, Below_drewN hbel _⟩
        case measure => simp [intOf]; omega
    · go_wp2
      go_ret
      exact ⟨rfl, hbel⟩

theorem wf_u64 {a : Int} (h : (Lit.int .u64 a).wf = true) : 0 ≤ a ∧ a ≤ 18446744073709551615 := by simpa [Lit.wf, IntKind.min, IntKind.max, IntKind.signed, IntKind.bits] using h

theorem octetParts_walk (a0 a1 a2 : Int) (w0 : (Lit.int .u64 a0).wf = true) (w1 : (Lit.int .u8 a1).wf = true) (w2 : (Lit.int .u8 a2).wf = true) (w : World) :
    Calls Try.prog 6 #[.int .u64 a0, .int .u8 a1, .int .u8 a2] w fun e w' => e = .returned (.bool true) ∧ Below w.heap.size w w' := by
  have h0 := wf_u64 w0
  have h1 := wf_u8 w1
  have h2 := wf_u8 w2
  obtain ⟨x, rfl⟩ := Int.eq_ofNat_of_zero_le h0.1
  obtain ⟨n, rfl⟩ := Int.eq_ofNat_of_zero_le h1.1
  obtain ⟨m, rfl⟩ := Int.eq_ofNat_of_zero_le h2.1
  exact parts_main x n m (by omega) (by omega) (by omega) w
end Go.Proofs.Ytanaingknbjgdaa
