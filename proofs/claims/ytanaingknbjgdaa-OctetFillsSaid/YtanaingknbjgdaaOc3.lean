/- Contracts of octet.Low and High. -/
import Derived.Test.YtanaingknbjgdaaOc2
import Derived.Test.YtanaingknbjgdaaOcB
namespace Go.Proofs.Ytanaingknbjgdaa
open Go.RowKit

/-- A number's byte at place i from the low end. -/
def byteAt (x i : Nat) : UInt8 := UInt8.ofNat (x / 2 ^ (8 * i))
def lowL (x n : Nat) : List UInt8 := (List.range n).map (byteAt x)
theorem lowL_len (x n : Nat) : (lowL x n).length = n := by simp [lowL]
theorem lowL_succ (x k : Nat) : lowL x (k + 1) = lowL x k ++ [byteAt x k] := by simp [lowL, List.range_succ]

/-- What the row holds behind k rounds: k bytes, and zeros. -/
def lowRow (x k n : Nat) : List UInt8 := lowL x k ++ List.replicate (n - k) 0
theorem lowRow_zero (x n : Nat) : lowRow x 0 n = List.replicate n 0 := by simp [lowRow, lowL]
theorem lowRow_full (x n : Nat) : lowRow x n n = lowL x n := by simp [lowRow]
theorem lowRow_len (x k n : Nat) (h : k ≤ n) : (lowRow x k n).length = n := by simp [lowRow, lowL_len]; omega
theorem lowRow_set (x k n : Nat) (h : k < n) : (lowRow x k n).set k (byteAt x k) = lowRow x (k + 1) n := by
  unfold lowRow
  rw [List.set_append_right _ _ (by rw [lowL_len]; exact Nat.le_refl _), lowL_len, Nat.sub_self, lowL_succ]
  obtain ⟨m, hm⟩ : ∃ m, n - k = m + 1 := ⟨n - k - 1, by omega⟩
  rw [hm, show n - (k + 1) = m from by omega, List.replicate_succ]
  simp

theorem byte_num (x k : Nat) : IntKind.u8.wrap ((x : Int) / 2 ^ (8 * k)) = ((byteAt x k).toNat : Int) := by
  rw [IntKind.wrap_u8]
  unfold byteAt
  rw [UInt8.toNat_ofNat']
  have h : ((x : Int) / 2 ^ (8 * k)) = ((x / 2 ^ (8 * k) : Nat) : Int) := by
    rw [Int.natCast_ediv, Int.natCast_pow]; rfl
  rw [h]
  rfl

theorem byte_num' (x k : Nat) : ((x : Int) / 2 ^ (8 * k)) % 256 = ((byteAt x k).toNat : Int) := by rw [← byte_num, IntKind.wrap_u8]
theorem byte_num2 (x k : Nat) (hx : x < 18446744073709551616) (hk : 64 ≤ 8 * k) : ((x : Int) / 2 ^ min (8 * k) 64) % 256 = ((byteAt x k).toNat : Int) := by
  have h : (18446744073709551616 : Nat) ≤ 2 ^ (8 * k) := Nat.pow_le_pow_right (n := 2) (i := 64) (by decide) hk
  rw [Nat.min_eq_right hk, byteAt, Nat.div_eq_of_lt (Nat.lt_of_lt_of_le hx h)]
  have : (x : Int) / 2 ^ 64 = 0 := Int.ediv_eq_zero_of_lt (by omega) (by omega)
  rw [this]
  rfl

set_option maxHeartbeats 400000 in
theorem low_any (x : Nat) (hx : x < 18446744073709551616) (n : Int) (w : World) :
    Calls Try.prog 18 #[.int .u64 x, .int .i64 n] w fun e w' => e = .returned (.string ⟨(lowL x (toldN n)).toArray⟩) ∧ Below w.heap.size w w' := by
  have ht := toldN_le n
  have hx0 : (0 : Int) ≤ (x : Int) := by omega
  have hxi : (x : Int) < 18446744073709551616 := by omega
  obtain ⟨i0, hi, hz0, hz1, hz2⟩ := info_parts Try.infoU8
  go_enter Try.func18, Try.ntmps18
  go_wp2_with (first
    | (go_at_call 30; refine (told_any _ _).mono ?_; rintro e w' ⟨rfl, rfl⟩)
    | (at_make; refine wpList_make_full _ rfl _ _ 40 rfl w.heap.size 5 i0 (.int .u8 0) 1 Try.underlying40 hi hz0 hz1 _ _ _ _ (toldN n) rfl rfl rfl rfl (by rw [hz2]; omega) (by unfold maxLen; omega) (Nat.le_refl _) ?_))
  generalize hN : toldN n = N at *
  have HN := Lib.hid hN
  clear hN
  intro w1 hown hgrow
  rw [u8s_zeros, ← lowRow_zero x N] at hown
  have hbel := (Below.refl w.heap.size w).grown hgrow (Nat.le_refl _) (by simp)
  clear hgrow
  go_wp2
  go_loopw [12] (fun i wr => ∃ k : Nat, k ≤ N ∧ i = .int .i64 k ∧ wr.ownsRow w.heap.size 5 1 (.slice (some ⟨w.heap.size, 0, none⟩) N N) N (u8s (lowRow x k N)) ∧ Below w.heap.size w wr) (fun i _ => N - (intOf i).toNat)
  case atStart => exact ⟨0, Nat.zero_le _, rfl, hown, hbel⟩
  case round =>
    clear hown hbel
    obtain ⟨k, hk, rfl, hown, hbel⟩ := hrel
    by_cases hlt : k < N
    · have hc := hown.cellAt k (by omega)
      rw [u8s_get _ _ (by rw [lowRow_len x k N hk]; exact hlt)] at hc
      have hf := hown.frozenAt k
      have hw0 : (0 : Int) ≤ 8 * (k : Int) := by omega
      have hcl : (8 * (k : Int)) < 1000 := by omega
      by_cases h8 : 8 * (k : Int) < 64
      all_goals
        go_wp2
        go_roundw
        case rel => exact ⟨k + 1, by omega, by go_num, row_step hown (lowRow_len x k N hk) hlt (lowRow_set x k N hlt) (by first | exact byte_num' x k | exact byte_num2 x k hx (by omega)), hbel.setCell (Nat.le_refl _) _⟩
        case measure => simp [intOf]; omega
    · obtain rfl : k = N := by omega
      rw [lowRow_full] at hown
      have hback := conv_own hown
      go_wp2
      go_ret
      exact ⟨by rw [HN.out]; rfl, hbel⟩
/-- The same from the high end. -/
def highRow (x k n : Nat) : List UInt8 := List.replicate (n - k) 0 ++ (lowL x k).reverse
theorem highRow_zero (x n : Nat) : highRow x 0 n = List.replicate n 0 := by simp [highRow, lowL]
theorem highRow_full (x n : Nat) : highRow x n n = (lowL x n).reverse := by simp [highRow]
theorem highRow_len (x k n : Nat) (h : k ≤ n) : (highRow x k n).length = n := by simp [highRow, lowL_len]; omega
theorem highRow_set (x k n : Nat) (h : k < n) : (highRow x k n).set (n - 1 - k) (byteAt x k) = highRow x (k + 1) n := by
  unfold highRow
  obtain ⟨m, hm⟩ : ∃ m, n - k = m + 1 := ⟨n - k - 1, by omega⟩
  rw [hm, show n - 1 - k = m from by omega, show n - (k + 1) = m from by omega, List.replicate_succ', List.append_assoc, List.set_append_right _ _ (by simp), lowL_succ]
  simp

set_option maxHeartbeats 400000 in
theorem high_any (x : Nat) (hx : x < 18446744073709551616) (n : Int) (w : World) :
    Calls Try.prog 20 #[.int .u64 x, .int .i64 n] w fun e w' => e = .returned (.string ⟨((lowL x (toldN n)).reverse).toArray⟩) ∧ Below w.heap.size w w' := by
  have ht := toldN_le n
  have hx0 : (0 : Int) ≤ (x : Int) := by omega
  have hxi : (x : Int) < 18446744073709551616 := by omega
  obtain ⟨i0, hi, hz0, hz1, hz2⟩ := info_parts Try.infoU8
  go_enter Try.func20, Try.ntmps20
  go_wp2_with (first
    | (go_at_call 30; refine (told_any _ _).mono ?_; rintro e w' ⟨rfl, rfl⟩)
    | (at_make; refine wpList_make_full _ rfl _ _ 40 rfl w.heap.size 5 i0 (.int .u8 0) 1 Try.underlying40 hi hz0 hz1 _ _ _ _ (toldN n) rfl rfl rfl rfl (by rw [hz2]; omega) (by unfold maxLen; omega) (Nat.le_refl _) ?_))
  generalize hN : toldN n = N at *
  have HN := Lib.hid hN
  clear hN
  intro w1 hown hgrow
  rw [u8s_zeros, ← highRow_zero x N] at hown
  have hbel := (Below.refl w.heap.size w).grown hgrow (Nat.le_refl _) (by simp)
  clear hgrow
  go_wp2
  go_loopw [12] (fun i wr => ∃ k : Nat, k ≤ N ∧ i = .int .i64 k ∧ wr.ownsRow w.heap.size 5 1 (.slice (some ⟨w.heap.size, 0, none⟩) N N) N (u8s (highRow x k N)) ∧ Below w.heap.size w wr) (fun i _ => N - (intOf i).toNat)
  case atStart => exact ⟨0, Nat.zero_le _, rfl, hown, hbel⟩
  case round =>
    clear hown hbel
    obtain ⟨k, hk, rfl, hown, hbel⟩ := hrel
    by_cases hlt : k < N
    · have hc := hown.cellAt (N - 1 - k) (by omega)
      rw [u8s_get _ _ (by rw [highRow_len x k N hk]; omega)] at hc
      have hf := hown.frozenAt (N - 1 - k)
      have hw0 : (0 : Int) ≤ 8 * (k : Int) := by omega
      have hcl : (8 * (k : Int)) < 1000 := by omega
      by_cases h8 : 8 * (k : Int) < 64
      all_goals
        go_wp2
        go_roundw
        case rel => exact ⟨k + 1, by omega, by go_num, row_step hown (highRow_len x k N hk) (by omega) (highRow_set x k N hlt) (by first | exact byte_num' x k | exact byte_num2 x k hx (by omega)), hbel.setCell (Nat.le_refl _) _⟩
        case measure => simp [intOf]; omega
    · obtain rfl : k = N := by omega
      rw [highRow_full] at hown
      have hback := conv_own hown
      go_wp2
      go_ret
      exact ⟨by rw [HN.out]; rfl, hbel⟩
end Go.Proofs.Ytanaingknbjgdaa
