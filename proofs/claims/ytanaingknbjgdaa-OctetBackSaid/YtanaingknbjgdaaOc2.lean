/- Contracts of octet.FromLow and FromHigh. -/
import Derived.Test.YtanaingknbjgdaaOc1
namespace Go.Proofs.Ytanaingknbjgdaa
open Go.RowKit

def numLow : List UInt8 → Nat
  | [] => 0
  | b :: l => b.toNat + 256 * numLow l
def numHigh (l : List UInt8) : Nat := l.foldl (fun x b => x * 256 + b.toNat) 0

theorem numLow_append (l m : List UInt8) : numLow (l ++ m) = numLow l + 256 ^ l.length * numLow m := by
  induction l with
  | nil => simp [numLow]
  | cons b l ih =>
    simp only [List.cons_append, numLow, ih, List.length_cons, Nat.pow_succ, Nat.mul_add, Nat.add_assoc]
    rw [Nat.mul_comm (256 ^ l.length) 256, Nat.mul_assoc]
theorem numLow_lt (l : List UInt8) : numLow l < 256 ^ l.length := by
  induction l with
  | nil => simp [numLow]
  | cons b l ih =>
    have := b.toNat_lt
    simp only [numLow, List.length_cons, Nat.pow_succ]
    omega
theorem numHigh_snoc (l : List UInt8) (b : UInt8) : numHigh (l ++ [b]) = numHigh l * 256 + b.toNat := by simp [numHigh]
theorem numHigh_reverse (l : List UInt8) : numHigh l.reverse = numLow l := by
  induction l with
  | nil => rfl
  | cons b l ih => rw [List.reverse_cons, numHigh_snoc, ih, numLow]; omega
theorem numHigh_lt (l : List UInt8) : numHigh l < 256 ^ l.length := by
  have := numLow_lt l.reverse
  rw [← numHigh_reverse, List.reverse_reverse, List.length_reverse] at this
  exact this

theorem take_snoc (s : ByteArray) (k : Nat) (h : k < s.size) : s.data.toList.take (k + 1) = s.data.toList.take k ++ [s[k]] := by
  rw [List.take_succ_eq_append_getElem (by simpa using h)]; rfl
theorem take_len (s : ByteArray) (k : Nat) (h : k ≤ s.size) : (s.data.toList.take k).length = k := by
  rw [List.length_take]; have : s.data.toList.length = s.size := by simp
  omega
theorem take_all (s : ByteArray) : s.data.toList.take s.size = s.data.toList := List.take_of_length_le (by simp)

theorem p256 (k : Nat) : 256 ^ k = 2 ^ (8 * k) := by rw [Nat.pow_mul]
theorem p256_le {k m : Nat} (h : k ≤ m) : 256 ^ k ≤ 256 ^ m := Nat.pow_le_pow_right (by decide) h

theorem or64 (a b : Nat) (ha : a < 18446744073709551616) (hb : b < 18446744073709551616) : bits .or .u64 (a : Int) (b : Int) = ((a ||| b : Nat) : Int) := bits_or_u64_nat a b ha hb

theorem low_step (s : ByteArray) (k : Nat) (hk : k < s.size) (h8 : s.size ≤ 8) :
    bits .or .u64 ((numLow (s.data.toList.take k) : Nat) : Int) ((s[k].toNat : Int) * 2 ^ (8 * (k : Int)).toNat % 18446744073709551616) = ((numLow (s.data.toList.take (k + 1)) : Nat) : Int) := by
  have hlen := take_len s k (by omega)
  have hlt := numLow_lt (s.data.toList.take k)
  rw [hlen] at hlt
  have hb := s[k].toNat_lt
  have e : (8 * (k : Int)).toNat = 8 * k := by omega
  have hp : 256 ^ (k + 1) ≤ 18446744073709551616 := p256_le (m := 8) (by omega)
  rw [Nat.pow_succ] at hp
  have hprod : s[k].toNat * 256 ^ k < 18446744073709551616 := by
    have : s[k].toNat * 256 ^ k ≤ 255 * 256 ^ k := Nat.mul_le_mul_right _ (by omega)
    have : 0 < 256 ^ k := Nat.pow_pos (by decide)
    omega
  rw [e]
  have h := or64 (numLow (s.data.toList.take k)) (s[k].toNat * 2 ^ (8 * k) % 18446744073709551616) (by omega) (Nat.mod_lt _ (by decide))
  simp only [Int.natCast_emod, Int.natCast_mul, Int.natCast_pow, Int.cast_ofNat_Int] at h
  rw [h, ← p256, Nat.mod_eq_of_lt hprod, take_snoc s k hk, numLow_append, hlen]
  simp only [numLow, Nat.mul_zero, Nat.add_zero]
  rw [Nat.or_comm, Nat.mul_comm, p256]
  rw [p256] at hlt
  rw [← Nat.two_pow_add_eq_or_of_lt hlt, Nat.add_comm]

theorem high_step (s : ByteArray) (k : Nat) (hk : k < s.size) (h8 : s.size ≤ 8) :
    bits .or .u64 (((numHigh (s.data.toList.take k) : Nat) : Int) * 256 % 18446744073709551616) (s[k].toNat : Int) = ((numHigh (s.data.toList.take (k + 1)) : Nat) : Int) := by
  have hlen := take_len s k (by omega)
  have hlt := numHigh_lt (s.data.toList.take k)
  rw [hlen] at hlt
  have hb := s[k].toNat_lt
  have hp : 256 ^ (k + 1) ≤ 18446744073709551616 := p256_le (m := 8) (by omega)
  rw [Nat.pow_succ] at hp
  have h := or64 (numHigh (s.data.toList.take k) * 256 % 18446744073709551616) s[k].toNat (Nat.mod_lt _ (by decide)) (by omega)
  simp only [Int.natCast_emod, Int.natCast_mul, Int.cast_ofNat_Int] at h
  rw [h, Nat.mod_eq_of_lt (by omega), take_snoc s k hk, numHigh_snoc]
  have := Nat.two_pow_add_eq_or_of_lt (i := 8) hb (numHigh (s.data.toList.take k))
  rw [Nat.mul_comm] at this
  exact congrArg _ this.symm

theorem wrap64_byte (b : UInt8) : IntKind.u64.wrap (b.toNat : Int) = (b.toNat : Int) := by
  have := b.toNat_lt
  rw [IntKind.wrap_u64]; omega
theorem low_step' (s : ByteArray) (k : Nat) (hk : k < s.size) (h8 : s.size ≤ 8) :
    bits .or .u64 ((numLow (s.data.toList.take k) : Nat) : Int) (IntKind.u64.wrap (IntKind.u64.wrap (s[k].toNat : Int) * 2 ^ (8 * k))) = ((numLow (s.data.toList.take (k + 1)) : Nat) : Int) := by
  have := low_step s k hk h8
  rw [show (8 * (k : Int)).toNat = 8 * k from by omega] at this
  rw [wrap64_byte, IntKind.wrap_u64, this]
theorem high_step' (s : ByteArray) (k : Nat) (hk : k < s.size) (h8 : s.size ≤ 8) :
    bits .or .u64 (IntKind.u64.wrap (((numHigh (s.data.toList.take k) : Nat) : Int) * 256)) (IntKind.u64.wrap (s[k].toNat : Int)) = ((numHigh (s.data.toList.take (k + 1)) : Nat) : Int) := by
  rw [wrap64_byte, IntKind.wrap_u64, high_step s k hk h8]

/-- What FromLow and FromHigh answer of n bytes: the number where they fit; and which error. -/
def fitNum (n x : Nat) : Nat := if n ≤ 8 then x else 0
def fitErr (n : Nat) : Int := if n ≤ 8 then 0 else 5

theorem ret_pair {k k2 : IntKind} {a b c d : Int} (h : a = b) (h2 : c = d) : Ending.returned (.tuple #[.int k a, .int k2 c]) = .returned (.tuple #[.int k b, .int k2 d]) := by rw [h, h2]

set_option maxHeartbeats 400000 in
theorem fromLow_any (s : ByteArray) (w : World) :
    Calls Try.prog 10 #[.string s] w fun e w' => e = .returned (.tuple #[.int .u64 (fitNum s.size (numLow s.data.toList) : Nat), .int .i64 (fitErr s.size)]) ∧ w = w' := by
  by_cases h8 : s.size ≤ 8
  · go_enter Try.func10, Try.ntmps10
    go_wp2
    go_loop [4, 11] (fun x i => ∃ k : Nat, k ≤ s.size ∧ i = .int .i64 k ∧ x = .int .u64 (numLow (s.data.toList.take k) : Nat)) (fun _ i => s.size - (intOf i).toNat)
    case atStart => exact ⟨0, Nat.zero_le _, rfl, rfl⟩
    case round =>
      obtain ⟨k, hk, rfl, rfl⟩ := hrel
      by_cases hlt : k < s.size
      · have H := Lib.hid (low_step' s k hlt h8)
        go_wp2
        go_round
        case rel => exact ⟨k + 1, by omega, by go_num, congrArg _ H.out⟩
        case measure => simp [intOf]; omega
      · go_wp2
        go_ret2
        have : k = s.size := by omega
        subst this
        exact ⟨ret_pair (by rw [take_all, fitNum, if_pos h8]) (by rw [fitErr, if_pos h8]), rfl⟩
  · go_enter Try.func10, Try.ntmps10
    go_wp2
    go_ret2
    exact ⟨ret_pair (by rw [fitNum, if_neg h8]; rfl) (by rw [fitErr, if_neg h8]), rfl⟩

set_option maxHeartbeats 400000 in
theorem fromHigh_any (s : ByteArray) (w : World) :
    Calls Try.prog 12 #[.string s] w fun e w' => e = .returned (.tuple #[.int .u64 (fitNum s.size (numHigh s.data.toList) : Nat), .int .i64 (fitErr s.size)]) ∧ w = w' := by
  by_cases h8 : s.size ≤ 8
  · go_enter Try.func12, Try.ntmps12
    go_wp2
    go_loop [4, 11] (fun x i => ∃ k : Nat, k ≤ s.size ∧ i = .int .i64 k ∧ x = .int .u64 (numHigh (s.data.toList.take k) : Nat)) (fun _ i => s.size - (intOf i).toNat)
    case atStart => exact ⟨0, Nat.zero_le _, rfl, rfl⟩
    case round =>
      obtain ⟨k, hk, rfl, rfl⟩ := hrel
      by_cases hlt : k < s.size
      · have H := Lib.hid (high_step' s k hlt h8)
        go_wp2
        go_round
        case rel => exact ⟨k + 1, by omega, by go_num, congrArg _ H.out⟩
        case measure => simp [intOf]; omega
      · go_wp2
        go_ret2
        have : k = s.size := by omega
        subst this
        exact ⟨ret_pair (by rw [take_all, fitNum, if_pos h8]) (by rw [fitErr, if_pos h8]), rfl⟩
  · go_enter Try.func12, Try.ntmps12
    go_wp2
    go_ret2
    exact ⟨ret_pair (by rw [fitNum, if_neg h8]; rfl) (by rw [fitErr, if_neg h8]), rfl⟩
end Go.Proofs.Ytanaingknbjgdaa
