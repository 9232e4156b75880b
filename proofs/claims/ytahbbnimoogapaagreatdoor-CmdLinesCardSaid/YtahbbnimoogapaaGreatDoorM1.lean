/- Contracts of octet's functions, and the plain laws under them. Blocks of memory known whole; parts of strings; sums of numbers of 32 bits. Bytes in a block of the call's own, of which some are set: '[]byte(s)', 'string(b)'. Arguments opened: an array of integers by value; a slice of texts. -/
import Derived.Test.YtahbbnimoogapaaGreatDoorProg
import Derived.WalkKit
import Derived.Lib.Hide
import Derived.Laws.Bits64b
import Derived.Laws.BytesString
import Derived.Laws.Cells
import Derived.Laws.IdiomStrings
import Derived.Deep.QuietTactic
import Derived.RegionTactic
import Derived.ChangeAlike
import Derived.BigQuiet
import Derived.Laws.Rows
import Derived.Laws.Tables
import Derived.Laws.CopyOwn
import Derived.Laws.ResultCell
import Derived.Deep.WholeRow
import Derived.Below
import Derived.WalkSpells
import Derived.IntWalk
import Derived.OpenShut
import Derived.ProofKit
import Derived.SliceStrings
import Derived.SizedLaws
namespace Go.Proofs.YtahbbnimoogapaaGreatDoor
open Go.RowKit

/-- A word turned round to the left by k. -/
def rotl (x k : Nat) : Nat := (x * 2 ^ k) % 4294967296 ||| x / 2 ^ (32 - k)
def rotr (x k : Nat) : Nat := x / 2 ^ k ||| (x * 2 ^ (32 - k)) % 4294967296

theorem pow2_pos (k : Nat) : 0 < 2 ^ k := Nat.two_pow_pos k
theorem div_lt32 {x : Nat} (h : x < 4294967296) (k : Nat) : x / 2 ^ k < 4294967296 := Nat.lt_of_le_of_lt (Nat.div_le_self _ _) h

theorem rotl_lt {x : Nat} (h : x < 4294967296) (k : Nat) : rotl x k < 4294967296 :=
  Nat.or_lt_two_pow (n := 32) (Nat.mod_lt _ (by decide)) (div_lt32 h _)
theorem rotr_lt {x : Nat} (h : x < 4294967296) (k : Nat) : rotr x k < 4294967296 :=
  Nat.or_lt_two_pow (n := 32) (div_lt32 h _) (Nat.mod_lt _ (by decide))

theorem or32 (a b : Nat) (ha : a < 4294967296) (hb : b < 4294967296) : bits .or .u32 (a : Int) (b : Int) = ((a ||| b : Nat) : Int) := u32_or_nat a b ha hb

theorem left_num (x : Nat) (hx : x < 4294967296) (n : Int) :
    bits .or .u32 ((x : Int) * 2 ^ (n % 32).toNat % 4294967296) ((x : Int) / 2 ^ (32 - n % 32).toNat) = ((rotl x (n % 32).toNat : Nat) : Int) := by
  have h0 : 0 ≤ n % 32 := by omega
  have h1 : n % 32 < 32 := by omega
  obtain ⟨m, hm⟩ := Int.eq_ofNat_of_zero_le h0
  rw [hm] at h1 ⊢
  have e : (32 - (m : Int)).toNat = 32 - m := by omega
  rw [e, Int.toNat_natCast]
  have := or32 (x * 2 ^ m % 4294967296) (x / 2 ^ (32 - m)) (Nat.mod_lt _ (by decide)) (div_lt32 hx _)
  simp only [Int.natCast_emod, Int.natCast_mul, Int.natCast_pow, Int.natCast_ediv, Int.cast_ofNat_Int] at this
  rw [this]
  rfl

theorem right_num (x : Nat) (hx : x < 4294967296) (n : Int) :
    bits .or .u32 ((x : Int) / 2 ^ (n % 32).toNat) ((x : Int) * 2 ^ (32 - n % 32).toNat % 4294967296) = ((rotr x (n % 32).toNat : Nat) : Int) := by
  have h0 : 0 ≤ n % 32 := by omega
  have h1 : n % 32 < 32 := by omega
  obtain ⟨m, hm⟩ := Int.eq_ofNat_of_zero_le h0
  rw [hm] at h1 ⊢
  have e : (32 - (m : Int)).toNat = 32 - m := by omega
  rw [e, Int.toNat_natCast]
  have := or32 (x / 2 ^ m) (x * 2 ^ (32 - m) % 4294967296) (div_lt32 hx _) (Nat.mod_lt _ (by decide))
  simp only [Int.natCast_emod, Int.natCast_mul, Int.natCast_pow, Int.natCast_ediv, Int.cast_ofNat_Int] at this
  rw [this]
  rfl

theorem and31 (n : Int) : bits .and .u64 (IntKind.u64.wrap n) 31 = n % 32 := by
  rw [IntKind.wrap_u64]
  have h0 : 0 ≤ n % 18446744073709551616 := by omega
  obtain ⟨m, hm⟩ := Int.eq_ofNat_of_zero_le h0
  have h1 : n % 18446744073709551616 < 18446744073709551616 := by omega
  rw [hm] at h1 ⊢
  have := bits_and_u64_nat m 31 (by omega) (by decide)
  rw [show ((31 : Nat) : Int) = 31 from rfl] at this
  rw [this, show (31 : Nat) = 2 ^ 5 - 1 from rfl, Nat.and_two_pow_sub_one_eq_mod]
  omega

theorem ret_int {k : IntKind} {a b : Int} (h : a = b) : Ending.returned (.int k a) = .returned (.int k b) := by rw [h]

/-- How many bytes are told where n are asked for. -/
def toldN (n : Int) : Nat := min n.toNat 64
theorem toldN_le (n : Int) : toldN n ≤ 64 := by unfold toldN; omega

theorem bit_hi {x : Nat} (h : x < 4294967296) {i : Nat} (hi : 32 ≤ i) : x.testBit i = false :=
  Nat.testBit_lt_two_pow (Nat.lt_of_lt_of_le h (Nat.pow_le_pow_right (n := 2) (i := 32) (by decide) hi))

theorem bit_rotl {x : Nat} (h : x < 4294967296) {k : Nat} (hk : k < 32) (i : Nat) : (rotl x k).testBit i = (decide (i < 32) && x.testBit ((i + 32 - k) % 32)) := by
  unfold rotl
  rw [Nat.testBit_or, show (4294967296 : Nat) = 2 ^ 32 from rfl, Nat.testBit_mod_two_pow, Nat.testBit_mul_two_pow, Nat.testBit_div_two_pow]
  by_cases hi : i < 32
  · simp only [hi, decide_true, Bool.true_and]
    by_cases hki : k ≤ i
    · rw [show (i + 32 - k) % 32 = i - k from by omega]
      have : x.testBit (i + (32 - k)) = false := bit_hi h (by omega)
      simp [this, hki]
    · rw [show (i + 32 - k) % 32 = i + (32 - k) from by omega]
      simp [hki]
  · have : x.testBit (i + (32 - k)) = false := bit_hi h (by omega)
    simp [hi, this]

theorem bit_rotr {x : Nat} (h : x < 4294967296) {k : Nat} (hk : k < 32) (i : Nat) : (rotr x k).testBit i = (decide (i < 32) && x.testBit ((i + k) % 32)) := by
  unfold rotr
  rw [Nat.testBit_or, show (4294967296 : Nat) = 2 ^ 32 from rfl, Nat.testBit_mod_two_pow, Nat.testBit_mul_two_pow, Nat.testBit_div_two_pow]
  by_cases hi : i < 32
  · simp only [hi, decide_true, Bool.true_and]
    by_cases hki : i + k < 32
    · rw [show (i + k) % 32 = i + k from by omega]
      simp; intro h; omega
    · rw [show (i + k) % 32 = i - (32 - k) from by omega]
      have : x.testBit (i + k) = false := bit_hi h (by omega)
      simp [this]; intro _; omega
  · have : x.testBit (i + k) = false := bit_hi h (by omega)
    simp [hi, this]

theorem rotl_rotl {x : Nat} (h : x < 4294967296) {j k : Nat} (hj : j < 32) (hk : k < 32) : rotl (rotl x j) k = rotl x ((j + k) % 32) := by
  apply Nat.eq_of_testBit_eq
  intro i
  rw [bit_rotl (rotl_lt h j) hk, bit_rotl h hj, bit_rotl h (Nat.mod_lt _ (by decide))]
  by_cases hi : i < 32
  · simp only [hi, decide_true, Bool.true_and]
    rw [show decide ((i + 32 - k) % 32 < 32) = true from by simp; omega, Bool.true_and]
    congr 1; omega
  · simp [hi]
theorem rotl_zero {x : Nat} (h : x < 4294967296) : rotl x 0 = x := by
  apply Nat.eq_of_testBit_eq
  intro i
  rw [bit_rotl h (by decide)]
  by_cases hi : i < 32
  · rw [show (i + 32 - 0) % 32 = i from by omega]; simp [hi]
  · simp [hi, bit_hi h (show 32 ≤ i by omega)]
theorem rotr_eq {x : Nat} (h : x < 4294967296) {k : Nat} (hk : k < 32) : rotr x k = rotl x ((32 - k) % 32) := by
  apply Nat.eq_of_testBit_eq
  intro i
  rw [bit_rotr h hk, bit_rotl h (Nat.mod_lt _ (by decide))]
  by_cases hi : i < 32
  · simp only [hi, decide_true, Bool.true_and]
    congr 1; omega
  · simp [hi]
theorem rotr_rotl {x : Nat} (h : x < 4294967296) {k : Nat} (hk : k < 32) : rotr (rotl x k) k = x := by
  rw [rotr_eq (rotl_lt h k) hk, rotl_rotl h hk (Nat.mod_lt _ (by decide))]
  rw [show (k + (32 - k) % 32) % 32 = 0 from by omega, rotl_zero h]
/-- One turn, as the document's own answer makes it. -/
theorem rotl_one {x : Nat} (h : x < 4294967296) : rotl x 1 = (x * 2 % 4294967296 + x / 2147483648) % 4294967296 := by
  unfold rotl
  have e : x * 2 ^ 1 % 4294967296 = 2 * (x % 2147483648) := by omega
  have hb : x / 2 ^ (32 - 1) < 2 ^ 1 := by show x / 2147483648 < 2; omega
  rw [e]
  have := Nat.two_pow_add_eq_or_of_lt hb (x % 2147483648)
  rw [show 2 ^ 1 * (x % 2147483648) = 2 * (x % 2147483648) from rfl] at this
  rw [← this]
  show _ + x / 2147483648 = _
  omega


def numLow : List UInt8 → Nat
  | [] => 0
  | b :: l => b.toNat + 256 * numLow l
def numHigh (l : List UInt8) : Nat := l.foldl (fun x b => x * 256 + b.toNat) 0

theorem numLow_append (l m : List UInt8) : numLow (l ++ m) = numLow l + 256 ^ l.length * numLow m := by
  induction l with
  | nil => simp [numLow]
  | cons b l ih =>
    simp only [List.cons_append, numLow, ih, List.length_cons, Nat.pow_succ, Nat.mul_add, Nat.add_assoc]
    rw [Nat.mul_comm (256 ^ l.length) 256, Nat.mul_assoc]
theorem numLow_lt (l : List UInt8) : numLow l < 256 ^ l.length := by
  induction l with
  | nil => simp [numLow]
  | cons b l ih =>
    have := b.toNat_lt
    simp only [numLow, List.length_cons, Nat.pow_succ]
    omega
theorem numHigh_snoc (l : List UInt8) (b : UInt8) : numHigh (l ++ [b]) = numHigh l * 256 + b.toNat := by simp [numHigh]
theorem numHigh_reverse (l : List UInt8) : numHigh l.reverse = numLow l := by
  induction l with
  | nil => rfl
  | cons b l ih => rw [List.reverse_cons, numHigh_snoc, ih, numLow]; omega
theorem numHigh_lt (l : List UInt8) : numHigh l < 256 ^ l.length := by
  have := numLow_lt l.reverse
  rw [← numHigh_reverse, List.reverse_reverse, List.length_reverse] at this
  exact this

theorem take_snoc (s : ByteArray) (k : Nat) (h : k < s.size) : s.data.toList.take (k + 1) = s.data.toList.take k ++ [s[k]] := by
  rw [List.take_succ_eq_append_getElem (by simpa using h)]; rfl
theorem take_len (s : ByteArray) (k : Nat) (h : k ≤ s.size) : (s.data.toList.take k).length = k := by
  rw [List.length_take]; have : s.data.toList.length = s.size := by simp
  omega
theorem take_all (s : ByteArray) : s.data.toList.take s.size = s.data.toList := List.take_of_length_le (by simp)

theorem p256 (k : Nat) : 256 ^ k = 2 ^ (8 * k) := by rw [Nat.pow_mul]
theorem p256_le {k m : Nat} (h : k ≤ m) : 256 ^ k ≤ 256 ^ m := Nat.pow_le_pow_right (by decide) h

theorem or64 (a b : Nat) (ha : a < 18446744073709551616) (hb : b < 18446744073709551616) : bits .or .u64 (a : Int) (b : Int) = ((a ||| b : Nat) : Int) := bits_or_u64_nat a b ha hb

theorem low_step (s : ByteArray) (k : Nat) (hk : k < s.size) (h8 : s.size ≤ 8) :
    bits .or .u64 ((numLow (s.data.toList.take k) : Nat) : Int) ((s[k].toNat : Int) * 2 ^ (8 * (k : Int)).toNat % 18446744073709551616) = ((numLow (s.data.toList.take (k + 1)) : Nat) : Int) := by
  have hlen := take_len s k (by omega)
  have hlt := numLow_lt (s.data.toList.take k)
  rw [hlen] at hlt
  have hb := s[k].toNat_lt
  have e : (8 * (k : Int)).toNat = 8 * k := by omega
  have hp : 256 ^ (k + 1) ≤ 18446744073709551616 := p256_le (m := 8) (by omega)
  rw [Nat.pow_succ] at hp
  have hprod : s[k].toNat * 256 ^ k < 18446744073709551616 := by
    have : s[k].toNat * 256 ^ k ≤ 255 * 256 ^ k := Nat.mul_le_mul_right _ (by omega)
    have : 0 < 256 ^ k := Nat.pow_pos (by decide)
    omega
  rw [e]
  have h := or64 (numLow (s.data.toList.take k)) (s[k].toNat * 2 ^ (8 * k) % 18446744073709551616) (by omega) (Nat.mod_lt _ (by decide))
  simp only [Int.natCast_emod, Int.natCast_mul, Int.natCast_pow, Int.cast_ofNat_Int] at h
  rw [h, ← p256, Nat.mod_eq_of_lt hprod, take_snoc s k hk, numLow_append, hlen]
  simp only [numLow, Nat.mul_zero, Nat.add_zero]
  rw [Nat.or_comm, Nat.mul_comm, p256]
  rw [p256] at hlt
  rw [← Nat.two_pow_add_eq_or_of_lt hlt, Nat.add_comm]

theorem high_step (s : ByteArray) (k : Nat) (hk : k < s.size) (h8 : s.size ≤ 8) :
    bits .or .u64 (((numHigh (s.data.toList.take k) : Nat) : Int) * 256 % 18446744073709551616) (s[k].toNat : Int) = ((numHigh (s.data.toList.take (k + 1)) : Nat) : Int) := by
  have hlen := take_len s k (by omega)
  have hlt := numHigh_lt (s.data.toList.take k)
  rw [hlen] at hlt
  have hb := s[k].toNat_lt
  have hp : 256 ^ (k + 1) ≤ 18446744073709551616 := p256_le (m := 8) (by omega)
  rw [Nat.pow_succ] at hp
  have h := or64 (numHigh (s.data.toList.take k) * 256 % 18446744073709551616) s[k].toNat (Nat.mod_lt _ (by decide)) (by omega)
  simp only [Int.natCast_emod, Int.natCast_mul, Int.cast_ofNat_Int] at h
  rw [h, Nat.mod_eq_of_lt (by omega), take_snoc s k hk, numHigh_snoc]
  have := Nat.two_pow_add_eq_or_of_lt (i := 8) hb (numHigh (s.data.toList.take k))
  rw [Nat.mul_comm] at this
  exact congrArg _ this.symm

theorem wrap64_byte (b : UInt8) : IntKind.u64.wrap (b.toNat : Int) = (b.toNat : Int) := by
  have := b.toNat_lt
  rw [IntKind.wrap_u64]; omega
theorem low_step' (s : ByteArray) (k : Nat) (hk : k < s.size) (h8 : s.size ≤ 8) :
    bits .or .u64 ((numLow (s.data.toList.take k) : Nat) : Int) (IntKind.u64.wrap (IntKind.u64.wrap (s[k].toNat : Int) * 2 ^ (8 * k))) = ((numLow (s.data.toList.take (k + 1)) : Nat) : Int) := by
  have := low_step s k hk h8
  rw [show (8 * (k : Int)).toNat = 8 * k from by omega] at this
  rw [wrap64_byte, IntKind.wrap_u64, this]
theorem high_step' (s : ByteArray) (k : Nat) (hk : k < s.size) (h8 : s.size ≤ 8) :
    bits .or .u64 (IntKind.u64.wrap (((numHigh (s.data.toList.take k) : Nat) : Int) * 256)) (IntKind.u64.wrap (s[k].toNat : Int)) = ((numHigh (s.data.toList.take (k + 1)) : Nat) : Int) := by
  rw [wrap64_byte, IntKind.wrap_u64, high_step s k hk h8]

/-- What FromLow and FromHigh answer of n bytes: the number where they fit; and which error. -/
def fitNum (n x : Nat) : Nat := if n ≤ 8 then x else 0
def fitErr (n : Nat) : Int := if n ≤ 8 then 0 else 5

theorem ret_pair {k k2 : IntKind} {a b c d : Int} (h : a = b) (h2 : c = d) : Ending.returned (.tuple #[.int k a, .int k2 c]) = .returned (.tuple #[.int k b, .int k2 d]) := by rw [h, h2]

theorem Tryz.infoU8 : (Tryz.prog.info? 5).map (fun i => (i.zero, i.size, i.bytes)) = some (some (.int .u8 0), 1, 1) := by kernel_rfl

/-- Bytes as the cells of a block. -/
def u8s (l : List UInt8) : List Value := l.map fun b => .int .u8 (b.toNat : Int)
theorem u8s_len (l : List UInt8) : (u8s l).length = l.length := by simp [u8s]
theorem u8s_get (l : List UInt8) (i : Nat) (h : i < l.length) : (u8s l)[i]? = some (.int .u8 (l[i].toNat : Int)) := by simp [u8s, h]
theorem u8s_set (l : List UInt8) (i : Nat) (b : UInt8) : (u8s l).set i (.int .u8 (b.toNat : Int)) = u8s (l.set i b) := by
  simp [u8s, List.map_set]
theorem u8s_append (l m : List UInt8) : u8s (l ++ m) = u8s l ++ u8s m := by simp [u8s]
theorem u8s_zeros (n : Nat) : (madeCells #[Value.int .u8 0] n).toList = u8s (List.replicate n 0) := by
  rw [toList_madeCells_one]
  simp [u8s]

theorem fold_bytes (l : List UInt8) (acc : ByteArray) :
    (l.map fun b => ((b.toNat : Nat) : Int)).foldl (fun (r : ByteArray) n => r.push (UInt8.ofNat n.toNat)) acc = ⟨acc.data ++ l.toArray⟩ := by
  induction l generalizing acc with
  | nil => simp
  | cons b l ih =>
    rw [List.map_cons, List.foldl_cons, ih]
    simp [ByteArray.push]

theorem conv_cells (w : World) (a : Addr) (l : List UInt8) (cap : Nat) (h : ∀ j v, (u8s l)[j]? = some v → w.cell? (a.add j) = some v) :
    (convert 59 9 (.slice (some a) l.length cap)).run Tryz.prog w = .ok (.string ⟨l.toArray⟩) w := by
  rw [run_convert_bytes_string w _ _ 5 _ _ _ Tryz.underlying59 Tryz.underlying5 Tryz.underlying9]
  have h2 := run_loadCells_list (P := Tryz.prog) (w := w) a (u8s l) h
  rw [u8s_len] at h2
  rw [run_bytesToString w a l.length cap (l.map fun b => ((b.toNat : Nat) : Int)) (by rw [h2]; simp [u8s]), fold_bytes]
  simp

theorem conv_own {w : World} {base g n cap : Nat} {l : List UInt8} (h : w.ownsRow base 5 1 (.slice (some ⟨g, 0, none⟩) n cap) n (u8s l)) :
    (convert 59 9 (.slice (some ⟨g, 0, none⟩) n cap)).run Tryz.prog w = .ok (.string ⟨l.toArray⟩) w := by
  have hn : l.length = n := by have := h.1; rw [u8s_len] at this; omega
  subst hn
  refine conv_cells w _ l cap fun j v hv => ?_
  have hj : j < l.length := by
    have := (List.getElem?_eq_some_iff.1 hv).1
    rw [u8s_len] at this; exact this
  rw [← hv, ← h.cellAt j (by omega)]
  rcases j with _ | j <;> simp [Addr.add]

/-- A byte is stored into a row of the call's own. -/
theorem row_step {w : World} {base g n cap : Nat} {l l' : List UInt8} (h : w.ownsRow base 5 1 (.slice (some ⟨g, 0, none⟩) n cap) n (u8s l)) {k : Nat} {b : UInt8} {v : Int}
    (_ : l.length = n) (_ : k < n) (hl : l.set k b = l') (hv : v = (b.toNat : Int)) :
    (w.setCell ⟨g, k, none⟩ (.int .u8 v)).ownsRow base 5 1 (.slice (some ⟨g, 0, none⟩) n cap) n (u8s l') := by
  subst hl hv
  rw [← u8s_set]
  exact (h.stored k _).1

/-- The slice value v owns these bytes, in a row of the call's own (blocks from base on); nil owns none. -/
def Ob (w : World) (base : Nat) (v : Value) (l : List UInt8) : Prop := w.ownsRow base 5 1 v l.length (u8s l)

theorem Ob.start (w : World) (base : Nat) (h : base ≤ w.heap.size) : Ob (w.alloc (.cells #[] 5)) base (.slice (some ⟨w.heap.size, 0, none⟩) 0 0) [] :=
  World.ownsRow_lit w #[] 0 h (by unfold maxLen; omega) rfl
theorem Ob.none (w : World) (base : Nat) : Ob w base (.slice none 0 0) [] := World.ownsRow_nil _ _ _ _
theorem Ob.alloc {w : World} {base : Nat} {v : Value} {l : List UInt8} (h : Ob w base v l) (o : Obj) : Ob (w.alloc o) base v l := World.ownsRow.alloc h o
theorem Ob.drew {w : World} {base : Nat} {v : Value} {l : List UInt8} (h : Ob w base v l) : Ob w.drew base v l := h
theorem Ob.drewN {w : World} {base : Nat} {v : Value} {l : List UInt8} (h : Ob w base v l) (n : Nat) : Ob (w.drewN n) base v l := h

/-- The walk's law for 'append(out, b)', out a row of the call's own. -/
theorem wpList_push (wr : World) {ops : Array Oper} {rest : List Oper} {o : Oper} {a : Act} {Q : Exit → Act → World → Prop} {bv : Int}
    (hgd : o.guard = none) (s x : Operand) (ho : o.op = .call { callee := .builtin .append, args := #[s, x], argTypes := #[59, 59] })
    (base : Nat) (v : Value) (l : List UInt8) (hs : a.eval s = v) (hx : a.eval x = .slice (some ⟨wr.heap.size, 0, none⟩) 1 1) (hown : Ob wr base v l) (b : UInt8) (hb : bv = (b.toNat : Int))
    (hlen : l.length ≤ 1099511627776) (hbase : base ≤ wr.heap.size)
    (h : ∀ v' w', Ob w' base v' (l ++ [b]) → Below base wr w' → wpList Tryz.prog ops Q rest (a.put o.dst v') w') :
    wpList Tryz.prog ops Q (o :: rest) a (wr.alloc (.cells #[.int .u8 bv] 5)) := by
  subst hb
  obtain ⟨i0, hi, hz0, hz1, hz2⟩ := info_parts Tryz.infoU8
  have hsz : (wr.alloc (.cells #[.int .u8 (b.toNat : Int)] 5)).heap.size = wr.heap.size + 1 := by show (wr.heap.push _).size = _; simp
  refine wpList_append_own _ hgd s x 59 ho base 5 i0 (.int .u8 0) 1 1 Tryz.underlying59 hi hz0 hz1 hz2 rfl (by decide) v l.length (u8s l) hs (World.ownsRow.alloc hown _) ⟨wr.heap.size, 0, none⟩ 1 1 [.int .u8 (b.toNat : Int)] hx rfl ?_ ?_ (by unfold maxLen; omega) (by omega) (by omega) ?_
  · intro j u hj
    match j, hj with
    | 0, hj => simp at hj; subst hj; simp [Addr.add]
  · intro u hu; simp at hu; subst hu; rfl
  · intro v' w' h1 h2 _
    refine h v' w' ?_ ?_
    · have e : u8s (l ++ [b]) = u8s l ++ [.int .u8 (b.toNat : Int)] := by simp [u8s]
      unfold Ob
      rw [e, List.length_append]; exact h1
    · refine Below.grown ((Below.refl _ _).alloc hbase _) h2 (by omega) ?_
      intro k hk
      rcases hown.2 with ⟨rfl, _⟩ | ⟨g, cap, cur, rfl, hb, _⟩
      · simp [Value.ownBlock] at hk
      · simp [Value.ownBlock] at hk; omega

theorem conv_Ob {w : World} {base : Nat} {v : Value} {l : List UInt8} (h : Ob w base v l) :
    (convert 59 9 v).run Tryz.prog w = .ok (.string ⟨l.toArray⟩) w := by
  have h' := h
  rcases h.2 with ⟨rfl, h0⟩ | ⟨g, cap, cur, rfl, _⟩
  · have : l = [] := List.eq_nil_of_length_eq_zero h0
    subst this
    rw [run_convert_bytes_string w _ _ 5 _ _ _ Tryz.underlying59 Tryz.underlying5 Tryz.underlying9]
    rfl
  · exact conv_own h'

/-- The walk's law for 'string(out)', out a row of the call's own. -/
theorem wpList_ob_string (w : World) {ops : Array Oper} {rest : List Oper} {o : Oper} {a : Act} {Q : Exit → Act → World → Prop}
    (hg : o.guard = none) (x : Operand) (hop : o.op = Op.convert 59 9 x) {base : Nat} {v : Value} {l : List UInt8} (h : Ob w base v l) (hx : a.eval x = v)
    (hK : wpList Tryz.prog ops Q rest (a.put o.dst (.string ⟨l.toArray⟩)) w) :
    wpList Tryz.prog ops Q (o :: rest) a w := by
  refine wpList_plain hg fun K hK' => ?_
  have hrun := conv_Ob h
  unfold Oper.wp
  simp [execOp, hop, hx, hrun, Result.andThen]
  exact hK' _ _ hK
theorem Below_next {a b c : World} (h : Below a.heap.size a b) (k : Below b.heap.size b c) : Below a.heap.size a c := h.trans (k.mono h.size)
theorem Below_drewN {B : Nat} {a w : World} (h : Below B a w) (n : Nat) : Below B a (w.drewN n) := ⟨h.os, h.tape, h.output, h.size, h.block⟩


/-- A number's byte at place i from the low end. -/
def byteAt (x i : Nat) : UInt8 := UInt8.ofNat (x / 2 ^ (8 * i))
def lowL (x n : Nat) : List UInt8 := (List.range n).map (byteAt x)
theorem lowL_len (x n : Nat) : (lowL x n).length = n := by simp [lowL]
theorem lowL_succ (x k : Nat) : lowL x (k + 1) = lowL x k ++ [byteAt x k] := by simp [lowL, List.range_succ]

/-- What the row holds behind k rounds: k bytes, and zeros. -/
def lowRow (x k n : Nat) : List UInt8 := lowL x k ++ List.replicate (n - k) 0
theorem lowRow_zero (x n : Nat) : lowRow x 0 n = List.replicate n 0 := by simp [lowRow, lowL]
theorem lowRow_full (x n : Nat) : lowRow x n n = lowL x n := by simp [lowRow]
theorem lowRow_len (x k n : Nat) (h : k ≤ n) : (lowRow x k n).length = n := by simp [lowRow, lowL_len]; omega
theorem lowRow_set (x k n : Nat) (h : k < n) : (lowRow x k n).set k (byteAt x k) = lowRow x (k + 1) n := by
  unfold lowRow
  rw [List.set_append_right _ _ (by rw [lowL_len]; exact Nat.le_refl _), lowL_len, Nat.sub_self, lowL_succ]
  obtain ⟨m, hm⟩ : ∃ m, n - k = m + 1 := ⟨n - k - 1, by omega⟩
  rw [hm, show n - (k + 1) = m from by omega, List.replicate_succ]
  simp

theorem byte_num (x k : Nat) : IntKind.u8.wrap ((x : Int) / 2 ^ (8 * k)) = ((byteAt x k).toNat : Int) := by
  rw [IntKind.wrap_u8]
  unfold byteAt
  rw [UInt8.toNat_ofNat']
  have h : ((x : Int) / 2 ^ (8 * k)) = ((x / 2 ^ (8 * k) : Nat) : Int) := by
    rw [Int.natCast_ediv, Int.natCast_pow]; rfl
  rw [h]
  rfl

theorem byte_num' (x k : Nat) : ((x : Int) / 2 ^ (8 * k)) % 256 = ((byteAt x k).toNat : Int) := by rw [← byte_num, IntKind.wrap_u8]
theorem byte_num2 (x k : Nat) (hx : x < 18446744073709551616) (hk : 64 ≤ 8 * k) : ((x : Int) / 2 ^ min (8 * k) 64) % 256 = ((byteAt x k).toNat : Int) := by
  have h : (18446744073709551616 : Nat) ≤ 2 ^ (8 * k) := Nat.pow_le_pow_right (n := 2) (i := 64) (by decide) hk
  rw [Nat.min_eq_right hk, byteAt, Nat.div_eq_of_lt (Nat.lt_of_lt_of_le hx h)]
  have : (x : Int) / 2 ^ 64 = 0 := Int.ediv_eq_zero_of_lt (by omega) (by omega)
  rw [this]
  rfl

/-- The same from the high end. -/
def highRow (x k n : Nat) : List UInt8 := List.replicate (n - k) 0 ++ (lowL x k).reverse
theorem highRow_zero (x n : Nat) : highRow x 0 n = List.replicate n 0 := by simp [highRow, lowL]
theorem highRow_full (x n : Nat) : highRow x n n = (lowL x n).reverse := by simp [highRow]
theorem highRow_len (x k n : Nat) (h : k ≤ n) : (highRow x k n).length = n := by simp [highRow, lowL_len]; omega
theorem highRow_set (x k n : Nat) (h : k < n) : (highRow x k n).set (n - 1 - k) (byteAt x k) = highRow x (k + 1) n := by
  unfold highRow
  obtain ⟨m, hm⟩ : ∃ m, n - k = m + 1 := ⟨n - k - 1, by omega⟩
  rw [hm, show n - 1 - k = m from by omega, show n - (k + 1) = m from by omega, List.replicate_succ', List.append_assoc, List.set_append_right _ _ (by simp), lowL_succ]
  simp

def xorL (a b : List UInt8) : List UInt8 := List.zipWith (· ^^^ ·) a b
def xorRow (s t : ByteArray) (k n : Nat) : List UInt8 := xorL (s.data.toList.take k) (t.data.toList.take k) ++ List.replicate (n - k) 0
theorem xorRow_zero (s t : ByteArray) (n : Nat) : xorRow s t 0 n = List.replicate n 0 := by simp [xorRow, xorL]
theorem xorRow_full (s t : ByteArray) (h : t.size = s.size) : xorRow s t s.size s.size = xorL s.data.toList t.data.toList := by
  unfold xorRow
  rw [take_all, ← h, take_all]; simp
theorem xorL_len (a b : List UInt8) (h : a.length = b.length) : (xorL a b).length = a.length := by simp [xorL, h]
theorem xorRow_len (s t : ByteArray) (h : t.size = s.size) (k : Nat) (hk : k ≤ s.size) : (xorRow s t k s.size).length = s.size := by
  unfold xorRow
  rw [List.length_append, xorL_len _ _ (by rw [take_len s k hk, take_len t k (by omega)]), take_len s k hk, List.length_replicate]; omega
theorem xorRow_set (s t : ByteArray) (h : t.size = s.size) (k : Nat) (hs : k < s.size) (ht : k < t.size) : (xorRow s t k s.size).set k (s[k] ^^^ t[k]) = xorRow s t (k + 1) s.size := by
  unfold xorRow
  have hl : (xorL (s.data.toList.take k) (t.data.toList.take k)).length = k := by
    rw [xorL_len _ _ (by rw [take_len s k (by omega), take_len t k (by omega)]), take_len s k (by omega)]
  rw [List.set_append_right _ _ (by omega), hl, Nat.sub_self, take_snoc s k hs, take_snoc t k ht]
  obtain ⟨m, hm⟩ : ∃ m, s.size - k = m + 1 := ⟨s.size - k - 1, by omega⟩
  rw [hm, show s.size - (k + 1) = m from by omega, List.replicate_succ, xorL, xorL,
    List.zipWith_append (by rw [take_len s k (by omega), take_len t k (by omega)])]
  simp

theorem xor_num (a b : UInt8) : bits .xor .u8 (a.toNat : Int) (b.toNat : Int) = ((a ^^^ b).toNat : Int) := by
  rw [u8_xor_nat _ _ a.toNat_lt b.toNat_lt, UInt8.toNat_xor]

/-- What Xor answers: the bytes turned; and which error. -/
def xorB (s t : ByteArray) : ByteArray := if t.size = s.size then ⟨(xorL s.data.toList t.data.toList).toArray⟩ else ⟨#[]⟩
def xorE (s t : ByteArray) : Int := if t.size = s.size then 0 else 5
theorem ret_strnum {k : IntKind} {a b : ByteArray} {c d : Int} (h : a = b) (h2 : c = d) : Ending.returned (.tuple #[.string a, .int k c]) = .returned (.tuple #[.string b, .int k d]) := by rw [h, h2]

/-- How many bytes 0 are laid behind. -/
def fillMore (l n : Nat) : Nat := if l % n = 0 then 0 else n - l % n
def zeros (k : Nat) : ByteArray := ⟨Array.replicate k 0⟩
def fillI (s : ByteArray) (n : Int) : ByteArray := if n < 1 then s else s ++ zeros (fillMore s.size n.toNat)
theorem app_zeros0 (s : ByteArray) : s ++ zeros 0 = s := by
  apply ByteArray.ext; simp [zeros]


theorem zeros_size (k : Nat) : (zeros k).size = k := by simp [zeros, ByteArray.size]
theorem fillI_pos (s : ByteArray) (k : Nat) (h : 1 ≤ k) : fillI s k = s ++ zeros (fillMore s.size k) := by
  rw [fillI, if_neg (by omega), Int.toNat_natCast]
theorem fillI_size (s : ByteArray) (k : Nat) (h : 1 ≤ k) : (fillI s k).size = s.size + fillMore s.size k := by
  rw [fillI_pos s k h, ByteArray.size_append, zeros_size]
theorem fillMore_lt (l k : Nat) (h : 1 ≤ k) : fillMore l k < k := by
  unfold fillMore
  split
  · omega
  · have := Nat.mod_lt l (show k > 0 by omega); omega
theorem fillMore_mod (l k : Nat) (h : 1 ≤ k) : (l + fillMore l k) % k = 0 := by
  unfold fillMore
  have hlt := Nat.mod_lt l (show k > 0 by omega)
  split
  · simpa
  · rw [show l + (k - l % k) = l / k * k + k from by have := Nat.div_add_mod l k; rw [Nat.mul_comm] at this; omega]
    simp
theorem fillI_again (s : ByteArray) (k : Nat) (h : 1 ≤ k) : fillI (fillI s k) k = fillI s k := by
  rw [fillI_pos (fillI s k) k h, fillMore, if_pos, app_zeros0]
  rw [fillI_size s k h]; exact fillMore_mod _ _ h
theorem fillI_ahead (s : ByteArray) (k : Nat) (h : 1 ≤ k) : ((fillI s k).extract 0 s.size) = s := by
  rw [fillI_pos s k h]
  apply ByteArray.ext
  simp
theorem fillI_behind (s : ByteArray) (k : Nat) (h : 1 ≤ k) (i : Nat) (h1 : s.size ≤ i) (h2 : i < (fillI s k).size) : (fillI s k)[i] = 0 := by
  have : ∀ f : ByteArray, f = s ++ zeros (fillMore s.size k) → ∀ h : i < f.size, f[i] = 0 := by
    intro f hf h
    subst hf
    rw [ByteArray.getElem_append_right h1]
    simp [zeros, ByteArray.getElem_eq_getElem_data]
  exact this _ (fillI_pos s k h) h2

theorem wf_u8 {a : Int} (h : (Lit.int .u8 a).wf = true) : 0 ≤ a ∧ a ≤ 255 := by simpa [Lit.wf, IntKind.min, IntKind.max, IntKind.signed, IntKind.bits] using h


theorem lowB_get (x N k : Nat) (A : ByteArray) (hA : A = ⟨(lowL x N).toArray⟩) (h : k < A.size) : A[k] = byteAt x k := by
  subst hA
  rw [ByteArray.getElem_eq_getElem_data]
  simp [lowL]
theorem lowB_size (x N : Nat) (A : ByteArray) (hA : A = ⟨(lowL x N).toArray⟩) : A.size = N := by
  subst hA; show (lowL x N).toArray.size = N; simp [lowL_len]
theorem highB_size (x N : Nat) (B : ByteArray) (hB : B = ⟨(lowL x N).reverse.toArray⟩) : B.size = N := by
  subst hB; show (lowL x N).reverse.toArray.size = N; simp [lowL_len]
theorem highB_get (x N k : Nat) (B : ByteArray) (hB : B = ⟨(lowL x N).reverse.toArray⟩) (hk : k < N) (h : B.size - 1 - k < B.size) : B[B.size - 1 - k] = byteAt x k := by
  have hs := highB_size x N B hB
  have e : ∀ i, (hi : i < B.size) → i = N - 1 - k → B[i] = byteAt x k := by
    intro i hi e
    subst e
    subst hB
    rw [ByteArray.getElem_eq_getElem_data]
    simp [List.getElem_reverse, lowL]
    congr 1; omega
  exact e _ h (by omega)
theorem byteAt_zero (x k : Nat) (hx : x < 18446744073709551616) (hk : 8 ≤ k) : byteAt x k = 0 := by
  have h : (18446744073709551616 : Nat) ≤ 2 ^ (8 * k) := Nat.pow_le_pow_right (n := 2) (i := 64) (by decide) (by omega)
  rw [byteAt, Nat.div_eq_of_lt (Nat.lt_of_lt_of_le hx h)]; rfl


theorem u32_of (x : Nat) : (x : Int) % 4294967296 = ((x % 4294967296 : Nat) : Int) := by omega

theorem wf_u64 {a : Int} (h : (Lit.int .u64 a).wf = true) : 0 ≤ a ∧ a ≤ 18446744073709551615 := by simpa [Lit.wf, IntKind.min, IntKind.max, IntKind.signed, IntKind.bits] using h


theorem numLow_lowL (x n : Nat) : numLow (lowL x n) = x % 256 ^ n := by
  induction n with
  | zero => simp [lowL, numLow]; omega
  | succ n ih =>
    rw [lowL_succ, numLow_append, ih, lowL_len]
    simp only [numLow, Nat.mul_zero, Nat.add_zero, byteAt]
    rw [UInt8.toNat_ofNat', ← p256]
    have : x % 256 ^ (n + 1) = x % 256 ^ n + 256 ^ n * (x / 256 ^ n % 256) := by rw [Nat.pow_succ, Nat.mod_mul]
    exact this.symm

theorem lowL_back (x : Nat) (hx : x < 18446744073709551616) : numLow (lowL x 8) = x := by
  rw [numLow_lowL]; exact Nat.mod_eq_of_lt hx

theorem xorL_back : ∀ (a b : List UInt8), a.length = b.length → xorL (xorL a b) b = a
  | [], [], _ => rfl
  | a :: l, b :: m, h => by
    have := xorL_back l m (by simpa using h)
    unfold xorL at this ⊢
    simp only [List.zipWith_cons_cons, this]
    rw [UInt8.xor_assoc, UInt8.xor_self, UInt8.xor_zero]
theorem xorB_back (a b : ByteArray) (h : b.size = a.size) : (xorB a b).size = a.size ∧ xorB (xorB a b) b = a := by
  have hl : a.data.toList.length = b.data.toList.length := by simp [h]
  have hs : (xorB a b).size = a.size := by
    rw [xorB, if_pos h]
    show (xorL a.data.toList b.data.toList).toArray.size = _
    simp [xorL_len _ _ hl]
  refine ⟨hs, ?_⟩
  rw [xorB, if_pos (by omega)]
  apply ByteArray.ext
  rw [xorB, if_pos h]
  show (xorL (xorL a.data.toList b.data.toList) b.data.toList).toArray = _
  rw [xorL_back _ _ hl]

theorem wf_i64 {a : Int} (h : (Lit.int .i64 a).wf = true) : -9223372036854775808 ≤ a ∧ a ≤ 9223372036854775807 := by simpa [Lit.wf, IntKind.min, IntKind.max, IntKind.signed, IntKind.bits] using h

end Go.Proofs.YtahbbnimoogapaaGreatDoor
namespace Go.Proofs.YtahbbnimoogapaaGreatDoor
open Go.RowKit

/-- Numbers as the cells of a block. -/
def u32s (l : List Nat) : List Value := l.map fun (n : Nat) => .int .u32 (n : Int)
theorem u32s_len (l : List Nat) : (u32s l).length = l.length := by simp [u32s]
theorem u32s_get (l : List Nat) (i : Nat) (h : i < l.length) : (u32s l)[i]? = some (.int .u32 ((l[i] : Nat) : Int)) := by simp [u32s, h]
/-- Block g holds these cells, none of them frozen. -/
def Arr (w : World) (g : Nat) (cs : Array Value) (t : TypeId) : Prop := w.heap[g]? = some (.cells cs t (0, 0))
theorem Arr.lt {w : World} {g : Nat} {cs : Array Value} {t : TypeId} (h : Arr w g cs t) : g < w.heap.size := by
  by_cases hl : g < w.heap.size
  · exact hl
  · have hn : w.heap[g]? = none := by simp; omega
    rw [Arr, hn] at h; cases h
theorem Arr.cell {w : World} {g : Nat} {cs : Array Value} {t : TypeId} (h : Arr w g cs t) {j : Nat} {v : Value} (hv : cs[j]? = some v) : w.cell? ⟨g, j, none⟩ = some v := by
  rw [cell_of_row w g j cs t (0, 0) h]; exact hv
theorem Arr.frozen {w : World} {g : Nat} {cs : Array Value} {t : TypeId} (h : Arr w g cs t) (j : Nat) : w.frozen? ⟨g, j, none⟩ = false := frozen_of_row w g j cs t h
theorem Arr.new (w : World) (cs : Array Value) (t : TypeId) : Arr (w.alloc (.cells cs t)) w.heap.size cs t := heap_alloc_new w _
theorem Arr.newAt (w : World) {g : Nat} (cs : Array Value) (t : TypeId) (h : g = w.heap.size) : Arr (w.alloc (.cells cs t)) g cs t := by subst h; exact heap_alloc_new w _
theorem Arr.alloc {w : World} {g : Nat} {cs : Array Value} {t : TypeId} (h : Arr w g cs t) (o : Obj) : Arr (w.alloc o) g cs t := (Below.heap_alloc w o g h.lt).trans h
theorem Arr.set {w : World} {g : Nat} {cs : Array Value} {t : TypeId} (h : Arr w g cs t) (i : Nat) (v : Value) : Arr (w.setCell ⟨g, i, none⟩ v) g (cs.setIfInBounds i v) t := heap_setCell_same w g i cs t v h
theorem Arr.other {w : World} {g : Nat} {cs : Array Value} {t : TypeId} (h : Arr w g cs t) (a : Addr) (v : Value) (hn : g ≠ a.block) : Arr (w.setCell a v) g cs t := (heap_setCell_other w a g v hn).trans h
theorem Arr.below {w w' : World} {B g : Nat} {cs : Array Value} {t : TypeId} (h : Arr w g cs t) (hb : Below B w w') (hg : g < B) : Arr w' g cs t := (hb.block g hg).trans h
theorem Arr.next {w w' : World} {g : Nat} {cs : Array Value} {t : TypeId} (h : Arr w g cs t) (hb : Below w.heap.size w w') : Arr w' g cs t := h.below hb h.lt
theorem Arr.drew {w : World} {g : Nat} {cs : Array Value} {t : TypeId} (h : Arr w g cs t) : Arr w.drew g cs t := h
theorem Arr.drewN {w : World} {g : Nat} {cs : Array Value} {t : TypeId} (h : Arr w g cs t) (n : Nat) : Arr (w.drewN n) g cs t := h
theorem Arr.row {w : World} {g : Nat} {cs : Array Value} {t : TypeId} (h : Arr w g cs t) (cs' : Array Value) : Arr (w.setRow g cs') g cs' t := setRow_heap w g cs cs' t (0, 0) h
theorem Arr.rowOther {w : World} {g g' : Nat} {cs : Array Value} {t : TypeId} (h : Arr w g cs t) (cs' : Array Value) (hn : g ≠ g') : Arr (w.setRow g' cs') g cs t := (setRow_other w g' g cs' hn).trans h
theorem one_u32s (l : List Nat) : (u32s l).toArray.all (·.oneCell') = true := by simp [u32s, Value.oneCell']
/-- A part of a string, as the walk asks for it. -/
theorem slice_str (s : ByteArray) (i j : Int) (a b : Nat) (hi : i = (a : Int)) (hj : j = (b : Int)) (hab : a ≤ b) (hb : b ≤ s.size) (w : World) :
    (Instr.slice 9 (.string s) (some (.int .i64 i)) (some (.int .i64 j)) none).run Tryz.prog w = .ok (.string (s.extract a b)) w := by
  subst hi hj
  have := run_slice_string (P := Tryz.prog) w 9 s .i64 .i64 (a : Int) (b : Int) Tryz.underlying9 (by omega) (by omega) (by omega)
  simpa using this
theorem ext_toList (s : ByteArray) (a b : Nat) : (s.extract a b).data.toList = (s.data.toList.drop a).take (b - a) := by
  simp [ByteArray.data_extract]
theorem ext_size (s : ByteArray) (a b : Nat) (h : b ≤ s.size) : (s.extract a b).size = b - a := by
  rw [ByteArray.size_extract]; omega
theorem xor32 (a b : Nat) (ha : a < 4294967296) (hb : b < 4294967296) : bits .xor .u32 (a : Int) (b : Int) = ((a ^^^ b : Nat) : Int) := u32_xor_nat a b ha hb
theorem sum2 (a b : Nat) : ((a : Int) + (b : Int)) % 4294967296 = (((a + b) % 4294967296 : Nat) : Int) := by omega
/-- 'copy(dst, s)' from a string, dst lying in row g from place o on: as many bytes go over as both have. -/
theorem run_copy_str (w : World) (ty : TypeId) (g o dLen dCap m : Nat) (s : ByteArray) (cur : Array Value) (t : TypeId) (hm : m = min s.size dLen)
    (hg : Arr w g cur t) (hfit : o + m ≤ cur.size) :
    (Builtin.copy_ #[59, 9] ty #[.slice (some ⟨g, o, none⟩) dLen dCap, .string s]).run Tryz.prog w =
      .ok (.int .i64 (m : Int)) (w.setRow g (cur.toList.take o ++ u8s (s.data.toList.take m) ++ cur.toList.drop (o + m)).toArray) := by
  have hsz : s.data.toList.length = s.size := by simp
  have hlen : (u8s (s.data.toList.take m)).length = m := by rw [u8s_len, List.length_take]; omega
  have hone : ∀ v ∈ u8s (s.data.toList.take m), v.oneCell' = true := by
    intro v hv
    simp only [u8s, List.mem_map] at hv
    obtain ⟨b, _, rfl⟩ := hv
    rfl
  have hst := run_storeCells_at Tryz.prog g o t (u8s (s.data.toList.take m)) 0 cur w hg (by rw [hlen]; simpa using hfit) hone
  have hmin : Nat.min s.size dLen = m := hm.symm
  have htk : List.take m (List.map (fun b : UInt8 => Value.int IntKind.u8 (b.toNat : Int)) s.data.toList) = u8s (s.data.toList.take m) := by
    rw [u8s, List.map_take]
  rw [hlen] at hst
  simp only [Nat.add_zero] at hst
  obtain ⟨i0, hi, hz0, hz1, hz2⟩ := info_parts Tryz.infoU8
  simp [Builtin.copy_, run_underlying Tryz.underlying59, Builtin.lenOf, Builtin.firstCells, sizeOf, typeInfo, hi, hmin]
  rw [htk, hst]
  simp [Result.andThen, goInt]
theorem addr_add (g o i : Nat) : (⟨g, o, none⟩ : Addr).add i = ⟨g, o + i, none⟩ := by unfold Addr.add; split <;> simp_all
theorem cat_run (s t : ByteArray) (h : s.size + t.size ≤ 9223372036854775807) (w : World) : (Op.stringOp .add s t).run Tryz.prog w = .ok (.string (s ++ t)) w := by
  simp [Op.stringOp]
  omega
theorem slice_to (s : ByteArray) (n : Nat) (h : n ≤ s.size) (w : World) :
    (Instr.slice 9 (.string s) none (some (.int .i64 (n : Int))) none).run Tryz.prog w = .ok (.string (s.extract 0 n)) w := by
  have := run_slice_string_to_if (P := Tryz.prog) (w := w) 9 s .i64 (n : Int) Tryz.underlying9
  rw [this, if_pos (by omega)]
  simp
theorem slice_from (s : ByteArray) (n : Nat) (h : n ≤ s.size) (w : World) :
    (Instr.slice 9 (.string s) (some (.int .i64 (n : Int))) none none).run Tryz.prog w = .ok (.string (s.extract n s.size)) w := by
  have := run_slice_string_from_if (P := Tryz.prog) (w := w) 9 s .i64 (n : Int) Tryz.underlying9
  rw [this, if_pos (by omega)]
  simp
theorem ext_left (a b : ByteArray) (n : Nat) (h : a.size = n) : (a ++ b).extract 0 n = a := by
  apply ByteArray.ext
  apply Array.ext'
  rw [ext_toList, show (a ++ b).data.toList = a.data.toList ++ b.data.toList by simp, List.drop_zero, Nat.sub_zero, List.take_left' (by simpa using h)]
theorem ext_right (a b : ByteArray) (n m : Nat) (h : a.size = n) (h2 : n + b.size = m) : (a ++ b).extract n m = b := by
  apply ByteArray.ext
  apply Array.ext'
  rw [ext_toList, show (a ++ b).data.toList = a.data.toList ++ b.data.toList by simp, List.drop_left' (by simpa using h), List.take_of_length_le (by simp; omega)]
/-- But for one block, all that was there is as it was. -/
structure Fr (g : Nat) (a w : World) : Prop where
  os : w.os = a.os
  tape : w.tape = a.tape
  output : w.output = a.output
  size : a.heap.size ≤ w.heap.size
  block : ∀ k, k < a.heap.size → k ≠ g → w.heap[k]? = a.heap[k]?
theorem Fr.refl (g : Nat) (w : World) : Fr g w w := ⟨rfl, rfl, rfl, Nat.le_refl _, fun _ _ _ => rfl⟩
theorem Fr.trans {g : Nat} {a b c : World} (h : Fr g a b) (k : Fr g b c) : Fr g a c :=
  ⟨k.os.trans h.os, k.tape.trans h.tape, k.output.trans h.output, Nat.le_trans h.size k.size, fun i hi hn => (k.block i (Nat.lt_of_lt_of_le hi h.size) hn).trans (h.block i hi hn)⟩
theorem Fr.drew {g : Nat} {a w : World} (h : Fr g a w) : Fr g a w.drew := ⟨h.os, h.tape, h.output, h.size, h.block⟩
theorem Fr.thenB {g B : Nat} {a w w' : World} (h : Fr g a w) (hb : Below B w w') (hB : w.heap.size ≤ B) : Fr g a w' :=
  ⟨hb.os.trans h.os, hb.tape.trans h.tape, hb.output.trans h.output, Nat.le_trans h.size hb.size, fun i hi hn => (hb.block i (Nat.lt_of_lt_of_le hi (Nat.le_trans h.size hB))).trans (h.block i hi hn)⟩
theorem Fr.alloc {g : Nat} {a w : World} (h : Fr g a w) (o : Obj) : Fr g a (w.alloc o) := h.thenB ((Below.refl w.heap.size w).alloc (Nat.le_refl _) o) (Nat.le_refl _)
theorem Fr.self {g : Nat} {a w : World} (h : Fr g a w) {p : Addr} (hp : p.block = g) (u : Value) : Fr g a (w.setCell p u) :=
  h.trans ⟨rfl, rfl, rfl, by simp [World.setCell], fun k _ hn => Below.heap_setCell _ _ _ _ (by omega)⟩
theorem Fr.fresh {g : Nat} {a w : World} (h : Fr g a w) {p : Addr} (hp : a.heap.size ≤ p.block) (u : Value) : Fr g a (w.setCell p u) :=
  ⟨h.os, h.tape, h.output, Nat.le_trans h.size (by simp [World.setCell]), fun k hk hn => (Below.heap_setCell _ _ _ _ (by omega)).trans (h.block k hk hn)⟩
theorem Fr.row {g : Nat} {a w : World} (h : Fr g a w) (cs : Array Value) : Fr g a (w.setRow g cs) := by
  have hb := below_setRow (Below.refl g w) (Nat.le_refl g) cs
  exact h.trans ⟨hb.os, hb.tape, hb.output, hb.size, fun k _ hn => setRow_other w g k cs hn⟩
theorem Fr.below {g B : Nat} {a w : World} (h : Fr g a w) (hB : B ≤ g) (hw : B ≤ a.heap.size) : Below B a w :=
  ⟨h.os, h.tape, h.output, h.size, fun k hk => h.block k (by omega) (by omega)⟩
theorem Arr.fr {w w' : World} {m g : Nat} {cs : Array Value} {t : TypeId} (h : Arr w m cs t) (hf : Fr g w w') (hn : m ≠ g) : Arr w' m cs t := (hf.block m h.lt hn).trans h
end Go.Proofs.YtahbbnimoogapaaGreatDoor
namespace Go.Proofs.YtahbbnimoogapaaGreatDoor
open Go.RowKit


/-- A block of the call's own that reads as these bytes, each cell free. -/
def HasBytes (w : World) (g : Nat) (l : List UInt8) : Prop := ∀ j, (h : j < l.length) → w.cell? ⟨g, j, none⟩ = some (.int .u8 (l[j].toNat : Int)) ∧ w.frozen? ⟨g, j, none⟩ = false

theorem HasBytes.set {w : World} {g : Nat} {l : List UInt8} (h : HasBytes w g l) (k : Nat) (hk : k < l.length) (b : UInt8) : HasBytes (w.setCell ⟨g, k, none⟩ (.int .u8 (b.toNat : Int))) g (l.set k b) := by
  intro j hj
  have hj' : j < l.length := by simpa using hj
  refine ⟨?_, by rw [World.frozen?_setCell]; exact (h j hj').2⟩
  by_cases e : k = j
  · subst e
    rw [World.cell?_setCell_same _ _ _ (h k hk).1]; simp
  · rw [World.cell?_setCell_other _ _ _ _ (by simp), (h j hj').1]; simp [e]

theorem HasBytes.conv {w : World} {g : Nat} {l : List UInt8} (h : HasBytes w g l) (cap : Nat) :
    (convert 59 9 (.slice (some ⟨g, 0, none⟩) l.length cap)).run Tryz.prog w = .ok (.string ⟨l.toArray⟩) w := by
  refine conv_cells w _ l cap fun j v hv => ?_
  have hj : j < l.length := by
    have := (List.getElem?_eq_some_iff.1 hv).1
    rw [u8s_len] at this; exact this
  rw [u8s_get l j hj] at hv
  rw [← hv, ← (h j hj).1]
  rcases j with _ | j <;> simp [Addr.add]

/-- '[]byte(s)': a new block that reads as the string's bytes. -/
theorem bytes_of (w : World) (s : ByteArray) :
    ∃ cap o, (convert 9 59 (.string s)).run Tryz.prog w = .ok (.slice (some ⟨w.heap.size, 0, none⟩) s.size cap) (w.drew.alloc o) ∧ HasBytes (w.drew.alloc o) w.heap.size s.data.toList := by
  refine ⟨_, _, run_bytes_of_string w _ _ 5 s Tryz.underlying9 Tryz.underlying59 Tryz.underlying5, ?_⟩
  intro j hj
  have hj' : j < s.data.size := by simpa using hj
  have hh : (w.drew).heap.size = w.heap.size := rfl
  constructor
  · rw [← hh, World.cell?_alloc_mark, bytesRow, Array.getElem?_append_left (by simpa using hj')]
    rw [Array.getElem?_map, Array.getElem?_eq_getElem hj']; rfl
  · rw [← hh, World.frozen?_alloc_mark]
    have hge := grownCap_ge w s.size 0 5
    have hsz : s.data.size = s.size := rfl
    have : ¬ (bytesRow s (grownCap w s.size 0 5)).size ≤ j := by
      simp only [bytesRow, Array.size_append, Array.size_map, Array.size_replicate]; omega
    simp only [this, decide_false, Bool.false_and]

/-- The walk's law for '[]byte(s)': a new block of the call's own that reads as the string's bytes. -/
theorem wpList_conv_str (w : World) {ops : Array Oper} {rest : List Oper} {o : Oper} {a : Act} {Q : Exit → Act → World → Prop}
    (hg : o.guard = none) (x : Operand) (hop : o.op = Op.convert 9 59 x) (s : ByteArray) (hx : a.eval x = .string s)
    (hK : ∀ cap w', HasBytes w' w.heap.size s.data.toList → Below w.heap.size w w' → w'.heap.size = w.heap.size + 1 → wpList Tryz.prog ops Q rest (a.put o.dst (.slice (some ⟨w.heap.size, 0, none⟩) s.size cap)) w') :
    wpList Tryz.prog ops Q (o :: rest) a w := by
  refine wpList_plain hg fun K hK' => ?_
  obtain ⟨cap, ob, hrun, r1⟩ := bytes_of w s
  unfold Oper.wp
  simp [execOp, hop, hx, hrun, Result.andThen]
  exact hK' _ _ (hK cap _ r1 ((Below.refl _ _).drew.alloc (Nat.le_refl _) _) (by show (w.heap.push ob).size = _; simp))

/-- The walk's law for 'string(b)'. -/
theorem wpList_conv_bytes (w : World) {ops : Array Oper} {rest : List Oper} {o : Oper} {a : Act} {Q : Exit → Act → World → Prop}
    (hg : o.guard = none) (x : Operand) (hop : o.op = Op.convert 59 9 x) {g n cap : Nat} {l : List UInt8} (h : HasBytes w g l) (hn : l.length = n) (hx : a.eval x = .slice (some ⟨g, 0, none⟩) n cap)
    (hK : wpList Tryz.prog ops Q rest (a.put o.dst (.string ⟨l.toArray⟩)) w) :
    wpList Tryz.prog ops Q (o :: rest) a w := by
  subst hn
  refine wpList_plain hg fun K hK' => ?_
  have hrun := h.conv cap
  unfold Oper.wp
  simp [execOp, hop, hx, hrun, Result.andThen]
  exact hK' _ _ hK
end Go.Proofs.YtahbbnimoogapaaGreatDoor
namespace Go.Proofs.YtahbbnimoogapaaGreatDoor
open Go.RowKit Go.WideShapes Go.ChangeShapes

theorem open_intarr {H : Type} {enc : TypeId × Value → H} {P : Program} {w : World} {base : Nat} {spare : Nat → Bool} {held : Bool} {r : Reach} {b0 : Nat} {t e : TypeId} {n : Nat} {k : IntKind} {v : Value} {d : DataW H} {p : List MemPlace}
    (ht : P.underlying t = some (.array n e)) (he : P.underlying e = some (.int k)) (hce : P.cellsOf e = 1) (hct : P.cellsOf t = n) (hval : Value.okWide P w r b0 t v) (h : DataW.Trod enc P w base spare held t v d p) :
    ∃ zs : List Int, v = .agg (zs.map (Value.int k)).toArray ∧ zs.length = n ∧ ∀ z ∈ zs, (Lit.int k z).wf = true := by
  simp only [Value.okWide, ht] at hval
  obtain ⟨cs, rfl, hs, _⟩ := hval
  obtain ⟨fuel, hf⟩ := h
  obtain ⟨xs, m, _, _, hl, hxl, hel⟩ := DataW.trod_array ht hf
  have hcs : (Value.cells (.agg cs)).toList.length = n := by rw [hl, hct]
  have hcl : cs.toList.length = n := hcs
  have each : ∀ i (hi : i < n), ∃ z, cs.toList[i]? = some (.int k z) ∧ (Lit.int k z).wf = true := by
    intro i hi
    have h1 := hel i hi
    rw [hce, Nat.mul_one] at h1
    have hx : xs[i]? = some (xs[i]'(by omega)) := List.getElem?_eq_getElem (by omega)
    rw [hx] at h1
    obtain ⟨z, hz, _, hw⟩ := DataW.trod_int he h1
    refine ⟨z, ?_, hw⟩
    have h2 : ((cs.toList.drop i).take 1)[0]? = some (Value.int k z) := by
      have : (Value.cells (.agg cs)).toList = cs.toList := rfl
      rw [this] at hz
      rw [hz]; rfl
    rw [List.getElem?_take, if_pos (by decide), List.getElem?_drop, Nat.add_zero] at h2
    exact h2
  refine ⟨cs.toList.map intOf, ?_, by simpa using hcl, ?_⟩
  · congr 1
    apply Array.ext'
    apply List.ext_getElem?
    intro i
    by_cases hi : i < n
    · obtain ⟨z, hz, _⟩ := each i hi
      simp only [List.map_map, List.getElem?_map, hz, Option.map_some]
      rfl
    · rw [List.getElem?_eq_none (by omega), List.getElem?_eq_none (by simp; omega)]
  · intro z hz
    obtain ⟨x, hx, rfl⟩ := List.mem_map.1 hz
    obtain ⟨i, hi, hxi⟩ := List.getElem_of_mem hx
    obtain ⟨z, hz, hw⟩ := each i (by omega)
    rw [List.getElem?_eq_getElem hi, hxi] at hz
    obtain rfl := Option.some.inj hz
    exact hw

/-- The slice value a, len, cap reads as these texts (nil: none). -/
def IsTexts (W : World) (a : Option Addr) (len cap : Nat) (ss : List ByteArray) : Prop :=
  (a = none ∧ len = 0 ∧ cap = 0 ∧ ss = []) ∨ (∃ x, a = some x ∧ len ≤ cap ∧ cap ≤ maxLen ∧ ss.length = len ∧ (∀ i, i < len → W.cell? (x.add i) = some (.string (ss.getD i ByteArray.empty))) ∧ (∀ s ∈ ss, s.size ≤ 140737488355328))
theorem weights_strs {H : Type} (P : Program) (e : TypeId) : ∀ (ss : List ByteArray), ∀ s ∈ ss, s.size ∈ DataW.weightsAll (H := H) P e (strs ss)
  | x :: ss, s, hs => by
    simp only [strs, List.map_cons, DataW.weightsAll, DataW.weights, List.mem_append, List.mem_singleton]
    rcases List.mem_cons.1 hs with rfl | h
    · left; simp
    · right; exact weights_strs P e ss s h
theorem open_texts {H : Type} {enc : TypeId × Value → H} {P : Program} {w : World} {r : Reach} {b0 : Nat} {t e : TypeId} {v : Value} {d : DataW H} {p : List MemPlace}
    (ht : P.underlying t = some (.slice e)) (he : P.underlying e = some .string) (hc : P.cellsOf e = 1) (hval : Value.okWide P w r b0 t v) (h : DataW.Trod enc P w 0 (fun _ => true) true t v d p)
    (hsz : ∀ n ∈ d.weights P t, n ≤ reachBytes) :
    ∃ a len cap ss, v = .slice a len cap ∧ IsTexts w a len cap ss := by
  obtain ⟨a, len, cap, rfl⟩ := okWide_slice ht hval
  obtain ⟨fuel, hf⟩ := h
  rcases open_strings ht he hc hf with ⟨hcs, _⟩ | ⟨x, l, c, ss, hcs, _, hl, hm, hz, hx, hcell, _⟩
  · simp [Value.cells] at hcs
    obtain ⟨rfl, rfl, rfl⟩ := hcs
    exact ⟨_, _, _, [], rfl, .inl ⟨rfl, rfl, rfl, rfl⟩⟩
  · simp [Value.cells] at hcs
    obtain ⟨rfl, rfl, rfl⟩ := hcs
    simp only [if_true] at hz
    simp only [Prod.mk.injEq] at hx
    refine ⟨_, _, _, ss.take len, rfl, .inr ⟨x, rfl, hl, hm, by rw [List.length_take]; omega, fun i hi => ?_, fun s hs => ?_⟩⟩
    · rw [hcell i (by omega)]
      simp only [List.getD_eq_getElem?_getD, List.getElem?_take, if_pos hi]
    · have hw : s.size ∈ d.weights P t := by
        rw [hx.1]
        simp only [DataW.weights, ht, List.mem_cons, List.mem_append]
        exact .inr (.inl (weights_strs P e (ss.take len) s hs))
      have := hsz _ hw
      have hr : reachBytes < 2 ^ 47 := reachBytes_lt
      omega
end Go.Proofs.YtahbbnimoogapaaGreatDoor
