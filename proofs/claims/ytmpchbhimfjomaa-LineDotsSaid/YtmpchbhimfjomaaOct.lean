/- Contracts of octet's functions, and the plain laws under them. -/
import Derived.Test.YtmpchbhimfjomaaProg
import Derived.WalkKit
import Derived.Lib.Hide
import Derived.Laws.Bits64b
import Derived.Laws.BytesString
import Derived.Laws.Cells
import Derived.Laws.IdiomStrings
import Derived.Deep.QuietTactic
import Derived.RegionTactic
import Derived.ChangeAlike
import Derived.BigQuiet
namespace Go.Proofs.Ytmpchbhimfjomaa
open Go.RowKit

/-- A word turned round to the left by k. -/
def rotl (x k : Nat) : Nat := (x * 2 ^ k) % 4294967296 ||| x / 2 ^ (32 - k)
def rotr (x k : Nat) : Nat := x / 2 ^ k ||| (x * 2 ^ (32 - k)) % 4294967296

theorem pow2_pos (k : Nat) : 0 < 2 ^ k := Nat.two_pow_pos k
theorem div_lt32 {x : Nat} (h : x < 4294967296) (k : Nat) : x / 2 ^ k < 4294967296 := Nat.lt_of_le_of_lt (Nat.div_le_self _ _) h

theorem rotl_lt {x : Nat} (h : x < 4294967296) (k : Nat) : rotl x k < 4294967296 :=
  Nat.or_lt_two_pow (n := 32) (Nat.mod_lt _ (by decide)) (div_lt32 h _)
theorem rotr_lt {x : Nat} (h : x < 4294967296) (k : Nat) : rotr x k < 4294967296 :=
  Nat.or_lt_two_pow (n := 32) (div_lt32 h _) (Nat.mod_lt _ (by decide))

theorem or32 (a b : Nat) (ha : a < 4294967296) (hb : b < 4294967296) : bits .or .u32 (a : Int) (b : Int) = ((a ||| b : Nat) : Int) := u32_or_nat a b ha hb

theorem left_num (x : Nat) (hx : x < 4294967296) (n : Int) :
    bits .or .u32 ((x : Int) * 2 ^ (n % 32).toNat % 4294967296) ((x : Int) / 2 ^ (32 - n % 32).toNat) = ((rotl x (n % 32).toNat : Nat) : Int) := by
  have h0 : 0 ≤ n % 32 := by omega
  have h1 : n % 32 < 32 := by omega
  obtain ⟨m, hm⟩ := Int.eq_ofNat_of_zero_le h0
  rw [hm] at h1 ⊢
  have e : (32 - (m : Int)).toNat = 32 - m := by omega
  rw [e, Int.toNat_natCast]
  have := or32 (x * 2 ^ m % 4294967296) (x / 2 ^ (32 - m)) (Nat.mod_lt _ (by decide)) (div_lt32 hx _)
  simp only [Int.natCast_emod, Int.natCast_mul, Int.natCast_pow, Int.natCast_ediv, Int.cast_ofNat_Int] at this
  rw [this]
  rfl

theorem right_num (x : Nat) (hx : x < 4294967296) (n : Int) :
    bits .or .u32 ((x : Int) / 2 ^ (n % 32).toNat) ((x : Int) * 2 ^ (32 - n % 32).toNat % 4294967296) = ((rotr x (n % 32).toNat : Nat) : Int) := by
  have h0 : 0 ≤ n % 32 := by omega
  have h1 : n % 32 < 32 := by omega
  obtain ⟨m, hm⟩ := Int.eq_ofNat_of_zero_le h0
  rw [hm] at h1 ⊢
  have e : (32 - (m : Int)).toNat = 32 - m := by omega
  rw [e, Int.toNat_natCast]
  have := or32 (x / 2 ^ m) (x * 2 ^ (32 - m) % 4294967296) (div_lt32 hx _) (Nat.mod_lt _ (by decide))
  simp only [Int.natCast_emod, Int.natCast_mul, Int.natCast_pow, Int.natCast_ediv, Int.cast_ofNat_Int] at this
  rw [this]
  rfl

theorem and31 (n : Int) : bits .and .u64 (IntKind.u64.wrap n) 31 = n % 32 := by
  rw [IntKind.wrap_u64]
  have h0 : 0 ≤ n % 18446744073709551616 := by omega
  obtain ⟨m, hm⟩ := Int.eq_ofNat_of_zero_le h0
  have h1 : n % 18446744073709551616 < 18446744073709551616 := by omega
  rw [hm] at h1 ⊢
  have := bits_and_u64_nat m 31 (by omega) (by decide)
  rw [show ((31 : Nat) : Int) = 31 from rfl] at this
  rw [this, show (31 : Nat) = 2 ^ 5 - 1 from rfl, Nat.and_two_pow_sub_one_eq_mod]
  omega

theorem ret_int {k : IntKind} {a b : Int} (h : a = b) : Ending.returned (.int k a) = .returned (.int k b) := by rw [h]

/-- How many bytes are told where n are asked for. -/
def toldN (n : Int) : Nat := min n.toNat 64
theorem toldN_le (n : Int) : toldN n ≤ 64 := by unfold toldN; omega

theorem bit_hi {x : Nat} (h : x < 4294967296) {i : Nat} (hi : 32 ≤ i) : x.testBit i = false :=
  Nat.testBit_lt_two_pow (Nat.lt_of_lt_of_le h (Nat.pow_le_pow_right (n := 2) (i := 32) (by decide) hi))

theorem bit_rotl {x : Nat} (h : x < 4294967296) {k : Nat} (hk : k < 32) (i : Nat) : (rotl x k).testBit i = (decide (i < 32) && x.testBit ((i + 32 - k) % 32)) := by
  unfold rotl
  rw [Nat.testBit_or, show (4294967296 : Nat) = 2 ^ 32 from rfl, Nat.testBit_mod_two_pow, Nat.testBit_mul_two_pow, Nat.testBit_div_two_pow]
  by_cases hi : i < 32
  · simp only [hi, decide_true, Bool.true_and]
    by_cases hki : k ≤ i
    · rw [show (i + 32 - k) % 32 = i - k from by omega]
      have : x.testBit (i + (32 - k)) = false := bit_hi h (by omega)
      simp [this, hki]
    · rw [show (i + 32 - k) % 32 = i + (32 - k) from by omega]
      simp [hki]
  · have : x.testBit (i + (32 - k)) = false := bit_hi h (by omega)
    simp [hi, this]

theorem bit_rotr {x : Nat} (h : x < 4294967296) {k : Nat} (hk : k < 32) (i : Nat) : (rotr x k).testBit i = (decide (i < 32) && x.testBit ((i + k) % 32)) := by
  unfold rotr
  rw [Nat.testBit_or, show (4294967296 : Nat) = 2 ^ 32 from rfl, Nat.testBit_mod_two_pow, Nat.testBit_mul_two_pow, Nat.testBit_div_two_pow]
  by_cases hi : i < 32
  · simp only [hi, decide_true, Bool.true_and]
    by_cases hki : i + k < 32
    · rw [show (i + k) % 32 = i + k from by omega]
      simp; intro h; omega
    · rw [show (i + k) % 32 = i - (32 - k) from by omega]
      have : x.testBit (i + k) = false := bit_hi h (by omega)
      simp [this]; intro _; omega
  · have : x.testBit (i + k) = false := bit_hi h (by omega)
    simp [hi, this]

theorem rotl_rotl {x : Nat} (h : x < 4294967296) {j k : Nat} (hj : j < 32) (hk : k < 32) : rotl (rotl x j) k = rotl x ((j + k) % 32) := by
  apply Nat.eq_of_testBit_eq
  intro i
  rw [bit_rotl (rotl_lt h j) hk, bit_rotl h hj, bit_rotl h (Nat.mod_lt _ (by decide))]
  by_cases hi : i < 32
  · simp only [hi, decide_true, Bool.true_and]
    rw [show decide ((i + 32 - k) % 32 < 32) = true from by simp; omega, Bool.true_and]
    congr 1; omega
  · simp [hi]
theorem rotl_zero {x : Nat} (h : x < 4294967296) : rotl x 0 = x := by
  apply Nat.eq_of_testBit_eq
  intro i
  rw [bit_rotl h (by decide)]
  by_cases hi : i < 32
  · rw [show (i + 32 - 0) % 32 = i from by omega]; simp [hi]
  · simp [hi, bit_hi h (show 32 ≤ i by omega)]
theorem rotr_eq {x : Nat} (h : x < 4294967296) {k : Nat} (hk : k < 32) : rotr x k = rotl x ((32 - k) % 32) := by
  apply Nat.eq_of_testBit_eq
  intro i
  rw [bit_rotr h hk, bit_rotl h (Nat.mod_lt _ (by decide))]
  by_cases hi : i < 32
  · simp only [hi, decide_true, Bool.true_and]
    congr 1; omega
  · simp [hi]
theorem rotr_rotl {x : Nat} (h : x < 4294967296) {k : Nat} (hk : k < 32) : rotr (rotl x k) k = x := by
  rw [rotr_eq (rotl_lt h k) hk, rotl_rotl h hk (Nat.mod_lt _ (by decide))]
  rw [show (k + (32 - k) % 32) % 32 = 0 from by omega, rotl_zero h]
/-- One turn, as the document's own answer makes it. -/
theorem rotl_one {x : Nat} (h : x < 4294967296) : rotl x 1 = (x * 2 % 4294967296 + x / 2147483648) % 4294967296 := by
  unfold rotl
  have e : x * 2 ^ 1 % 4294967296 = 2 * (x % 2147483648) := by omega
  have hb : x / 2 ^ (32 - 1) < 2 ^ 1 := by show x / 2147483648 < 2; omega
  rw [e]
  have := Nat.two_pow_add_eq_or_of_lt hb (x % 2147483648)
  rw [show 2 ^ 1 * (x % 2147483648) = 2 * (x % 2147483648) from rfl] at this
  rw [← this]
  show _ + x / 2147483648 = _
  omega


def numLow : List UInt8 → Nat
  | [] => 0
  | b :: l => b.toNat + 256 * numLow l
def numHigh (l : List UInt8) : Nat := l.foldl (fun x b => x * 256 + b.toNat) 0

theorem numLow_append (l m : List UInt8) : numLow (l ++ m) = numLow l + 256 ^ l.length * numLow m := by
  induction l with
  | nil => simp [numLow]
  | cons b l ih =>
    simp only [List.cons_append, numLow, ih, List.length_cons, Nat.pow_succ, Nat.mul_add, Nat.add_assoc]
    rw [Nat.mul_comm (256 ^ l.length) 256, Nat.mul_assoc]
theorem numLow_lt (l : List UInt8) : numLow l < 256 ^ l.length := by
  induction l with
  | nil => simp [numLow]
  | cons b l ih =>
    have := b.toNat_lt
    simp only [numLow, List.length_cons, Nat.pow_succ]
    omega
theorem numHigh_snoc (l : List UInt8) (b : UInt8) : numHigh (l ++ [b]) = numHigh l * 256 + b.toNat := by simp [numHigh]
theorem numHigh_reverse (l : List UInt8) : numHigh l.reverse = numLow l := by
  induction l with
  | nil => rfl
  | cons b l ih => rw [List.reverse_cons, numHigh_snoc, ih, numLow]; omega
theorem numHigh_lt (l : List UInt8) : numHigh l < 256 ^ l.length := by
  have := numLow_lt l.reverse
  rw [← numHigh_reverse, List.reverse_reverse, List.length_reverse] at this
  exact this

theorem take_snoc (s : ByteArray) (k : Nat) (h : k < s.size) : s.data.toList.take (k + 1) = s.data.toList.take k ++ [s[k]] := by
  rw [List.take_succ_eq_append_getElem (by simpa using h)]; rfl
theorem take_len (s : ByteArray) (k : Nat) (h : k ≤ s.size) : (s.data.toList.take k).length = k := by
  rw [List.length_take]; have : s.data.toList.length = s.size := by simp
  omega
theorem take_all (s : ByteArray) : s.data.toList.take s.size = s.data.toList := List.take_of_length_le (by simp)

theorem p256 (k : Nat) : 256 ^ k = 2 ^ (8 * k) := by rw [Nat.pow_mul]
theorem p256_le {k m : Nat} (h : k ≤ m) : 256 ^ k ≤ 256 ^ m := Nat.pow_le_pow_right (by decide) h

theorem or64 (a b : Nat) (ha : a < 18446744073709551616) (hb : b < 18446744073709551616) : bits .or .u64 (a : Int) (b : Int) = ((a ||| b : Nat) : Int) := bits_or_u64_nat a b ha hb

theorem low_step (s : ByteArray) (k : Nat) (hk : k < s.size) (h8 : s.size ≤ 8) :
    bits .or .u64 ((numLow (s.data.toList.take k) : Nat) : Int) ((s[k].toNat : Int) * 2 ^ (8 * (k : Int)).toNat % 18446744073709551616) = ((numLow (s.data.toList.take (k + 1)) : Nat) : Int) := by
  have hlen := take_len s k (by omega)
  have hlt := numLow_lt (s.data.toList.take k)
  rw [hlen] at hlt
  have hb := s[k].toNat_lt
  have e : (8 * (k : Int)).toNat = 8 * k := by omega
  have hp : 256 ^ (k + 1) ≤ 18446744073709551616 := p256_le (m := 8) (by omega)
  rw [Nat.pow_succ] at hp
  have hprod : s[k].toNat * 256 ^ k < 18446744073709551616 := by
    have : s[k].toNat * 256 ^ k ≤ 255 * 256 ^ k := Nat.mul_le_mul_right _ (by omega)
    have : 0 < 256 ^ k := Nat.pow_pos (by decide)
    omega
  rw [e]
  have h := or64 (numLow (s.data.toList.take k)) (s[k].toNat * 2 ^ (8 * k) % 18446744073709551616) (by omega) (Nat.mod_lt _ (by decide))
  simp only [Int.natCast_emod, Int.natCast_mul, Int.natCast_pow, Int.cast_ofNat_Int] at h
  rw [h, ← p256, Nat.mod_eq_of_lt hprod, take_snoc s k hk, numLow_append, hlen]
  simp only [numLow, Nat.mul_zero, Nat.add_zero]
  rw [Nat.or_comm, Nat.mul_comm, p256]
  rw [p256] at hlt
  rw [← Nat.two_pow_add_eq_or_of_lt hlt, Nat.add_comm]

theorem high_step (s : ByteArray) (k : Nat) (hk : k < s.size) (h8 : s.size ≤ 8) :
    bits .or .u64 (((numHigh (s.data.toList.take k) : Nat) : Int) * 256 % 18446744073709551616) (s[k].toNat : Int) = ((numHigh (s.data.toList.take (k + 1)) : Nat) : Int) := by
  have hlen := take_len s k (by omega)
  have hlt := numHigh_lt (s.data.toList.take k)
  rw [hlen] at hlt
  have hb := s[k].toNat_lt
  have hp : 256 ^ (k + 1) ≤ 18446744073709551616 := p256_le (m := 8) (by omega)
  rw [Nat.pow_succ] at hp
  have h := or64 (numHigh (s.data.toList.take k) * 256 % 18446744073709551616) s[k].toNat (Nat.mod_lt _ (by decide)) (by omega)
  simp only [Int.natCast_emod, Int.natCast_mul, Int.cast_ofNat_Int] at h
  rw [h, Nat.mod_eq_of_lt (by omega), take_snoc s k hk, numHigh_snoc]
  have := Nat.two_pow_add_eq_or_of_lt (i := 8) hb (numHigh (s.data.toList.take k))
  rw [Nat.mul_comm] at this
  exact congrArg _ this.symm

theorem wrap64_byte (b : UInt8) : IntKind.u64.wrap (b.toNat : Int) = (b.toNat : Int) := by
  have := b.toNat_lt
  rw [IntKind.wrap_u64]; omega
theorem low_step' (s : ByteArray) (k : Nat) (hk : k < s.size) (h8 : s.size ≤ 8) :
    bits .or .u64 ((numLow (s.data.toList.take k) : Nat) : Int) (IntKind.u64.wrap (IntKind.u64.wrap (s[k].toNat : Int) * 2 ^ (8 * k))) = ((numLow (s.data.toList.take (k + 1)) : Nat) : Int) := by
  have := low_step s k hk h8
  rw [show (8 * (k : Int)).toNat = 8 * k from by omega] at this
  rw [wrap64_byte, IntKind.wrap_u64, this]
theorem high_step' (s : ByteArray) (k : Nat) (hk : k < s.size) (h8 : s.size ≤ 8) :
    bits .or .u64 (IntKind.u64.wrap (((numHigh (s.data.toList.take k) : Nat) : Int) * 256)) (IntKind.u64.wrap (s[k].toNat : Int)) = ((numHigh (s.data.toList.take (k + 1)) : Nat) : Int) := by
  rw [wrap64_byte, IntKind.wrap_u64, high_step s k hk h8]

/-- What FromLow and FromHigh answer of n bytes: the number where they fit; and which error. -/
def fitNum (n x : Nat) : Nat := if n ≤ 8 then x else 0
def fitErr (n : Nat) : Int := if n ≤ 8 then 0 else 5

theorem ret_pair {k k2 : IntKind} {a b c d : Int} (h : a = b) (h2 : c = d) : Ending.returned (.tuple #[.int k a, .int k2 c]) = .returned (.tuple #[.int k b, .int k2 d]) := by rw [h, h2]

theorem Try.infoU8 : (Try.prog.info? 5).map (fun i => (i.zero, i.size, i.bytes)) = some (some (.int .u8 0), 1, 1) := by kernel_rfl

/-- Bytes as the cells of a block. -/
def u8s (l : List UInt8) : List Value := l.map fun b => .int .u8 (b.toNat : Int)
theorem u8s_len (l : List UInt8) : (u8s l).length = l.length := by simp [u8s]
theorem u8s_get (l : List UInt8) (i : Nat) (h : i < l.length) : (u8s l)[i]? = some (.int .u8 (l[i].toNat : Int)) := by simp [u8s, h]
theorem u8s_set (l : List UInt8) (i : Nat) (b : UInt8) : (u8s l).set i (.int .u8 (b.toNat : Int)) = u8s (l.set i b) := by
  simp [u8s, List.map_set]
theorem u8s_append (l m : List UInt8) : u8s (l ++ m) = u8s l ++ u8s m := by simp [u8s]
theorem u8s_zeros (n : Nat) : (madeCells #[Value.int .u8 0] n).toList = u8s (List.replicate n 0) := by
  rw [toList_madeCells_one]
  simp [u8s]

theorem fold_bytes (l : List UInt8) (acc : ByteArray) :
    (l.map fun b => ((b.toNat : Nat) : Int)).foldl (fun (r : ByteArray) n => r.push (UInt8.ofNat n.toNat)) acc = ⟨acc.data ++ l.toArray⟩ := by
  induction l generalizing acc with
  | nil => simp
  | cons b l ih =>
    rw [List.map_cons, List.foldl_cons, ih]
    simp [ByteArray.push]

theorem conv_cells (w : World) (a : Addr) (l : List UInt8) (cap : Nat) (h : ∀ j v, (u8s l)[j]? = some v → w.cell? (a.add j) = some v) :
    (convert 34 9 (.slice (some a) l.length cap)).run Try.prog w = .ok (.string ⟨l.toArray⟩) w := by
  rw [run_convert_bytes_string w _ _ 5 _ _ _ Try.underlying34 Try.underlying5 Try.underlying9]
  have h2 := run_loadCells_list (P := Try.prog) (w := w) a (u8s l) h
  rw [u8s_len] at h2
  rw [run_bytesToString w a l.length cap (l.map fun b => ((b.toNat : Nat) : Int)) (by rw [h2]; simp [u8s]), fold_bytes]
  simp

theorem conv_own {w : World} {base g n cap : Nat} {l : List UInt8} (h : w.ownsRow base 5 1 (.slice (some ⟨g, 0, none⟩) n cap) n (u8s l)) :
    (convert 34 9 (.slice (some ⟨g, 0, none⟩) n cap)).run Try.prog w = .ok (.string ⟨l.toArray⟩) w := by
  have hn : l.length = n := by have := h.1; rw [u8s_len] at this; omega
  subst hn
  refine conv_cells w _ l cap fun j v hv => ?_
  have hj : j < l.length := by
    have := (List.getElem?_eq_some_iff.1 hv).1
    rw [u8s_len] at this; exact this
  rw [← hv, ← h.cellAt j (by omega)]
  rcases j with _ | j <;> simp [Addr.add]

/-- A byte is stored into a row of the call's own. -/
theorem row_step {w : World} {base g n cap : Nat} {l l' : List UInt8} (h : w.ownsRow base 5 1 (.slice (some ⟨g, 0, none⟩) n cap) n (u8s l)) {k : Nat} {b : UInt8} {v : Int}
    (_ : l.length = n) (_ : k < n) (hl : l.set k b = l') (hv : v = (b.toNat : Int)) :
    (w.setCell ⟨g, k, none⟩ (.int .u8 v)).ownsRow base 5 1 (.slice (some ⟨g, 0, none⟩) n cap) n (u8s l') := by
  subst hl hv
  rw [← u8s_set]
  exact (h.stored k _).1

/-- The slice value v owns these bytes, in a row of the call's own (blocks from base on); nil owns none. -/
def Ob (w : World) (base : Nat) (v : Value) (l : List UInt8) : Prop := w.ownsRow base 5 1 v l.length (u8s l)

theorem Ob.start (w : World) (base : Nat) (h : base ≤ w.heap.size) : Ob (w.alloc (.cells #[] 5)) base (.slice (some ⟨w.heap.size, 0, none⟩) 0 0) [] :=
  World.ownsRow_lit w #[] 0 h (by unfold maxLen; omega) rfl
theorem Ob.none (w : World) (base : Nat) : Ob w base (.slice none 0 0) [] := World.ownsRow_nil _ _ _ _
theorem Ob.alloc {w : World} {base : Nat} {v : Value} {l : List UInt8} (h : Ob w base v l) (o : Obj) : Ob (w.alloc o) base v l := World.ownsRow.alloc h o
theorem Ob.drew {w : World} {base : Nat} {v : Value} {l : List UInt8} (h : Ob w base v l) : Ob w.drew base v l := h
theorem Ob.drewN {w : World} {base : Nat} {v : Value} {l : List UInt8} (h : Ob w base v l) (n : Nat) : Ob (w.drewN n) base v l := h

/-- The walk's law for 'append(out, b)', out a row of the call's own. -/
theorem wpList_push (wr : World) {ops : Array Oper} {rest : List Oper} {o : Oper} {a : Act} {Q : Exit → Act → World → Prop} {bv : Int}
    (hgd : o.guard = none) (s x : Operand) (ho : o.op = .call { callee := .builtin .append, args := #[s, x], argTypes := #[34, 34] })
    (base : Nat) (v : Value) (l : List UInt8) (hs : a.eval s = v) (hx : a.eval x = .slice (some ⟨wr.heap.size, 0, none⟩) 1 1) (hown : Ob wr base v l) (b : UInt8) (hb : bv = (b.toNat : Int))
    (hlen : l.length ≤ 1099511627776) (hbase : base ≤ wr.heap.size)
    (h : ∀ v' w', Ob w' base v' (l ++ [b]) → Below base wr w' → wpList Try.prog ops Q rest (a.put o.dst v') w') :
    wpList Try.prog ops Q (o :: rest) a (wr.alloc (.cells #[.int .u8 bv] 5)) := by
  subst hb
  obtain ⟨i0, hi, hz0, hz1, hz2⟩ := info_parts Try.infoU8
  have hsz : (wr.alloc (.cells #[.int .u8 (b.toNat : Int)] 5)).heap.size = wr.heap.size + 1 := by show (wr.heap.push _).size = _; simp
  refine wpList_append_own _ hgd s x 34 ho base 5 i0 (.int .u8 0) 1 1 Try.underlying34 hi hz0 hz1 hz2 rfl (by decide) v l.length (u8s l) hs (World.ownsRow.alloc hown _) ⟨wr.heap.size, 0, none⟩ 1 1 [.int .u8 (b.toNat : Int)] hx rfl ?_ ?_ (by unfold maxLen; omega) (by omega) (by omega) ?_
  · intro j u hj
    match j, hj with
    | 0, hj => simp at hj; subst hj; simp [Addr.add]
  · intro u hu; simp at hu; subst hu; rfl
  · intro v' w' h1 h2 _
    refine h v' w' ?_ ?_
    · have e : u8s (l ++ [b]) = u8s l ++ [.int .u8 (b.toNat : Int)] := by simp [u8s]
      unfold Ob
      rw [e, List.length_append]; exact h1
    · refine Below.grown ((Below.refl _ _).alloc hbase _) h2 (by omega) ?_
      intro k hk
      rcases hown.2 with ⟨rfl, _⟩ | ⟨g, cap, cur, rfl, hb, _⟩
      · simp [Value.ownBlock] at hk
      · simp [Value.ownBlock] at hk; omega

theorem conv_Ob {w : World} {base : Nat} {v : Value} {l : List UInt8} (h : Ob w base v l) :
    (convert 34 9 v).run Try.prog w = .ok (.string ⟨l.toArray⟩) w := by
  have h' := h
  rcases h.2 with ⟨rfl, h0⟩ | ⟨g, cap, cur, rfl, _⟩
  · have : l = [] := List.eq_nil_of_length_eq_zero h0
    subst this
    rw [run_convert_bytes_string w _ _ 5 _ _ _ Try.underlying34 Try.underlying5 Try.underlying9]
    rfl
  · exact conv_own h'

/-- The walk's law for 'string(out)', out a row of the call's own. -/
theorem wpList_ob_string (w : World) {ops : Array Oper} {rest : List Oper} {o : Oper} {a : Act} {Q : Exit → Act → World → Prop}
    (hg : o.guard = none) (x : Operand) (hop : o.op = Op.convert 34 9 x) {base : Nat} {v : Value} {l : List UInt8} (h : Ob w base v l) (hx : a.eval x = v)
    (hK : wpList Try.prog ops Q rest (a.put o.dst (.string ⟨l.toArray⟩)) w) :
    wpList Try.prog ops Q (o :: rest) a w := by
  refine wpList_plain hg fun K hK' => ?_
  have hrun := conv_Ob h
  unfold Oper.wp
  simp [execOp, hop, hx, hrun, Result.andThen]
  exact hK' _ _ hK
theorem Below_next {a b c : World} (h : Below a.heap.size a b) (k : Below b.heap.size b c) : Below a.heap.size a c := h.trans (k.mono h.size)
theorem Below_drewN {B : Nat} {a w : World} (h : Below B a w) (n : Nat) : Below B a (w.drewN n) := ⟨h.os, h.tape, h.output, h.size, h.block⟩


/-- A number's byte at place i from the low end. -/
def byteAt (x i : Nat) : UInt8 := UInt8.ofNat (x / 2 ^ (8 * i))
def lowL (x n : Nat) : List UInt8 := (List.range n).map (byteAt x)
theorem lowL_len (x n : Nat) : (lowL x n).length = n := by simp [lowL]
theorem lowL_succ (x k : Nat) : lowL x (k + 1) = lowL x k ++ [byteAt x k] := by simp [lowL, List.range_succ]

/-- What the row holds behind k rounds: k bytes, and zeros. -/
def lowRow (x k n : Nat) : List UInt8 := lowL x k ++ List.replicate (n - k) 0
theorem lowRow_zero (x n : Nat) : lowRow x 0 n = List.replicate n 0 := by simp [lowRow, lowL]
theorem lowRow_full (x n : Nat) : lowRow x n n = lowL x n := by simp [lowRow]
theorem lowRow_len (x k n : Nat) (h : k ≤ n) : (lowRow x k n).length = n := by simp [lowRow, lowL_len]; omega
theorem lowRow_set (x k n : Nat) (h : k < n) : (lowRow x k n).set k (byteAt x k) = lowRow x (k + 1) n := by
  unfold lowRow
  rw [List.set_append_right _ _ (by rw [lowL_len]; exact Nat.le_refl _), lowL_len, Nat.sub_self, lowL_succ]
  obtain ⟨m, hm⟩ : ∃ m, n - k = m + 1 := ⟨n - k - 1, by omega⟩
  rw [hm, show n - (k + 1) = m from by omega, List.replicate_succ]
  simp

theorem byte_num (x k : Nat) : IntKind.u8.wrap ((x : Int) / 2 ^ (8 * k)) = ((byteAt x k).toNat : Int) := by
  rw [IntKind.wrap_u8]
  unfold byteAt
  rw [UInt8.toNat_ofNat']
  have h : ((x : Int) / 2 ^ (8 * k)) = ((x / 2 ^ (8 * k) : Nat) : Int) := by
    rw [Int.natCast_ediv, Int.natCast_pow]; rfl
  rw [h]
  rfl

theorem byte_num' (x k : Nat) : ((x : Int) / 2 ^ (8 * k)) % 256 = ((byteAt x k).toNat : Int) := by rw [← byte_num, IntKind.wrap_u8]
theorem byte_num2 (x k : Nat) (hx : x < 18446744073709551616) (hk : 64 ≤ 8 * k) : ((x : Int) / 2 ^ min (8 * k) 64) % 256 = ((byteAt x k).toNat : Int) := by
  have h : (18446744073709551616 : Nat) ≤ 2 ^ (8 * k) := Nat.pow_le_pow_right (n := 2) (i := 64) (by decide) hk
  rw [Nat.min_eq_right hk, byteAt, Nat.div_eq_of_lt (Nat.lt_of_lt_of_le hx h)]
  have : (x : Int) / 2 ^ 64 = 0 := Int.ediv_eq_zero_of_lt (by omega) (by omega)
  rw [this]
  rfl

/-- The same from the high end. -/
def highRow (x k n : Nat) : List UInt8 := List.replicate (n - k) 0 ++ (lowL x k).reverse
theorem highRow_zero (x n : Nat) : highRow x 0 n = List.replicate n 0 := by simp [highRow, lowL]
theorem highRow_full (x n : Nat) : highRow x n n = (lowL x n).reverse := by simp [highRow]
theorem highRow_len (x k n : Nat) (h : k ≤ n) : (highRow x k n).length = n := by simp [highRow, lowL_len]; omega
theorem highRow_set (x k n : Nat) (h : k < n) : (highRow x k n).set (n - 1 - k) (byteAt x k) = highRow x (k + 1) n := by
  unfold highRow
  obtain ⟨m, hm⟩ : ∃ m, n - k = m + 1 := ⟨n - k - 1, by omega⟩
  rw [hm, show n - 1 - k = m from by omega, show n - (k + 1) = m from by omega, List.replicate_succ', List.append_assoc, List.set_append_right _ _ (by simp), lowL_succ]
  simp

def xorL (a b : List UInt8) : List UInt8 := List.zipWith (· ^^^ ·) a b
def xorRow (s t : ByteArray) (k n : Nat) : List UInt8 := xorL (s.data.toList.take k) (t.data.toList.take k) ++ List.replicate (n - k) 0
theorem xorRow_zero (s t : ByteArray) (n : Nat) : xorRow s t 0 n = List.replicate n 0 := by simp [xorRow, xorL]
theorem xorRow_full (s t : ByteArray) (h : t.size = s.size) : xorRow s t s.size s.size = xorL s.data.toList t.data.toList := by
  unfold xorRow
  rw [take_all, ← h, take_all]; simp
theorem xorL_len (a b : List UInt8) (h : a.length = b.length) : (xorL a b).length = a.length := by simp [xorL, h]
theorem xorRow_len (s t : ByteArray) (h : t.size = s.size) (k : Nat) (hk : k ≤ s.size) : (xorRow s t k s.size).length = s.size := by
  unfold xorRow
  rw [List.length_append, xorL_len _ _ (by rw [take_len s k hk, take_len t k (by omega)]), take_len s k hk, List.length_replicate]; omega
theorem xorRow_set (s t : ByteArray) (h : t.size = s.size) (k : Nat) (hs : k < s.size) (ht : k < t.size) : (xorRow s t k s.size).set k (s[k] ^^^ t[k]) = xorRow s t (k + 1) s.size := by
  unfold xorRow
  have hl : (xorL (s.data.toList.take k) (t.data.toList.take k)).length = k := by
    rw [xorL_len _ _ (by rw [take_len s k (by omega), take_len t k (by omega)]), take_len s k (by omega)]
  rw [List.set_append_right _ _ (by omega), hl, Nat.sub_self, take_snoc s k hs, take_snoc t k ht]
  obtain ⟨m, hm⟩ : ∃ m, s.size - k = m + 1 := ⟨s.size - k - 1, by omega⟩
  rw [hm, show s.size - (k + 1) = m from by omega, List.replicate_succ, xorL, xorL,
    List.zipWith_append (by rw [take_len s k (by omega), take_len t k (by omega)])]
  simp

theorem xor_num (a b : UInt8) : bits .xor .u8 (a.toNat : Int) (b.toNat : Int) = ((a ^^^ b).toNat : Int) := by
  rw [u8_xor_nat _ _ a.toNat_lt b.toNat_lt, UInt8.toNat_xor]

/-- What Xor answers: the bytes turned; and which error. -/
def xorB (s t : ByteArray) : ByteArray := if t.size = s.size then ⟨(xorL s.data.toList t.data.toList).toArray⟩ else ⟨#[]⟩
def xorE (s t : ByteArray) : Int := if t.size = s.size then 0 else 5
theorem ret_strnum {k : IntKind} {a b : ByteArray} {c d : Int} (h : a = b) (h2 : c = d) : Ending.returned (.tuple #[.string a, .int k c]) = .returned (.tuple #[.string b, .int k d]) := by rw [h, h2]

/-- How many bytes 0 are laid behind. -/
def fillMore (l n : Nat) : Nat := if l % n = 0 then 0 else n - l % n
def zeros (k : Nat) : ByteArray := ⟨Array.replicate k 0⟩
def fillI (s : ByteArray) (n : Int) : ByteArray := if n < 1 then s else s ++ zeros (fillMore s.size n.toNat)
theorem app_zeros0 (s : ByteArray) : s ++ zeros 0 = s := by
  apply ByteArray.ext; simp [zeros]


theorem zeros_size (k : Nat) : (zeros k).size = k := by simp [zeros, ByteArray.size]
theorem fillI_pos (s : ByteArray) (k : Nat) (h : 1 ≤ k) : fillI s k = s ++ zeros (fillMore s.size k) := by
  rw [fillI, if_neg (by omega), Int.toNat_natCast]
theorem fillI_size (s : ByteArray) (k : Nat) (h : 1 ≤ k) : (fillI s k).size = s.size + fillMore s.size k := by
  rw [fillI_pos s k h, ByteArray.size_append, zeros_size]
theorem fillMore_lt (l k : Nat) (h : 1 ≤ k) : fillMore l k < k := by
  unfold fillMore
  split
  · omega
  · have := Nat.mod_lt l (show k > 0 by omega); omega
theorem fillMore_mod (l k : Nat) (h : 1 ≤ k) : (l + fillMore l k) % k = 0 := by
  unfold fillMore
  have hlt := Nat.mod_lt l (show k > 0 by omega)
  split
  · simpa
  · rw [show l + (k - l % k) = l / k * k + k from by have := Nat.div_add_mod l k; rw [Nat.mul_comm] at this; omega]
    simp
theorem fillI_again (s : ByteArray) (k : Nat) (h : 1 ≤ k) : fillI (fillI s k) k = fillI s k := by
  rw [fillI_pos (fillI s k) k h, fillMore, if_pos, app_zeros0]
  rw [fillI_size s k h]; exact fillMore_mod _ _ h
theorem fillI_ahead (s : ByteArray) (k : Nat) (h : 1 ≤ k) : ((fillI s k).extract 0 s.size) = s := by
  rw [fillI_pos s k h]
  apply ByteArray.ext
  simp
theorem fillI_behind (s : ByteArray) (k : Nat) (h : 1 ≤ k) (i : Nat) (h1 : s.size ≤ i) (h2 : i < (fillI s k).size) : (fillI s k)[i] = 0 := by
  have : ∀ f : ByteArray, f = s ++ zeros (fillMore s.size k) → ∀ h : i < f.size, f[i] = 0 := by
    intro f hf h
    subst hf
    rw [ByteArray.getElem_append_right h1]
    simp [zeros, ByteArray.getElem_eq_getElem_data]
  exact this _ (fillI_pos s k h) h2

theorem wf_u8 {a : Int} (h : (Lit.int .u8 a).wf = true) : 0 ≤ a ∧ a ≤ 255 := by simpa [Lit.wf, IntKind.min, IntKind.max, IntKind.signed, IntKind.bits] using h


theorem lowB_get (x N k : Nat) (A : ByteArray) (hA : A = ⟨(lowL x N).toArray⟩) (h : k < A.size) : A[k] = byteAt x k := by
  subst hA
  rw [ByteArray.getElem_eq_getElem_data]
  simp [lowL]
theorem lowB_size (x N : Nat) (A : ByteArray) (hA : A = ⟨(lowL x N).toArray⟩) : A.size = N := by
  subst hA; show (lowL x N).toArray.size = N; simp [lowL_len]
theorem highB_size (x N : Nat) (B : ByteArray) (hB : B = ⟨(lowL x N).reverse.toArray⟩) : B.size = N := by
  subst hB; show (lowL x N).reverse.toArray.size = N; simp [lowL_len]
theorem highB_get (x N k : Nat) (B : ByteArray) (hB : B = ⟨(lowL x N).reverse.toArray⟩) (hk : k < N) (h : B.size - 1 - k < B.size) : B[B.size - 1 - k] = byteAt x k := by
  have hs := highB_size x N B hB
  have e : ∀ i, (hi : i < B.size) → i = N - 1 - k → B[i] = byteAt x k := by
    intro i hi e
    subst e
    subst hB
    rw [ByteArray.getElem_eq_getElem_data]
    simp [List.getElem_reverse, lowL]
    congr 1; omega
  exact e _ h (by omega)
theorem byteAt_zero (x k : Nat) (hx : x < 18446744073709551616) (hk : 8 ≤ k) : byteAt x k = 0 := by
  have h : (18446744073709551616 : Nat) ≤ 2 ^ (8 * k) := Nat.pow_le_pow_right (n := 2) (i := 64) (by decide) (by omega)
  rw [byteAt, Nat.div_eq_of_lt (Nat.lt_of_lt_of_le hx h)]; rfl


theorem u32_of (x : Nat) : (x : Int) % 4294967296 = ((x % 4294967296 : Nat) : Int) := by omega

theorem wf_u64 {a : Int} (h : (Lit.int .u64 a).wf = true) : 0 ≤ a ∧ a ≤ 18446744073709551615 := by simpa [Lit.wf, IntKind.min, IntKind.max, IntKind.signed, IntKind.bits] using h


theorem numLow_lowL (x n : Nat) : numLow (lowL x n) = x % 256 ^ n := by
  induction n with
  | zero => simp [lowL, numLow]; omega
  | succ n ih =>
    rw [lowL_succ, numLow_append, ih, lowL_len]
    simp only [numLow, Nat.mul_zero, Nat.add_zero, byteAt]
    rw [UInt8.toNat_ofNat', ← p256]
    have : x % 256 ^ (n + 1) = x % 256 ^ n + 256 ^ n * (x / 256 ^ n % 256) := by rw [Nat.pow_succ, Nat.mod_mul]
    exact this.symm

theorem lowL_back (x : Nat) (hx : x < 18446744073709551616) : numLow (lowL x 8) = x := by
  rw [numLow_lowL]; exact Nat.mod_eq_of_lt hx

theorem xorL_back : ∀ (a b : List UInt8), a.length = b.length → xorL (xorL a b) b = a
  | [], [], _ => rfl
  | a :: l, b :: m, h => by
    have := xorL_back l m (by simpa using h)
    unfold xorL at this ⊢
    simp only [List.zipWith_cons_cons, this]
    rw [UInt8.xor_assoc, UInt8.xor_self, UInt8.xor_zero]
theorem xorB_back (a b : ByteArray) (h : b.size = a.size) : (xorB a b).size = a.size ∧ xorB (xorB a b) b = a := by
  have hl : a.data.toList.length = b.data.toList.length := by simp [h]
  have hs : (xorB a b).size = a.size := by
    rw [xorB, if_pos h]
    show (xorL a.data.toList b.data.toList).toArray.size = _
    simp [xorL_len _ _ hl]
  refine ⟨hs, ?_⟩
  rw [xorB, if_pos (by omega)]
  apply ByteArray.ext
  rw [xorB, if_pos h]
  show (xorL (xorL a.data.toList b.data.toList) b.data.toList).toArray = _
  rw [xorL_back _ _ hl]

theorem wf_i64 {a : Int} (h : (Lit.int .i64 a).wf = true) : -9223372036854775808 ≤ a ∧ a ≤ 9223372036854775807 := by simpa [Lit.wf, IntKind.min, IntKind.max, IntKind.signed, IntKind.bits] using h

end Go.Proofs.Ytmpchbhimfjomaa
