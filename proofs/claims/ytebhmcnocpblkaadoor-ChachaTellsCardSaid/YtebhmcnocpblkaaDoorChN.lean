/- chacha: the plain functions. -/
import Derived.Test.YtebhmcnocpblkaaDoorArr
import Derived.KernelRfl
namespace Go.Proofs.YtebhmcnocpblkaaDoor
open Go.RowKit

/-- Four numbers. -/
structure Q4 where
  a : Nat
  b : Nat
  c : Nat
  d : Nat
def Q4.ok (q : Q4) : Prop := q.a < 4294967296 ∧ q.b < 4294967296 ∧ q.c < 4294967296 ∧ q.d < 4294967296
def Q4.cells (q : Q4) : Array Value := #[.int .u32 (q.a : Int), .int .u32 (q.b : Int), .int .u32 (q.c : Int), .int .u32 (q.d : Int)]
def half (q : Q4) (m n : Nat) : Q4 :=
  ⟨(q.a + q.b) % 4294967296, rotl (q.b ^^^ ((q.c + rotl (q.d ^^^ ((q.a + q.b) % 4294967296)) m) % 4294967296)) n, (q.c + rotl (q.d ^^^ ((q.a + q.b) % 4294967296)) m) % 4294967296, rotl (q.d ^^^ ((q.a + q.b) % 4294967296)) m⟩
def stirQ (q : Q4) : Q4 := half (half q 16 12) 8 7
theorem mod32_lt (x : Nat) : x % 4294967296 < 4294967296 := Nat.mod_lt _ (by decide)
theorem xor2_lt {x y : Nat} (hx : x < 4294967296) (hy : y < 4294967296) : x ^^^ y < 4294967296 := Nat.xor_lt_two_pow (n := 32) hx hy
theorem half_ok {q : Q4} (h : q.ok) (m n : Nat) : (half q m n).ok := by
  obtain ⟨ha, hb, hc, hd⟩ := h
  have h1 := rotl_lt (xor2_lt hd (mod32_lt (q.a + q.b))) m
  exact ⟨mod32_lt _, rotl_lt (xor2_lt hb (mod32_lt _)) n, mod32_lt _, h1⟩
theorem stirQ_ok {q : Q4} (h : q.ok) : (stirQ q).ok := half_ok (half_ok h _ _) _ _

/-- Sixteen numbers. -/
def All32 (x : List Nat) : Prop := x.length = 16 ∧ ∀ i, x.getD i 0 < 4294967296
def getQ (x : List Nat) (i j k l : Nat) : Q4 := ⟨x.getD i 0, x.getD j 0, x.getD k 0, x.getD l 0⟩
def putQ (x : List Nat) (q : Q4) (i j k l : Nat) : List Nat := (((x.set i q.a).set j q.b).set k q.c).set l q.d
def stirAt (x : List Nat) (i j k l : Nat) : List Nat := putQ x (stirQ (getQ x i j k l)) i j k l
theorem set_32 {x : List Nat} (h : All32 x) (i : Nat) {v : Nat} (hv : v < 4294967296) : All32 (x.set i v) := by
  refine ⟨by rw [List.length_set]; exact h.1, fun j => ?_⟩
  rw [List.getD_eq_getElem?_getD, List.getElem?_set]
  split
  · split
    · exact hv
    · decide
  · rw [← List.getD_eq_getElem?_getD]; exact h.2 j
theorem getQ_ok {x : List Nat} (h : All32 x) (i j k l : Nat) : (getQ x i j k l).ok := ⟨h.2 _, h.2 _, h.2 _, h.2 _⟩
theorem putQ_32 {x : List Nat} (h : All32 x) {q : Q4} (hq : q.ok) (i j k l : Nat) : All32 (putQ x q i j k l) := set_32 (set_32 (set_32 (set_32 h i hq.1) j hq.2.1) k hq.2.2.1) l hq.2.2.2
theorem stirAt_32 {x : List Nat} (h : All32 x) (i j k l : Nat) : All32 (stirAt x i j k l) := putQ_32 h (stirQ_ok (getQ_ok h _ _ _ _)) _ _ _ _
def plL : List Nat := [0, 4, 8, 12, 1, 5, 9, 13, 2, 6, 10, 14, 3, 7, 11, 15, 0, 5, 10, 15, 1, 6, 11, 12, 2, 7, 8, 13, 3, 4, 9, 14]
def plN (k : Nat) : Nat := plL.getD k 0
theorem plL_len : plL.length = 32 := rfl
theorem plN_lt (k : Nat) : plN k < 16 := by
  unfold plN
  by_cases h : k < plL.length
  · rw [List.getD_eq_getElem?_getD, List.getElem?_eq_getElem h]
    exact (show ∀ x ∈ plL, x < 16 by decide) _ (List.getElem_mem h)
  · rw [List.getD_eq_getElem?_getD, List.getElem?_eq_none (by omega)]; decide
def st8 (x : List Nat) : Nat → List Nat
  | 0 => x
  | k + 1 => stirAt (st8 x k) (plN (4 * k)) (plN (4 * k + 1)) (plN (4 * k + 2)) (plN (4 * k + 3))
def rdN (x : List Nat) : Nat → List Nat
  | 0 => x
  | k + 1 => st8 (rdN x k) 8
theorem st8_32 {x : List Nat} (h : All32 x) (k : Nat) : All32 (st8 x k) := by
  induction k with
  | zero => exact h
  | succ k ih => exact stirAt_32 ih _ _ _ _
theorem rdN_32 {x : List Nat} (h : All32 x) (k : Nat) : All32 (rdN x k) := by
  induction k with
  | zero => exact h
  | succ k ih => exact st8_32 ih 8

/-- Sums, number by number; k of them. -/
def sumL (x f : List Nat) : List Nat := List.zipWith (fun a b => (a + b) % 4294967296) x f
def sumK (x f : List Nat) (k : Nat) : List Nat := sumL (x.take k) (f.take k) ++ x.drop k
theorem sumK_zero (x f : List Nat) : sumK x f 0 = x := by simp [sumK, sumL]
theorem sumK_full {x f : List Nat} (hx : x.length = 16) (hf : f.length = 16) : sumK x f 16 = sumL x f := by
  rw [sumK, List.take_of_length_le (by omega), List.take_of_length_le (by omega), List.drop_of_length_le (by omega), List.append_nil]
theorem sumL_len {x f : List Nat} (h : x.length = f.length) : (sumL x f).length = x.length := by simp [sumL, h]
theorem sumK_head {x f : List Nat} (hx : x.length = 16) (hf : f.length = 16) {k : Nat} (hk : k ≤ 16) : (sumL (x.take k) (f.take k)).length = k := by
  rw [sumL_len (by rw [List.length_take, List.length_take]; omega), List.length_take]; omega
theorem sumK_len {x f : List Nat} (hx : x.length = 16) (hf : f.length = 16) {k : Nat} (hk : k ≤ 16) : (sumK x f k).length = 16 := by
  rw [sumK, List.length_append, sumK_head hx hf hk, List.length_drop]; omega
theorem sumK_at {x f : List Nat} (hx : x.length = 16) (hf : f.length = 16) {k : Nat} (hk : k < 16) : (sumK x f k)[k]? = some (x.getD k 0) := by
  rw [sumK, List.getElem?_append_right (by rw [sumK_head hx hf (by omega)]; exact Nat.le_refl _), sumK_head hx hf (by omega), Nat.sub_self, List.getElem?_drop, Nat.add_zero, List.getD_eq_getElem?_getD, List.getElem?_eq_getElem (by omega)]; rfl
theorem sumK_set {x f : List Nat} (hx : x.length = 16) (hf : f.length = 16) {k : Nat} (hk : k < 16) : (sumK x f k).set k ((x.getD k 0 + f.getD k 0) % 4294967296) = sumK x f (k + 1) := by
  have hkx : k < x.length := by omega
  have hkf : k < f.length := by omega
  rw [sumK, sumK, List.set_append_right _ _ (by rw [sumK_head hx hf (by omega)]; exact Nat.le_refl _), sumK_head hx hf (by omega), Nat.sub_self, List.drop_eq_getElem_cons hkx, List.set_cons_zero,
    List.take_succ_eq_append_getElem hkx, List.take_succ_eq_append_getElem hkf, sumL, sumL, List.zipWith_append (by rw [List.length_take, List.length_take]; omega), List.append_assoc]
  simp [List.getD_eq_getElem?_getD, List.getElem?_eq_getElem hkx, List.getElem?_eq_getElem hkf]
theorem sumL_32 {x f : List Nat} (hx : x.length = 16) (hf : f.length = 16) : All32 (sumL x f) := by
  refine ⟨by rw [sumL_len (by omega)]; exact hx, fun i => ?_⟩
  rw [List.getD_eq_getElem?_getD, sumL, List.getElem?_zipWith]
  cases x[i]? <;> cases f[i]? <;> simp <;> omega
def endL (f : List Nat) : List Nat := sumL (rdN f 10) f
theorem endL_32 {f : List Nat} (h : All32 f) : All32 (endL f) := sumL_32 (rdN_32 h 10).1 h.1

/-- Numbers as bytes. -/
def toldL (x : List Nat) : List UInt8 := x.flatMap fun n => lowL n 4
theorem toldL_len (x : List Nat) : (toldL x).length = 4 * x.length := by
  induction x with
  | nil => rfl
  | cons n x ih => rw [toldL, List.flatMap_cons, List.length_append, lowL_len, ← toldL, ih, List.length_cons]; omega
theorem toldL_snoc (x : List Nat) (n : Nat) : toldL (x ++ [n]) = toldL x ++ lowL n 4 := by simp [toldL]
theorem toldL_take (x : List Nat) (k : Nat) (h : k < x.length) : toldL (x.take (k + 1)) = toldL (x.take k) ++ lowL (x.getD k 0) 4 := by
  rw [List.take_succ_eq_append_getElem h, toldL_snoc, List.getD_eq_getElem?_getD, List.getElem?_eq_getElem h]; rfl

/-- Bytes as numbers. -/
def num4 (b : List UInt8) (i : Nat) : Nat := numLow ((b.drop (4 * i)).take 4)
def numsL (b : List UInt8) (n : Nat) : List Nat := (List.range n).map (num4 b)
theorem numsL_len (b : List UInt8) (n : Nat) : (numsL b n).length = n := by simp [numsL]
theorem numsL_succ (b : List UInt8) (n : Nat) : numsL b (n + 1) = numsL b n ++ [num4 b n] := by simp [numsL, List.range_succ]
theorem num4_lt (b : List UInt8) (i : Nat) : num4 b i < 4294967296 := by
  have h := numLow_lt ((b.drop (4 * i)).take 4)
  have hl : ((b.drop (4 * i)).take 4).length ≤ 4 := List.length_take_le _ _
  exact Nat.lt_of_lt_of_le h (Nat.pow_le_pow_right (n := 256) (j := 4) (by decide) hl)
theorem numsL_get (b : List UInt8) (n i : Nat) (h : i < n) : (numsL b n)[i]? = some (num4 b i) := by simp [numsL, h]
theorem numsL_32 (b : List UInt8) : All32 (numsL b 16) := by
  refine ⟨numsL_len _ _, fun i => ?_⟩
  rw [List.getD_eq_getElem?_getD]
  by_cases h : i < 16
  · rw [numsL_get b 16 i h]; exact num4_lt _ _
  · rw [List.getElem?_eq_none (by rw [numsL_len]; omega)]; decide

def headB : List UInt8 := [101, 120, 112, 97, 110, 100, 32, 51, 50, 45, 98, 121, 116, 101, 32, 107]
def textL (key : List UInt8) (c : Nat) (nonce : List UInt8) : List UInt8 := headB ++ key ++ lowL c 4 ++ nonce
theorem textL_len (key : List UInt8) (c : Nat) (nonce : List UInt8) (hk : key.length = 32) (hn : nonce.length = 12) : (textL key c nonce).length = 64 := by
  simp only [textL, List.length_append, hk, hn, lowL_len]; rfl
def firstL (key : List UInt8) (c : Nat) (nonce : List UInt8) : List Nat := numsL (textL key c nonce) 16
def blockL (key : List UInt8) (c : Nat) (nonce : List UInt8) : List UInt8 := toldL (endL (firstL key c nonce))
theorem firstL_32 (key : List UInt8) (c : Nat) (nonce : List UInt8) : All32 (firstL key c nonce) := numsL_32 _
theorem blockL_len (key : List UInt8) (c : Nat) (nonce : List UInt8) : (blockL key c nonce).length = 64 := by
  rw [blockL, toldL_len, (endL_32 (firstL_32 _ _ _)).1]
theorem first_at (key : List UInt8) (c : Nat) (nonce : List UInt8) (hk : key.length = 32) (hc : c < 4294967296) : num4 (textL key c nonce) 12 = c := by
  have h48 : (headB ++ key).length = 48 := by rw [List.length_append, hk]; rfl
  rw [num4, textL, List.append_assoc, List.drop_left' h48, List.take_left' (lowL_len _ _), numLow_lowL]
  exact Nat.mod_eq_of_lt hc
theorem first_ahead (key : List UInt8) (c c' : Nat) (nonce : List UInt8) (hk : key.length = 32) (i : Nat) (hi : i < 12) : num4 (textL key c nonce) i = num4 (textL key c' nonce) i := by
  have h48 : (headB ++ key).length = 48 := by rw [List.length_append, hk]; rfl
  have e : ∀ l : List UInt8, ((headB ++ key ++ l).drop (4 * i)).take 4 = ((headB ++ key).drop (4 * i)).take 4 := fun l => by
    rw [List.drop_append_of_le_length (by omega), List.take_append_of_le_length (by rw [List.length_drop]; omega)]
  rw [num4, num4, textL, textL, List.append_assoc, e, List.append_assoc _ (lowL c' 4), e]
theorem first_behind (key : List UInt8) (c c' : Nat) (nonce : List UInt8) (hk : key.length = 32) (i : Nat) (hi : 12 < i) : num4 (textL key c nonce) i = num4 (textL key c' nonce) i := by
  have h48 : (headB ++ key).length = 48 := by rw [List.length_append, hk]; rfl
  have e : ∀ d : Nat, (headB ++ key ++ lowL d 4 ++ nonce).drop (4 * i) = nonce.drop (4 * i - 52) := fun d => by
    have h52 : (headB ++ key ++ lowL d 4).length = 52 := by rw [List.length_append, h48, lowL_len]
    rw [List.drop_append, List.drop_eq_nil_of_le (by omega), h52, List.nil_append]
  rw [num4, num4, textL, textL, e, e]
theorem first_set (key : List UInt8) (c c' : Nat) (nonce : List UInt8) (hk : key.length = 32) (hc : c' < 4294967296) : (firstL key c nonce).set 12 c' = firstL key c' nonce := by
  apply List.ext_getElem?
  intro i
  by_cases h : i < 16
  · by_cases h12 : 12 = i
    · subst h12
      rw [List.getElem?_set_self (by rw [firstL, numsL_len]; decide), firstL, numsL_get _ _ _ h, first_at key c' nonce hk hc]
    · rw [List.getElem?_set_ne h12, firstL, firstL, numsL_get _ _ _ h, numsL_get _ _ _ h]
      rcases Nat.lt_or_gt_of_ne h12 with h2 | h2
      · rw [first_behind key c c' nonce hk i h2]
      · rw [first_ahead key c c' nonce hk i h2]
  · rw [List.getElem?_eq_none (by rw [List.length_set, firstL, numsL_len]; omega), List.getElem?_eq_none (by rw [firstL, numsL_len]; omega)]

/-- The stream's first m blocks. -/
def stL (key : List UInt8) (c : Nat) (nonce : List UInt8) : Nat → List UInt8
  | 0 => []
  | m + 1 => stL key c nonce m ++ blockL key ((c + m) % 4294967296) nonce
theorem stL_len (key : List UInt8) (c : Nat) (nonce : List UInt8) (m : Nat) : (stL key c nonce m).length = 64 * m := by
  induction m with
  | zero => rfl
  | succ m ih => rw [stL, List.length_append, ih, blockL_len]; omega
theorem stL_add (key : List UInt8) (c : Nat) (nonce : List UInt8) (a b : Nat) : stL key c nonce (a + b) = stL key c nonce a ++ stL key ((c + a) % 4294967296) nonce b := by
  induction b with
  | zero => rw [Nat.add_zero, stL, List.append_nil]
  | succ b ih => rw [← Nat.add_assoc, stL, ih, stL, List.append_assoc, show (c + (a + b)) % 4294967296 = ((c + a) % 4294967296 + b) % 4294967296 by omega]
def strmL (key : List UInt8) (c : Nat) (nonce : List UInt8) (n : Nat) : List UInt8 := (stL key c nonce ((n + 63) / 64)).take n
theorem strmL_len (key : List UInt8) (c : Nat) (nonce : List UInt8) (n : Nat) : (strmL key c nonce n).length = n := by
  rw [strmL, List.length_take, stL_len]; omega
theorem strmL_of (key : List UInt8) (c : Nat) (nonce : List UInt8) (n m : Nat) (h : n ≤ 64 * m) : (stL key c nonce m).take n = strmL key c nonce n := by
  obtain ⟨j, rfl⟩ : ∃ j, m = (n + 63) / 64 + j := ⟨m - (n + 63) / 64, by omega⟩
  rw [stL_add, List.take_append_of_le_length (by rw [stL_len]; omega), strmL]
theorem strmL_take (key : List UInt8) (c : Nat) (nonce : List UInt8) (n k : Nat) (h : k ≤ n) : (strmL key c nonce n).take k = strmL key c nonce k := by
  rw [strmL, List.take_take, Nat.min_eq_left h, strmL_of key c nonce k _ (by omega)]
theorem strmL_drop (key : List UInt8) (c : Nat) (nonce : List UInt8) (b n : Nat) : (strmL key c nonce (64 * b + n)).drop (64 * b) = strmL key ((c + b) % 4294967296) nonce n := by
  rw [strmL, show (64 * b + n + 63) / 64 = b + (n + 63) / 64 by omega, stL_add, List.take_append, stL_len, List.take_of_length_le (by rw [stL_len]; omega), List.drop_left' (stL_len _ _ _ _), show 64 * b + n - 64 * b = n by omega, strmL]
end Go.Proofs.YtebhmcnocpblkaaDoor
