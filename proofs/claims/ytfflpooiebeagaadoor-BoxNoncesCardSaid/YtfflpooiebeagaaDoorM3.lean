/- chacha: the plain functions. chacha: its arrays whole; the contracts of Stir and sized. chacha: the places; the contract of stirred. chacha: the contracts of begin, told, Block. chacha: the contracts of Block, Stream, Turn. -/
import Derived.Test.YtfflpooiebeagaaDoorM1
import Derived.KernelRfl
import Derived.Outline
import Derived.Deep.MidRow
import Derived.StillTailTactics
import Derived.Deep.RegionWith
import Derived.BigRegion
import Derived.Deep.DeepCutAuto
import Derived.Deep.RegionHeld3
import Derived.Test.YtfflpooiebeagaaDoorM2
namespace Go.Proofs.YtfflpooiebeagaaDoor
open Go.RowKit

/-- Four numbers. -/
structure Q4 where
  a : Nat
  b : Nat
  c : Nat
  d : Nat
def Q4.ok (q : Q4) : Prop := q.a < 4294967296 ∧ q.b < 4294967296 ∧ q.c < 4294967296 ∧ q.d < 4294967296
def Q4.cells (q : Q4) : Array Value := #[.int .u32 (q.a : Int), .int .u32 (q.b : Int), .int .u32 (q.c : Int), .int .u32 (q.d : Int)]
def half (q : Q4) (m n : Nat) : Q4 :=
  ⟨(q.a + q.b) % 4294967296, rotl (q.b ^^^ ((q.c + rotl (q.d ^^^ ((q.a + q.b) % 4294967296)) m) % 4294967296)) n, (q.c + rotl (q.d ^^^ ((q.a + q.b) % 4294967296)) m) % 4294967296, rotl (q.d ^^^ ((q.a + q.b) % 4294967296)) m⟩
def stirQ (q : Q4) : Q4 := half (half q 16 12) 8 7
theorem mod32_lt (x : Nat) : x % 4294967296 < 4294967296 := Nat.mod_lt _ (by decide)
theorem xor2_lt {x y : Nat} (hx : x < 4294967296) (hy : y < 4294967296) : x ^^^ y < 4294967296 := Nat.xor_lt_two_pow (n := 32) hx hy
theorem half_ok {q : Q4} (h : q.ok) (m n : Nat) : (half q m n).ok := by
  obtain ⟨ha, hb, hc, hd⟩ := h
  have h1 := rotl_lt (xor2_lt hd (mod32_lt (q.a + q.b))) m
  exact ⟨mod32_lt _, rotl_lt (xor2_lt hb (mod32_lt _)) n, mod32_lt _, h1⟩
theorem stirQ_ok {q : Q4} (h : q.ok) : (stirQ q).ok := half_ok (half_ok h _ _) _ _

/-- Sixteen numbers. -/
def All32 (x : List Nat) : Prop := x.length = 16 ∧ ∀ i, x.getD i 0 < 4294967296
def getQ (x : List Nat) (i j k l : Nat) : Q4 := ⟨x.getD i 0, x.getD j 0, x.getD k 0, x.getD l 0⟩
def putQ (x : List Nat) (q : Q4) (i j k l : Nat) : List Nat := (((x.set i q.a).set j q.b).set k q.c).set l q.d
def stirAt (x : List Nat) (i j k l : Nat) : List Nat := putQ x (stirQ (getQ x i j k l)) i j k l
theorem set_32 {x : List Nat} (h : All32 x) (i : Nat) {v : Nat} (hv : v < 4294967296) : All32 (x.set i v) := by
  refine ⟨by rw [List.length_set]; exact h.1, fun j => ?_⟩
  rw [List.getD_eq_getElem?_getD, List.getElem?_set]
  split
  · split
    · exact hv
    · decide
  · rw [← List.getD_eq_getElem?_getD]; exact h.2 j
theorem getQ_ok {x : List Nat} (h : All32 x) (i j k l : Nat) : (getQ x i j k l).ok := ⟨h.2 _, h.2 _, h.2 _, h.2 _⟩
theorem putQ_32 {x : List Nat} (h : All32 x) {q : Q4} (hq : q.ok) (i j k l : Nat) : All32 (putQ x q i j k l) := set_32 (set_32 (set_32 (set_32 h i hq.1) j hq.2.1) k hq.2.2.1) l hq.2.2.2
theorem stirAt_32 {x : List Nat} (h : All32 x) (i j k l : Nat) : All32 (stirAt x i j k l) := putQ_32 h (stirQ_ok (getQ_ok h _ _ _ _)) _ _ _ _
def plL : List Nat := [0, 4, 8, 12, 1, 5, 9, 13, 2, 6, 10, 14, 3, 7, 11, 15, 0, 5, 10, 15, 1, 6, 11, 12, 2, 7, 8, 13, 3, 4, 9, 14]
def plN (k : Nat) : Nat := plL.getD k 0
theorem plL_len : plL.length = 32 := rfl
theorem plN_lt (k : Nat) : plN k < 16 := by
  unfold plN
  by_cases h : k < plL.length
  · rw [List.getD_eq_getElem?_getD, List.getElem?_eq_getElem h]
    exact (show ∀ x ∈ plL, x < 16 by decide) _ (List.getElem_mem h)
  · rw [List.getD_eq_getElem?_getD, List.getElem?_eq_none (by omega)]; decide
def st8 (x : List Nat) : Nat → List Nat
  | 0 => x
  | k + 1 => stirAt (st8 x k) (plN (4 * k)) (plN (4 * k + 1)) (plN (4 * k + 2)) (plN (4 * k + 3))
def rdN (x : List Nat) : Nat → List Nat
  | 0 => x
  | k + 1 => st8 (rdN x k) 8
theorem st8_32 {x : List Nat} (h : All32 x) (k : Nat) : All32 (st8 x k) := by
  induction k with
  | zero => exact h
  | succ k ih => exact stirAt_32 ih _ _ _ _
theorem rdN_32 {x : List Nat} (h : All32 x) (k : Nat) : All32 (rdN x k) := by
  induction k with
  | zero => exact h
  | succ k ih => exact st8_32 ih 8

/-- Sums, number by number; k of them. -/
def sumL (x f : List Nat) : List Nat := List.zipWith (fun a b => (a + b) % 4294967296) x f
def sumK (x f : List Nat) (k : Nat) : List Nat := sumL (x.take k) (f.take k) ++ x.drop k
theorem sumK_zero (x f : List Nat) : sumK x f 0 = x := by simp [sumK, sumL]
theorem sumK_full {x f : List Nat} (hx : x.length = 16) (hf : f.length = 16) : sumK x f 16 = sumL x f := by
  rw [sumK, List.take_of_length_le (by omega), List.take_of_length_le (by omega), List.drop_of_length_le (by omega), List.append_nil]
theorem sumL_len {x f : List Nat} (h : x.length = f.length) : (sumL x f).length = x.length := by simp [sumL, h]
theorem sumK_head {x f : List Nat} (hx : x.length = 16) (hf : f.length = 16) {k : Nat} (hk : k ≤ 16) : (sumL (x.take k) (f.take k)).length = k := by
  rw [sumL_len (by rw [List.length_take, List.length_take]; omega), List.length_take]; omega
theorem sumK_len {x f : List Nat} (hx : x.length = 16) (hf : f.length = 16) {k : Nat} (hk : k ≤ 16) : (sumK x f k).length = 16 := by
  rw [sumK, List.length_append, sumK_head hx hf hk, List.length_drop]; omega
theorem sumK_at {x f : List Nat} (hx : x.length = 16) (hf : f.length = 16) {k : Nat} (hk : k < 16) : (sumK x f k)[k]? = some (x.getD k 0) := by
  rw [sumK, List.getElem?_append_right (by rw [sumK_head hx hf (by omega)]; exact Nat.le_refl _), sumK_head hx hf (by omega), Nat.sub_self, List.getElem?_drop, Nat.add_zero, List.getD_eq_getElem?_getD, List.getElem?_eq_getElem (by omega)]; rfl
theorem sumK_set {x f : List Nat} (hx : x.length = 16) (hf : f.length = 16) {k : Nat} (hk : k < 16) : (sumK x f k).set k ((x.getD k 0 + f.getD k 0) % 4294967296) = sumK x f (k + 1) := by
  have hkx : k < x.length := by omega
  have hkf : k < f.length := by omega
  rw [sumK, sumK, List.set_append_right _ _ (by rw [sumK_head hx hf (by omega)]; exact Nat.le_refl _), sumK_head hx hf (by omega), Nat.sub_self, List.drop_eq_getElem_cons hkx, List.set_cons_zero,
    List.take_succ_eq_append_getElem hkx, List.take_succ_eq_append_getElem hkf, sumL, sumL, List.zipWith_append (by rw [List.length_take, List.length_take]; omega), List.append_assoc]
  simp [List.getD_eq_getElem?_getD, List.getElem?_eq_getElem hkx, List.getElem?_eq_getElem hkf]
theorem sumL_32 {x f : List Nat} (hx : x.length = 16) (hf : f.length = 16) : All32 (sumL x f) := by
  refine ⟨by rw [sumL_len (by omega)]; exact hx, fun i => ?_⟩
  rw [List.getD_eq_getElem?_getD, sumL, List.getElem?_zipWith]
  cases x[i]? <;> cases f[i]? <;> simp <;> omega
def endL (f : List Nat) : List Nat := sumL (rdN f 10) f
theorem endL_32 {f : List Nat} (h : All32 f) : All32 (endL f) := sumL_32 (rdN_32 h 10).1 h.1

/-- Numbers as bytes. -/
def toldL (x : List Nat) : List UInt8 := x.flatMap fun n => lowL n 4
theorem toldL_len (x : List Nat) : (toldL x).length = 4 * x.length := by
  induction x with
  | nil => rfl
  | cons n x ih => rw [toldL, List.flatMap_cons, List.length_append, lowL_len, ← toldL, ih, List.length_cons]; omega
theorem toldL_snoc (x : List Nat) (n : Nat) : toldL (x ++ [n]) = toldL x ++ lowL n 4 := by simp [toldL]
theorem toldL_take (x : List Nat) (k : Nat) (h : k < x.length) : toldL (x.take (k + 1)) = toldL (x.take k) ++ lowL (x.getD k 0) 4 := by
  rw [List.take_succ_eq_append_getElem h, toldL_snoc, List.getD_eq_getElem?_getD, List.getElem?_eq_getElem h]; rfl

/-- Bytes as numbers. -/
def num4 (b : List UInt8) (i : Nat) : Nat := numLow ((b.drop (4 * i)).take 4)
def numsL (b : List UInt8) (n : Nat) : List Nat := (List.range n).map (num4 b)
theorem numsL_len (b : List UInt8) (n : Nat) : (numsL b n).length = n := by simp [numsL]
theorem numsL_succ (b : List UInt8) (n : Nat) : numsL b (n + 1) = numsL b n ++ [num4 b n] := by simp [numsL, List.range_succ]
theorem num4_lt (b : List UInt8) (i : Nat) : num4 b i < 4294967296 := by
  have h := numLow_lt ((b.drop (4 * i)).take 4)
  have hl : ((b.drop (4 * i)).take 4).length ≤ 4 := List.length_take_le _ _
  exact Nat.lt_of_lt_of_le h (Nat.pow_le_pow_right (n := 256) (j := 4) (by decide) hl)
theorem numsL_get (b : List UInt8) (n i : Nat) (h : i < n) : (numsL b n)[i]? = some (num4 b i) := by simp [numsL, h]
theorem numsL_32 (b : List UInt8) : All32 (numsL b 16) := by
  refine ⟨numsL_len _ _, fun i => ?_⟩
  rw [List.getD_eq_getElem?_getD]
  by_cases h : i < 16
  · rw [numsL_get b 16 i h]; exact num4_lt _ _
  · rw [List.getElem?_eq_none (by rw [numsL_len]; omega)]; decide

def headB : List UInt8 := [101, 120, 112, 97, 110, 100, 32, 51, 50, 45, 98, 121, 116, 101, 32, 107]
def textL (key : List UInt8) (c : Nat) (nonce : List UInt8) : List UInt8 := headB ++ key ++ lowL c 4 ++ nonce
theorem textL_len (key : List UInt8) (c : Nat) (nonce : List UInt8) (hk : key.length = 32) (hn : nonce.length = 12) : (textL key c nonce).length = 64 := by
  simp only [textL, List.length_append, hk, hn, lowL_len]; rfl
def firstL (key : List UInt8) (c : Nat) (nonce : List UInt8) : List Nat := numsL (textL key c nonce) 16
def blockL (key : List UInt8) (c : Nat) (nonce : List UInt8) : List UInt8 := toldL (endL (firstL key c nonce))
theorem firstL_32 (key : List UInt8) (c : Nat) (nonce : List UInt8) : All32 (firstL key c nonce) := numsL_32 _
theorem blockL_len (key : List UInt8) (c : Nat) (nonce : List UInt8) : (blockL key c nonce).length = 64 := by
  rw [blockL, toldL_len, (endL_32 (firstL_32 _ _ _)).1]
theorem first_at (key : List UInt8) (c : Nat) (nonce : List UInt8) (hk : key.length = 32) (hc : c < 4294967296) : num4 (textL key c nonce) 12 = c := by
  have h48 : (headB ++ key).length = 48 := by rw [List.length_append, hk]; rfl
  rw [num4, textL, List.append_assoc, List.drop_left' h48, List.take_left' (lowL_len _ _), numLow_lowL]
  exact Nat.mod_eq_of_lt hc
theorem first_ahead (key : List UInt8) (c c' : Nat) (nonce : List UInt8) (hk : key.length = 32) (i : Nat) (hi : i < 12) : num4 (textL key c nonce) i = num4 (textL key c' nonce) i := by
  have h48 : (headB ++ key).length = 48 := by rw [List.length_append, hk]; rfl
  have e : ∀ l : List UInt8, ((headB ++ key ++ l).drop (4 * i)).take 4 = ((headB ++ key).drop (4 * i)).take 4 := fun l => by
    rw [List.drop_append_of_le_length (by omega), List.take_append_of_le_length (by rw [List.length_drop]; omega)]
  rw [num4, num4, textL, textL, List.append_assoc, e, List.append_assoc _ (lowL c' 4), e]
theorem first_behind (key : List UInt8) (c c' : Nat) (nonce : List UInt8) (hk : key.length = 32) (i : Nat) (hi : 12 < i) : num4 (textL key c nonce) i = num4 (textL key c' nonce) i := by
  have h48 : (headB ++ key).length = 48 := by rw [List.length_append, hk]; rfl
  have e : ∀ d : Nat, (headB ++ key ++ lowL d 4 ++ nonce).drop (4 * i) = nonce.drop (4 * i - 52) := fun d => by
    have h52 : (headB ++ key ++ lowL d 4).length = 52 := by rw [List.length_append, h48, lowL_len]
    rw [List.drop_append, List.drop_eq_nil_of_le (by omega), h52, List.nil_append]
  rw [num4, num4, textL, textL, e, e]
theorem first_set (key : List UInt8) (c c' : Nat) (nonce : List UInt8) (hk : key.length = 32) (hc : c' < 4294967296) : (firstL key c nonce).set 12 c' = firstL key c' nonce := by
  apply List.ext_getElem?
  intro i
  by_cases h : i < 16
  · by_cases h12 : 12 = i
    · subst h12
      rw [List.getElem?_set_self (by rw [firstL, numsL_len]; decide), firstL, numsL_get _ _ _ h, first_at key c' nonce hk hc]
    · rw [List.getElem?_set_ne h12, firstL, firstL, numsL_get _ _ _ h, numsL_get _ _ _ h]
      rcases Nat.lt_or_gt_of_ne h12 with h2 | h2
      · rw [first_behind key c c' nonce hk i h2]
      · rw [first_ahead key c c' nonce hk i h2]
  · rw [List.getElem?_eq_none (by rw [List.length_set, firstL, numsL_len]; omega), List.getElem?_eq_none (by rw [firstL, numsL_len]; omega)]

/-- The stream's first m blocks. -/
def stL (key : List UInt8) (c : Nat) (nonce : List UInt8) : Nat → List UInt8
  | 0 => []
  | m + 1 => stL key c nonce m ++ blockL key ((c + m) % 4294967296) nonce
theorem stL_len (key : List UInt8) (c : Nat) (nonce : List UInt8) (m : Nat) : (stL key c nonce m).length = 64 * m := by
  induction m with
  | zero => rfl
  | succ m ih => rw [stL, List.length_append, ih, blockL_len]; omega
theorem stL_add (key : List UInt8) (c : Nat) (nonce : List UInt8) (a b : Nat) : stL key c nonce (a + b) = stL key c nonce a ++ stL key ((c + a) % 4294967296) nonce b := by
  induction b with
  | zero => rw [Nat.add_zero, stL, List.append_nil]
  | succ b ih => rw [← Nat.add_assoc, stL, ih, stL, List.append_assoc, show (c + (a + b)) % 4294967296 = ((c + a) % 4294967296 + b) % 4294967296 by omega]
def strmL (key : List UInt8) (c : Nat) (nonce : List UInt8) (n : Nat) : List UInt8 := (stL key c nonce ((n + 63) / 64)).take n
theorem strmL_len (key : List UInt8) (c : Nat) (nonce : List UInt8) (n : Nat) : (strmL key c nonce n).length = n := by
  rw [strmL, List.length_take, stL_len]; omega
theorem strmL_of (key : List UInt8) (c : Nat) (nonce : List UInt8) (n m : Nat) (h : n ≤ 64 * m) : (stL key c nonce m).take n = strmL key c nonce n := by
  obtain ⟨j, rfl⟩ : ∃ j, m = (n + 63) / 64 + j := ⟨m - (n + 63) / 64, by omega⟩
  rw [stL_add, List.take_append_of_le_length (by rw [stL_len]; omega), strmL]
theorem strmL_take (key : List UInt8) (c : Nat) (nonce : List UInt8) (n k : Nat) (h : k ≤ n) : (strmL key c nonce n).take k = strmL key c nonce k := by
  rw [strmL, List.take_take, Nat.min_eq_left h, strmL_of key c nonce k _ (by omega)]
theorem strmL_drop (key : List UInt8) (c : Nat) (nonce : List UInt8) (b n : Nat) : (strmL key c nonce (64 * b + n)).drop (64 * b) = strmL key ((c + b) % 4294967296) nonce n := by
  rw [strmL, show (64 * b + n + 63) / 64 = b + (n + 63) / 64 by omega, stL_add, List.take_append, stL_len, List.take_of_length_le (by rw [stL_len]; omega), List.drop_left' (stL_len _ _ _ _), show 64 * b + n - 64 * b = n by omega, strmL]
end Go.Proofs.YtfflpooiebeagaaDoor
namespace Go.Proofs.YtfflpooiebeagaaDoor
open Go.RowKit

theorem info_q4 : (Tryd.prog.info? 115).map (·.size) = some 4 := by kernel_rfl
theorem wpList_load_q4 {ops : Array Oper} {rest : List Oper} {o : Oper} {a : Act} {w : World} {Q : Exit → Act → World → Prop} (hgd : o.guard = none) (x : Operand) (ho : o.op = .load 115 x)
    (g : Nat) (hx : a.eval x = .pointer (some ⟨g, 0, none⟩)) (cs : Array Value) (hs : cs.size = 4) (hg : Arr w g cs 115)
    (h : wpList Tryd.prog ops Q rest (a.put o.dst (.agg cs)) w) : wpList Tryd.prog ops Q (o :: rest) a w :=
  wpList_load_row hgd 115 x ho g hx 115 cs (0, 0) _ hg Tryd.underlying115 rfl (by rw [hs]; exact info_q4) h
theorem wpList_store_q4 {ops : Array Oper} {rest : List Oper} {o : Oper} {a : Act} {w : World} {Q : Exit → Act → World → Prop} (hgd : o.guard = none) (x y : Operand) (ho : o.op = .store 115 x y)
    (g : Nat) (hx : a.eval x = .pointer (some ⟨g, 0, none⟩)) (cs : Array Value) (hy : a.eval y = .agg cs) (hs : cs.size = 4) (h1 : cs.all (·.oneCell') = true) (old : Array Value) (hz : old.size = 4) (hg : Arr w g old 115)
    (h : wpList Tryd.prog ops Q rest (a.put o.dst undef) (w.setRow g cs)) : wpList Tryd.prog ops Q (o :: rest) a w :=
  wpList_store_row hgd 115 x y ho g cs hx hy 115 old hg (by rw [hs]; exact info_q4) (by omega) h1 h
/-- A new array variable gets its value. -/
theorem wpList_store_q4_new {ops : Array Oper} {rest : List Oper} {o : Oper} {a : Act} {w : World} {Q : Exit → Act → World → Prop} (hgd : o.guard = none) (x y : Operand) (ho : o.op = .store 115 x y)
    (old : Array Value) (hz : old.size = 4) (g : Nat) (hx : a.eval x = .pointer (some ⟨g, 0, none⟩)) (hgs : g = w.heap.size) (cs : Array Value) (hy : a.eval y = .agg cs) (hs : cs.size = 4) (h1 : cs.all (·.oneCell') = true)
    (h : wpList Tryd.prog ops Q rest (a.put o.dst undef) (w.alloc (.cells cs 115))) : wpList Tryd.prog ops Q (o :: rest) a (w.alloc (.cells old 115)) :=
  wpList_store_q4 hgd x y ho w.heap.size (by rw [← hgs]; exact hx) cs hy hs h1 old hz (Arr.new w old _) (by rw [World.setRow_alloc_new]; exact h)
theorem ret_q4 {fn : Func} {p : Tmp} {R : Ending → World → Prop} {a : Act} {w : World} (h : fn.results = #[.cell p 115]) (g : Nat) (cs : Array Value) (hs : cs.size = 4) (hp : a.tmps.getD p undef = .pointer (some ⟨g, 0, none⟩))
    (hg : Arr w g cs 115) (hd : a.defers = []) (hR : R (.returned (.agg cs)) w) : bodyPost Tryd.prog fn R .ret a w :=
  bodyPost_ret (results_cell_row h a.tmps w g 115 cs (0, 0) _ hp hg Tryd.underlying115 rfl (by rw [hs]; exact info_q4)) hd hR

theorem info_n16 : (Tryd.prog.info? 91).map (·.size) = some 16 := by kernel_rfl
theorem wpList_load_n16 {ops : Array Oper} {rest : List Oper} {o : Oper} {a : Act} {w : World} {Q : Exit → Act → World → Prop} (hgd : o.guard = none) (x : Operand) (ho : o.op = .load 91 x)
    (g : Nat) (hx : a.eval x = .pointer (some ⟨g, 0, none⟩)) (cs : Array Value) (hs : cs.size = 16) (hg : Arr w g cs 91)
    (h : wpList Tryd.prog ops Q rest (a.put o.dst (.agg cs)) w) : wpList Tryd.prog ops Q (o :: rest) a w :=
  wpList_load_row hgd 91 x ho g hx 91 cs (0, 0) _ hg Tryd.underlying91 rfl (by rw [hs]; exact info_n16) h
theorem wpList_store_n16 {ops : Array Oper} {rest : List Oper} {o : Oper} {a : Act} {w : World} {Q : Exit → Act → World → Prop} (hgd : o.guard = none) (x y : Operand) (ho : o.op = .store 91 x y)
    (g : Nat) (hx : a.eval x = .pointer (some ⟨g, 0, none⟩)) (cs : Array Value) (hy : a.eval y = .agg cs) (hs : cs.size = 16) (h1 : cs.all (·.oneCell') = true) (old : Array Value) (hz : old.size = 16) (hg : Arr w g old 91)
    (h : wpList Tryd.prog ops Q rest (a.put o.dst undef) (w.setRow g cs)) : wpList Tryd.prog ops Q (o :: rest) a w :=
  wpList_store_row hgd 91 x y ho g cs hx hy 91 old hg (by rw [hs]; exact info_n16) (by omega) h1 h
/-- A new array variable gets its value. -/
theorem wpList_store_n16_new {ops : Array Oper} {rest : List Oper} {o : Oper} {a : Act} {w : World} {Q : Exit → Act → World → Prop} (hgd : o.guard = none) (x y : Operand) (ho : o.op = .store 91 x y)
    (old : Array Value) (hz : old.size = 16) (g : Nat) (hx : a.eval x = .pointer (some ⟨g, 0, none⟩)) (hgs : g = w.heap.size) (cs : Array Value) (hy : a.eval y = .agg cs) (hs : cs.size = 16) (h1 : cs.all (·.oneCell') = true)
    (h : wpList Tryd.prog ops Q rest (a.put o.dst undef) (w.alloc (.cells cs 91))) : wpList Tryd.prog ops Q (o :: rest) a (w.alloc (.cells old 91)) :=
  wpList_store_n16 hgd x y ho w.heap.size (by rw [← hgs]; exact hx) cs hy hs h1 old hz (Arr.new w old _) (by rw [World.setRow_alloc_new]; exact h)
theorem ret_n16 {fn : Func} {p : Tmp} {R : Ending → World → Prop} {a : Act} {w : World} (h : fn.results = #[.cell p 91]) (g : Nat) (cs : Array Value) (hs : cs.size = 16) (hp : a.tmps.getD p undef = .pointer (some ⟨g, 0, none⟩))
    (hg : Arr w g cs 91) (hd : a.defers = []) (hR : R (.returned (.agg cs)) w) : bodyPost Tryd.prog fn R .ret a w :=
  bodyPost_ret (results_cell_row h a.tmps w g 91 cs (0, 0) _ hp hg Tryd.underlying91 rfl (by rw [hs]; exact info_n16)) hd hR

theorem info_i4 : (Tryd.prog.info? 113).map (·.size) = some 4 := by kernel_rfl
theorem wpList_load_i4 {ops : Array Oper} {rest : List Oper} {o : Oper} {a : Act} {w : World} {Q : Exit → Act → World → Prop} (hgd : o.guard = none) (x : Operand) (ho : o.op = .load 113 x)
    (g : Nat) (hx : a.eval x = .pointer (some ⟨g, 0, none⟩)) (cs : Array Value) (hs : cs.size = 4) (hg : Arr w g cs 113)
    (h : wpList Tryd.prog ops Q rest (a.put o.dst (.agg cs)) w) : wpList Tryd.prog ops Q (o :: rest) a w :=
  wpList_load_row hgd 113 x ho g hx 113 cs (0, 0) _ hg Tryd.underlying113 rfl (by rw [hs]; exact info_i4) h
theorem wpList_store_i4 {ops : Array Oper} {rest : List Oper} {o : Oper} {a : Act} {w : World} {Q : Exit → Act → World → Prop} (hgd : o.guard = none) (x y : Operand) (ho : o.op = .store 113 x y)
    (g : Nat) (hx : a.eval x = .pointer (some ⟨g, 0, none⟩)) (cs : Array Value) (hy : a.eval y = .agg cs) (hs : cs.size = 4) (h1 : cs.all (·.oneCell') = true) (old : Array Value) (hz : old.size = 4) (hg : Arr w g old 113)
    (h : wpList Tryd.prog ops Q rest (a.put o.dst undef) (w.setRow g cs)) : wpList Tryd.prog ops Q (o :: rest) a w :=
  wpList_store_row hgd 113 x y ho g cs hx hy 113 old hg (by rw [hs]; exact info_i4) (by omega) h1 h
/-- A new array variable gets its value. -/
theorem wpList_store_i4_new {ops : Array Oper} {rest : List Oper} {o : Oper} {a : Act} {w : World} {Q : Exit → Act → World → Prop} (hgd : o.guard = none) (x y : Operand) (ho : o.op = .store 113 x y)
    (old : Array Value) (hz : old.size = 4) (g : Nat) (hx : a.eval x = .pointer (some ⟨g, 0, none⟩)) (hgs : g = w.heap.size) (cs : Array Value) (hy : a.eval y = .agg cs) (hs : cs.size = 4) (h1 : cs.all (·.oneCell') = true)
    (h : wpList Tryd.prog ops Q rest (a.put o.dst undef) (w.alloc (.cells cs 113))) : wpList Tryd.prog ops Q (o :: rest) a (w.alloc (.cells old 113)) :=
  wpList_store_i4 hgd x y ho w.heap.size (by rw [← hgs]; exact hx) cs hy hs h1 old hz (Arr.new w old _) (by rw [World.setRow_alloc_new]; exact h)
theorem ret_i4 {fn : Func} {p : Tmp} {R : Ending → World → Prop} {a : Act} {w : World} (h : fn.results = #[.cell p 113]) (g : Nat) (cs : Array Value) (hs : cs.size = 4) (hp : a.tmps.getD p undef = .pointer (some ⟨g, 0, none⟩))
    (hg : Arr w g cs 113) (hd : a.defers = []) (hR : R (.returned (.agg cs)) w) : bodyPost Tryd.prog fn R .ret a w :=
  bodyPost_ret (results_cell_row h a.tmps w g 113 cs (0, 0) _ hp hg Tryd.underlying113 rfl (by rw [hs]; exact info_i4)) hd hR

def zero4 : Array Value := #[.int .u32 0, .int .u32 0, .int .u32 0, .int .u32 0]
def row16 (x : List Nat) : Array Value := (u32s x).toArray
theorem row16_size {x : List Nat} (h : x.length = 16) : (row16 x).size = 16 := by simp [row16, u32s_len, h]
theorem row16_one (x : List Nat) : (row16 x).all (·.oneCell') = true := one_u32s x
theorem row16_get {x : List Nat} {k : Nat} (h : k < x.length) : (row16 x)[k]? = some (.int .u32 ((x.getD k 0 : Nat) : Int)) := by
  rw [row16, List.getElem?_toArray, u32s_get x k h, List.getD_eq_getElem?_getD, List.getElem?_eq_getElem h]; rfl
theorem row16_set (x : List Nat) (k n : Nat) : (row16 x).setIfInBounds k (.int .u32 (n : Int)) = row16 (x.set k n) := by
  rw [row16, row16, List.setIfInBounds_toArray]; simp [u32s, List.map_set]
theorem q4_size (q : Q4) : q.cells.size = 4 := rfl
theorem q4_one (q : Q4) : q.cells.all (·.oneCell') = true := by simp [Q4.cells, Value.oneCell']

/-- The steps of a stir. -/
structure Steps (q : Q4) (A1 X1 D1 C1 X2 B1 A2 X3 D2 C2 X4 B2 : Nat) : Prop where
  a1 : ((q.a : Int) + (q.b : Int)) % 4294967296 = (A1 : Int)
  x1 : bits .xor .u32 (q.d : Int) (A1 : Int) = (X1 : Int)
  l1 : X1 < 4294967296
  d1 : D1 = rotl X1 16
  c1 : ((q.c : Int) + (D1 : Int)) % 4294967296 = (C1 : Int)
  x2 : bits .xor .u32 (q.b : Int) (C1 : Int) = (X2 : Int)
  l2 : X2 < 4294967296
  b1 : B1 = rotl X2 12
  a2 : ((A1 : Int) + (B1 : Int)) % 4294967296 = (A2 : Int)
  x3 : bits .xor .u32 (D1 : Int) (A2 : Int) = (X3 : Int)
  l3 : X3 < 4294967296
  d2 : D2 = rotl X3 8
  c2 : ((C1 : Int) + (D2 : Int)) % 4294967296 = (C2 : Int)
  x4 : bits .xor .u32 (B1 : Int) (C2 : Int) = (X4 : Int)
  l4 : X4 < 4294967296
  b2 : B2 = rotl X4 7
  res : stirQ q = ⟨A2, B2, C2, D2⟩
theorem steps {q : Q4} (h : q.ok) : ∃ A1 X1 D1 C1 X2 B1 A2 X3 D2 C2 X4 B2 : Nat, Steps q A1 X1 D1 C1 X2 B1 A2 X3 D2 C2 X4 B2 := by
  obtain ⟨ha, hb, hc, hd⟩ := h
  have l1 := xor2_lt hd (mod32_lt (q.a + q.b))
  have m1 := rotl_lt l1 16
  have l2 := xor2_lt hb (mod32_lt (q.c + rotl (q.d ^^^ ((q.a + q.b) % 4294967296)) 16))
  have m2 := rotl_lt l2 12
  refine ⟨_, _, _, _, _, _, _, _, _, _, _, _, ⟨sum2 q.a q.b, xor32 _ _ hd (mod32_lt _), l1, rfl, sum2 q.c _, xor32 _ _ hb (mod32_lt _), l2, rfl, sum2 _ _, xor32 _ _ m1 (mod32_lt _), xor2_lt m1 (mod32_lt _), rfl, sum2 _ _, xor32 _ _ m2 (mod32_lt _), xor2_lt m2 (mod32_lt _), rfl, rfl⟩⟩
theorem left_c (n : Int) (k : Nat) (hn : (n % 32).toNat = k) (x y : Nat) (hx : x < 4294967296) (hy : y = rotl x k) (w : World) :
    Calls Tryd.prog 72 #[.int .u32 x, .int .i64 n] w fun e w' => e = .returned (.int .u32 (y : Nat)) ∧ w = w' := by
  subst hn hy
  exact left_any x hx n w

set_option maxHeartbeats 1000000 in
set_option maxRecDepth 100000 in
theorem stir_any (q : Q4) (h : q.ok) (w : World) :
    Calls Tryd.prog 63 #[.agg q.cells] w fun e w' => e = .returned (.agg (stirQ q).cells) ∧ Below w.heap.size w w' := by
  obtain ⟨A1, X1, D1, C1, X2, B1, A2, X3, D2, C2, X4, B2, hs⟩ := steps h
  have H1 := Lib.hid (left_c 16 16 rfl X1 D1 hs.l1 hs.d1)
  have H2 := Lib.hid (left_c 12 12 rfl X2 B1 hs.l2 hs.b1)
  have H3 := Lib.hid (left_c 8 8 rfl X3 D2 hs.l3 hs.d2)
  have H4 := Lib.hid (left_c 7 7 rfl X4 B2 hs.l4 hs.b2)
  obtain ⟨e1, e2, z1, z2, e5, e6, z3, z4, e9, e10, z5, z6, e13, e14, z7, z8, e17⟩ := hs
  clear z1 z2 z3 z4 z5 z6 z7 z8
  have HR := Lib.hid e17
  clear e17
  obtain ⟨A, B, C, D⟩ := q
  simp only at e1 e2 e5 e6 ⊢
  clear h
  have hA0 := (Arr.new w (Q4.cells ⟨A, B, C, D⟩) 115).alloc (.cells zero4 115)
  have hZ0 := Arr.newAt (w.alloc (.cells (Q4.cells ⟨A, B, C, D⟩) 115)) (g := w.heap.size + 1) zero4 115 (by simp)
  have HB0 := Lib.hid ((((Below.refl w.heap.size w).alloc (Nat.le_refl _) (.cells (Q4.cells ⟨A, B, C, D⟩) 115)).alloc (by simp) (.cells zero4 115)))
  obtain ⟨W, hW⟩ : ∃ W, W = (w.alloc (.cells (Q4.cells ⟨A, B, C, D⟩) 115)).alloc (.cells zero4 115) := ⟨_, rfl⟩
  rw [← hW] at hA0 hZ0 HB0
  have HA := Lib.hid hA0
  have HZ := Lib.hid hZ0
  clear hA0 hZ0
  unfold Q4.cells at hW ⊢
  unfold zero4 at hW
  go_enter Tryd.func63, Tryd.ntmps63
  go_wp2
  rw [← hW]
  clear hW
  have c0 : W.cell? ⟨w.heap.size, 0, none⟩ = some (.int .u32 (A : Int)) := HA.out.cell (j := 0) rfl
  have c1 : W.cell? ⟨w.heap.size, 1, none⟩ = some (.int .u32 (B : Int)) := HA.out.cell (j := 1) rfl
  have c2 : W.cell? ⟨w.heap.size, 2, none⟩ = some (.int .u32 (C : Int)) := HA.out.cell (j := 2) rfl
  have c3 : W.cell? ⟨w.heap.size, 3, none⟩ = some (.int .u32 (D : Int)) := HA.out.cell (j := 3) rfl
  go_quiet (fail)
  have HZ2 := Lib.hid (HZ.out.drewN nq)
  have HB2 := Lib.hid (Below_drewN HB0.out nq)
  clear c0 c1 c2 c3 HA HZ HB0
  generalize W.drewN nq = w2 at *
  go_wp2_with (first
    | (go_at_call 72; (first
      | ((with_reducible refine (H1.out _).mono ?_); rintro e w' ⟨rfl, rfl⟩)
      | ((with_reducible refine (H2.out _).mono ?_); rintro e w' ⟨rfl, rfl⟩)
      | ((with_reducible refine (H3.out _).mono ?_); rintro e w' ⟨rfl, rfl⟩)
      | ((with_reducible refine (H4.out _).mono ?_); rintro e w' ⟨rfl, rfl⟩)))
    | (with_reducible refine wpList_store_q4 rfl _ _ rfl (w.heap.size + 1) rfl _ rfl rfl (q4_one ⟨A2, B2, C2, D2⟩) _ rfl HZ2.out ?_))
  exact ret_q4 Tryd.results63 (w.heap.size + 1) _ rfl rfl (HZ2.out.row _) rfl ⟨by rw [HR.out]; rfl, below_setRow HB2.out (by omega) _⟩

theorem sized_any (key nonce : ByteArray) (w : World) :
    Calls Tryd.prog 44 #[.string key, .string nonce] w fun e w' => e = .returned (.bool (decide (key.size = 32) && decide (nonce.size = 12))) ∧ w = w' := by
  by_cases h1 : key.size = 32
  · have e1 : ((key.size : Int) == 32) = true := by rw [h1]; rfl
    by_cases h2 : nonce.size = 12
    · have e2 : ((nonce.size : Int) == 12) = true := by rw [h2]; rfl
      have HE := Lib.hid (show (decide (key.size = 32) && decide (nonce.size = 12)) = true by simp [h1, h2])
      clear h1 h2
      go_enter Tryd.func44, Tryd.ntmps44
      go_wp2
      go_ret
      exact ⟨by rw [HE.out]; rfl, rfl⟩
    · have e2 : ((nonce.size : Int) == 12) = false := by simp; omega
      have HE := Lib.hid (show (decide (key.size = 32) && decide (nonce.size = 12)) = false by simp [h2])
      clear h1 h2
      go_enter Tryd.func44, Tryd.ntmps44
      go_wp2
      go_ret
      exact ⟨by rw [HE.out]; rfl, rfl⟩
  · have e1 : ((key.size : Int) == 32) = false := by simp; omega
    have HE := Lib.hid (show (decide (key.size = 32) && decide (nonce.size = 12)) = false by simp [h1])
    clear h1
    go_enter Tryd.func44, Tryd.ntmps44
    go_wp2
    go_ret
    exact ⟨by rw [HE.out]; rfl, rfl⟩
end Go.Proofs.YtfflpooiebeagaaDoor
namespace Go.Proofs.YtfflpooiebeagaaDoor
open Go.RowKit

/-- The places, where the package lays them. -/
def plV : List Value := plL.map fun (n : Nat) => .int .i64 (n : Int)
theorem plV_len : plV.length = 32 := rfl
def Pl (w : World) : Prop := ∀ k, k < 32 → w.cell? ⟨0, k, none⟩ = some (.int .i64 (plN k : Nat))
theorem Pl.lt {w : World} (h : Pl w) : 0 < w.heap.size := block_lt_of_cell (h 0 (by decide))
theorem Pl.alloc {w : World} (h : Pl w) (o : Obj) : Pl (w.alloc o) := fun k hk => by
  rw [← h k hk]; exact World.cell?_of_block (Below.heap_alloc w o _ h.lt)
theorem Pl.set {w : World} (h : Pl w) (a : Addr) (v : Value) (hn : 0 ≠ a.block) : Pl (w.setCell a v) := fun k hk => by
  rw [← h k hk]; exact World.cell?_of_block (heap_setCell_other w a _ v hn)
theorem Pl.below {w w' : World} {B : Nat} (h : Pl w) (hb : Below B w w') (hB : 0 < B) : Pl w' := fun k hk => by
  rw [← h k hk]; exact World.cell?_of_block (hb.block _ hB)
theorem Pl.next {w w' : World} (h : Pl w) (hb : Below w.heap.size w w') : Pl w' := h.below hb h.lt
theorem Pl.drew {w : World} (h : Pl w) : Pl w.drew := h
theorem Pl.drewN {w : World} (h : Pl w) (n : Nat) : Pl (w.drewN n) := h
theorem Pl.row {w : World} (h : Pl w) (g : Nat) (cs : Array Value) (hn : 0 ≠ g) : Pl (w.setRow g cs) := fun k hk => by
  rw [← h k hk]; exact World.cell?_of_block (setRow_other w g _ cs hn)
theorem Pl.range {w : World} (h : Pl w) : w.rangeAt 0 0 plV := fun j v hv => by
  have hj : j < 32 := by have := (List.getElem?_eq_some_iff.1 hv).1; simpa [plV_len] using this
  rw [Nat.zero_add, h j hj, ← hv, plV, List.getElem?_map, plN, List.getD_eq_getElem?_getD]
  rw [List.getElem?_eq_getElem (by rw [plL_len]; exact hj)]; rfl
theorem info_pl : (Tryd.prog.info? 114).map (·.size) = some plV.length := by kernel_rfl
theorem under_pl : Tryd.prog.underlying 114 = some (.array 8 113) := by kernel_rfl
theorem wpList_load_pl {ops : Array Oper} {rest : List Oper} {op : Oper} {a : Act} {w : World} {Q : Exit → Act → World → Prop} (hgd : op.guard = none) (ho : op.op = .load 114 (.global 0))
    (hp : Pl w) (PV : Array Value) (hPV : PV = plV.toArray)
    (h : wpList Tryd.prog ops Q rest (a.put op.dst (.agg PV)) w) : wpList Tryd.prog ops Q (op :: rest) a w := by
  subst hPV
  exact wpList_load_mid hgd 114 _ ho 0 0 rfl plV _ hp.range under_pl rfl info_pl h
/-- Four of the places. -/
def plRow (k : Nat) : Array Value := #[.int .i64 (plN (4 * k) : Nat), .int .i64 (plN (4 * k + 1) : Nat), .int .i64 (plN (4 * k + 2) : Nat), .int .i64 (plN (4 * k + 3) : Nat)]
theorem plRow_ext (k : Nat) (h : k < 8) : plV.toArray.extract (4 * k) (4 * k + 4) = plRow k := by
  rcases (show k = 0 ∨ k = 1 ∨ k = 2 ∨ k = 3 ∨ k = 4 ∨ k = 5 ∨ k = 6 ∨ k = 7 by omega) with h | h | h | h | h | h | h | h <;> subst h <;> rfl
theorem plN_ne (m : Nat) (h : m < 8) : plN (4 * m) ≠ plN (4 * m + 1) ∧ plN (4 * m) ≠ plN (4 * m + 2) ∧ plN (4 * m) ≠ plN (4 * m + 3) ∧ plN (4 * m + 1) ≠ plN (4 * m + 2) ∧ plN (4 * m + 1) ≠ plN (4 * m + 3) ∧ plN (4 * m + 2) ≠ plN (4 * m + 3) := by
  rcases (show m = 0 ∨ m = 1 ∨ m = 2 ∨ m = 3 ∨ m = 4 ∨ m = 5 ∨ m = 6 ∨ m = 7 by omega) with h | h | h | h | h | h | h | h <;> subst h <;> decide
theorem index_pl (k : Nat) (h : k < 8) (w : World) : (Instr.index 114 (.agg plV.toArray) (.int .i64 (k : Int))).run Tryd.prog w = .ok (.agg (plRow k)) w := by
  have hag : (isAgg 113).run Tryd.prog w = .ok true w := by
    unfold isAgg; rw [Sem.run_bind, run_underlying Tryd.underlying113 w]; rfl
  have hsz : (sizeOf 113).run Tryd.prog w = .ok 4 w := Tryd.sizeOf113 w
  have hc : (0 : Int) ≤ (k : Int) ∧ (k : Int) < ((8 : Nat) : Int) := by omega
  have he := plRow_ext k h
  simp only [Instr.index, asIntOf, Sem.run_bind, Sem.run_pure, Result.andThen_ok, run_underlying under_pl, if_pos hc, hsz, part, hag, if_true, Int.toNat_natCast, Nat.mul_comm k 4, he]

/-- What the memory is within stirred: the numbers that came in, the answer's place, the numbers that are stirred. -/
def RelC (s s1 s2 : Nat) (x y : List Nat) (w wr : World) : Prop :=
  Arr wr s (row16 x) 91 ∧ Arr wr s1 (row16 (List.replicate 16 0)) 91 ∧ Arr wr s2 (row16 y) 91 ∧ Pl wr ∧ Below s w wr ∧ s < s1 ∧ s1 < s2 ∧ 0 < s
theorem RelC.drew {s s1 s2 : Nat} {x y : List Nat} {w wr : World} (h : RelC s s1 s2 x y w wr) : RelC s s1 s2 x y w wr.drew := ⟨h.1.drew, h.2.1.drew, h.2.2.1.drew, h.2.2.2.1.drew, h.2.2.2.2.1.drew, h.2.2.2.2.2⟩
theorem RelC.drewN {s s1 s2 : Nat} {x y : List Nat} {w wr : World} (h : RelC s s1 s2 x y w wr) (n : Nat) : RelC s s1 s2 x y w (wr.drewN n) := ⟨h.1.drewN _, h.2.1.drewN _, h.2.2.1.drewN _, h.2.2.2.1.drewN _, Below_drewN h.2.2.2.2.1 _, h.2.2.2.2.2⟩
theorem RelC.alloc {s s1 s2 : Nat} {x y : List Nat} {w wr : World} (h : RelC s s1 s2 x y w wr) (o : Obj) : RelC s s1 s2 x y w (wr.alloc o) := ⟨h.1.alloc _, h.2.1.alloc _, h.2.2.1.alloc _, h.2.2.2.1.alloc _, h.2.2.2.2.1.alloc (Nat.le_of_lt h.1.lt) _, h.2.2.2.2.2⟩
theorem RelC.next {s s1 s2 : Nat} {x y : List Nat} {w wr w' : World} (h : RelC s s1 s2 x y w wr) (hb : Below wr.heap.size wr w') : RelC s s1 s2 x y w w' := ⟨h.1.next hb, h.2.1.next hb, h.2.2.1.next hb, h.2.2.2.1.next hb, h.2.2.2.2.1.trans (hb.mono (Nat.le_of_lt h.1.lt)), h.2.2.2.2.2⟩
theorem RelC.set {s s1 s2 : Nat} {x y : List Nat} {w wr : World} (h : RelC s s1 s2 x y w wr) (i v : Nat) : RelC s s1 s2 x (y.set i v) w (wr.setCell ⟨s2, i, none⟩ (.int .u32 (v : Int))) := by
  obtain ⟨h1, h2, h3, h4, h5, h6, h7, h8⟩ := h
  exact ⟨h1.other _ _ (by simp only; omega), h2.other _ _ (by simp only; omega), by have := h3.set i (.int .u32 (v : Int)); rwa [row16_set] at this, h4.set _ _ (by simp only; omega), h5.setCell (by simp only; omega) _, h6, h7, h8⟩

/-- Four cells of a block are set. -/
theorem set4 {w : World} {g : Nat} (h : Arr w g zero4 115) (q : Q4) : Arr (World.setCell (World.setCell (World.setCell (World.setCell w ⟨g, 0, none⟩ (.int .u32 (q.a : Int))) ⟨g, 1, none⟩ (.int .u32 (q.b : Int))) ⟨g, 2, none⟩ (.int .u32 (q.c : Int))) ⟨g, 3, none⟩ (.int .u32 (q.d : Int))) g q.cells 115 :=
  (((h.set 0 _).set 1 _).set 2 _).set 3 _
theorem set4_other {w : World} {g m : Nat} {cs : Array Value} {t : TypeId} (h : Arr w m cs t) (hn : m ≠ g) (q : Q4) : Arr (World.setCell (World.setCell (World.setCell (World.setCell w ⟨g, 0, none⟩ (.int .u32 (q.a : Int))) ⟨g, 1, none⟩ (.int .u32 (q.b : Int))) ⟨g, 2, none⟩ (.int .u32 (q.c : Int))) ⟨g, 3, none⟩ (.int .u32 (q.d : Int))) m cs t :=
  (((h.other _ _ hn).other _ _ hn).other _ _ hn).other _ _ hn
theorem set4_pl {w : World} {g : Nat} (h : Pl w) (hn : 0 ≠ g) (q : Q4) : Pl (World.setCell (World.setCell (World.setCell (World.setCell w ⟨g, 0, none⟩ (.int .u32 (q.a : Int))) ⟨g, 1, none⟩ (.int .u32 (q.b : Int))) ⟨g, 2, none⟩ (.int .u32 (q.c : Int))) ⟨g, 3, none⟩ (.int .u32 (q.d : Int))) :=
  (((h.set _ _ hn).set _ _ hn).set _ _ hn).set _ _ hn
theorem set4_below {a w : World} {B g : Nat} (h : Below B a w) (hg : B ≤ g) (q : Q4) : Below B a (World.setCell (World.setCell (World.setCell (World.setCell w ⟨g, 0, none⟩ (.int .u32 (q.a : Int))) ⟨g, 1, none⟩ (.int .u32 (q.b : Int))) ⟨g, 2, none⟩ (.int .u32 (q.c : Int))) ⟨g, 3, none⟩ (.int .u32 (q.d : Int))) :=
  (((h.setCell hg _).setCell hg _).setCell hg _).setCell hg _
theorem zeros4_next {w w3 : World} (hb : Below (World.drew (w.alloc (.cells #[.int .u32 0, .int .u32 0, .int .u32 0, .int .u32 0] 115))).heap.size (World.drew (w.alloc (.cells #[.int .u32 0, .int .u32 0, .int .u32 0, .int .u32 0] 115))) w3) : Arr w3 w.heap.size zero4 115 :=
  ((Arr.new w zero4 115).drew).next hb
/-- The memory between a round's halves: four stirred numbers lie in a block of their own. -/
def StirCut (s s1 s2 : Nat) (x Y : List Nat) (w : World) (g5 : Nat) (PR : Array Value) (q : Q4) (s6 : Value) (wx : World) : Prop :=
  ∃ g, s6 = .pointer (some ⟨g, 0, none⟩) ∧ g ≠ s2 ∧ Arr wx g q.cells 115 ∧ Arr wx g5 PR 113 ∧ RelC s s1 s2 x Y w wx
theorem stir_a {s s1 s2 : Nat} {x Y : List Nat} {w wa w3 : World} {g5 : Nat} {PR : Array Value} (h : RelC s s1 s2 x Y w wa) (h5 : Arr wa g5 PR 113) (hb : Below wa.drew.heap.size wa.drew w3) (A B C D : Nat) :
    StirCut s s1 s2 x Y w g5 PR ⟨A, B, C, D⟩ (.pointer (some ⟨w3.heap.size, 0, none⟩)) (w3.alloc (.cells #[.int .u32 (A : Int), .int .u32 (B : Int), .int .u32 (C : Int), .int .u32 (D : Int)] 115)) :=
  ⟨w3.heap.size, rfl, (by have := (h.drew.next hb).2.2.1.lt; omega), Arr.new w3 (Q4.cells ⟨A, B, C, D⟩) _, (h5.drew.next hb).alloc _, (h.drew.next hb).alloc _⟩
theorem stir_b {s s1 s2 : Nat} {x Y : List Nat} {w wa w3 : World} {g5 : Nat} {PR : Array Value} (h : RelC s s1 s2 x Y w wa) (h5 : Arr wa g5 PR 113) (hb : Below (World.drew (wa.alloc (.cells #[.int .u32 0, .int .u32 0, .int .u32 0, .int .u32 0] 115))).heap.size (World.drew (wa.alloc (.cells #[.int .u32 0, .int .u32 0, .int .u32 0, .int .u32 0] 115))) w3) (A B C D : Nat) :
    StirCut s s1 s2 x Y w g5 PR ⟨A, B, C, D⟩ (.pointer (some ⟨wa.heap.size, 0, none⟩)) (World.setCell (World.setCell (World.setCell (World.setCell w3 ⟨wa.heap.size, 0, none⟩ (.int .u32 (A : Int))) ⟨wa.heap.size, 1, none⟩ (.int .u32 (B : Int))) ⟨wa.heap.size, 2, none⟩ (.int .u32 (C : Int))) ⟨wa.heap.size, 3, none⟩ (.int .u32 (D : Int))) := by
  have h3 : RelC s s1 s2 x Y w w3 := ((h.alloc _).drew).next hb
  have l5 := h5.lt
  obtain ⟨a1, a2, a3, a4, a5, a6, a7, a8⟩ := h
  obtain ⟨b1, b2, b3, b4, b5, _⟩ := h3
  have l1 := a1.lt
  have l2 := a2.lt
  have l3 := a3.lt
  have l4 := a4.lt
  exact ⟨wa.heap.size, rfl, by omega, set4 (zeros4_next hb) ⟨A, B, C, D⟩, set4_other (((h5.alloc _).drew).next hb) (by omega) ⟨A, B, C, D⟩,
    set4_other b1 (by omega) ⟨A, B, C, D⟩, set4_other b2 (by omega) ⟨A, B, C, D⟩, set4_other b3 (by omega) ⟨A, B, C, D⟩, set4_pl b4 (by omega) ⟨A, B, C, D⟩, set4_below b5 (Nat.le_of_lt l1) ⟨A, B, C, D⟩, a6, a7, a8⟩
/-- Two blocks: a row of places, the numbers. -/
def Two (g5 s2 : Nat) (PR : Array Value) (Y : List Nat) (w : World) : Prop := Arr w g5 PR 113 ∧ Arr w s2 (row16 Y) 91
theorem Two.drew {g5 s2 : Nat} {PR : Array Value} {Y : List Nat} {w : World} (h : Two g5 s2 PR Y w) : Two g5 s2 PR Y w.drew := ⟨h.1.drew, h.2.drew⟩
theorem Two.alloc {g5 s2 : Nat} {PR : Array Value} {Y : List Nat} {w : World} (h : Two g5 s2 PR Y w) (o : Obj) : Two g5 s2 PR Y (w.alloc o) := ⟨h.1.alloc _, h.2.alloc _⟩
theorem Two.next {g5 s2 : Nat} {PR : Array Value} {Y : List Nat} {w w' : World} (h : Two g5 s2 PR Y w) (hb : Below w.heap.size w w') : Two g5 s2 PR Y w' := ⟨h.1.next hb, h.2.next hb⟩
theorem Two.set4 {g5 s2 g : Nat} {PR : Array Value} {Y : List Nat} {w : World} (h : Two g5 s2 PR Y w) (h1 : g5 ≠ g) (h2 : s2 ≠ g) (q : Q4) : Two g5 s2 PR Y (World.setCell (World.setCell (World.setCell (World.setCell w ⟨g, 0, none⟩ (.int .u32 (q.a : Int))) ⟨g, 1, none⟩ (.int .u32 (q.b : Int))) ⟨g, 2, none⟩ (.int .u32 (q.c : Int))) ⟨g, 3, none⟩ (.int .u32 (q.d : Int))) :=
  ⟨set4_other h.1 h1 q, set4_other h.2 h2 q⟩
theorem Two.held {g5 s2 p0 p1 p2 p3 : Nat} {A B C D : Nat} {Y : List Nat} {w : World} (h : Two g5 s2 #[.int .i64 (p0 : Int), .int .i64 (p1 : Int), .int .i64 (p2 : Int), .int .i64 (p3 : Int)] Y w)
    (hy : (row16 Y)[p0]? = some (.int .u32 (A : Int)) ∧ (row16 Y)[p1]? = some (.int .u32 (B : Int)) ∧ (row16 Y)[p2]? = some (.int .u32 (C : Int)) ∧ (row16 Y)[p3]? = some (.int .u32 (D : Int))) :
    w.cell? ⟨g5, 0, none⟩ = some (.int .i64 (p0 : Int)) ∧ w.cell? ⟨g5, 1, none⟩ = some (.int .i64 (p1 : Int)) ∧ w.cell? ⟨g5, 2, none⟩ = some (.int .i64 (p2 : Int)) ∧ w.cell? ⟨g5, 3, none⟩ = some (.int .i64 (p3 : Int)) ∧
    w.cell? ⟨s2, p0, none⟩ = some (.int .u32 (A : Int)) ∧ w.cell? ⟨s2, p1, none⟩ = some (.int .u32 (B : Int)) ∧ w.cell? ⟨s2, p2, none⟩ = some (.int .u32 (C : Int)) ∧ w.cell? ⟨s2, p3, none⟩ = some (.int .u32 (D : Int)) :=
  ⟨h.1.cell (j := 0) rfl, h.1.cell (j := 1) rfl, h.1.cell (j := 2) rfl, h.1.cell (j := 3) rfl, h.2.cell hy.1, h.2.cell hy.2.1, h.2.cell hy.2.2.1, h.2.cell hy.2.2.2⟩
/-- Two blocks: a row of places, four numbers. -/
def Four (g5 g6 : Nat) (PR QR : Array Value) (w : World) : Prop := Arr w g5 PR 113 ∧ Arr w g6 QR 115
theorem Four.drew {g5 g6 : Nat} {PR QR : Array Value} {w : World} (h : Four g5 g6 PR QR w) : Four g5 g6 PR QR w.drew := ⟨h.1.drew, h.2.drew⟩
theorem Four.set {g5 g6 g : Nat} {PR QR : Array Value} {w : World} (h : Four g5 g6 PR QR w) (h1 : g5 ≠ g) (h2 : g6 ≠ g) (i : Nat) (v : Value) : Four g5 g6 PR QR (w.setCell ⟨g, i, none⟩ v) := ⟨h.1.other _ _ h1, h.2.other _ _ h2⟩
theorem Four.held {g5 g6 p0 p1 p2 p3 A B C D : Nat} {w : World} (h : Four g5 g6 #[.int .i64 (p0 : Int), .int .i64 (p1 : Int), .int .i64 (p2 : Int), .int .i64 (p3 : Int)] #[.int .u32 (A : Int), .int .u32 (B : Int), .int .u32 (C : Int), .int .u32 (D : Int)] w) :
    w.cell? ⟨g5, 0, none⟩ = some (.int .i64 (p0 : Int)) ∧ w.cell? ⟨g5, 1, none⟩ = some (.int .i64 (p1 : Int)) ∧ w.cell? ⟨g5, 2, none⟩ = some (.int .i64 (p2 : Int)) ∧ w.cell? ⟨g5, 3, none⟩ = some (.int .i64 (p3 : Int)) ∧
    w.cell? ⟨g6, 0, none⟩ = some (.int .u32 (A : Int)) ∧ w.cell? ⟨g6, 1, none⟩ = some (.int .u32 (B : Int)) ∧ w.cell? ⟨g6, 2, none⟩ = some (.int .u32 (C : Int)) ∧ w.cell? ⟨g6, 3, none⟩ = some (.int .u32 (D : Int)) :=
  ⟨h.1.cell (j := 0) rfl, h.1.cell (j := 1) rfl, h.1.cell (j := 2) rfl, h.1.cell (j := 3) rfl, h.2.cell (j := 0) rfl, h.2.cell (j := 1) rfl, h.2.cell (j := 2) rfl, h.2.cell (j := 3) rfl⟩

set_option maxHeartbeats 1000000 in
set_option maxRecDepth 100000 in
theorem stirred_any (x : List Nat) (hx : All32 x) (w : World) (hp : Pl w) :
    Calls Tryd.prog 46 #[.agg (row16 x)] w fun e w' => e = .returned (.agg (row16 (endL x))) ∧ Below w.heap.size w w' := by
  have HX := Lib.hid hx
  have HZ := Lib.hid (row16_size hx.1)
  have HO := Lib.hid (row16_one x)
  have HS0 := Lib.hid hp.lt
  obtain ⟨R, hR⟩ : ∃ R, R = row16 x := ⟨_, rfl⟩
  have HRd := Lib.hid hR
  have hZ0 : (#[.int .u32 0, .int .u32 0, .int .u32 0, .int .u32 0, .int .u32 0, .int .u32 0, .int .u32 0, .int .u32 0, .int .u32 0, .int .u32 0, .int .u32 0, .int .u32 0, .int .u32 0, .int .u32 0, .int .u32 0, .int .u32 0] : Array Value) = row16 (List.replicate 16 0) := rfl
  have hrel0 : ∀ zz, zz = row16 (List.replicate 16 0) → RelC w.heap.size (w.heap.size + 1) (w.heap.size + 1 + 1) x x w (((w.alloc (.cells (row16 x) 91)).alloc (.cells zz 91)).alloc (.cells (row16 x) 91)) := by
    rintro zz rfl
    refine ⟨((Arr.new w _ _).alloc _).alloc _, (Arr.newAt (w.alloc _) _ _ (by simp)).alloc _, Arr.newAt ((w.alloc _).alloc _) _ _ (by simp), ((hp.alloc _).alloc _).alloc _, (((Below.refl _ _).alloc (Nat.le_refl _) _).alloc (by simp) _).alloc (by simp; omega) _, by omega, by omega, hp.lt⟩
  have HRel0 := Lib.hid (hrel0 _ hZ0)
  obtain ⟨PV, hPV⟩ : ∃ PV, PV = plV.toArray := ⟨_, rfl⟩
  have HPV := Lib.hid hPV
  have HIX := Lib.hid index_pl
  rw [← hPV] at HIX
  clear hPV
  rw [← hR] at HZ HO HRel0 ⊢
  obtain ⟨Z, hZ⟩ : ∃ Z, Z = row16 (endL x) := ⟨_, rfl⟩
  rw [← hZ]
  have HE : Hid (∀ k, k = 10 → row16 (sumL (rdN x k) x) = Z) := fun k hk => by rw [hZ, hk]; rfl
  clear hZ
  have HA0 := Lib.hid ((Arr.new w R 91).alloc (.cells #[.int .u32 0, .int .u32 0, .int .u32 0, .int .u32 0, .int .u32 0, .int .u32 0, .int .u32 0, .int .u32 0, .int .u32 0, .int .u32 0, .int .u32 0, .int .u32 0, .int .u32 0, .int .u32 0, .int .u32 0, .int .u32 0] 91))
  clear hx hp hR hrel0 hZ0
  go_enter Tryd.func46, Tryd.ntmps46
  go_wp2_with (first
    | (with_reducible refine wpList_load_n16 rfl _ rfl w.heap.size rfl _ HZ.out HA0.out ?_)
    | (with_reducible refine wpList_store_n16_new rfl _ _ rfl _ (by simp) _ rfl (by simp) _ rfl HZ.out HO.out ?_))
  clear HA0
  generalize w.heap.size + 1 + 1 = s2 at *
  generalize w.heap.size + 1 = s1 at *
  go_loopw [9] (fun i wr => ∃ k : Nat, k ≤ 10 ∧ i = .int .i64 (k : Int) ∧ RelC w.heap.size s1 s2 x (rdN x k) w wr) (fun i _ => 10 - (intOf i).toNat)
  case atStart => exact ⟨0, by omega, rfl, HRel0.out⟩
  case round =>
    clear HRel0
    obtain ⟨k, hk, rfl, hrel⟩ := hrel
    by_cases hlt : k < 10
    · have HY := Lib.hid (rdN_32 HX.out k)
      have HRel := Lib.hid hrel
      have HP := Lib.hid hrel.2.2.2.1
      clear hrel
      go_wp2_with (with_reducible refine wpList_load_pl rfl rfl HP.out _ HPV.out ?_)
      clear HP
      go_loopw [12] (fun j wr => ∃ m : Nat, m ≤ 8 ∧ j = .int .i64 (m : Int) ∧ RelC w.heap.size s1 s2 x (st8 (rdN x k) m) w wr) (fun j _ => 8 - (intOf j).toNat)
      case atStart => exact ⟨0, by omega, rfl, HRel.out⟩
      case round =>
        clear HRel
        obtain ⟨m, hm, rfl, hrel⟩ := hrel
        by_cases hmt : m < 8
        · have hY := st8_32 HY.out m
          have hst : st8 (rdN x k) (m + 1) = stirAt (st8 (rdN x k) m) (plN (4 * m)) (plN (4 * m + 1)) (plN (4 * m + 2)) (plN (4 * m + 3)) := rfl
          have hix := HIX.out m hmt
          obtain ⟨d01, d02, d03, d12, d13, d23⟩ := plN_ne m hmt
          have b0 := plN_lt (4 * m)
          have b1 := plN_lt (4 * m + 1)
          have b2 := plN_lt (4 * m + 2)
          have b3 := plN_lt (4 * m + 3)
          unfold plRow at hix
          rw [stirAt, putQ] at hst
          generalize st8 (rdN x k) m = Y at *
          generalize plN (4 * m) = p0 at *
          generalize plN (4 * m + 1) = p1 at *
          generalize plN (4 * m + 2) = p2 at *
          generalize plN (4 * m + 3) = p3 at *
          have HS := Lib.hid (stir_any (getQ Y p0 p1 p2 p3) (getQ_ok hY p0 p1 p2 p3))
          have hy0 := row16_get (x := Y) (k := p0) (by rw [hY.1]; exact b0)
          have hy1 := row16_get (x := Y) (k := p1) (by rw [hY.1]; exact b1)
          have hy2 := row16_get (x := Y) (k := p2) (by rw [hY.1]; exact b2)
          have hy3 := row16_get (x := Y) (k := p3) (by rw [hY.1]; exact b3)
          obtain ⟨q, hq⟩ : ∃ q, q = stirQ (getQ Y p0 p1 p2 p3) := ⟨_, rfl⟩
          rw [← hq] at hst HS
          clear hq
          obtain ⟨A2, B2, C2, D2⟩ := q
          simp only at hst
          have HST := Lib.hid hst
          unfold getQ at HS
          have Hy := Lib.hid (And.intro hy0 (And.intro hy1 (And.intro hy2 hy3)))
          clear hst hy0 hy1 hy2 hy3 hY
          generalize Y.getD p0 0 = A at *
          generalize Y.getD p1 0 = B at *
          generalize Y.getD p2 0 = C at *
          generalize Y.getD p3 0 = D at *
          have HRel := Lib.hid hrel
          clear hrel
          unfold Q4.cells at HS
          simp only at HS
          go_wp2_with (first
            | (with_reducible refine wpList_store_i4_new rfl _ _ rfl _ (by simp) _ rfl rfl _ rfl (by simp) (by simp [Value.oneCell']) ?_))
          have hP5 := Arr.new wr #[.int .i64 (p0 : Int), .int .i64 (p1 : Int), .int .i64 (p2 : Int), .int .i64 (p3 : Int)] 113
          have hrel := HRel.out.alloc (.cells #[.int .i64 (p0 : Int), .int .i64 (p1 : Int), .int .i64 (p2 : Int), .int .i64 (p3 : Int)] 113)
          obtain ⟨g5, hg5⟩ : ∃ g5, g5 = wr.heap.size := ⟨_, rfl⟩
          rw [← hg5] at hP5 ⊢
          have hg5n : g5 ≠ s2 := by have := HRel.out.2.2.1.lt; omega
          obtain ⟨wa, hwa⟩ : ∃ wa, wa = wr.alloc (.cells #[.int .i64 (p0 : Int), .int .i64 (p1 : Int), .int .i64 (p2 : Int), .int .i64 (p3 : Int)] 113) := ⟨_, rfl⟩
          rw [← hwa] at hP5 hrel ⊢
          clear hg5 hwa HRel
          have c0 : wa.cell? ⟨g5, 0, none⟩ = some (.int .i64 (p0 : Int)) := hP5.cell (j := 0) rfl
          have c1 : wa.cell? ⟨g5, 1, none⟩ = some (.int .i64 (p1 : Int)) := hP5.cell (j := 1) rfl
          have c2 : wa.cell? ⟨g5, 2, none⟩ = some (.int .i64 (p2 : Int)) := hP5.cell (j := 2) rfl
          have c3 : wa.cell? ⟨g5, 3, none⟩ = some (.int .i64 (p3 : Int)) := hP5.cell (j := 3) rfl
          have y0 := hrel.2.2.1.cell Hy.out.1
          have y1 := hrel.2.2.1.cell Hy.out.2.1
          have y2 := hrel.2.2.1.cell Hy.out.2.2.1
          have y3 := hrel.2.2.1.cell Hy.out.2.2.2
          have hl2 := hrel.2.2.1.lt
          have hl5 := hP5.lt
          have HT2 : Hid (Two g5 s2 #[.int .i64 (p0 : Int), .int .i64 (p1 : Int), .int .i64 (p2 : Int), .int .i64 (p3 : Int)] Y wa) := ⟨hP5, hrel.2.2.1⟩
          have i0 : (0 : Int) ≤ (p0 : Int) := by omega
          have i1 : (0 : Int) ≤ (p1 : Int) := by omega
          have i2 : (0 : Int) ≤ (p2 : Int) := by omega
          have i3 : (0 : Int) ≤ (p3 : Int) := by omega
          have j0 : (p0 : Int) < 16 := by omega
          have j1 : (p1 : Int) < 16 := by omega
          have j2 : (p2 : Int) < 16 := by omega
          have j3 : (p3 : Int) < 16 := by omega
          have HRel := Lib.hid hrel
          have HP5 := Lib.hid hP5
          have HD := Lib.hid (And.intro d01 (And.intro d02 (And.intro d03 (And.intro d12 (And.intro d13 d23)))))
          clear hrel hP5 d01 d02 d03 d12 d13 d23
          simp only [Act.put]
          go_cut [6] (fun s6 wx => StirCut w.heap.size s1 s2 x Y w g5 #[.int .i64 (p0 : Int), .int .i64 (p1 : Int), .int .i64 (p2 : Int), .int .i64 (p3 : Int)] ⟨A2, B2, C2, D2⟩ s6 wx)
          case first =>
            go_region_held3 (fun w' => w'.cell? ⟨g5, 0, none⟩ = some (.int .i64 (p0 : Int)) ∧ w'.cell? ⟨g5, 1, none⟩ = some (.int .i64 (p1 : Int)) ∧ w'.cell? ⟨g5, 2, none⟩ = some (.int .i64 (p2 : Int)) ∧ w'.cell? ⟨g5, 3, none⟩ = some (.int .i64 (p3 : Int)) ∧ w'.cell? ⟨s2, p0, none⟩ = some (.int .u32 (A : Int)) ∧ w'.cell? ⟨s2, p1, none⟩ = some (.int .u32 (B : Int)) ∧ w'.cell? ⟨s2, p2, none⟩ = some (.int .u32 (C : Int)) ∧ w'.cell? ⟨s2, p3, none⟩ = some (.int .u32 (D : Int)))
              (first
                | with_reducible exact HT2.out.drew.held Hy.out
                | with_reducible exact (HT2.out.drew.alloc (.cells #[.int .u32 0, .int .u32 0, .int .u32 0, .int .u32 0] 115)).held Hy.out
                | with_reducible exact ((HT2.out.alloc (.cells #[.int .u32 0, .int .u32 0, .int .u32 0, .int .u32 0] 115)).drew).held Hy.out
                | with_reducible exact HT3.out.held Hy.out
                | with_reducible exact (HT3.out.alloc (.cells #[.int .u32 0, .int .u32 0, .int .u32 0, .int .u32 0] 115)).held Hy.out
                | with_reducible exact (HT3.out.alloc (.cells #[.int .u32 (A2 : Int), .int .u32 (B2 : Int), .int .u32 (C2 : Int), .int .u32 (D2 : Int)] 115)).held Hy.out
                | with_reducible exact (HT3.out.set4 (Nat.ne_of_lt hl5) (Nat.ne_of_lt hl2) ⟨A2, B2, C2, D2⟩).held Hy.out)
              (first
                | (go_at_call 63; (with_reducible refine (HS.out (World.drew wa)).mono ?_); rintro e w3 ⟨rfl, hb⟩; have HT3 := Lib.hid (HT2.out.drew.next hb))
                | (go_at_call 63; (with_reducible refine (HS.out (World.drew (wa.alloc (.cells #[.int .u32 0, .int .u32 0, .int .u32 0, .int .u32 0] 115)))).mono ?_); rintro e w3 ⟨rfl, hb⟩; have HT3 := Lib.hid (((HT2.out.alloc (.cells #[.int .u32 0, .int .u32 0, .int .u32 0, .int .u32 0] 115)).drew).next hb); have hz := zeros4_next hb; have n0 : w3.cell? ⟨wa.heap.size, 0, none⟩ = some (.int .u32 0) := hz.cell (j := 0) rfl; have n1 : w3.cell? ⟨wa.heap.size, 1, none⟩ = some (.int .u32 0) := hz.cell (j := 1) rfl; have n2 : w3.cell? ⟨wa.heap.size, 2, none⟩ = some (.int .u32 0) := hz.cell (j := 2) rfl; have n3 : w3.cell? ⟨wa.heap.size, 3, none⟩ = some (.int .u32 0) := hz.cell (j := 3) rfl; have nf := hz.frozen))
            all_goals
              go_wp2_with fail
              go_meet
              first
                | with_reducible exact stir_a HRel.out HP5.out hb A2 B2 C2 D2
                | with_reducible exact stir_b HRel.out HP5.out hb A2 B2 C2 D2
          case rest =>
          obtain ⟨g6, rfl, hg6n, hg6, hg5, hrel⟩ := hcut
          have HF : Hid (Four g5 g6 #[.int .i64 (p0 : Int), .int .i64 (p1 : Int), .int .i64 (p2 : Int), .int .i64 (p3 : Int)] #[.int .u32 (A2 : Int), .int .u32 (B2 : Int), .int .u32 (C2 : Int), .int .u32 (D2 : Int)] wc) := ⟨hg5, hg6⟩
          have y0 := hrel.2.2.1.cell Hy.out.1
          have y1 := hrel.2.2.1.cell Hy.out.2.1
          have y2 := hrel.2.2.1.cell Hy.out.2.2.1
          have y3 := hrel.2.2.1.cell Hy.out.2.2.2
          have f0 := hrel.2.2.1.frozen p0
          have f1 := hrel.2.2.1.frozen p1
          have f2 := hrel.2.2.1.frozen p2
          have f3 := hrel.2.2.1.frozen p3
          obtain ⟨d01, d02, d03, d12, d13, d23⟩ := HD.out
          have HR2 := Lib.hid hrel
          clear hrel hg5 hg6 HT2 HRel HP5
          go_wp2
          go_region_held3 (fun w' => w'.cell? ⟨g5, 0, none⟩ = some (.int .i64 (p0 : Int)) ∧ w'.cell? ⟨g5, 1, none⟩ = some (.int .i64 (p1 : Int)) ∧ w'.cell? ⟨g5, 2, none⟩ = some (.int .i64 (p2 : Int)) ∧ w'.cell? ⟨g5, 3, none⟩ = some (.int .i64 (p3 : Int)) ∧ w'.cell? ⟨g6, 0, none⟩ = some (.int .u32 (A2 : Int)) ∧ w'.cell? ⟨g6, 1, none⟩ = some (.int .u32 (B2 : Int)) ∧ w'.cell? ⟨g6, 2, none⟩ = some (.int .u32 (C2 : Int)) ∧ w'.cell? ⟨g6, 3, none⟩ = some (.int .u32 (D2 : Int)))
            (first
              | with_reducible exact HF.out.drew.held
              | with_reducible exact (HF.out.set hg5n hg6n _ _).drew.held
              | with_reducible exact ((HF.out.set hg5n hg6n _ _).set hg5n hg6n _ _).drew.held
              | with_reducible exact (((HF.out.set hg5n hg6n _ _).set hg5n hg6n _ _).set hg5n hg6n _ _).drew.held
              | with_reducible exact ((((HF.out.set hg5n hg6n _ _).set hg5n hg6n _ _).set hg5n hg6n _ _).set hg5n hg6n _ _).drew.held)
            (fail)
          go_wp2
          go_roundw
          case rel => exact ⟨m + 1, hmt, by go_num, by rw [HST.out]; exact ((((HR2.out.set p0 A2).set p1 B2).set p2 C2).set p3 D2).drew⟩
          case measure => simp [intOf]; omega
        · obtain rfl : m = 8 := by omega
          have HRel := Lib.hid hrel
          clear hrel
          go_wp2
          go_roundw
          case rel => exact ⟨k + 1, hlt, by go_num, by rw [rdN]; exact HRel.out⟩
          case measure => simp [intOf]; omega
    · obtain rfl : k = 10 := by omega
      have HRel := Lib.hid hrel
      clear hrel
      have HY := Lib.hid (rdN_32 HX.out 10)
      have HE2 : Hid (∀ j, j = 16 → row16 (sumK (rdN x 10) x j) = Z) := fun j hj => by rw [hj, sumK_full HY.out.1 HX.out.1]; exact HE.out 10 rfl
      have H0 : Hid (RelC w.heap.size s1 s2 x (sumK (rdN x 10) x 0) w wr) := by rw [sumK_zero]; exact HRel.out
      clear HE HRel
      generalize rdN x 10 = Y at *
      go_wp2
      go_loopw [55] (fun i wr => ∃ j : Nat, j ≤ 16 ∧ i = .int .i64 (j : Int) ∧ RelC w.heap.size s1 s2 x (sumK Y x j) w wr) (fun i _ => 16 - (intOf i).toNat)
      case atStart => exact ⟨0, by omega, rfl, H0.out⟩
      case round =>
        clear H0
        obtain ⟨j, hj, rfl, hrel⟩ := hrel
        by_cases hjt : j < 16
        · have cy := hrel.2.2.1.cell (v := .int .u32 ((Y.getD j 0 : Nat) : Int)) (j := j) (by rw [row16_get (by rw [sumK_len HY.out.1 HX.out.1 hj]; exact hjt), List.getD_eq_getElem?_getD, sumK_at HY.out.1 HX.out.1 hjt]; rfl)
          have cx := hrel.1.cell (j := j) (row16_get (x := x) (by rw [HX.out.1]; exact hjt))
          have hf := hrel.2.2.1.frozen j
          have hss := sum2 (Y.getD j 0) (x.getD j 0)
          have hset := hrel.set j ((Y.getD j 0 + x.getD j 0) % 4294967296)
          rw [sumK_set HY.out.1 HX.out.1 hjt] at hset
          have HSet := Lib.hid hset
          clear hset hrel
          generalize (Y.getD j 0 + x.getD j 0) % 4294967296 = SM at *
          generalize Y.getD j 0 = YJ at *
          generalize x.getD j 0 = XJ at *
          go_wp2
          go_region
          go_wp2
          go_roundw
          case rel => exact ⟨j + 1, hjt, by go_num, HSet.out.drew⟩
          case measure => simp [intOf]; omega
        · obtain rfl : j = 16 := by omega
          have hA := hrel.2.2.1
          have hZs : Z.size = 16 := by rw [← HE2.out 16 rfl]; exact row16_size (sumK_len HY.out.1 HX.out.1 (Nat.le_refl _))
          have hZo : Z.all (·.oneCell') = true := by rw [← HE2.out 16 rfl]; exact row16_one _
          rw [HE2.out 16 rfl] at hA
          have HA := Lib.hid hA
          have HA1 := Lib.hid hrel.2.1
          have HB := Lib.hid (And.intro hrel.2.2.2.2.1 hrel.2.2.2.2.2.1)
          have HZs := Lib.hid hZs
          have HZo := Lib.hid hZo
          have HZ0 := Lib.hid (row16_size (x := List.replicate 16 0) rfl)
          clear hA hrel hZs hZo HE2 HY HX HIX HPV HRd
          generalize row16 (List.replicate 16 0) = Z0 at *
          go_wp2_with (first
            | (with_reducible refine wpList_load_n16 rfl _ rfl s2 rfl _ HZs.out HA.out ?_)
            | (with_reducible refine wpList_store_n16 rfl _ _ rfl s1 rfl _ rfl HZs.out HZo.out _ HZ0.out HA1.out ?_))
          exact ret_n16 Tryd.results46 s1 _ HZs.out rfl (HA1.out.row _) rfl ⟨rfl, below_setRow HB.out.1 (Nat.le_of_lt HB.out.2) _⟩
end Go.Proofs.YtfflpooiebeagaaDoor
namespace Go.Proofs.YtfflpooiebeagaaDoor
open Go.RowKit

/-- Numbers, and as many 0 as lack. -/
def padN (l : List Nat) : List Nat := l ++ List.replicate (16 - l.length) 0
theorem padN_full (l : List Nat) (h : l.length = 16) : padN l = l := by simp [padN, h]
theorem padN_set (l : List Nat) (x : Nat) (h : l.length < 16) : (padN l).set l.length x = padN (l ++ [x]) := by
  obtain ⟨m, hm⟩ : ∃ m, 16 - l.length = m + 1 := ⟨15 - l.length, by omega⟩
  have hm2 : 16 - (l ++ [x]).length = m := by rw [List.length_append]; simp; omega
  rw [padN, padN, hm, hm2, List.set_append_right _ _ (Nat.le_refl _), Nat.sub_self, List.replicate_succ]
  simp
theorem padN_at (l : List Nat) (h : l.length < 16) : (row16 (padN l))[l.length]? = some (.int .u32 0) := by
  have hl : (padN l).length = 16 := by simp [padN]; omega
  rw [row16_get (by omega), List.getD_eq_getElem?_getD, padN, List.getElem?_append_right (Nat.le_refl _), Nat.sub_self, List.getElem?_replicate, if_pos (by omega)]
  rfl
theorem row16_pad0 : row16 (padN []) = #[.int .u32 0, .int .u32 0, .int .u32 0, .int .u32 0, .int .u32 0, .int .u32 0, .int .u32 0, .int .u32 0, .int .u32 0, .int .u32 0, .int .u32 0, .int .u32 0, .int .u32 0, .int .u32 0, .int .u32 0, .int .u32 0] := rfl

theorem wrapN64 (x : Nat) (hx : x < 4294967296) : IntKind.u64.wrap (x : Int) = (x : Int) := by rw [IntKind.wrap_u64]; omega
theorem low4_any (x : Nat) (hx : x < 4294967296) (w : World) :
    Calls Tryd.prog 56 #[.int .u64 x, .int .i64 4] w fun e w' => e = .returned (.string ⟨(lowL x 4).toArray⟩) ∧ Below w.heap.size w w' := low_any x (by omega) 4 w
theorem fromLow_part (s : ByteArray) (hs : s.size = 64) (k : Nat) (hk : k < 16) (w : World) :
    Calls Tryd.prog 64 #[.string (s.extract (4 * k) (4 * (k + 1)))] w fun e w' => e = .returned (.tuple #[.int .u64 (num4 s.data.toList k : Nat), .int .i64 0]) ∧ w = w' := by
  have h := fromLow_any (s.extract (4 * k) (4 * (k + 1))) w
  have hz : (s.extract (4 * k) (4 * (k + 1))).size = 4 := by rw [ext_size _ _ _ (by omega)]; omega
  rw [hz, ext_toList, show 4 * (k + 1) - 4 * k = 4 from by omega] at h
  exact h

set_option maxHeartbeats 1000000 in
set_option maxRecDepth 100000 in
theorem begin_any (key nonce : ByteArray) (hk : key.size = 32) (hn : nonce.size = 12) (c : Nat) (hc : c < 4294967296) (w : World) :
    Calls Tryd.prog 47 #[.string key, .int .u32 (c : Int), .string nonce] w fun e w' => e = .returned (.agg (row16 (firstL key.data.toList c nonce.data.toList))) ∧ Below w.heap.size w w' := by
  have hlow := low4_any c hc
  obtain ⟨L, hL⟩ : ∃ L : ByteArray, L = ⟨(lowL c 4).toArray⟩ := ⟨_, rfl⟩
  have hLs : L.size = 4 := by rw [hL]; show (lowL c 4).toArray.size = 4; rw [List.size_toArray, lowL_len]
  have hLl : L.data.toList = lowL c 4 := by rw [hL]
  rw [← hL] at hlow
  have HLow := Lib.hid hlow
  have hr1 : ∀ w : World, (Op.stringOp .add ⟨#[101, 120, 112, 97, 110, 100, 32, 51, 50, 45, 98, 121, 116, 101, 32, 107]⟩ key).run Tryd.prog w = .ok (.string (⟨#[101, 120, 112, 97, 110, 100, 32, 51, 50, 45, 98, 121, 116, 101, 32, 107]⟩ ++ key)) w := fun w => cat_run _ key (by rw [hk]; decide) w
  obtain ⟨T1, hT1⟩ : ∃ T1 : ByteArray, T1 = ⟨#[101, 120, 112, 97, 110, 100, 32, 51, 50, 45, 98, 121, 116, 101, 32, 107]⟩ ++ key := ⟨_, rfl⟩
  have hT1s : T1.size = 48 := by rw [hT1, ByteArray.size_append, hk]; rfl
  have hT1l : T1.data.toList = headB ++ key.data.toList := by rw [hT1]; simp [headB]
  rw [← hT1] at hr1
  have hr2 : ∀ w : World, (Op.stringOp .add T1 L).run Tryd.prog w = .ok (.string (T1 ++ L)) w := fun w => cat_run T1 L (by omega) w
  obtain ⟨T2, hT2⟩ : ∃ T2, T2 = T1 ++ L := ⟨_, rfl⟩
  have hT2s : T2.size = 52 := by rw [hT2, ByteArray.size_append]; omega
  have hT2l : T2.data.toList = headB ++ key.data.toList ++ lowL c 4 := by rw [hT2, ← hT1l, ← hLl]; simp
  rw [← hT2] at hr2
  have hr3 : ∀ w : World, (Op.stringOp .add T2 nonce).run Tryd.prog w = .ok (.string (T2 ++ nonce)) w := fun w => cat_run T2 nonce (by omega) w
  obtain ⟨T, hT⟩ : ∃ T, T = T2 ++ nonce := ⟨_, rfl⟩
  have hTs : T.size = 64 := by rw [hT, ByteArray.size_append]; omega
  have hTl : T.data.toList = textL key.data.toList c nonce.data.toList := by rw [hT, textL, ← hT2l]; simp
  rw [← hT] at hr3
  have hfl : ∀ n, n = 16 → row16 (numsL T.data.toList n) = row16 (firstL key.data.toList c nonce.data.toList) := fun n h => by rw [h, hTl]; rfl
  obtain ⟨Z, hZ⟩ : ∃ Z, Z = row16 (firstL key.data.toList c nonce.data.toList) := ⟨_, rfl⟩
  rw [← hZ] at hfl ⊢
  have HFL := Lib.hid hfl
  have HTs := Lib.hid hTs
  have hcu := wrapN64 c hc
  have HZ0 := Lib.hid row16_pad0
  have HG := Lib.hid (Nat.le_refl w.heap.size)
  clear hL hLs hLl hlow hT1 hT1s hT1l hT2 hT2s hT2l hT hTl hTs hfl hZ hk hn hc
  go_enter Tryd.func47, Tryd.ntmps47
  go_wp2_with (first
    | (go_at_call 56; (with_reducible refine (HLow.out _).mono ?_); rintro e w1 ⟨rfl, hb⟩))
  rw [← HZ0.out] at hb ⊢
  have HA0 := Lib.hid (((Arr.new w (row16 (padN [])) 91).next hb).alloc (.cells (row16 (padN [])) 91))
  have HA1 := Lib.hid (Arr.new w1 (row16 (padN [])) 91)
  have hsz : w.heap.size < w1.heap.size := by have := hb.size; simp at this; omega
  have HB := Lib.hid ((((Below.refl w.heap.size w).alloc (Nat.le_refl _) (.cells (row16 (padN [])) 91)).trans (hb.mono (by simp))).alloc (Nat.le_of_lt hsz) (.cells (row16 (padN [])) 91))
  obtain ⟨g, hg⟩ : ∃ g, g = w1.heap.size := ⟨_, rfl⟩
  rw [← hg] at hsz HA1 ⊢
  generalize w1.alloc (.cells (row16 (padN [])) 91) = w2 at *
  clear hb hg hcu
  go_loopw [20] (fun i wr => ∃ k : Nat, k ≤ 16 ∧ i = .int .i64 (k : Int) ∧ Arr wr w.heap.size (row16 (padN [])) 91 ∧ Arr wr g (row16 (padN (numsL T.data.toList k))) 91 ∧ Below w.heap.size w wr) (fun i _ => 16 - (intOf i).toNat)
  case atStart => exact ⟨0, by omega, rfl, HA0.out, HA1.out, HB.out⟩
  case round =>
    clear HA0 HA1 HB
    obtain ⟨k, hk, rfl, ha, hr, hbel⟩ := hrel
    by_cases hlt : k < 16
    · have hsl := slice_str T (4 * (k : Int)) (4 * ((k : Int) + 1)) (4 * k) (4 * (k + 1)) (by omega) (by omega) (by omega) (by rw [HTs.out]; omega)
      have HF := Lib.hid (fromLow_part T HTs.out k hlt)
      have hl := numsL_len T.data.toList k
      have hc := hr.cell (by have := padN_at (numsL T.data.toList k) (by omega); rwa [hl] at this)
      have hf := hr.frozen k
      have hr2 := hr.set k (.int .u32 (num4 T.data.toList k : Nat))
      have hs2 := padN_set (numsL T.data.toList k) (num4 T.data.toList k) (by omega)
      rw [hl, ← numsL_succ] at hs2
      rw [row16_set, hs2] at hr2
      have HR := Lib.hid hr2
      have HA := Lib.hid ha
      have hx := num4_lt T.data.toList k
      have HX : Hid ((num4 T.data.toList k : Int) % 4294967296 = (num4 T.data.toList k : Int)) := by show _ = _; omega
      have HBel := Lib.hid hbel
      clear hl hr hs2 hr2 ha hx hbel
      generalize num4 T.data.toList k = x at *
      go_wp2_with (go_at_call 64; ((with_reducible refine (HF.out _).mono ?_); rintro e w' ⟨rfl, rfl⟩))
      go_roundw
      case rel => exact ⟨k + 1, by omega, by go_num, Arr.other HA.out _ _ (by simp only; omega), by rw [HX.out]; exact HR.out, HBel.out.setCell (by simp only; omega) _⟩
      case measure => simp [intOf]; omega
    · obtain rfl : k = 16 := by omega
      have hl := numsL_len T.data.toList 16
      rw [padN_full _ hl, HFL.out 16 rfl] at hr
      have hZs : Z.size = 16 := by rw [← HFL.out 16 rfl]; exact row16_size hl
      have hZo : Z.all (·.oneCell') = true := by rw [← HFL.out 16 rfl]; exact row16_one _
      have HZs := Lib.hid hZs
      have HZo := Lib.hid hZo
      have HR := Lib.hid hr
      have HA := Lib.hid ha
      have HP := Lib.hid (row16_size (x := padN []) rfl)
      have HBel := Lib.hid hbel
      clear hZs hZo hr ha hl hbel HFL HZ0
      generalize row16 (padN []) = Z0 at *
      go_wp2_with (first
        | (with_reducible refine wpList_load_n16 rfl _ rfl g rfl _ HZs.out HR.out ?_)
        | (with_reducible refine wpList_store_n16 rfl _ _ rfl w.heap.size rfl _ rfl HZs.out HZo.out _ HP.out HA.out ?_))
      exact ret_n16 Tryd.results47 w.heap.size _ HZs.out rfl (HA.out.row _) rfl ⟨rfl, below_setRow HBel.out (Nat.le_refl _) _⟩

theorem bstr (l : List UInt8) (A : ByteArray) (h : A = ⟨l.toArray⟩) : A.data.toList = l := by rw [h]
set_option maxHeartbeats 1000000 in
set_option maxRecDepth 100000 in
theorem told16_any (x : List Nat) (hx : All32 x) (w : World) :
    Calls Tryd.prog 45 #[.agg (row16 x)] w fun e w' => e = .returned (.string ⟨(toldL x).toArray⟩) ∧ Below w.heap.size w w' := by
  have HX := Lib.hid hx
  obtain ⟨R, hR⟩ : ∃ R, R = row16 x := ⟨_, rfl⟩
  have HRz : Hid (R.size = 16) := by rw [hR]; exact row16_size hx.1
  have hidx : ∀ k : Nat, k < 16 → ∀ w : World, (Instr.index 91 (.agg R) (.int .i64 (k : Int))).run Tryd.prog w = .ok (.int .u32 ((x.getD k 0 : Nat) : Int)) w := by
    intro k hk w
    have hag : (isAgg 65).run Tryd.prog w = .ok false w := by
      unfold isAgg; rw [Sem.run_bind, run_underlying Tryd.underlying65 w]; rfl
    have hu : Tryd.prog.underlying 91 = some (.array 16 65) := by kernel_rfl
    have hsz : (sizeOf 65).run Tryd.prog w = .ok 1 w := Tryd.sizeOf65 w
    have hc : (0 : Int) ≤ (k : Int) ∧ (k : Int) < ((16 : Nat) : Int) := by omega
    have hg : R[k]? = some (.int .u32 ((x.getD k 0 : Nat) : Int)) := by rw [hR]; exact row16_get (by rw [hx.1]; exact hk)
    simp only [Instr.index, asIntOf, Sem.run_bind, Sem.run_pure, Result.andThen_ok, run_underlying hu, if_pos hc, hsz, part, hag, Int.toNat_natCast, Nat.mul_one, hg]
    rfl
  have HIX := Lib.hid hidx
  have HA0 := Lib.hid ((Arr.new w R 91).alloc (.cells #[.pointer none, .slice none 0 0] 83))
  rw [← hR]
  clear hx hidx hR
  go_enter Tryd.func45, Tryd.ntmps45
  go_wp2_with (first
    | (with_reducible refine wpList_load_n16 rfl _ rfl w.heap.size rfl _ HRz.out HA0.out ?_))
  clear HA0
  have HB0 := Lib.hid (Bld.new (w.alloc (.cells R 91)) w.heap.size (by simp))
  rw [show (w.alloc (.cells R 91)).heap.size = w.heap.size + 1 by simp] at HB0
  have HBel0 := Lib.hid (((Below.refl w.heap.size w).alloc (Nat.le_refl _) (.cells R 91)).alloc (by simp) (.cells #[.pointer none, .slice none 0 0] 83))
  generalize (w.alloc (.cells R 91)).alloc (.cells #[.pointer none, .slice none 0 0] 83) = w2 at *
  generalize w.heap.size + 1 = b at *
  have HT := Lib.hid (fun k => toldL_take x k)
  have HTl := Lib.hid (fun k => toldL_len (x.take k))
  go_loopw [7] (fun i wr => ∃ k : Nat, k ≤ 16 ∧ i = .int .i64 (k : Int) ∧ Bld wr w.heap.size b (toldL (x.take k)) ∧ Below w.heap.size w wr) (fun i _ => 16 - (intOf i).toNat)
  case atStart => exact ⟨0, by omega, rfl, HB0.out, HBel0.out⟩
  case round =>
    clear HB0 HBel0
    obtain ⟨k, hk, rfl, hbl, hbel⟩ := hrel
    by_cases hlt : k < 16
    · have hix := HIX.out k hlt
      have hts := HT.out k (by rw [HX.out.1]; exact hlt)
      have hn := HX.out.2 k
      have hlen := HTl.out k
      rw [List.length_take, HX.out.1] at hlen
      have hlow := low4_any (x.getD k 0) hn
      obtain ⟨L, hL⟩ : ∃ L : ByteArray, L = ⟨(lowL (x.getD k 0) 4).toArray⟩ := ⟨_, rfl⟩
      have hLs : L.size = 4 := by rw [hL]; show (lowL (x.getD k 0) 4).toArray.size = 4; rw [List.size_toArray, lowL_len]
      rw [← bstr _ L hL] at hts
      rw [← hL] at hlow
      have HLow := Lib.hid hlow
      have hnu := wrapN64 _ hn
      have HTs := Lib.hid hts
      have HBl := Lib.hid hbl
      have HBel := Lib.hid hbel
      have HLen := Lib.hid (show (toldL (x.take k)).length + L.size ≤ 140737488355328 by omega)
      clear hlow hts hbl hbel hL hLs hlen hn
      generalize x.getD k 0 = n at *
      generalize toldL (x.take k) = l at *
      go_wp2_with (first
        | (go_at_call 56; (with_reducible refine (HLow.out _).mono ?_); rintro e w3 ⟨rfl, hb3⟩; have HW3 := Lib.hid (writeString_any w.heap.size b l L w3 (HBl.out.next hb3) HLen.out (Nat.le_trans HBel.out.size hb3.size)))
        | (go_at_call 41; (with_reducible refine HW3.out.mono ?_); rintro e w4 ⟨rfl, hbl4, hb4⟩))
      go_roundw
      case rel => exact ⟨k + 1, hlt, by go_num, by rw [HTs.out]; exact hbl4, (HBel.out.trans (hb3.mono HBel.out.size)).trans hb4⟩
      case measure => simp [intOf]; omega
    · obtain rfl : k = 16 := by omega
      rw [List.take_of_length_le (by rw [HX.out.1]; exact Nat.le_refl _)] at hbl
      have HStr := Lib.hid (bldString_any w.heap.size b (toldL x) wr hbl hbel.size)
      have HBel := Lib.hid hbel
      clear hbl hbel
      go_wp2_with (first
        | (go_at_call 42; (with_reducible refine HStr.out.mono ?_); rintro e w4 ⟨rfl, hb4⟩))
      go_ret
      exact ⟨rfl, HBel.out.trans hb4⟩
end Go.Proofs.YtfflpooiebeagaaDoor
namespace Go.Proofs.YtfflpooiebeagaaDoor
open Go.RowKit

/-- Have a key and a nonce their sizes? -/
def szB (key nonce : ByteArray) : Bool := decide (key.size = 32) && decide (nonce.size = 12)
theorem szB_yes {key nonce : ByteArray} (h : szB key nonce = true) : key.size = 32 ∧ nonce.size = 12 := by simpa [szB] using h
theorem szB_mk {key nonce : ByteArray} (h1 : key.size = 32) (h2 : nonce.size = 12) : szB key nonce = true := by simp [szB, h1, h2]
def blkB (key : ByteArray) (c : Nat) (nonce : ByteArray) : ByteArray := ⟨(blockL key.data.toList c nonce.data.toList).toArray⟩
theorem blkB_list (key : ByteArray) (c : Nat) (nonce : ByteArray) : (blkB key c nonce).data.toList = blockL key.data.toList c nonce.data.toList := by rw [blkB]
theorem blkB_size (key : ByteArray) (c : Nat) (nonce : ByteArray) : (blkB key c nonce).size = 64 := by
  show (blockL key.data.toList c nonce.data.toList).toArray.size = 64; rw [List.size_toArray, blockL_len]
def strmB (key : ByteArray) (c : Nat) (nonce : ByteArray) (n : Nat) : ByteArray := ⟨(strmL key.data.toList c nonce.data.toList n).toArray⟩
theorem strmB_list (key : ByteArray) (c : Nat) (nonce : ByteArray) (n : Nat) : (strmB key c nonce n).data.toList = strmL key.data.toList c nonce.data.toList n := by rw [strmB]
theorem strmB_size (key : ByteArray) (c : Nat) (nonce : ByteArray) (n : Nat) : (strmB key c nonce n).size = n := by
  show (strmL key.data.toList c nonce.data.toList n).toArray.size = n; rw [List.size_toArray, strmL_len]
/-- The document's answers. -/
def blkR (key : ByteArray) (c : Nat) (nonce : ByteArray) : Value := if szB key nonce = true then .tuple #[.string (blkB key c nonce), .int .i64 0] else .tuple #[.string ByteArray.empty, .int .i64 5]
def strR (key : ByteArray) (c : Nat) (nonce : ByteArray) (n : Int) : Value := if szB key nonce = true ∧ 0 ≤ n ∧ n ≤ 65536 then .tuple #[.string (strmB key c nonce n.toNat), .int .i64 0] else .tuple #[.string ByteArray.empty, .int .i64 5]
def turnR (key : ByteArray) (c : Nat) (nonce t : ByteArray) : Value := if szB key nonce = true ∧ t.size ≤ 65536 then .tuple #[.string ⟨(xorL t.data.toList (strmL key.data.toList c nonce.data.toList t.size)).toArray⟩, .int .i64 0] else .tuple #[.string ByteArray.empty, .int .i64 5]

theorem sized_ok {key nonce : ByteArray} (h : szB key nonce = true) (w : World) :
    Calls Tryd.prog 44 #[.string key, .string nonce] w fun e w' => e = .returned (.bool true) ∧ w = w' := by
  have := sized_any key nonce w
  rw [← szB, h] at this
  exact this
theorem sized_no {key nonce : ByteArray} (h : szB key nonce = false) (w : World) :
    Calls Tryd.prog 44 #[.string key, .string nonce] w fun e w' => e = .returned (.bool false) ∧ w = w' := by
  have := sized_any key nonce w
  rw [← szB, h] at this
  exact this

set_option maxHeartbeats 400000 in
theorem block_ok (key nonce : ByteArray) (hs : szB key nonce = true) (c : Nat) (hc : c < 4294967296) (w : World) (hp : Pl w) :
    Calls Tryd.prog 30 #[.string key, .int .u32 (c : Int), .string nonce] w fun e w' => e = .returned (.tuple #[.string (blkB key c nonce), .int .i64 0]) ∧ Below w.heap.size w w' := by
  obtain ⟨hk, hn⟩ := szB_yes hs
  have HS := Lib.hid (sized_ok hs)
  have HBg := Lib.hid (begin_any key nonce hk hn c hc)
  have hF := firstL_32 key.data.toList c nonce.data.toList
  obtain ⟨F, hFd⟩ : ∃ F, F = firstL key.data.toList c nonce.data.toList := ⟨_, rfl⟩
  have hE : blkB key c nonce = ⟨(toldL (endL F)).toArray⟩ := by rw [hFd]; rfl
  rw [← hFd] at HBg hF
  have HSt := Lib.hid (stirred_any F hF)
  have HTo := Lib.hid (told16_any (endL F) (endL_32 hF))
  rw [← hE] at HTo
  generalize endL F = G at *
  have HP := Lib.hid hp
  clear hE hF hFd hp hk hn hs hc
  generalize blkB key c nonce = B at *
  go_enter Tryd.func30, Tryd.ntmps30
  go_wp2_with (first
    | (go_at_call 44; (with_reducible refine (HS.out _).mono ?_); rintro e w' ⟨rfl, rfl⟩)
    | (go_at_call 47; (with_reducible refine (HBg.out _).mono ?_); rintro e w1 ⟨rfl, hb1⟩)
    | (go_at_call 46; (with_reducible refine (HSt.out _ (HP.out.next hb1)).mono ?_); rintro e w2 ⟨rfl, hb2⟩)
    | (go_at_call 45; (with_reducible refine (HTo.out _).mono ?_); rintro e w3 ⟨rfl, hb3⟩))
  go_ret2
  exact ⟨rfl, Below_next (Below_next hb1 hb2) hb3⟩
theorem block_no (key nonce : ByteArray) (hs : szB key nonce = false) (c : Nat) (w : World) :
    Calls Tryd.prog 30 #[.string key, .int .u32 (c : Int), .string nonce] w fun e w' => e = .returned (.tuple #[.string ByteArray.empty, .int .i64 5]) ∧ w = w' := by
  have HS := Lib.hid (sized_no hs)
  clear hs
  go_enter Tryd.func30, Tryd.ntmps30
  go_wp2_with (first
    | (go_at_call 44; (with_reducible refine (HS.out _).mono ?_); rintro e w' ⟨rfl, rfl⟩))
  go_ret2
  exact ⟨rfl, rfl⟩
theorem block_any (key nonce : ByteArray) (c : Nat) (hc : c < 4294967296) (w : World) (hp : Pl w) :
    Calls Tryd.prog 30 #[.string key, .int .u32 (c : Int), .string nonce] w fun e w' => e = .returned (blkR key c nonce) ∧ Below w.heap.size w w' := by
  unfold blkR
  cases h : szB key nonce
  · exact (block_no key nonce h c w).mono fun _ _ ⟨h1, h2⟩ => ⟨by simpa using h1, by rw [← h2]; exact Below.refl _ _⟩
  · exact (block_ok key nonce h c hc w hp).mono fun _ _ ⟨h1, h2⟩ => ⟨by simpa using h1, h2⟩

/-- How far the stream's counter is, read off the memory. -/
def ctrOf (c : Nat) (f : Value) (wr : World) : Nat :=
  match f with
  | .pointer (some a) => ((intOf ((wr.cell? ⟨a.block, 12, none⟩).getD undef) - (c : Int)) % 4294967296).toNat
  | _ => 0
theorem ctrOf_at {c m g : Nat} {key nonce : List UInt8} {wr : World} (h : Arr wr g (row16 (firstL key ((c + m) % 4294967296) nonce)) 91) (hk : key.length = 32) (hm : m ≤ 1100) : ctrOf c (.pointer (some ⟨g, 0, none⟩)) wr = m := by
  have hc := h.cell (row16_get (x := firstL key ((c + m) % 4294967296) nonce) (k := 12) (by rw [(firstL_32 _ _ _).1]; decide))
  have h12 : (firstL key ((c + m) % 4294967296) nonce).getD 12 0 = (c + m) % 4294967296 := by
    rw [List.getD_eq_getElem?_getD, firstL, numsL_get _ _ _ (by decide), first_at _ _ _ hk (mod32_lt _)]; rfl
  rw [h12] at hc
  simp only [ctrOf, hc, Option.getD_some, intOf]
  omega

set_option maxHeartbeats 1000000 in
set_option maxRecDepth 100000 in
theorem stream_ok (key nonce : ByteArray) (hs : szB key nonce = true) (c : Nat) (hc : c < 4294967296) (n : Nat) (hn : n ≤ 65536) (w : World) (hp : Pl w) :
    Calls Tryd.prog 31 #[.string key, .int .u32 (c : Int), .string nonce, .int .i64 (n : Int)] w fun e w' => e = .returned (.tuple #[.string (strmB key c nonce n), .int .i64 0]) ∧ Below w.heap.size w w' := by
  obtain ⟨hk, hnn⟩ := szB_yes hs
  have hkl : key.data.toList.length = 32 := by simpa using hk
  have HS := Lib.hid (sized_ok hs)
  have HBg := Lib.hid (begin_any key nonce hk hnn c hc)
  have h0 : ¬ (n : Int) < 0 := by omega
  have h1 : ¬ (65536 : Int) < (n : Int) := by omega
  have HP := Lib.hid hp
  have HC := Lib.hid hc
  have HKl := Lib.hid hkl
  have HFz := Lib.hid (row16_size (firstL_32 key.data.toList c nonce.data.toList).1)
  have HFo := Lib.hid (row16_one (firstL key.data.toList c nonce.data.toList))
  have HF0 : Hid ((c + 0) % 4294967296 = c) := Nat.mod_eq_of_lt hc
  obtain ⟨F0, hF0⟩ : ∃ F0, F0 = row16 (firstL key.data.toList c nonce.data.toList) := ⟨_, rfl⟩
  rw [← hF0] at HBg HFz HFo
  have HF := Lib.hid hF0
  clear hk hnn hkl hs hp hc hF0
  go_enter Tryd.func31, Tryd.ntmps31
  go_wp2_with (first
    | (go_at_call 44; (with_reducible refine (HS.out _).mono ?_); rintro e w' ⟨rfl, rfl⟩)
    | (go_at_call 47; (with_reducible refine (HBg.out _).mono ?_); rintro e w1 ⟨rfl, hb1⟩)
    | (with_reducible refine wpList_store_n16_new rfl _ _ rfl _ (by simp) _ rfl rfl _ rfl HFz.out HFo.out ?_))
  have HBl0 := Lib.hid (((Bld.new w w.heap.size (Nat.le_refl _)).next hb1).next ((Below.refl w1.heap.size w1).alloc (Nat.le_refl _) (.cells F0 91)))
  have HA0 := Lib.hid (Arr.new w1 F0 91)
  have hsz : w.heap.size < w1.heap.size := by have := hb1.size; simp at this; omega
  have HBel0 := Lib.hid ((((Below.refl w.heap.size w).alloc (Nat.le_refl _) (.cells #[.pointer none, .slice none 0 0] 83)).trans (hb1.mono (by simp))).alloc (Nat.le_of_lt hsz) (.cells F0 91))
  have HP0 := Lib.hid (((HP.out.alloc (.cells #[.pointer none, .slice none 0 0] 83)).next hb1).alloc (.cells F0 91))
  simp only [Act.put]
  obtain ⟨g0, hg0⟩ : ∃ g0, g0 = w1.heap.size := ⟨_, rfl⟩
  rw [← hg0] at hsz HA0 ⊢
  generalize w1.alloc (.cells F0 91) = w2 at *
  clear hb1 hg0 HBg HS
  have HA1 : Hid (Arr w2 g0 (row16 (firstL key.data.toList ((c + 0) % 4294967296) nonce.data.toList)) 91) := by rw [HF0.out, ← HF.out]; exact HA0.out
  have HN := Lib.hid hn
  have HSZ := Lib.hid hsz
  clear HA0 HF HF0 hn hsz HFz HFo
  have HStl := Lib.hid (stL_len key.data.toList c nonce.data.toList)
  go_loopw [11] (fun f wr => ∃ m g : Nat, f = .pointer (some ⟨g, 0, none⟩) ∧ 64 * m < n + 64 ∧ w.heap.size < g ∧ Arr wr g (row16 (firstL key.data.toList ((c + m) % 4294967296) nonce.data.toList)) 91 ∧ Bld wr w.heap.size w.heap.size (stL key.data.toList c nonce.data.toList m) ∧ Pl wr ∧ Below w.heap.size w wr) (fun f wr => 2000 - ctrOf c f wr)
  case atStart => exact ⟨0, g0, rfl, by omega, HSZ.out, HA1.out, HBl0.out, HP0.out, HBel0.out⟩
  case round =>
    clear HA1 HBl0 HP0 HBel0 HSZ
    obtain ⟨m, g, rfl, hm, hgw, ha, hbl, hp, hbel⟩ := hrel
    have hn' := HN.out
    have HLenB := Lib.hid (bldLen_any w.heap.size w.heap.size _ wr hbl)
    rw [stL_len] at HLenB
    by_cases hlt : 64 * m < n
    · have hlti : (64 * (m : Int) < (n : Int)) := by omega
      have hF := firstL_32 key.data.toList ((c + m) % 4294967296) nonce.data.toList
      have h12 : (firstL key.data.toList ((c + m) % 4294967296) nonce.data.toList).getD 12 0 = (c + m) % 4294967296 := by
        rw [List.getD_eq_getElem?_getD, firstL, numsL_get _ _ _ (by decide), first_at _ _ _ HKl.out (mod32_lt _)]; rfl
      have hcell := row16_get (x := firstL key.data.toList ((c + m) % 4294967296) nonce.data.toList) (k := 12) (by rw [hF.1]; decide)
      rw [h12] at hcell
      have hset := row16_set (firstL key.data.toList ((c + m) % 4294967296) nonce.data.toList) 12 ((c + (m + 1)) % 4294967296)
      rw [first_set _ _ _ _ HKl.out (mod32_lt _)] at hset
      have hbk : stL key.data.toList c nonce.data.toList (m + 1) = stL key.data.toList c nonce.data.toList m ++ toldL (endL (firstL key.data.toList ((c + m) % 4294967296) nonce.data.toList)) := by rw [stL, blockL]
      have hctr := ctrOf_at ha HKl.out (by omega)
      have hsum : ((((c + m) % 4294967296 : Nat) : Int) + 1) % 4294967296 = (((c + (m + 1)) % 4294967296 : Nat) : Int) := by omega
      have hbl64 : (toldL (endL (firstL key.data.toList ((c + m) % 4294967296) nonce.data.toList))).length = 64 := by rw [toldL_len, (endL_32 hF).1]
      have HNx := Lib.hid (row16_size hF.1)
      have HNo := Lib.hid (row16_one (firstL key.data.toList ((c + m) % 4294967296) nonce.data.toList))
      have HSt := Lib.hid (stirred_any _ hF)
      have HTo := Lib.hid (told16_any _ (endL_32 hF))
      generalize endL (firstL key.data.toList ((c + m) % 4294967296) nonce.data.toList) = G at *
      obtain ⟨FA, hFA⟩ : ∃ FA, FA = row16 (firstL key.data.toList ((c + m) % 4294967296) nonce.data.toList) := ⟨_, rfl⟩
      rw [← hFA] at hcell hset HNx HNo HSt ha
      obtain ⟨BB, hBB⟩ : ∃ BB, BB = ByteArray.mk (toldL G).toArray := ⟨_, rfl⟩
      rw [← bstr _ BB hBB] at hbk
      rw [← hBB] at HTo
      have hBs : BB.size = 64 := by rw [hBB]; show (toldL G).toArray.size = 64; rw [List.size_toArray, hbl64]
      have HBK := Lib.hid hbk
      have HSet := Lib.hid hset
      have HCtr := Lib.hid hctr
      have HWl := Lib.hid (show (stL key.data.toList c nonce.data.toList m).length + BB.size ≤ 140737488355328 by rw [stL_len, hBs]; omega)
      have HA := Lib.hid ha
      have HBl := Lib.hid hbl
      have HP1 := Lib.hid hp
      have HBel := Lib.hid hbel
      clear hset hbk hbl hp hbel ha hctr hFA hBB hBs hbl64 hF h12
      generalize (c + m) % 4294967296 = C at *
      obtain ⟨C2, hC2⟩ : ∃ C2, C2 = (c + (m + 1)) % 4294967296 := ⟨_, rfl⟩
      rw [← hC2] at hsum HSet
      have HC2 := Lib.hid hC2
      clear hC2
      go_wp2_with (first
        | (go_at_call 39; (with_reducible refine HLenB.out.mono ?_); rintro e w' ⟨rfl, rfl⟩)
        | (with_reducible refine wpList_load_n16 rfl _ rfl g rfl _ HNx.out HA.out ?_)
        | (go_at_call 46; (with_reducible refine (HSt.out _ HP1.out).mono ?_); rintro e w3 ⟨rfl, hb3⟩)
        | (go_at_call 45; (with_reducible refine (HTo.out _).mono ?_); rintro e w4 ⟨rfl, hb4⟩; have hb34 := Below_next hb3 hb4; have HW4 := Lib.hid (writeStringK_any w.heap.size w.heap.size _ BB w4 (HBl.out.next hb34) HWl.out (Nat.le_trans HBel.out.size hb34.size)))
        | (go_at_call 41; (with_reducible refine HW4.out.mono ?_); rintro e w5 ⟨rfl, hbl5, hb5, hk5⟩; have HA5 : Hid (Arr w5 g FA 91) := hk5 g FA _ (by decide) (by omega) (HA.out.next hb34))
        | (with_reducible refine wpList_load_n16 rfl _ rfl g rfl _ HNx.out HA5.out ?_)
        | (with_reducible refine wpList_store_n16_new rfl _ _ rfl _ (by simp) _ rfl rfl _ rfl HNx.out HNo.out ?_))
      have hnew : Arr (w5.alloc (.cells (FA.setIfInBounds 12 (.int .u32 (C2 : Int))) 91)) w5.heap.size (row16 (firstL key.data.toList ((c + (m + 1)) % 4294967296) nonce.data.toList)) 91 := by
        rw [← HC2.out, ← HSet.out]; exact Arr.new w5 _ _
      have hB5 := (HBel.out.trans (hb34.mono HBel.out.size)).trans hb5
      refine ⟨⟨m + 1, w5.heap.size, rfl, by omega, (show w.heap.size < w5.heap.size by have := HA5.out.lt; omega), hnew, ?_, ((HP1.out.next hb34).below hb5 HP.out.lt).alloc _, hB5.alloc hB5.size _⟩, ?_⟩
      · rw [HBK.out]; exact hbl5.next ((Below.refl w5.heap.size w5).alloc (Nat.le_refl _) _)
      · rw [HCtr.out, ctrOf_at hnew HKl.out (by omega)]; omega
    · have hlti : ¬ (64 * (m : Int) < (n : Int)) := by omega
      have hl := HStl.out m
      obtain ⟨SB, hSB⟩ : ∃ SB, SB = ByteArray.mk (stL key.data.toList c nonce.data.toList m).toArray := ⟨_, rfl⟩
      have hSs : SB.size = 64 * m := by rw [hSB]; show (stL key.data.toList c nonce.data.toList m).toArray.size = 64 * m; rw [List.size_toArray, hl]
      have hsl := slice_to SB n (by omega)
      have hex : SB.extract 0 n = strmB key c nonce n := by
        apply ByteArray.ext
        apply Array.ext'
        rw [ext_toList, bstr _ SB hSB, List.drop_zero, Nat.sub_zero, strmB, strmL_of _ _ _ n m (by omega)]
      rw [hex] at hsl
      have hStr := bldString_any w.heap.size w.heap.size _ wr hbl hbel.size
      rw [← hSB] at hStr
      have HStr := Lib.hid hStr
      have HBel := Lib.hid hbel
      have hle : (n : Int) ≤ (SB.size : Int) := by omega
      obtain ⟨S, hS⟩ : ∃ S, S = strmB key c nonce n := ⟨_, rfl⟩
      rw [← hS] at hsl
      have HSd := Lib.hid hS
      clear hex hSB hSs hStr hbel hbl ha hp hl HStl hS
      go_wp2_with (first
        | (go_at_call 39; (with_reducible refine HLenB.out.mono ?_); rintro e w' ⟨rfl, rfl⟩)
        | (go_at_call 42; (with_reducible refine HStr.out.mono ?_); rintro e w4 ⟨rfl, hb4⟩))
      go_ret2
      exact ⟨by rw [← HSd.out]; rfl, HBel.out.trans hb4⟩

theorem stream_no (key nonce : ByteArray) (c : Nat) (n : Int) (hs : ¬ (szB key nonce = true ∧ 0 ≤ n ∧ n ≤ 65536)) (w : World) :
    Calls Tryd.prog 31 #[.string key, .int .u32 (c : Int), .string nonce, .int .i64 n] w fun e w' => e = .returned (.tuple #[.string ByteArray.empty, .int .i64 5]) ∧ w = w' := by
  cases h : szB key nonce
  · have HS := Lib.hid (sized_no h)
    clear hs h
    go_enter Tryd.func31, Tryd.ntmps31
    go_wp2_with (first
      | (go_at_call 44; (with_reducible refine (HS.out _).mono ?_); rintro e w' ⟨rfl, rfl⟩))
    go_ret2
    exact ⟨rfl, rfl⟩
  · have HS := Lib.hid (sized_ok h)
    by_cases h0 : n < 0
    · clear hs h
      go_enter Tryd.func31, Tryd.ntmps31
      go_wp2_with (first
        | (go_at_call 44; (with_reducible refine (HS.out _).mono ?_); rintro e w' ⟨rfl, rfl⟩))
      go_ret2
      exact ⟨rfl, rfl⟩
    · have h1 : (65536 : Int) < n := by
        have h2 : ¬ n ≤ 65536 := fun hn => hs ⟨h, by omega, hn⟩
        omega
      clear hs h
      go_enter Tryd.func31, Tryd.ntmps31
      go_wp2_with (first
        | (go_at_call 44; (with_reducible refine (HS.out _).mono ?_); rintro e w' ⟨rfl, rfl⟩))
      go_ret2
      exact ⟨rfl, rfl⟩
theorem stream_any (key nonce : ByteArray) (c : Nat) (hc : c < 4294967296) (n : Int) (w : World) (hp : Pl w) :
    Calls Tryd.prog 31 #[.string key, .int .u32 (c : Int), .string nonce, .int .i64 n] w fun e w' => e = .returned (strR key c nonce n) ∧ Below w.heap.size w w' := by
  unfold strR
  by_cases h : szB key nonce = true ∧ 0 ≤ n ∧ n ≤ 65536
  · rw [if_pos h]
    obtain ⟨N, rfl⟩ : ∃ N : Nat, n = (N : Int) := ⟨n.toNat, by omega⟩
    rw [Int.toNat_natCast]
    exact stream_ok key nonce h.1 c hc N (by omega) w hp
  · rw [if_neg h]
    exact (stream_no key nonce c n h w).mono fun _ _ ⟨h1, h2⟩ => ⟨h1, by rw [← h2]; exact Below.refl _ _⟩

theorem turn_ok (key nonce : ByteArray) (hs : szB key nonce = true) (c : Nat) (hc : c < 4294967296) (t : ByteArray) (ht : t.size ≤ 65536) (w : World) (hp : Pl w) :
    Calls Tryd.prog 23 #[.string key, .int .u32 (c : Int), .string nonce, .string t] w fun e w' => e = .returned (.tuple #[.string ⟨(xorL t.data.toList (strmL key.data.toList c nonce.data.toList t.size)).toArray⟩, .int .i64 0]) ∧ Below w.heap.size w w' := by
  have HSt := Lib.hid (stream_ok key nonce hs c hc t.size ht w hp)
  have hsz := strmB_size key c nonce t.size
  have hx := xor_any t (strmB key c nonce t.size) (by omega) (by omega)
  rw [xorB, if_pos hsz, xorE, if_pos hsz, strmB_list] at hx
  have HX := Lib.hid hx
  generalize strmB key c nonce t.size = S at *
  generalize (⟨(xorL t.data.toList (strmL key.data.toList c nonce.data.toList t.size)).toArray⟩ : ByteArray) = X at *
  clear hs hc hp hsz hx
  go_enter Tryd.func23, Tryd.ntmps23
  go_wp2_with (first
    | (go_at_call 31; (with_reducible refine HSt.out.mono ?_); rintro e w1 ⟨rfl, hb1⟩)
    | (go_at_call 32; (with_reducible refine (HX.out _).mono ?_); rintro e w2 ⟨rfl, hb2⟩))
  go_ret2
  exact ⟨rfl, Below_next hb1 hb2⟩
theorem turn_no (key nonce : ByteArray) (c : Nat) (t : ByteArray) (hs : ¬ (szB key nonce = true ∧ t.size ≤ 65536)) (w : World) :
    Calls Tryd.prog 23 #[.string key, .int .u32 (c : Int), .string nonce, .string t] w fun e w' => e = .returned (.tuple #[.string ByteArray.empty, .int .i64 5]) ∧ w = w' := by
  have HSt := Lib.hid (stream_no key nonce c (t.size : Int) (fun h => hs ⟨h.1, by omega⟩) w)
  clear hs
  go_enter Tryd.func23, Tryd.ntmps23
  go_wp2_with (first
    | (go_at_call 31; (with_reducible refine HSt.out.mono ?_); rintro e w1 ⟨rfl, rfl⟩))
  go_ret2
  exact ⟨rfl, rfl⟩
theorem turn_any (key nonce : ByteArray) (c : Nat) (hc : c < 4294967296) (t : ByteArray) (w : World) (hp : Pl w) :
    Calls Tryd.prog 23 #[.string key, .int .u32 (c : Int), .string nonce, .string t] w fun e w' => e = .returned (turnR key c nonce t) ∧ Below w.heap.size w w' := by
  unfold turnR
  by_cases h : szB key nonce = true ∧ t.size ≤ 65536
  · rw [if_pos h]; exact turn_ok key nonce h.1 c hc t h.2 w hp
  · rw [if_neg h]; exact (turn_no key nonce c t h w).mono fun _ _ ⟨h1, h2⟩ => ⟨h1, by rw [← h2]; exact Below.refl _ _⟩
end Go.Proofs.YtfflpooiebeagaaDoor
