/- sha: the plain functions: states, rounds, a block's numbers, padding. -/
import Derived.Test.YtmedlgnllgldiaaDoorOct
namespace Go.Proofs.YtmedlgnllgldiaaDoor
open Go.RowKit

/-- Eight numbers. -/
structure S8 where
  a : Nat
  b : Nat
  c : Nat
  d : Nat
  e : Nat
  f : Nat
  g : Nat
  h : Nat
def S8.ok (s : S8) : Prop := s.a < 4294967296 ∧ s.b < 4294967296 ∧ s.c < 4294967296 ∧ s.d < 4294967296 ∧ s.e < 4294967296 ∧ s.f < 4294967296 ∧ s.g < 4294967296 ∧ s.h < 4294967296
def u32v (n : Nat) : Value := .int .u32 (n : Int)
def S8.cells (s : S8) : Array Value := #[.int .u32 (s.a : Int), .int .u32 (s.b : Int), .int .u32 (s.c : Int), .int .u32 (s.d : Int), .int .u32 (s.e : Int), .int .u32 (s.f : Int), .int .u32 (s.g : Int), .int .u32 (s.h : Int)]

/-- Numbers as the cells of a block. -/
def u32s (l : List Nat) : List Value := l.map fun (n : Nat) => .int .u32 (n : Int)
theorem u32s_len (l : List Nat) : (u32s l).length = l.length := by simp [u32s]
theorem u32s_get (l : List Nat) (i : Nat) (h : i < l.length) : (u32s l)[i]? = some (.int .u32 ((l[i] : Nat) : Int)) := by simp [u32s, h]

def sh1 (x : Nat) : Nat := rotr x 6 ^^^ rotr x 11 ^^^ rotr x 25
def sh0 (x : Nat) : Nat := rotr x 2 ^^^ rotr x 13 ^^^ rotr x 22
def sg0 (x : Nat) : Nat := rotr x 7 ^^^ rotr x 18 ^^^ x / 8
def sg1 (x : Nat) : Nat := rotr x 17 ^^^ rotr x 19 ^^^ x / 1024
def cho (e f g : Nat) : Nat := (e &&& f) ||| ((4294967295 - e) &&& g)
def mst (a b c : Nat) : Nat := (a &&& b) ||| (a &&& c) ||| (b &&& c)

theorem xor3_lt {x y z : Nat} (hx : x < 4294967296) (hy : y < 4294967296) (hz : z < 4294967296) : x ^^^ y ^^^ z < 4294967296 :=
  Nat.xor_lt_two_pow (n := 32) (Nat.xor_lt_two_pow (n := 32) hx hy) hz
theorem sh1_lt {x : Nat} (h : x < 4294967296) : sh1 x < 4294967296 := xor3_lt (rotr_lt h _) (rotr_lt h _) (rotr_lt h _)
theorem sh0_lt {x : Nat} (h : x < 4294967296) : sh0 x < 4294967296 := xor3_lt (rotr_lt h _) (rotr_lt h _) (rotr_lt h _)
theorem sg0_lt {x : Nat} (h : x < 4294967296) : sg0 x < 4294967296 := xor3_lt (rotr_lt h _) (rotr_lt h _) (by omega)
theorem sg1_lt {x : Nat} (h : x < 4294967296) : sg1 x < 4294967296 := xor3_lt (rotr_lt h _) (rotr_lt h _) (by omega)
theorem cho_lt {e f g : Nat} (hf : f < 4294967296) : cho e f g < 4294967296 :=
  Nat.or_lt_two_pow (n := 32) (Nat.and_lt_two_pow (n := 32) _ hf) (Nat.lt_of_le_of_lt Nat.and_le_left (by omega))
theorem mst_lt {a b c : Nat} (hb : b < 4294967296) (hc : c < 4294967296) : mst a b c < 4294967296 :=
  Nat.or_lt_two_pow (n := 32) (Nat.or_lt_two_pow (n := 32) (Nat.and_lt_two_pow (n := 32) _ hb) (Nat.and_lt_two_pow (n := 32) _ hc)) (Nat.and_lt_two_pow (n := 32) _ hc)

/-- One round, of the table's number k and the block's number w. -/
def rnd (s : S8) (k w : Nat) : S8 :=
  let p := (s.h + sh1 s.e + cho s.e s.f s.g + k + w) % 4294967296
  let q := (sh0 s.a + mst s.a s.b s.c) % 4294967296
  ⟨(p + q) % 4294967296, s.a, s.b, s.c, (s.d + p) % 4294967296, s.e, s.f, s.g⟩
theorem rnd_ok {s : S8} (h : s.ok) (k w : Nat) : (rnd s k w).ok := by
  obtain ⟨ha, hb, hc, hd, he, hf, hg, hh⟩ := h
  exact ⟨Nat.mod_lt _ (by decide), ha, hb, hc, Nat.mod_lt _ (by decide), he, hf, hg⟩

def tabL : List Nat := [1116352408, 1899447441, 3049323471, 3921009573, 961987163, 1508970993, 2453635748, 2870763221, 3624381080, 310598401, 607225278, 1426881987, 1925078388, 2162078206, 2614888103, 3248222580, 3835390401, 4022224774, 264347078, 604807628, 770255983, 1249150122, 1555081692, 1996064986, 2554220882, 2821834349, 2952996808, 3210313671, 3336571891, 3584528711, 113926993, 338241895, 666307205, 773529912, 1294757372, 1396182291, 1695183700, 1986661051, 2177026350, 2456956037, 2730485921, 2820302411, 3259730800, 3345764771, 3516065817, 3600352804, 4094571909, 275423344, 430227734, 506948616, 659060556, 883997877, 958139571, 1322822218, 1537002063, 1747873779, 1955562222, 2024104815, 2227730452, 2361852424, 2428436474, 2756734187, 3204031479, 3329325298]
def tabN (k : Nat) : Nat := tabL.getD k 0
theorem tabL_len : tabL.length = 64 := by decide

/-- A block's numbers: the first k of them. -/
def wFirst (blk : List UInt8) (t : Nat) : Nat := numHigh ((blk.drop (4 * t)).take 4)
def wNext (l : List Nat) (t : Nat) : Nat := (l.getD (t - 16) 0 + sg0 (l.getD (t - 15) 0) + l.getD (t - 7) 0 + sg1 (l.getD (t - 2) 0)) % 4294967296
def wStep (blk : List UInt8) (l : List Nat) (t : Nat) : List Nat := l ++ [if t < 16 then wFirst blk t else wNext l t]
def wL (blk : List UInt8) (n : Nat) : List Nat := (List.range n).foldl (wStep blk) []
theorem wL_zero (blk : List UInt8) : wL blk 0 = [] := rfl
theorem wL_succ (blk : List UInt8) (n : Nat) : wL blk (n + 1) = wStep blk (wL blk n) n := by simp [wL, List.range_succ]
theorem wL_len (blk : List UInt8) (n : Nat) : (wL blk n).length = n := by
  induction n with
  | zero => rfl
  | succ n ih => rw [wL_succ, wStep, List.length_append, ih]; rfl
theorem wFirst_lt (blk : List UInt8) (t : Nat) : wFirst blk t < 4294967296 := by
  have h := numHigh_lt ((blk.drop (4 * t)).take 4)
  have hl : ((blk.drop (4 * t)).take 4).length ≤ 4 := List.length_take_le _ _
  exact Nat.lt_of_lt_of_le h (Nat.pow_le_pow_right (n := 256) (j := 4) (by decide) hl)
theorem wL_lt (blk : List UInt8) (n : Nat) : ∀ x ∈ wL blk n, x < 4294967296 := by
  induction n with
  | zero => simp [wL_zero]
  | succ n ih =>
    rw [wL_succ, wStep]
    intro x hx
    rw [List.mem_append, List.mem_singleton] at hx
    rcases hx with hx | rfl
    · exact ih x hx
    · split
      · exact wFirst_lt _ _
      · exact Nat.mod_lt _ (by decide)

/-- n rounds. -/
def rndsN (s : S8) (w : List Nat) (n : Nat) : S8 := (List.range n).foldl (fun s t => rnd s (tabN t) (w.getD t 0)) s
theorem rndsN_zero (s : S8) (w : List Nat) : rndsN s w 0 = s := rfl
theorem rndsN_succ (s : S8) (w : List Nat) (n : Nat) : rndsN s w (n + 1) = rnd (rndsN s w n) (tabN n) (w.getD n 0) := by simp [rndsN, List.range_succ]
theorem rndsN_ok {s : S8} (h : s.ok) (w : List Nat) (n : Nat) : (rndsN s w n).ok := by
  induction n with
  | zero => exact h
  | succ n ih => rw [rndsN_succ]; exact rnd_ok ih _ _

def addS (s t : S8) : S8 := ⟨(s.a + t.a) % 4294967296, (s.b + t.b) % 4294967296, (s.c + t.c) % 4294967296, (s.d + t.d) % 4294967296, (s.e + t.e) % 4294967296, (s.f + t.f) % 4294967296, (s.g + t.g) % 4294967296, (s.h + t.h) % 4294967296⟩
theorem addS_ok (s t : S8) : (addS s t).ok :=
  ⟨Nat.mod_lt _ (by decide), Nat.mod_lt _ (by decide), Nat.mod_lt _ (by decide), Nat.mod_lt _ (by decide), Nat.mod_lt _ (by decide), Nat.mod_lt _ (by decide), Nat.mod_lt _ (by decide), Nat.mod_lt _ (by decide)⟩
/-- A block mixed into a state. -/
def mixS (s : S8) (blk : List UInt8) : S8 := addS s (rndsN s (wL blk 64) 64)
theorem mixS_ok (s : S8) (blk : List UInt8) : (mixS s blk).ok := addS_ok _ _
def firstS : S8 := ⟨1779033703, 3144134277, 1013904242, 2773480762, 1359893119, 2600822924, 528734635, 1541459225⟩
theorem firstS_ok : firstS.ok := by unfold S8.ok firstS; decide

/-- The blocks of a text, as many as are whole, mixed into a state: n of them. -/
def mixN (s : S8) (l : List UInt8) : Nat → S8
  | 0 => s
  | n + 1 => mixS (mixN s l n) ((l.drop (64 * n)).take 64)
theorem mixN_ok {s : S8} (h : s.ok) (l : List UInt8) (n : Nat) : (mixN s l n).ok := by
  cases n with
  | zero => exact h
  | succ n => exact mixS_ok _ _

/-- A text's padding, of n bytes. -/
def padZ (n : Nat) : Nat := (119 - n % 64) % 64
def padL (n : Nat) : List UInt8 := 128 :: (List.replicate (padZ n) 0 ++ (lowL (8 * n % 18446744073709551616) 8).reverse)
theorem padL_len (n : Nat) : (padL n).length = padZ n + 9 := by
  simp [padL, lowL_len]
theorem padL_mod (n : Nat) : (n + (padL n).length) % 64 = 0 := by rw [padL_len, padZ]; omega

/-- A state's bytes: its digest. -/
def outL (s : S8) : List UInt8 := (lowL s.a 4).reverse ++ (lowL s.b 4).reverse ++ (lowL s.c 4).reverse ++ (lowL s.d 4).reverse ++ (lowL s.e 4).reverse ++ (lowL s.f 4).reverse ++ (lowL s.g 4).reverse ++ (lowL s.h 4).reverse
theorem outL_len (s : S8) : (outL s).length = 32 := by simp [outL, lowL_len]
/-- A text's digest. -/
def shaL (l : List UInt8) : List UInt8 := let all := l ++ padL l.length; outL (mixN firstS all (all.length / 64))
theorem shaL_len (l : List UInt8) : (shaL l).length = 32 := outL_len _
end Go.Proofs.YtmedlgnllgldiaaDoor
