/- sha: the plain functions: states, rounds, a block's numbers, padding. sha: blocks of memory known whole; the table. sha: the contract of numbers. sha: the contract of mix. sha: the contracts of First, Mix, Pad, mixAll. sha: the contract of mixAll. sha: a Hash in memory; the contracts of New, begun, Len. sha: what a Hash's cells become; a text that goes on, in plain lists. -/
import Derived.Test.YtfflpooiebeagaaDoorM1
import Derived.Laws.Rows
import Derived.Laws.Tables
import Derived.Laws.CopyOwn
import Derived.Laws.ResultCell
import Derived.Deep.WholeRow
import Derived.Below
import Derived.WalkSpells
import Derived.IntWalk
import Derived.Outline
import Derived.Test.YtfflpooiebeagaaDoorM2
import Derived.Test.YtfflpooiebeagaaDoorShelf
import Derived.StillTailTactics
import Derived.Deep.RegionWith
import Derived.Lib.BufferWrite
import Derived.Lib.SlBuf
namespace Go.Proofs.YtfflpooiebeagaaDoor
open Go.RowKit

/-- Eight numbers. -/
structure S8 where
  a : Nat
  b : Nat
  c : Nat
  d : Nat
  e : Nat
  f : Nat
  g : Nat
  h : Nat
def S8.ok (s : S8) : Prop := s.a < 4294967296 ∧ s.b < 4294967296 ∧ s.c < 4294967296 ∧ s.d < 4294967296 ∧ s.e < 4294967296 ∧ s.f < 4294967296 ∧ s.g < 4294967296 ∧ s.h < 4294967296
def u32v (n : Nat) : Value := .int .u32 (n : Int)
def S8.cells (s : S8) : Array Value := #[.int .u32 (s.a : Int), .int .u32 (s.b : Int), .int .u32 (s.c : Int), .int .u32 (s.d : Int), .int .u32 (s.e : Int), .int .u32 (s.f : Int), .int .u32 (s.g : Int), .int .u32 (s.h : Int)]

def sh1 (x : Nat) : Nat := rotr x 6 ^^^ rotr x 11 ^^^ rotr x 25
def sh0 (x : Nat) : Nat := rotr x 2 ^^^ rotr x 13 ^^^ rotr x 22
def sg0 (x : Nat) : Nat := rotr x 7 ^^^ rotr x 18 ^^^ x / 8
def sg1 (x : Nat) : Nat := rotr x 17 ^^^ rotr x 19 ^^^ x / 1024
def cho (e f g : Nat) : Nat := (e &&& f) ||| ((4294967295 - e) &&& g)
def mst (a b c : Nat) : Nat := (a &&& b) ||| (a &&& c) ||| (b &&& c)

theorem xor3_lt {x y z : Nat} (hx : x < 4294967296) (hy : y < 4294967296) (hz : z < 4294967296) : x ^^^ y ^^^ z < 4294967296 :=
  Nat.xor_lt_two_pow (n := 32) (Nat.xor_lt_two_pow (n := 32) hx hy) hz
theorem sh1_lt {x : Nat} (h : x < 4294967296) : sh1 x < 4294967296 := xor3_lt (rotr_lt h _) (rotr_lt h _) (rotr_lt h _)
theorem sh0_lt {x : Nat} (h : x < 4294967296) : sh0 x < 4294967296 := xor3_lt (rotr_lt h _) (rotr_lt h _) (rotr_lt h _)
theorem sg0_lt {x : Nat} (h : x < 4294967296) : sg0 x < 4294967296 := xor3_lt (rotr_lt h _) (rotr_lt h _) (by omega)
theorem sg1_lt {x : Nat} (h : x < 4294967296) : sg1 x < 4294967296 := xor3_lt (rotr_lt h _) (rotr_lt h _) (by omega)
theorem cho_lt {e f g : Nat} (hf : f < 4294967296) : cho e f g < 4294967296 :=
  Nat.or_lt_two_pow (n := 32) (Nat.and_lt_two_pow (n := 32) _ hf) (Nat.lt_of_le_of_lt Nat.and_le_left (by omega))
theorem mst_lt {a b c : Nat} (hb : b < 4294967296) (hc : c < 4294967296) : mst a b c < 4294967296 :=
  Nat.or_lt_two_pow (n := 32) (Nat.or_lt_two_pow (n := 32) (Nat.and_lt_two_pow (n := 32) _ hb) (Nat.and_lt_two_pow (n := 32) _ hc)) (Nat.and_lt_two_pow (n := 32) _ hc)

/-- One round, of the table's number k and the block's number w. -/
def rnd (s : S8) (k w : Nat) : S8 :=
  let p := (s.h + sh1 s.e + cho s.e s.f s.g + k + w) % 4294967296
  let q := (sh0 s.a + mst s.a s.b s.c) % 4294967296
  ⟨(p + q) % 4294967296, s.a, s.b, s.c, (s.d + p) % 4294967296, s.e, s.f, s.g⟩
theorem rnd_ok {s : S8} (h : s.ok) (k w : Nat) : (rnd s k w).ok := by
  obtain ⟨ha, hb, hc, hd, he, hf, hg, hh⟩ := h
  exact ⟨Nat.mod_lt _ (by decide), ha, hb, hc, Nat.mod_lt _ (by decide), he, hf, hg⟩

def tabL : List Nat := [1116352408, 1899447441, 3049323471, 3921009573, 961987163, 1508970993, 2453635748, 2870763221, 3624381080, 310598401, 607225278, 1426881987, 1925078388, 2162078206, 2614888103, 3248222580, 3835390401, 4022224774, 264347078, 604807628, 770255983, 1249150122, 1555081692, 1996064986, 2554220882, 2821834349, 2952996808, 3210313671, 3336571891, 3584528711, 113926993, 338241895, 666307205, 773529912, 1294757372, 1396182291, 1695183700, 1986661051, 2177026350, 2456956037, 2730485921, 2820302411, 3259730800, 3345764771, 3516065817, 3600352804, 4094571909, 275423344, 430227734, 506948616, 659060556, 883997877, 958139571, 1322822218, 1537002063, 1747873779, 1955562222, 2024104815, 2227730452, 2361852424, 2428436474, 2756734187, 3204031479, 3329325298]
def tabN (k : Nat) : Nat := tabL.getD k 0
theorem tabL_len : tabL.length = 64 := by decide

/-- A block's numbers: the first k of them. -/
def wFirst (blk : List UInt8) (t : Nat) : Nat := numHigh ((blk.drop (4 * t)).take 4)
def wNext (l : List Nat) (t : Nat) : Nat := (l.getD (t - 16) 0 + sg0 (l.getD (t - 15) 0) + l.getD (t - 7) 0 + sg1 (l.getD (t - 2) 0)) % 4294967296
def wStep (blk : List UInt8) (l : List Nat) (t : Nat) : List Nat := l ++ [if t < 16 then wFirst blk t else wNext l t]
def wL (blk : List UInt8) (n : Nat) : List Nat := (List.range n).foldl (wStep blk) []
theorem wL_zero (blk : List UInt8) : wL blk 0 = [] := rfl
theorem wL_succ (blk : List UInt8) (n : Nat) : wL blk (n + 1) = wStep blk (wL blk n) n := by simp [wL, List.range_succ]
theorem wL_len (blk : List UInt8) (n : Nat) : (wL blk n).length = n := by
  induction n with
  | zero => rfl
  | succ n ih => rw [wL_succ, wStep, List.length_append, ih]; rfl
theorem wFirst_lt (blk : List UInt8) (t : Nat) : wFirst blk t < 4294967296 := by
  have h := numHigh_lt ((blk.drop (4 * t)).take 4)
  have hl : ((blk.drop (4 * t)).take 4).length ≤ 4 := List.length_take_le _ _
  exact Nat.lt_of_lt_of_le h (Nat.pow_le_pow_right (n := 256) (j := 4) (by decide) hl)
theorem wL_lt (blk : List UInt8) (n : Nat) : ∀ x ∈ wL blk n, x < 4294967296 := by
  induction n with
  | zero => simp [wL_zero]
  | succ n ih =>
    rw [wL_succ, wStep]
    intro x hx
    rw [List.mem_append, List.mem_singleton] at hx
    rcases hx with hx | rfl
    · exact ih x hx
    · split
      · exact wFirst_lt _ _
      · exact Nat.mod_lt _ (by decide)

/-- n rounds. -/
def rndsN (s : S8) (w : List Nat) (n : Nat) : S8 := (List.range n).foldl (fun s t => rnd s (tabN t) (w.getD t 0)) s
theorem rndsN_zero (s : S8) (w : List Nat) : rndsN s w 0 = s := rfl
theorem rndsN_succ (s : S8) (w : List Nat) (n : Nat) : rndsN s w (n + 1) = rnd (rndsN s w n) (tabN n) (w.getD n 0) := by simp [rndsN, List.range_succ]
theorem rndsN_ok {s : S8} (h : s.ok) (w : List Nat) (n : Nat) : (rndsN s w n).ok := by
  induction n with
  | zero => exact h
  | succ n ih => rw [rndsN_succ]; exact rnd_ok ih _ _

def addS (s t : S8) : S8 := ⟨(s.a + t.a) % 4294967296, (s.b + t.b) % 4294967296, (s.c + t.c) % 4294967296, (s.d + t.d) % 4294967296, (s.e + t.e) % 4294967296, (s.f + t.f) % 4294967296, (s.g + t.g) % 4294967296, (s.h + t.h) % 4294967296⟩
theorem addS_ok (s t : S8) : (addS s t).ok :=
  ⟨Nat.mod_lt _ (by decide), Nat.mod_lt _ (by decide), Nat.mod_lt _ (by decide), Nat.mod_lt _ (by decide), Nat.mod_lt _ (by decide), Nat.mod_lt _ (by decide), Nat.mod_lt _ (by decide), Nat.mod_lt _ (by decide)⟩
/-- A block mixed into a state. -/
def mixS (s : S8) (blk : List UInt8) : S8 := addS s (rndsN s (wL blk 64) 64)
theorem mixS_ok (s : S8) (blk : List UInt8) : (mixS s blk).ok := addS_ok _ _
def firstS : S8 := ⟨1779033703, 3144134277, 1013904242, 2773480762, 1359893119, 2600822924, 528734635, 1541459225⟩
theorem firstS_ok : firstS.ok := by unfold S8.ok firstS; decide

/-- The blocks of a text, as many as are whole, mixed into a state: n of them. -/
def mixN (s : S8) (l : List UInt8) : Nat → S8
  | 0 => s
  | n + 1 => mixS (mixN s l n) ((l.drop (64 * n)).take 64)
theorem mixN_ok {s : S8} (h : s.ok) (l : List UInt8) (n : Nat) : (mixN s l n).ok := by
  cases n with
  | zero => exact h
  | succ n => exact mixS_ok _ _

/-- A text's padding, of n bytes. -/
def padZ (n : Nat) : Nat := (119 - n % 64) % 64
def padL (n : Nat) : List UInt8 := 128 :: (List.replicate (padZ n) 0 ++ (lowL (8 * n % 18446744073709551616) 8).reverse)
theorem padL_len (n : Nat) : (padL n).length = padZ n + 9 := by
  simp [padL, lowL_len]
theorem padL_mod (n : Nat) : (n + (padL n).length) % 64 = 0 := by rw [padL_len, padZ]; omega

/-- A state's bytes: its digest. -/
def outL (s : S8) : List UInt8 := (lowL s.a 4).reverse ++ (lowL s.b 4).reverse ++ (lowL s.c 4).reverse ++ (lowL s.d 4).reverse ++ (lowL s.e 4).reverse ++ (lowL s.f 4).reverse ++ (lowL s.g 4).reverse ++ (lowL s.h 4).reverse
theorem outL_len (s : S8) : (outL s).length = 32 := by simp [outL, lowL_len]
/-- A text's digest. -/
def shaL (l : List UInt8) : List UInt8 := let all := l ++ padL l.length; outL (mixN firstS all (all.length / 64))
theorem shaL_len (l : List UInt8) : (shaL l).length = 32 := outL_len _
end Go.Proofs.YtfflpooiebeagaaDoor
namespace Go.Proofs.YtfflpooiebeagaaDoor
open Go.RowKit

/-- The table, where the package lays it. -/
def Tab (w : World) : Prop := ∀ k, k < 64 → w.cell? ⟨2, k, none⟩ = some (.int .u32 (tabN k : Nat))
theorem Tab.lt {w : World} (h : Tab w) : 2 < w.heap.size := block_lt_of_cell (h 0 (by decide))
theorem Tab.alloc {w : World} (h : Tab w) (o : Obj) : Tab (w.alloc o) := fun k hk => by
  rw [← h k hk]; exact World.cell?_of_block (Below.heap_alloc w o _ h.lt)
theorem Tab.set {w : World} (h : Tab w) (a : Addr) (v : Value) (hn : 2 ≠ a.block) : Tab (w.setCell a v) := fun k hk => by
  rw [← h k hk]; exact World.cell?_of_block (heap_setCell_other w a _ v hn)
theorem Tab.below {w w' : World} {B : Nat} (h : Tab w) (hb : Below B w w') (hB : 2 < B) : Tab w' := fun k hk => by
  rw [← h k hk]; exact World.cell?_of_block (hb.block _ hB)
theorem Tab.next {w w' : World} (h : Tab w) (hb : Below w.heap.size w w') : Tab w' := h.below hb h.lt
theorem Tab.drew {w : World} (h : Tab w) : Tab w.drew := h
theorem Tab.drewN {w : World} (h : Tab w) (n : Nat) : Tab (w.drewN n) := h

/-- An array of 64 numbers, of which these are laid. -/
def rowW (l : List Nat) : Array Value := (u32s l ++ List.replicate (64 - l.length) (Value.int .u32 0)).toArray
theorem rowW_size (l : List Nat) (h : l.length ≤ 64) : (rowW l).size = 64 := by simp [rowW, u32s_len]; omega
theorem rowW_get (l : List Nat) (i : Nat) (h : i < l.length) : (rowW l)[i]? = some (.int .u32 ((l.getD i 0 : Nat) : Int)) := by
  unfold rowW
  rw [List.getElem?_toArray, List.getElem?_append_left (by rw [u32s_len]; exact h), u32s_get _ _ h]
  simp [List.getD, h]
theorem rowW_hi (l : List Nat) (i : Nat) (h : l.length ≤ i) (h2 : i < 64) : (rowW l)[i]? = some (.int .u32 0) := by
  unfold rowW
  rw [List.getElem?_toArray, List.getElem?_append_right (by rw [u32s_len]; exact h), u32s_len, List.getElem?_replicate, if_pos (by omega)]
theorem rowW_set (l : List Nat) (x : Nat) (h : l.length < 64) : (rowW l).setIfInBounds l.length (.int .u32 (x : Int)) = rowW (l ++ [x]) := by
  unfold rowW
  obtain ⟨m, hm⟩ : ∃ m, 64 - l.length = m + 1 := ⟨63 - l.length, by omega⟩
  have hm2 : 64 - (l ++ [x]).length = m := by rw [List.length_append]; simp; omega
  rw [hm, hm2, List.setIfInBounds_toArray, List.set_append_right _ _ (by rw [u32s_len]; exact Nat.le_refl _), u32s_len, Nat.sub_self, List.replicate_succ]
  simp [u32s]
theorem rowW_full (l : List Nat) (h : l.length = 64) : rowW l = (u32s l).toArray := by simp [rowW, h]

theorem info_w64 : (Tryd.prog.info? 145).map (·.size) = some 64 := by kernel_rfl
theorem info_s8 : (Tryd.prog.info? 132).map (·.size) = some 8 := by kernel_rfl
/-- A whole array of 64 numbers is loaded. -/
theorem wpList_load64 {ops : Array Oper} {rest : List Oper} {o : Oper} {a : Act} {w : World} {Q : Exit → Act → World → Prop} (hgd : o.guard = none) (x : Operand) (ho : o.op = .load 145 x)
    (g : Nat) (hx : a.eval x = .pointer (some ⟨g, 0, none⟩)) (cs : Array Value) (hs : cs.size = 64) (hg : Arr w g cs 145)
    (h : wpList Tryd.prog ops Q rest (a.put o.dst (.agg cs)) w) : wpList Tryd.prog ops Q (o :: rest) a w :=
  wpList_load_row hgd 145 x ho g hx 145 cs (0, 0) _ hg Tryd.underlying145 rfl (by rw [hs]; exact info_w64) h
theorem wpList_load8 {ops : Array Oper} {rest : List Oper} {o : Oper} {a : Act} {w : World} {Q : Exit → Act → World → Prop} (hgd : o.guard = none) (x : Operand) (ho : o.op = .load 132 x)
    (g : Nat) (hx : a.eval x = .pointer (some ⟨g, 0, none⟩)) (cs : Array Value) (hs : cs.size = 8) (hg : Arr w g cs 132)
    (h : wpList Tryd.prog ops Q rest (a.put o.dst (.agg cs)) w) : wpList Tryd.prog ops Q (o :: rest) a w :=
  wpList_load_row hgd 132 x ho g hx 132 cs (0, 0) _ hg Tryd.underlying132 rfl (by rw [hs]; exact info_s8) h
theorem Tab.row {w : World} (h : Tab w) (g : Nat) (cs : Array Value) (hn : 2 ≠ g) : Tab (w.setRow g cs) := fun k hk => by
  rw [← h k hk]; exact World.cell?_of_block (setRow_other w g _ cs hn)
theorem one_rowW (l : List Nat) : (rowW l).all (·.oneCell') = true := by
  unfold rowW
  rw [← List.toArray_appendList]
  simp [u32s, Value.oneCell']
/-- A whole array is stored. -/
theorem wpList_store64 {ops : Array Oper} {rest : List Oper} {o : Oper} {a : Act} {w : World} {Q : Exit → Act → World → Prop} (hgd : o.guard = none) (x y : Operand) (ho : o.op = .store 145 x y)
    (g : Nat) (hx : a.eval x = .pointer (some ⟨g, 0, none⟩)) (cs : Array Value) (hy : a.eval y = .agg cs) (hs : cs.size = 64) (h1 : cs.all (·.oneCell') = true) (old : Array Value) (hz : old.size = 64) (hg : Arr w g old 145)
    (h : wpList Tryd.prog ops Q rest (a.put o.dst undef) (w.setRow g cs)) : wpList Tryd.prog ops Q (o :: rest) a w :=
  wpList_store_row hgd 145 x y ho g cs hx hy 145 old hg (by rw [hs]; exact info_w64) (by omega) h1 h
theorem wpList_store8 {ops : Array Oper} {rest : List Oper} {o : Oper} {a : Act} {w : World} {Q : Exit → Act → World → Prop} (hgd : o.guard = none) (x y : Operand) (ho : o.op = .store 132 x y)
    (g : Nat) (hx : a.eval x = .pointer (some ⟨g, 0, none⟩)) (cs : Array Value) (hy : a.eval y = .agg cs) (hs : cs.size = 8) (h1 : cs.all (·.oneCell') = true) (old : Array Value) (hz : old.size = 8) (hg : Arr w g old 132)
    (h : wpList Tryd.prog ops Q rest (a.put o.dst undef) (w.setRow g cs)) : wpList Tryd.prog ops Q (o :: rest) a w :=
  wpList_store_row hgd 132 x y ho g cs hx hy 132 old hg (by rw [hs]; exact info_s8) (by omega) h1 h
/-- A new array variable gets its value. -/
theorem wpList_store64_new {ops : Array Oper} {rest : List Oper} {o : Oper} {a : Act} {w : World} {Q : Exit → Act → World → Prop} (hgd : o.guard = none) (x y : Operand) (ho : o.op = .store 145 x y)
    (old : Array Value) (hz : old.size = 64) (hx : a.eval x = .pointer (some ⟨w.heap.size, 0, none⟩)) (cs : Array Value) (hy : a.eval y = .agg cs) (hs : cs.size = 64) (h1 : cs.all (·.oneCell') = true)
    (h : wpList Tryd.prog ops Q rest (a.put o.dst undef) (w.alloc (.cells cs 145))) : wpList Tryd.prog ops Q (o :: rest) a (w.alloc (.cells old 145)) :=
  wpList_store64 hgd x y ho w.heap.size hx cs hy hs h1 old hz (Arr.new w old _) (by rw [World.setRow_alloc_new]; exact h)
theorem wpList_store8_new {ops : Array Oper} {rest : List Oper} {o : Oper} {a : Act} {w : World} {Q : Exit → Act → World → Prop} (hgd : o.guard = none) (x y : Operand) (ho : o.op = .store 132 x y)
    (old : Array Value) (hz : old.size = 8) (hx : a.eval x = .pointer (some ⟨w.heap.size, 0, none⟩)) (cs : Array Value) (hy : a.eval y = .agg cs) (hs : cs.size = 8) (h1 : cs.all (·.oneCell') = true)
    (h : wpList Tryd.prog ops Q rest (a.put o.dst undef) (w.alloc (.cells cs 132))) : wpList Tryd.prog ops Q (o :: rest) a (w.alloc (.cells old 132)) :=
  wpList_store8 hgd x y ho w.heap.size hx cs hy hs h1 old hz (Arr.new w old _) (by rw [World.setRow_alloc_new]; exact h)

theorem ret_w64 {fn : Func} {p : Tmp} {R : Ending → World → Prop} {a : Act} {w : World} (h : fn.results = #[.cell p 145]) (g : Nat) (cs : Array Value) (hs : cs.size = 64) (hp : a.tmps.getD p undef = .pointer (some ⟨g, 0, none⟩))
    (hg : Arr w g cs 145) (hd : a.defers = []) (hR : R (.returned (.agg cs)) w) : bodyPost Tryd.prog fn R .ret a w :=
  bodyPost_ret (results_cell_row h a.tmps w g 145 cs (0, 0) _ hp hg Tryd.underlying145 rfl (by rw [hs]; exact info_w64)) hd hR
theorem ret_s8 {fn : Func} {p : Tmp} {R : Ending → World → Prop} {a : Act} {w : World} (h : fn.results = #[.cell p 132]) (g : Nat) (cs : Array Value) (hs : cs.size = 8) (hp : a.tmps.getD p undef = .pointer (some ⟨g, 0, none⟩))
    (hg : Arr w g cs 132) (hd : a.defers = []) (hR : R (.returned (.agg cs)) w) : bodyPost Tryd.prog fn R .ret a w :=
  bodyPost_ret (results_cell_row h a.tmps w g 132 cs (0, 0) _ hp hg Tryd.underlying132 rfl (by rw [hs]; exact info_s8)) hd hR
theorem results_s8_tmp {fn : Func} {p u : Tmp} (h : fn.results = #[.cell p 132, .tmp u]) (tmps : Array Value) (w : World) (g : Nat) (cs : Array Value) (hs : cs.size = 8)
    (hp : tmps.getD p undef = .pointer (some ⟨g, 0, none⟩)) (hg : Arr w g cs 132) :
    (results fn tmps).run Tryd.prog w = .ok (.tuple #[.agg cs, tmps.getD u undef]) w := by
  rw [results_cell_tmp h, hp]
  simp only [asAddr, Sem.run_pure, Result.andThen_ok, run_loadVar_row w g 132 132 cs (0, 0) _ hg Tryd.underlying132 rfl (by rw [hs]; exact info_s8)]
theorem ret_s8_tmp {fn : Func} {p u : Tmp} {R : Ending → World → Prop} {a : Act} {w : World} (h : fn.results = #[.cell p 132, .tmp u]) (g : Nat) (cs : Array Value) (hs : cs.size = 8) (hp : a.tmps.getD p undef = .pointer (some ⟨g, 0, none⟩))
    (hg : Arr w g cs 132) (hd : a.defers = []) (v : Value) (hv : a.tmps.getD u undef = v) (hR : R (.returned (.tuple #[.agg cs, v])) w) : bodyPost Tryd.prog fn R .ret a w := by
  subst hv
  exact bodyPost_ret (results_s8_tmp h a.tmps w g cs hs hp hg) hd hR

end Go.Proofs.YtfflpooiebeagaaDoor
namespace Go.Proofs.YtfflpooiebeagaaDoor
open Go.RowKit

theorem fromHigh_part (s : ByteArray) (hs : s.size = 64) (k : Nat) (hk : k < 16) (w : World) :
    Calls Tryd.prog 90 #[.string (s.extract (4 * k) (4 * (k + 1)))] w fun e w' => e = .returned (.tuple #[.int .u64 (wFirst s.data.toList k : Nat), .int .i64 0]) ∧ w = w' := by
  have h := fromHigh_any (s.extract (4 * k) (4 * (k + 1))) w
  have hz : (s.extract (4 * k) (4 * (k + 1))).size = 4 := by rw [ext_size _ _ _ (by omega)]; omega
  rw [hz, ext_toList, show 4 * (k + 1) - 4 * k = 4 from by omega] at h
  exact h

/-- A word turned right by a number below 32. -/
theorem right_c (n : Int) (k : Nat) (hn : (n % 32).toNat = k) (x : Nat) (hx : Hid (x < 4294967296)) (w : World) :
    Calls Tryd.prog 88 #[.int .u32 x, .int .i64 n] w fun e w' => e = .returned (.int .u32 (rotr x k : Nat)) ∧ w = w' := by
  subst hn
  exact right_any x hx.out n w
theorem sum4 (a b c d : Nat) : ((a : Int) + (b : Int) + (c : Int) + (d : Int)) % 4294967296 = (((a + b + c + d) % 4294967296 : Nat) : Int) := by omega
theorem wL_getD_lt (blk : List UInt8) (n i : Nat) : (wL blk n).getD i 0 < 4294967296 := by
  by_cases h : i < (wL blk n).length
  · rw [List.getD, List.getElem?_eq_getElem h]; exact wL_lt blk n _ (List.getElem_mem _)
  · rw [List.getD, List.getElem?_eq_none (by omega)]; decide
theorem wStep_lo (blk : List UInt8) (k : Nat) (h : k < 16) : wL blk (k + 1) = wL blk k ++ [wFirst blk k] := by rw [wL_succ, wStep, if_pos h]
theorem wStep_hi (blk : List UInt8) (k : Nat) (h : 16 ≤ k) : wL blk (k + 1) = wL blk k ++ [wNext (wL blk k) k] := by rw [wL_succ, wStep, if_neg (by omega)]

set_option maxHeartbeats 4000000 in
set_option maxRecDepth 100000 in
theorem numbers_any (s : ByteArray) (hs : s.size = 64) (w : World) :
    Calls Tryd.prog 87 #[.string s] w fun e w' => e = .returned (.agg (rowW (wL s.data.toList 64))) ∧ Below w.heap.size w w' := by
  have hs1 : 64 ≤ s.size := by omega
  have HS := Lib.hid hs
  clear hs
  go_enter Tryd.func87, Tryd.ntmps87
  go_wp2
  go_loopw [12] (fun i wr => ∃ k : Nat, k ≤ 16 ∧ i = .int .i64 k ∧ Arr wr w.heap.size (rowW []) 145 ∧ Arr wr (w.heap.size + 1) (rowW (wL s.data.toList k)) 145 ∧ Below w.heap.size w wr) (fun i _ => 16 - (intOf i).toNat)
  case atStart =>
    refine ⟨0, by omega, rfl, (Arr.new w _ _).alloc _, Arr.newAt (w.alloc _) _ _ (by simp), ((Below.refl _ _).alloc (Nat.le_refl _) _).alloc (by simp) _⟩
  case round =>
    obtain ⟨k, hk, rfl, ha, hr, hbel⟩ := hrel
    by_cases hlt : k < 16
    · have hsl := slice_str s (4 * (k : Int)) (4 * ((k : Int) + 1)) (4 * k) (4 * (k + 1)) (by omega) (by omega) (by omega) (by omega)
      have HF := Lib.hid (fromHigh_part s HS.out k hlt)
      have hl := wL_len s.data.toList k
      have hc := hr.cell (rowW_hi _ k (by omega) (by omega))
      have hf := hr.frozen k
      have hr2 := hr.set k (.int .u32 (wFirst s.data.toList k : Nat))
      have hs2 := rowW_set (wL s.data.toList k) (wFirst s.data.toList k) (by omega)
      rw [hl, ← wStep_lo _ _ hlt] at hs2
      rw [hs2] at hr2
      have HR := Lib.hid hr2
      have HA := Lib.hid ha
      have hx := wFirst_lt s.data.toList k
      have HX : Hid ((wFirst s.data.toList k : Int) % 4294967296 = (wFirst s.data.toList k : Int)) := by show _ = _; omega
      clear hl hr hs2 hr2 ha hx
      generalize wFirst s.data.toList k = x at *
      go_wp2_with (go_at_call 90; ((with_reducible refine (HF.out _).mono ?_); rintro e w' ⟨rfl, rfl⟩))
      go_roundw
      case rel => exact ⟨k + 1, by omega, by go_num, Arr.other HA.out _ _ (by simp), by rw [HX.out]; exact HR.out, hbel.setCell (by simp) _⟩
      case measure => simp [intOf]; omega
    · have hk16 : k = 16 := by omega
      rw [hk16] at hr
      have hk17 : 16 ≤ k := by omega
      clear hk16
      have HR := Lib.hid hr
      have HA := Lib.hid ha
      clear hr ha
      obtain ⟨w0, hw0⟩ : ∃ w0, w0 = wr := ⟨_, rfl⟩
      have hbel0 := hbel
      go_wp2
      go_loopw [7] (fun i wr => ∃ k : Nat, 16 ≤ k ∧ k ≤ 64 ∧ i = .int .i64 k ∧ Arr wr w.heap.size (rowW []) 145 ∧ Arr wr (w.heap.size + 1) (rowW (wL s.data.toList k)) 145 ∧ Below w.heap.size w wr) (fun i _ => 64 - (intOf i).toNat)
      case atStart => exact ⟨16, by omega, by omega, rfl, HA.out, HR.out, hbel⟩
      case round =>
        clear hbel
        obtain ⟨k, hk1, hk, rfl, ha, hr, hbel⟩ := hrel
        by_cases hlt : k < 64
        · have hl := wL_len s.data.toList k
          have hb15 : (wL s.data.toList k).getD (k - 15) 0 < 4294967296 := wL_getD_lt _ _ _
          have hb2 : (wL s.data.toList k).getD (k - 2) 0 < 4294967296 := wL_getD_lt _ _ _
          have hn : wNext (wL s.data.toList k) k = ((wL s.data.toList k).getD (k - 16) 0 + sg0 ((wL s.data.toList k).getD (k - 15) 0) + (wL s.data.toList k).getD (k - 7) 0 + sg1 ((wL s.data.toList k).getD (k - 2) 0)) % 4294967296 := rfl
          have hr2 := hr.set k (.int .u32 (wNext (wL s.data.toList k) k : Nat))
          have hs2 := rowW_set (wL s.data.toList k) (wNext (wL s.data.toList k) k) (by omega)
          rw [hl, ← wStep_hi _ _ hk1] at hs2
          rw [hs2, hn] at hr2
          have g15 := hr.cell (rowW_get (wL s.data.toList k) (k - 15) (by omega))
          have g2 := hr.cell (rowW_get (wL s.data.toList k) (k - 2) (by omega))
          have g16 := hr.cell (rowW_get (wL s.data.toList k) (k - 16) (by omega))
          have g7 := hr.cell (rowW_get (wL s.data.toList k) (k - 7) (by omega))
          have gk := hr.cell (rowW_hi (wL s.data.toList k) k (by omega) hlt)
          have hf := hr.frozen k
          clear hs2 hn hl
          generalize (wL s.data.toList k).getD (k - 15) 0 = X15 at *
          generalize (wL s.data.toList k).getD (k - 2) 0 = X2 at *
          generalize (wL s.data.toList k).getD (k - 16) 0 = X16 at *
          generalize (wL s.data.toList k).getD (k - 7) 0 = X7 at *
          have q1 := xor32 _ _ (rotr_lt hb15 7) (rotr_lt hb15 18)
          have q3 := xor32 _ _ (rotr_lt hb2 17) (rotr_lt hb2 19)
          have q2 : bits .xor .u32 ((rotr X15 7 ^^^ rotr X15 18 : Nat) : Int) ((X15 : Int) / 8) = ((sg0 X15 : Nat) : Int) := xor32 _ (X15 / 8) (Nat.xor_lt_two_pow (n := 32) (rotr_lt hb15 7) (rotr_lt hb15 18)) (Nat.lt_of_le_of_lt (Nat.div_le_self _ _) hb15)
          have q4 : bits .xor .u32 ((rotr X2 17 ^^^ rotr X2 19 : Nat) : Int) ((X2 : Int) / 1024) = ((sg1 X2 : Nat) : Int) := xor32 _ (X2 / 1024) (Nat.xor_lt_two_pow (n := 32) (rotr_lt hb2 17) (rotr_lt hb2 19)) (Nat.lt_of_le_of_lt (Nat.div_le_self _ _) hb2)
          have HN := Lib.hid (sum4 X16 (sg0 X15) X7 (sg1 X2))
          have HR2 := Lib.hid hr2
          have HA' := Lib.hid ha
          have HB15 := Lib.hid hb15
          have HB2 := Lib.hid hb2
          have e1 : IntKind.i64.wrap ((k : Int) - 15) = ((k - 15 : Nat) : Int) := by rw [IntWalk.i64_in _ (by omega)]; omega
          have e2 : IntKind.i64.wrap ((k : Int) - 2) = ((k - 2 : Nat) : Int) := by rw [IntWalk.i64_in _ (by omega)]; omega
          have e3 : IntKind.i64.wrap ((k : Int) - 16) = ((k - 16 : Nat) : Int) := by rw [IntWalk.i64_in _ (by omega)]; omega
          have e4 : IntKind.i64.wrap ((k : Int) - 7) = ((k - 7 : Nat) : Int) := by rw [IntWalk.i64_in _ (by omega)]; omega
          clear hr hr2 ha hb15 hb2
          go_wp2
          go_region
          go_wp2_with (go_at_call 88; (first | (with_reducible refine (right_c 7 7 rfl _ HB15 _).mono ?_) | (with_reducible refine (right_c 18 18 rfl _ HB15 _).mono ?_) | (with_reducible refine (right_c 17 17 rfl _ HB2 _).mono ?_) | (with_reducible refine (right_c 19 19 rfl _ HB2 _).mono ?_)); rintro e w' ⟨rfl, rfl⟩)
          go_region
          go_wp2
          go_roundw
          case rel => exact ⟨k + 1, by omega, by omega, by go_num, (HA'.out.other _ _ (by simp)).drew.drew, by rw [HN.out]; exact HR2.out.drew.drew, ((hbel.setCell (Nat.le_succ _) _).drew).drew⟩
          case measure => simp [intOf]; omega
        · obtain rfl : k = 64 := by omega
          have HZ := Lib.hid (rowW_size (wL s.data.toList 64) (by rw [wL_len]; exact Nat.le_refl _))
          have HR' := Lib.hid hr
          have HA' := Lib.hid ha
          clear hr ha
          have HO := Lib.hid (one_rowW (wL s.data.toList 64))
          have HZ0 := Lib.hid (rowW_size [] (by simp))
          generalize hRd : rowW (wL s.data.toList 64) = R at *
          generalize rowW [] = Z at *
          have HRd := Lib.hid hRd
          clear hRd
          go_wp2_with (first | (with_reducible refine wpList_load64 rfl _ rfl (w.heap.size + 1) rfl _ HZ.out HR'.out ?_) | (with_reducible refine wpList_store64 rfl _ _ rfl w.heap.size rfl _ rfl HZ.out HO.out _ HZ0.out HA'.out ?_))
          exact ret_w64 Tryd.results87 w.heap.size R HZ.out rfl (HA'.out.row R) rfl ⟨by rw [HRd.out], below_setRow hbel (Nat.le_refl _) _⟩
end Go.Proofs.YtfflpooiebeagaaDoor
namespace Go.Proofs.YtfflpooiebeagaaDoor
open Go.RowKit

theorem not32 (x : Nat) (h : x < 4294967296) : 4294967295 ^^^ x = 4294967295 - x := by
  have h1 : (BitVec.allOnes 32 ^^^ BitVec.ofNat 32 x).toNat = (~~~ (BitVec.ofNat 32 x)).toNat := by rw [BitVec.allOnes_xor]
  rw [BitVec.toNat_xor, BitVec.toNat_not, BitVec.toNat_ofNat, Nat.mod_eq_of_lt (by omega)] at h1
  exact h1
theorem notu32 (x : Nat) (h : x < 4294967296) : bits .xor .u32 IntKind.u32.max (x : Int) = ((4294967295 - x : Nat) : Int) := by
  rw [← not32 x h]; exact xor32 4294967295 x (by decide) h
theorem sum5 (a b c d e : Nat) : ((a : Int) + (b : Int) + (c : Int) + (d : Int) + (e : Int)) % 4294967296 = (((a + b + c + d + e) % 4294967296 : Nat) : Int) := by omega
/-- What the memory is ahead of round k: the state that came in, the result's place, the block's numbers, the table. -/
def RelM (s : S8) (W : List Nat) (w : World) (g : Nat) (_ : Nat) (wr : World) : Prop :=
  Arr wr w.heap.size s.cells 132 ∧ Arr wr (w.heap.size + 1) #[.int .u32 0, .int .u32 0, .int .u32 0, .int .u32 0, .int .u32 0, .int .u32 0, .int .u32 0, .int .u32 0] 132 ∧ Arr wr g (rowW W) 145 ∧ Tab wr ∧ Below w.heap.size w wr
theorem RelM.drewN {s : S8} {W : List Nat} {w : World} {g k : Nat} {wr : World} (h : RelM s W w g k wr) (n : Nat) : RelM s W w g k (wr.drewN n) :=
  ⟨h.1.drewN _, h.2.1.drewN _, h.2.2.1.drewN _, h.2.2.2.1.drewN _, Below_drewN h.2.2.2.2 _⟩
theorem val_addS (s t : S8) : Value.agg (addS s t).cells = .agg #[.int .u32 (((s.a : Int) + (t.a : Int)) % 4294967296), .int .u32 (((s.b : Int) + (t.b : Int)) % 4294967296), .int .u32 (((s.c : Int) + (t.c : Int)) % 4294967296), .int .u32 (((s.d : Int) + (t.d : Int)) % 4294967296), .int .u32 (((s.e : Int) + (t.e : Int)) % 4294967296), .int .u32 (((s.f : Int) + (t.f : Int)) % 4294967296), .int .u32 (((s.g : Int) + (t.g : Int)) % 4294967296), .int .u32 (((s.h : Int) + (t.h : Int)) % 4294967296)] := by
  unfold S8.cells addS
  simp only [sum2]
def AtS (s : S8) (a b c d e f g h : Value) : Prop :=
  a = .int .u32 (s.a : Int) ∧ b = .int .u32 (s.b : Int) ∧ c = .int .u32 (s.c : Int) ∧ d = .int .u32 (s.d : Int) ∧ e = .int .u32 (s.e : Int) ∧ f = .int .u32 (s.f : Int) ∧ g = .int .u32 (s.g : Int) ∧ h = .int .u32 (s.h : Int)

set_option maxHeartbeats 4000000 in
set_option maxRecDepth 100000 in
theorem mix_any (s : S8) (hs : s.ok) (t : ByteArray) (ht : t.size = 64) (w : World) (htab : Tab w) :
    Calls Tryd.prog 79 #[.agg s.cells, .string t] w fun e w' => e = .returned (.agg (mixS s t.data.toList).cells) ∧ Below w.heap.size w w' := by
  have HC := Lib.hid (numbers_any t ht)
  have HZ := Lib.hid (rowW_size (wL t.data.toList 64) (by rw [wL_len]; exact Nat.le_refl _))
  have HO := Lib.hid (one_rowW (wL t.data.toList 64))
  obtain ⟨W, hW⟩ : ∃ W, W = wL t.data.toList 64 := ⟨_, rfl⟩
  have HWl : Hid (W.length = 64) := by rw [hW]; exact wL_len _ _
  have HWx : Hid (∀ k, W.getD k 0 < 4294967296) := fun k => by rw [hW]; exact wL_getD_lt _ _ _
  have HM : Hid (mixS s t.data.toList = addS s (rndsN s W 64)) := by rw [hW]; rfl
  rw [← hW] at HC HZ HO
  clear hW ht
  have HT := Lib.hid htab
  clear htab
  go_enter Tryd.func79, Tryd.ntmps79
  go_wp2_with (first
    | (go_at_call 87; ((with_reducible refine (HC.out _).mono ?_); rintro e w' ⟨rfl, hb⟩))
    | (with_reducible refine wpList_store64_new rfl _ _ rfl _ (by simp) rfl _ rfl HZ.out HO.out ?_))
  simp only [Act.put]
  have hA := Lib.hid ((((Arr.new w s.cells 132).alloc _).next hb).alloc (.cells (rowW W) 145))
  have hZ := Lib.hid (((Arr.newAt (w.alloc (.cells s.cells 132)) (g := w.heap.size + 1) _ 132 (by simp)).next hb).alloc (.cells (rowW W) 145))
  have hR := Lib.hid (Arr.new w' (rowW W) 145)
  have hT := Lib.hid ((((HT.out.alloc _).alloc _).next hb).alloc (.cells (rowW W) 145))
  have hG : w.heap.size + 2 ≤ w'.heap.size := by have := hb.size; simp at this; omega
  have hB := Lib.hid (((((Below.refl w.heap.size w).alloc (Nat.le_refl _) _).alloc (by simp) _).trans (hb.mono (by simp; omega))).alloc (by omega) (.cells (rowW W) 145))
  obtain ⟨g, hg⟩ : ∃ g, w'.heap.size = g := ⟨_, rfl⟩
  rw [hg] at hR hG ⊢
  generalize w'.alloc (.cells (rowW W) 145) = w1 at *
  clear hb hg HT
  have c0 : w1.cell? ⟨w.heap.size, 0, none⟩ = some (.int .u32 (s.a : Int)) := hA.out.cell (j := 0) rfl
  have c1 : w1.cell? ⟨w.heap.size, 1, none⟩ = some (.int .u32 (s.b : Int)) := hA.out.cell (j := 1) rfl
  have c2 : w1.cell? ⟨w.heap.size, 2, none⟩ = some (.int .u32 (s.c : Int)) := hA.out.cell (j := 2) rfl
  have c3 : w1.cell? ⟨w.heap.size, 3, none⟩ = some (.int .u32 (s.d : Int)) := hA.out.cell (j := 3) rfl
  have c4 : w1.cell? ⟨w.heap.size, 4, none⟩ = some (.int .u32 (s.e : Int)) := hA.out.cell (j := 4) rfl
  have c5 : w1.cell? ⟨w.heap.size, 5, none⟩ = some (.int .u32 (s.f : Int)) := hA.out.cell (j := 5) rfl
  have c6 : w1.cell? ⟨w.heap.size, 6, none⟩ = some (.int .u32 (s.g : Int)) := hA.out.cell (j := 6) rfl
  have c7 : w1.cell? ⟨w.heap.size, 7, none⟩ = some (.int .u32 (s.h : Int)) := hA.out.cell (j := 7) rfl
  go_quiet (fail)
  go_wp2
  have hrel0 : RelM s W w g 0 (w1.drewN nq) := ⟨hA.out.drewN _, hZ.out.drewN _, hR.out.drewN _, hT.out.drewN _, Below_drewN hB.out _⟩
  clear c0 c1 c2 c3 c4 c5 c6 c7 hA hZ hR hT hB
  have HR0 := Lib.hid hrel0
  clear hrel0
  go_loopw [6, 7, 8, 9, 10, 11, 12, 13, 39] (fun a b c d e f g' h i wr => ∃ k : Nat, k ≤ 64 ∧ i = .int .i64 k ∧ AtS (rndsN s W k) a b c d e f g' h ∧ RelM s W w g k wr) (fun _ _ _ _ _ _ _ _ i _ => 64 - (intOf i).toNat)
  case atStart => exact ⟨0, by omega, rfl, ⟨rfl, rfl, rfl, rfl, rfl, rfl, rfl, rfl⟩, HR0.out⟩
  case round =>
    clear HR0
    obtain ⟨k, hk, rfl, ⟨rfl, rfl, rfl, rfl, rfl, rfl, rfl, rfl⟩, hrel⟩ := hrel
    by_cases hlt : k < 64
    · have hok := rndsN_ok hs W k
      have HS := Lib.hid (rndsN_succ s W k)
      have ct := hrel.2.2.2.1 k hlt
      have cw := hrel.2.2.1.cell (rowW_get W k (by rw [HWl.out]; exact hlt))
      have HR := Lib.hid hrel
      clear hrel
      generalize rndsN s W k = S at *
      obtain ⟨A, B, C, D, E, F, G, H⟩ := S
      obtain ⟨hA, hB, hC, hD, hE, hF, hG', hH⟩ := hok
      simp only at hA hB hC hD hE hF hG' hH ⊢
      generalize W.getD k 0 = wk at *
      generalize tabN k = tk at *
      have HA := Lib.hid hA
      have HE := Lib.hid hE
      have q1 := xor32 _ _ (rotr_lt hE 6) (rotr_lt hE 11)
      have q2 : bits .xor .u32 ((rotr E 6 ^^^ rotr E 11 : Nat) : Int) ((rotr E 25 : Nat) : Int) = ((sh1 E : Nat) : Int) := xor32 _ _ (Nat.xor_lt_two_pow (n := 32) (rotr_lt hE 6) (rotr_lt hE 11)) (rotr_lt hE 25)
      have q3 := xor32 _ _ (rotr_lt hA 2) (rotr_lt hA 13)
      have q4 : bits .xor .u32 ((rotr A 2 ^^^ rotr A 13 : Nat) : Int) ((rotr A 22 : Nat) : Int) = ((sh0 A : Nat) : Int) := xor32 _ _ (Nat.xor_lt_two_pow (n := 32) (rotr_lt hA 2) (rotr_lt hA 13)) (rotr_lt hA 22)
      have q5 : bits .and .u32 (E : Int) (F : Int) = ((E &&& F : Nat) : Int) := u32_and_nat E F hE hF
      have q6 : bits .and .u32 (A : Int) (B : Int) = ((A &&& B : Nat) : Int) := u32_and_nat A B hA hB
      have q7 : bits .and .u32 (A : Int) (C : Int) = ((A &&& C : Nat) : Int) := u32_and_nat A C hA hC
      have q8 : bits .and .u32 (B : Int) (C : Int) = ((B &&& C : Nat) : Int) := u32_and_nat B C hB hC
      have q9 := or32 (A &&& B) (A &&& C) (Nat.and_lt_two_pow (n := 32) _ hB) (Nat.and_lt_two_pow (n := 32) _ hC)
      have q10 : bits .or .u32 (((A &&& B) ||| (A &&& C) : Nat) : Int) ((B &&& C : Nat) : Int) = ((mst A B C : Nat) : Int) := or32 _ _ (Nat.or_lt_two_pow (n := 32) (Nat.and_lt_two_pow (n := 32) _ hB) (Nat.and_lt_two_pow (n := 32) _ hC)) (Nat.and_lt_two_pow (n := 32) _ hC)
      have q11 := notu32 E hE
      have q12 : bits .and .u32 ((4294967295 - E : Nat) : Int) (G : Int) = (((4294967295 - E) &&& G : Nat) : Int) := u32_and_nat _ G (by omega) hG'
      have q13 : bits .or .u32 ((E &&& F : Nat) : Int) (((4294967295 - E) &&& G : Nat) : Int) = ((cho E F G : Nat) : Int) := or32 _ _ (Nat.and_lt_two_pow (n := 32) _ hF) (Nat.and_lt_two_pow (n := 32) _ hG')
      obtain ⟨P, hP⟩ : ∃ P, P = (H + sh1 E + cho E F G + tk + wk) % 4294967296 := ⟨_, rfl⟩
      obtain ⟨Q, hQ⟩ : ∃ Q, Q = (sh0 A + mst A B C) % 4294967296 := ⟨_, rfl⟩
      obtain ⟨PQ, hPQ⟩ : ∃ PQ, PQ = (P + Q) % 4294967296 := ⟨_, rfl⟩
      obtain ⟨DP, hDP⟩ : ∃ DP, DP = (D + P) % 4294967296 := ⟨_, rfl⟩
      have hrnd : rnd ⟨A, B, C, D, E, F, G, H⟩ tk wk = ⟨PQ, A, B, C, DP, E, F, G⟩ := by rw [hPQ, hDP, hP, hQ]; rfl
      have q14 : (((H : Int) + ((sh1 E : Nat) : Int) + ((cho E F G : Nat) : Int) + (tk : Int)) % 4294967296 + (wk : Int)) % 4294967296 = (P : Int) := by rw [hP]; omega
      have q14' : ((H : Int) + ((sh1 E : Nat) : Int) + ((cho E F G : Nat) : Int) + (tk : Int) + (wk : Int)) % 4294967296 = (P : Int) := by rw [hP]; omega
      have q15 : (((sh0 A : Nat) : Int) + ((mst A B C : Nat) : Int)) % 4294967296 = (Q : Int) := by rw [hQ]; omega
      have q16 : ((P : Int) + (Q : Int)) % 4294967296 = (PQ : Int) := by rw [hPQ]; omega
      have q17 : ((D : Int) + (P : Int)) % 4294967296 = (DP : Int) := by rw [hDP]; omega
      rw [hrnd] at HS
      clear hP hQ hPQ hDP hrnd
      clear hA hB hC hD hE hF hG' hH
      go_wp2_with (go_at_call 88; (first | (with_reducible refine (right_c 6 6 rfl _ HE _).mono ?_) | (with_reducible refine (right_c 11 11 rfl _ HE _).mono ?_) | (with_reducible refine (right_c 25 25 rfl _ HE _).mono ?_) | (with_reducible refine (right_c 2 2 rfl _ HA _).mono ?_) | (with_reducible refine (right_c 13 13 rfl _ HA _).mono ?_) | (with_reducible refine (right_c 22 22 rfl _ HA _).mono ?_)); rintro e w' ⟨rfl, rfl⟩)
      go_quiet (fail)
      have HR2 := Lib.hid (HR.out.drewN nq)
      clear ct cw HR
      generalize wr.drewN nq = w2 at *
      go_wp2_with (go_at_call 88; (first | (with_reducible refine (right_c 6 6 rfl _ HE _).mono ?_) | (with_reducible refine (right_c 11 11 rfl _ HE _).mono ?_) | (with_reducible refine (right_c 25 25 rfl _ HE _).mono ?_) | (with_reducible refine (right_c 2 2 rfl _ HA _).mono ?_) | (with_reducible refine (right_c 13 13 rfl _ HA _).mono ?_) | (with_reducible refine (right_c 22 22 rfl _ HA _).mono ?_)); rintro e w' ⟨rfl, rfl⟩)
      go_roundw
      case rel => exact ⟨k + 1, by omega, by go_num, by rw [HS.out, q16, q17]; exact ⟨rfl, rfl, rfl, rfl, rfl, rfl, rfl, rfl⟩, HR2.out⟩
      case measure => simp [intOf]; omega
    · have hk64 : k = 64 := by omega
      rw [hk64] at hrel
      have HS64 : Hid (rndsN s W k = rndsN s W 64) := by rw [hk64]; rfl
      have hk3 : 64 ≤ k := by omega
      clear hk64
      have HR := Lib.hid hrel
      have hA := hrel.1
      clear hrel
      have c0 : wr.cell? ⟨w.heap.size, 0, none⟩ = some (.int .u32 (s.a : Int)) := hA.cell (j := 0) rfl
      have c1 : wr.cell? ⟨w.heap.size, 1, none⟩ = some (.int .u32 (s.b : Int)) := hA.cell (j := 1) rfl
      have c2 : wr.cell? ⟨w.heap.size, 2, none⟩ = some (.int .u32 (s.c : Int)) := hA.cell (j := 2) rfl
      have c3 : wr.cell? ⟨w.heap.size, 3, none⟩ = some (.int .u32 (s.d : Int)) := hA.cell (j := 3) rfl
      have c4 : wr.cell? ⟨w.heap.size, 4, none⟩ = some (.int .u32 (s.e : Int)) := hA.cell (j := 4) rfl
      have c5 : wr.cell? ⟨w.heap.size, 5, none⟩ = some (.int .u32 (s.f : Int)) := hA.cell (j := 5) rfl
      have c6 : wr.cell? ⟨w.heap.size, 6, none⟩ = some (.int .u32 (s.g : Int)) := hA.cell (j := 6) rfl
      have c7 : wr.cell? ⟨w.heap.size, 7, none⟩ = some (.int .u32 (s.h : Int)) := hA.cell (j := 7) rfl
      clear hA
      generalize rndsN s W k = S at *
      have HZ := Lib.hid HR.out.2.1
      have HV := Lib.hid (val_addS s S)
      go_wp2_with (with_reducible refine wpList_store8 rfl _ _ rfl (w.heap.size + 1) rfl _ rfl (by simp) (by simp [Value.oneCell']) _ (by simp) HZ.out ?_)
      refine ret_s8 Tryd.results79 (w.heap.size + 1) _ (by simp) rfl (HZ.out.row _) rfl ⟨?_, below_setRow HR.out.2.2.2.2 (by omega) _⟩
      rw [HM.out, ← HS64.out]
      exact congrArg _ HV.out.symm
end Go.Proofs.YtfflpooiebeagaaDoor
namespace Go.Proofs.YtfflpooiebeagaaDoor
open Go.RowKit

theorem cells_size (s : S8) : s.cells.size = 8 := rfl
theorem cells_one (s : S8) : s.cells.all (·.oneCell') = true := by simp [S8.cells, Value.oneCell']
theorem eight (a b c d e f g h : Value) : (#[a, b, c, d, e, f, g, h] : Array Value).size = 8 := rfl

set_option maxHeartbeats 400000 in
theorem first_any (w : World) :
    Calls Tryd.prog 77 #[] w fun e w' => e = .returned (.agg firstS.cells) ∧ Below w.heap.size w w' := by
  go_enter Tryd.func77, Tryd.ntmps77
  go_wp2_with (with_reducible refine wpList_store8_new rfl _ _ rfl _ (by simp) rfl _ rfl (by simp) (by simp [Value.oneCell']) ?_)
  exact ret_s8 Tryd.results77 w.heap.size _ (by simp) rfl (Arr.new w _ _) rfl ⟨rfl, (Below.refl _ _).alloc (Nat.le_refl _) _⟩

/-- What Mix answers. -/
def zeroS : S8 := ⟨0, 0, 0, 0, 0, 0, 0, 0⟩
def mixR (s : S8) (t : ByteArray) : S8 := if t.size = 64 then mixS s t.data.toList else zeroS
def mixE (t : ByteArray) : Int := if t.size = 64 then 0 else 5
theorem ret_agg_int {k : IntKind} {a b : Value} {c d : Int} (h : a = b) (h2 : c = d) : Ending.returned (.tuple #[a, .int k c]) = .returned (.tuple #[b, .int k d]) := by rw [h, h2]

theorem ret_str {a b : ByteArray} (h : a = b) : Ending.returned (.string a) = .returned (.string b) := by rw [h]
theorem padZ_num (n : Nat) (_ : n < 18446744073709551616) : wrap64 ((IntKind.u64.wrap (55 - (n : Int))).tmod 64) = ((padZ n : Nat) : Int) := by
  have e : (IntKind.u64.wrap (55 - (n : Int))).tmod 64 = ((padZ n : Nat) : Int) := by
    rw [IntKind.wrap_u64, Int.tmod_eq_emod_of_nonneg (by omega), padZ]; omega
  rw [e]
  exact IntWalk.wrap64_in _ ⟨by omega, by unfold padZ; omega⟩

theorem padZ_lt (n : Nat) : padZ n < 64 := Nat.mod_lt _ (by decide)

set_option maxHeartbeats 400000 in
theorem pad_any (n : Nat) (hn : n < 18446744073709551616) (w : World) :
    Calls Tryd.prog 81 #[.int .u64 n] w fun e w' => e = .returned (.string ⟨(padL n).toArray⟩) ∧ Below w.heap.size w w' := by
  have HP := Lib.hid (padZ_num n hn)
  have h8 := high_any (8 * n % 18446744073709551616) (Nat.mod_lt _ (by decide)) 8
  have e8 : ((8 * n % 18446744073709551616 : Nat) : Int) = IntKind.u64.wrap (8 * (n : Int)) := by rw [IntKind.wrap_u64]; omega
  rw [e8] at h8
  obtain ⟨X, hX⟩ : ∃ X : ByteArray, X = ⟨(lowL (8 * n % 18446744073709551616) (toldN 8)).reverse.toArray⟩ := ⟨_, rfl⟩
  have hX8 := highB_size _ _ X hX
  rw [show toldN 8 = 8 from rfl] at hX8
  have hX9 : X.size ≤ 8 := by omega
  rw [← hX] at h8
  have H8 := Lib.hid h8
  have hz := padZ_lt n
  have HX := Lib.hid hX
  clear h8 e8 hn hX hX8
  go_enter Tryd.func81, Tryd.ntmps81
  go_wp2_with fail
  rw [HP.out]
  have HZ := Lib.hid (show padL n = 128 :: (List.replicate (padZ n) 0 ++ (lowL (8 * n % 18446744073709551616) 8).reverse) from rfl)
  generalize padZ n = z at *
  refine (Tryd.strings_Repeat _ _ _ (by omega) (by show 1 * _ ≤ _; omega)).mono ?_
  rintro e w' ⟨rfl, hb⟩
  rw [show (ByteArray.mk #[0]).data.toList = [(0 : UInt8)] from rfl, repeatL_zero]
  go_wp2_with (go_at_call 20; ((with_reducible refine (H8.out _).mono ?_); rintro e w2 ⟨rfl, hb2⟩))
  go_ret
  refine ⟨?_, Below_next hb hb2⟩
  rw [HZ.out, HX.out, show toldN 8 = 8 from rfl]
  refine ret_str ?_
  apply ByteArray.ext
  simp
end Go.Proofs.YtfflpooiebeagaaDoor
namespace Go.Proofs.YtfflpooiebeagaaDoor
open Go.RowKit

theorem blk_eq (s : ByteArray) (k : Nat) : (s.extract (64 * k) (64 * k + 64)).data.toList = (s.data.toList.drop (64 * k)).take 64 := by
  rw [ext_toList]; congr 1; omega

/-- What mixAll's memory is ahead of a round. -/
def RelA (s : S8) (w : World) (wr : World) : Prop :=
  Arr wr w.heap.size s.cells 132 ∧ Arr wr (w.heap.size + 1) #[.int .u32 0, .int .u32 0, .int .u32 0, .int .u32 0, .int .u32 0, .int .u32 0, .int .u32 0, .int .u32 0] 132 ∧ Tab wr ∧ Below w.heap.size w wr
theorem RelA.drew {s : S8} {w wr : World} (h : RelA s w wr) : RelA s w wr.drew := ⟨h.1.drew, h.2.1.drew, h.2.2.1.drew, h.2.2.2.drew⟩

set_option maxHeartbeats 1000000 in
set_option maxRecDepth 100000 in
theorem mixAll_any (s : S8) (hs : s.ok) (t : ByteArray) (ht : t.size ≤ 1099511627776) (w : World) (htab : Tab w) :
    Calls Tryd.prog 80 #[.agg s.cells, .string t] w fun e w' => e = .returned (.tuple #[.agg (mixN s t.data.toList (t.size / 64)).cells, .string (t.extract (64 * (t.size / 64)) t.size)]) ∧ Below w.heap.size w w' := by
  have HT := Lib.hid htab
  have ht0 := htab.lt
  clear htab
  go_enter Tryd.func80, Tryd.ntmps80
  go_wp2_with fail
  have hrel0 := Lib.hid (show RelA s w _ from ⟨(Arr.new w s.cells 132).alloc (.cells #[.int .u32 0, .int .u32 0, .int .u32 0, .int .u32 0, .int .u32 0, .int .u32 0, .int .u32 0, .int .u32 0] 132), Arr.newAt _ _ _ (by simp), (HT.out.alloc _).alloc _, ((Below.refl w.heap.size w).alloc (Nat.le_refl _) _).alloc (by simp) _⟩)
  go_loopw [1] (fun x wr => ∃ k : Nat, 64 * k ≤ t.size ∧ x = .string (t.extract (64 * k) t.size) ∧ RelA (mixN s t.data.toList k) w wr) (fun x _ => match x with | .string b => b.size | _ => 0)
  case atStart =>
    refine ⟨0, by omega, ?_, hrel0.out⟩
    congr 1
    apply ByteArray.ext
    simp
  case round =>
    clear hrel0 HT
    obtain ⟨k, hk, rfl, hrel⟩ := hrel
    have hsz : (t.extract (64 * k) t.size).size = t.size - 64 * k := ext_size _ _ _ (Nat.le_refl _)
    by_cases hge : 64 * (k + 1) ≤ t.size
    · have hX1 : 64 ≤ (t.extract (64 * k) t.size).size := by omega
      have hX2 : (t.extract (64 * k) t.size).size ≤ 1099511627776 := by omega
      have hblk : (t.extract (64 * k) t.size).extract 0 64 = t.extract (64 * k) (64 * k + 64) := by
        apply ByteArray.ext; simp only [ByteArray.data_extract, Array.extract_extract]; congr 1 <;> omega
      have hrest : (t.extract (64 * k) t.size).extract 64 (t.extract (64 * k) t.size).size = t.extract (64 * (k + 1)) t.size := by
        rw [hsz]; apply ByteArray.ext; simp only [ByteArray.data_extract, Array.extract_extract]; congr 1 <;> omega
      have hlen : ((t.extract (64 * k) t.size).extract 64 (t.extract (64 * k) t.size).size).size < (t.extract (64 * k) t.size).size := by
        rw [hrest, ext_size _ _ _ (Nat.le_refl _)]; omega
      have hsub : ((t.extract (64 * k) t.size).extract 0 64).size = 64 := by rw [hblk, ext_size _ _ _ (by omega)]; omega
      have hmix := mix_any (mixN s t.data.toList k) (mixN_ok hs _ k) ((t.extract (64 * k) t.size).extract 0 64) hsub
      rw [hblk, blk_eq, show mixS (mixN s t.data.toList k) ((t.data.toList.drop (64 * k)).take 64) = mixN s t.data.toList (k + 1) from rfl, ← hblk] at hmix
      have hok := mixN_ok hs t.data.toList k
      generalize mixN s t.data.toList k = S at *
      have HM : Hid (∀ w : World, Tab w → Calls Tryd.prog 79 #[.agg #[.int .u32 (S.a : Int), .int .u32 (S.b : Int), .int .u32 (S.c : Int), .int .u32 (S.d : Int), .int .u32 (S.e : Int), .int .u32 (S.f : Int), .int .u32 (S.g : Int), .int .u32 (S.h : Int)], .string ((t.extract (64 * k) t.size).extract 0 64)] w fun e w' => e = .returned (.agg (mixN s t.data.toList (k + 1)).cells) ∧ Below w.heap.size w w') := hmix
      have HRest := Lib.hid hrest
      clear hmix hblk hrest hsub hsz
      generalize t.extract (64 * k) t.size = X at *
      have HL := Lib.hid hlen
      clear hlen
      have hA := hrel.1
      have c0 : wr.cell? ⟨w.heap.size, 0, none⟩ = some (.int .u32 (S.a : Int)) := hA.cell (j := 0) rfl
      have c1 : wr.cell? ⟨w.heap.size, 1, none⟩ = some (.int .u32 (S.b : Int)) := hA.cell (j := 1) rfl
      have c2 : wr.cell? ⟨w.heap.size, 2, none⟩ = some (.int .u32 (S.c : Int)) := hA.cell (j := 2) rfl
      have c3 : wr.cell? ⟨w.heap.size, 3, none⟩ = some (.int .u32 (S.d : Int)) := hA.cell (j := 3) rfl
      have c4 : wr.cell? ⟨w.heap.size, 4, none⟩ = some (.int .u32 (S.e : Int)) := hA.cell (j := 4) rfl
      have c5 : wr.cell? ⟨w.heap.size, 5, none⟩ = some (.int .u32 (S.f : Int)) := hA.cell (j := 5) rfl
      have c6 : wr.cell? ⟨w.heap.size, 6, none⟩ = some (.int .u32 (S.g : Int)) := hA.cell (j := 6) rfl
      have c7 : wr.cell? ⟨w.heap.size, 7, none⟩ = some (.int .u32 (S.h : Int)) := hA.cell (j := 7) rfl
      have HR := Lib.hid hrel
      clear hrel hA
      go_wp2
      go_still_tail 3, (by kernel_rfl)
      change wpList _ _ _ _ _ wr.drew
      have HR2 := Lib.hid HR.out.drew
      clear HR c0 c1 c2 c3 c4 c5 c6 c7
      generalize wr.drew = w2 at *
      have HT := Lib.hid HR2.out.2.2.1
      go_wp2_with (first
        | (go_at_call 79; (with_reducible refine (HM.out _ HT.out).mono ?_); rintro e w3 ⟨rfl, hb⟩; have HA := Lib.hid (HR2.out.1.next hb))
        | (with_reducible refine wpList_store8 rfl _ _ rfl w.heap.size rfl _ rfl (cells_size _) (cells_one _) _ (cells_size _) HA.out ?_))
      go_roundw
      case rel => exact ⟨k + 1, hge, by rw [HRest.out], ⟨HA.out.row _, (HR2.out.2.1.next hb).rowOther _ (by omega), ((HR2.out.2.2.1).next hb).row _ _ (by omega), below_setRow (HR2.out.2.2.2.trans (hb.mono HR2.out.2.2.2.size)) (Nat.le_refl _) _⟩⟩
      case measure => simp; have := HL.out; simp at this; omega
    · have hlt : (t.extract (64 * k) t.size).size < 64 := by omega
      have hkk : k = t.size / 64 := by omega
      have HE : Hid (Value.string (t.extract (64 * k) t.size) = .string (t.extract (64 * (t.size / 64)) t.size) ∧ mixN s t.data.toList k = mixN s t.data.toList (t.size / 64)) := by rw [← hkk]; exact ⟨rfl, rfl⟩
      generalize mixN s t.data.toList k = S at *
      generalize t.extract (64 * k) t.size = X at *
      clear hkk hsz
      have HA := Lib.hid hrel.1
      have HZ := Lib.hid hrel.2.1
      have HB := Lib.hid hrel.2.2.2
      clear hrel
      go_wp2_with (first
        | (with_reducible refine wpList_load8 rfl _ rfl w.heap.size rfl _ (cells_size S) HA.out ?_)
        | (with_reducible refine wpList_store8 rfl _ _ rfl (w.heap.size + 1) rfl _ rfl (cells_size S) (cells_one S) _ (by simp) HZ.out ?_))
      refine ret_s8_tmp Tryd.results80 (w.heap.size + 1) _ (cells_size S) rfl (HZ.out.row _) rfl _ rfl ⟨?_, below_setRow HB.out (by omega) _⟩
      rw [← HE.out.1, ← HE.out.2]
      rfl
end Go.Proofs.YtfflpooiebeagaaDoor
namespace Go.Proofs.YtfflpooiebeagaaDoor
open Go.RowKit

/-- A Hash's cells. -/
def hcells (st : S8) (part : List UInt8) (n : Nat) : Array Value := (st.cells.toList ++ u8s part ++ [Value.int .u64 (n : Int)]).toArray
theorem hcells_size (st : S8) (part : List UInt8) (n : Nat) (h : part.length = 64) : (hcells st part n).size = 73 := by
  simp [hcells, S8.cells, u8s_len, h]
theorem hcells_st (st : S8) (part : List UInt8) (n : Nat) (i : Nat) (h : i < 8) : (hcells st part n)[i]? = st.cells[i]? := by
  have : st.cells.toList.length = 8 := rfl
  simp [hcells, List.append_assoc, List.getElem?_append_left, this, h]
theorem hcells_part (st : S8) (part : List UInt8) (n : Nat) (hp : part.length = 64) (i : Nat) (h : i < 64) : (hcells st part n)[8 + i]? = (u8s part)[i]? := by
  have h8 : st.cells.toList.length = 8 := rfl
  rw [hcells, List.append_assoc, List.getElem?_toArray, List.getElem?_append_right (by omega), h8, List.getElem?_append_left (by rw [u8s_len]; omega)]
  congr 1; omega
theorem hcells_n (st : S8) (part : List UInt8) (n : Nat) (hp : part.length = 64) : (hcells st part n)[72]? = some (.int .u64 (n : Int)) := by
  have h8 : st.cells.toList.length = 8 := rfl
  rw [hcells, List.getElem?_toArray, List.getElem?_append_right (by rw [List.length_append, u8s_len]; omega), List.length_append, u8s_len, h8, hp]
  rfl

/-- Block g is a Hash of these bytes. -/
def HashOf (w : World) (g : Nat) (l : List UInt8) : Prop :=
  ∃ part : List UInt8, part.length = 64 ∧ part.take (l.length % 64) = l.drop (64 * (l.length / 64)) ∧ Arr w g (hcells (mixN firstS l (l.length / 64)) part l.length) 135
theorem HashOf.next {w w' : World} {g : Nat} {l : List UInt8} (h : HashOf w g l) (hb : Below w.heap.size w w') : HashOf w' g l := by
  obtain ⟨p, h1, h2, h3⟩ := h
  exact ⟨p, h1, h2, h3.next hb⟩
theorem HashOf.lt {w : World} {g : Nat} {l : List UInt8} (h : HashOf w g l) : g < w.heap.size := by
  obtain ⟨p, h1, h2, h3⟩ := h
  exact h3.lt

theorem built_new : Tryd.prog.built 135 [(0, .agg firstS.cells)] = some (hcells firstS (List.replicate 64 0) 0) := by kernel_rfl
/-- A new Hash is built of the state at first. -/
theorem wpList_newHash {ops : Array Oper} {rest : List Oper} {o : Oper} {a : Act} {w : World} {Q : Exit → Act → World → Prop} (hg : o.guard = none) (x : Operand) (ho : o.op = .build 135 #[(0, x)])
    (hx : a.eval x = .agg firstS.cells) (h : wpList Tryd.prog ops Q rest (a.put o.dst (.agg (hcells firstS (List.replicate 64 0) 0))) w) : wpList Tryd.prog ops Q (o :: rest) a w :=
  wpList_build hg _ _ ho (by simp [hx, built_new]) (by simp only [List.map_toArray, List.map_cons, List.map_nil, hx, built_new]; exact h)

set_option maxHeartbeats 1000000 in
theorem new_any (w : World) :
    Calls Tryd.prog 68 #[] w fun e w' => (∃ g, e = .returned (.pointer (some ⟨g, 0, none⟩)) ∧ w.heap.size ≤ g ∧ HashOf w' g []) ∧ Below w.heap.size w w' := by
  have HF := Lib.hid first_any
  go_enter Tryd.func68, Tryd.ntmps68
  go_wp2_with (first
    | (go_at_call 77; ((with_reducible refine (HF.out _).mono ?_); rintro e w' ⟨rfl, hb⟩))
    | (with_reducible refine wpList_newHash rfl _ rfl rfl ?_))
  go_ret
  exact ⟨⟨w'.heap.size, rfl, hb.size, List.replicate 64 0, by simp, by simp, Arr.new w' (hcells firstS (List.replicate 64 0) 0) _⟩, hb.alloc hb.size _⟩

theorem HashOf.size {w : World} {g : Nat} {l : List UInt8} (h : HashOf w g l) : w.cell? ⟨g, 72, none⟩ = some (.int .u64 ((l.length : Nat) : Int)) := by
  obtain ⟨p, h1, h2, h3⟩ := h
  exact h3.cell (hcells_n _ _ _ h1)

theorem begun_any (g : Nat) (l : List UInt8) (w : World) (h : HashOf w g l) :
    Calls Tryd.prog 78 #[.pointer (some ⟨g, 0, none⟩)] w fun e w' => e = .returned (.int .i64 ((l.length % 64 : Nat) : Int)) ∧ w = w' := by
  have hc := h.size
  have e1 : wrap64 (((l.length : Nat) : Int) % 64) = ((l.length % 64 : Nat) : Int) := by rw [IntWalk.wrap64_in _ ⟨by omega, by omega⟩]; omega
  have HE := Lib.hid e1
  have h0 : (0 : Int) ≤ ((l.length : Nat) : Int) := by omega
  clear h e1
  go_enter Tryd.func78, Tryd.ntmps78
  go_wp2
  go_ret
  exact ⟨ret_int (by first | exact HE.out | omega), rfl⟩

end Go.Proofs.YtfflpooiebeagaaDoor
namespace Go.Proofs.YtfflpooiebeagaaDoor
open Go.RowKit

theorem hcells_setN (st : S8) (p : List UInt8) (n m : Nat) (hp : p.length = 64) : (hcells st p n).setIfInBounds 72 (.int .u64 (m : Int)) = hcells st p m := by
  have h8 : st.cells.toList.length = 8 := rfl
  rw [hcells, hcells, List.setIfInBounds_toArray, List.set_append_right _ _ (by rw [List.length_append, u8s_len]; omega), List.length_append, u8s_len, h8, hp]
  rfl
theorem hcells_toList (st : S8) (p : List UInt8) (n : Nat) : (hcells st p n).toList = st.cells.toList ++ u8s p ++ [Value.int .u64 (n : Int)] := rfl
theorem hcells_copy (st : S8) (p q : List UInt8) (n r : Nat) (hp : p.length = 64) (hr : r + q.length ≤ 64) :
    ((hcells st p n).toList.take (8 + r) ++ u8s q ++ (hcells st p n).toList.drop (8 + r + q.length)).toArray = hcells st (p.take r ++ q ++ p.drop (r + q.length)) n := by
  have h8 : st.cells.toList.length = 8 := rfl
  have e : (hcells st p n).toList = st.cells.toList ++ (u8s p ++ [Value.int .u64 (n : Int)]) := by rw [hcells_toList, List.append_assoc]
  rw [e, hcells, List.take_append, List.drop_append, h8]
  rw [List.take_of_length_le (by omega), List.drop_eq_nil_of_le (by omega), List.take_append_of_le_length (by rw [u8s_len]; omega), List.drop_append_of_le_length (by rw [u8s_len]; omega)]
  rw [show 8 + r - 8 = r from by omega, show 8 + r + q.length - 8 = r + q.length from by omega]
  simp [u8s]
theorem hcells_state (st st' : S8) (p : List UInt8) (n : Nat) : (st'.cells.toList ++ (hcells st p n).toList.drop 8).toArray = hcells st' p n := by
  have h8 : st.cells.toList.length = 8 := rfl
  have e : (hcells st p n).toList = st.cells.toList ++ (u8s p ++ [Value.int .u64 (n : Int)]) := by rw [hcells_toList, List.append_assoc]
  rw [e, hcells, List.drop_append, List.drop_eq_nil_of_le (by omega), h8]
  simp

theorem mixN_append (s : S8) (l m : List UInt8) (k : Nat) (h : 64 * k ≤ l.length) : mixN s (l ++ m) k = mixN s l k := by
  induction k with
  | zero => rfl
  | succ k ih =>
    rw [mixN, mixN, ih (by omega), List.drop_append_of_le_length (by omega), List.take_append_of_le_length (by rw [List.length_drop]; omega)]
theorem mixN_add (s : S8) (l : List UInt8) (a b : Nat) : mixN s l (a + b) = mixN (mixN s l a) (l.drop (64 * a)) b := by
  induction b with
  | zero => rfl
  | succ b ih =>
    rw [← Nat.add_assoc, mixN, mixN, ih, List.drop_drop]
    congr 3; omega

/-- Little enough comes that no block gets whole. -/
theorem on_small (l q p : List UInt8) (hp : p.length = 64) (hpl : p.take (l.length % 64) = l.drop (64 * (l.length / 64))) (h : l.length % 64 + q.length < 64) :
    (l ++ q).length / 64 = l.length / 64 ∧ (p.take (l.length % 64) ++ q ++ p.drop (l.length % 64 + q.length)).length = 64 ∧
    (p.take (l.length % 64) ++ q ++ p.drop (l.length % 64 + q.length)).take ((l ++ q).length % 64) = (l ++ q).drop (64 * ((l ++ q).length / 64)) ∧
    mixN firstS (l ++ q) ((l ++ q).length / 64) = mixN firstS l (l.length / 64) := by
  have hd : (l ++ q).length / 64 = l.length / 64 := by rw [List.length_append]; omega
  have hr : (p.take (l.length % 64)).length = l.length % 64 := by rw [List.length_take]; omega
  refine ⟨hd, ?_, ?_, ?_⟩
  · simp only [List.length_append, hr, List.length_drop]; omega
  · rw [hd, List.take_append_of_le_length (by rw [List.length_append, List.length_append, hr]; omega), List.take_of_length_le (by rw [List.length_append, List.length_append, hr]; omega),
      List.drop_append_of_le_length (by omega), hpl]
  · rw [hd, mixN_append _ _ _ _ (by omega)]

/-- A block gets whole: what it is, and what is behind it. -/
theorem on_block (l q p : List UInt8) (hp : p.length = 64) (hpl : p.take (l.length % 64) = l.drop (64 * (l.length / 64))) (h : 64 ≤ l.length % 64 + q.length) :
    (p.take (l.length % 64) ++ q.take (64 - l.length % 64)).length = 64 ∧
    mixS (mixN firstS l (l.length / 64)) (p.take (l.length % 64) ++ q.take (64 - l.length % 64)) = mixN firstS (l ++ q) (l.length / 64 + 1) ∧
    (l ++ q).drop (64 * (l.length / 64 + 1)) = q.drop (64 - l.length % 64) := by
  have hr : (p.take (l.length % 64)).length = l.length % 64 := by rw [List.length_take]; omega
  refine ⟨?_, ?_, ?_⟩
  · rw [List.length_append, hr, List.length_take]; omega
  · have e1 : (l.drop (64 * (l.length / 64)) ++ q).take 64 = l.drop (64 * (l.length / 64)) ++ q.take (64 - l.length % 64) := by
      rw [List.take_append, List.take_of_length_le (show (l.drop (64 * (l.length / 64))).length ≤ 64 by rw [List.length_drop]; omega), List.length_drop, show 64 - (l.length - 64 * (l.length / 64)) = 64 - l.length % 64 from by omega]
    rw [mixN, mixN_append _ _ _ _ (by omega), List.drop_append_of_le_length (by omega), hpl, e1]
  · clear hr
    rw [List.drop_append, List.drop_eq_nil_of_le (by omega), List.nil_append]
    congr 1; omega

/-- .. and all whole blocks behind it. -/
theorem on_rest (l q : List UInt8) (h : 64 ≤ l.length % 64 + q.length) :
    mixN (mixN firstS (l ++ q) (l.length / 64 + 1)) (q.drop (64 - l.length % 64)) ((q.length - (64 - l.length % 64)) / 64) = mixN firstS (l ++ q) ((l ++ q).length / 64) ∧
    (q.drop (64 - l.length % 64)).drop (64 * ((q.length - (64 - l.length % 64)) / 64)) = (l ++ q).drop (64 * ((l ++ q).length / 64)) ∧
    q.length - (64 - l.length % 64) - 64 * ((q.length - (64 - l.length % 64)) / 64) = (l ++ q).length % 64 := by
  have e : (l ++ q).length / 64 = l.length / 64 + 1 + (q.length - (64 - l.length % 64)) / 64 := by rw [List.length_append]; omega
  have hd : (l ++ q).drop (64 * (l.length / 64 + 1)) = q.drop (64 - l.length % 64) := by
    rw [List.drop_append, List.drop_eq_nil_of_le (by omega), List.nil_append]
    congr 1; omega
  refine ⟨?_, ?_, ?_⟩
  · rw [e, mixN_add firstS (l ++ q) (l.length / 64 + 1), hd]
  · rw [e, ← hd, List.drop_drop]
    congr 1; omega
  · rw [List.length_append]; omega

theorem copy_arr {W : World} {g : Nat} {st : S8} {p : List UInt8} {N : Nat} (h : Arr W g (hcells st p N) 135) (q : List UInt8) (r m : Nat) (hm : q.length = m) (hp : p.length = 64) (hr : r + m ≤ 64) :
    Arr (W.setRow g (List.take (8 + r) (hcells st p N).toList ++ (u8s q ++ List.drop (8 + r + m) (hcells st p N).toList)).toArray) g (hcells st (p.take r ++ q ++ p.drop (r + m)) N) 135 := by
  subst hm
  rw [← List.append_assoc, hcells_copy st p q N r hp hr]
  exact h.row _
/-- A state is stored at a block's head. -/
theorem wpList_store_head {ops : Array Oper} {rest : List Oper} {o : Oper} {a : Act} {w : World} {Q : Exit → Act → World → Prop} (hgd : o.guard = none) (x y : Operand) (ho : o.op = .store 132 x y)
    (g : Nat) (hx : a.eval x = .pointer (some ⟨g, 0, none⟩)) (cs : Array Value) (hy : a.eval y = .agg cs) (hs : cs.size = 8) (h1 : cs.all (·.oneCell') = true) (t : TypeId) (cur : Array Value) (hz : 8 ≤ cur.size) (hg : Arr w g cur t)
    (h : wpList Tryd.prog ops Q rest (a.put o.dst undef) (w.setRow g (cs.toList ++ cur.toList.drop 8).toArray)) : wpList Tryd.prog ops Q (o :: rest) a w := by
  refine wpList_plain hgd fun K hK => ?_
  have hone : ∀ v ∈ cs.toList, v.oneCell' = true := fun v hv => (Array.all_eq_true_iff_forall_mem.1 h1) v (by simpa using hv)
  have hst := run_storeCells_at Tryd.prog g 0 t cs.toList 0 cur w hg (by simp; omega) hone
  have hrun : (storeVar 132 ⟨g, 0, none⟩ (.agg cs)).run Tryd.prog w = .ok () (w.setRow g (cs.toList ++ cur.toList.drop 8).toArray) := by
    cases hq : Tryd.prog.info? 132 with
    | none => have := info_s8; simp [hq] at this
    | some i =>
      have hs8 : cs.size = i.size := by have := info_s8; simp [hq] at this; omega
      simp only [Nat.add_zero, List.take_zero, List.nil_append, Nat.zero_add, Array.length_toList, hs] at hst
      simp [storeVar, sizeOf, typeInfo, hq, Value.cells, hs8, hst]
  unfold Oper.wp execOp
  simp only [ho, hx, hy, Instr.storeAt, Instr.sureAddr, Sem.run_bind, Sem.run_pure, Result.andThen_ok, hrun]
  exact hK _ _ h

theorem arrOf64 : Tryd.prog.underlying 108 = some (.array (Tryd.prog.arrayLen 108) (Tryd.prog.elem 108)) := by kernel_rfl
theorem len64 : Tryd.prog.arrayLen 108 = 64 := by kernel_rfl
theorem elem64 : Tryd.prog.elem 108 = 5 := by kernel_rfl
theorem arr64_from (g o r : Nat) (hr : r < 64) (w : World) :
    (Instr.sliceAt 108 (.pointer (some ⟨g, o, none⟩)) (some (.int .i64 (r : Int))) none none).run Tryd.prog w = .ok (.slice (some ⟨g, o + r, none⟩) (64 - r) (64 - r)) w := by
  rw [run_sliceAt_array_l w 108 _ arrOf64 .i64 r (by omega) (by rw [len64]; omega), elem64, Tryd.sizeOf5, len64]
  simp only [Result.andThen, slicedAt, Int.toNat_natCast]
  rw [if_neg (by omega), Nat.mul_one, addr_add]
theorem arr64_to (g o r : Nat) (hr : r ≤ 64) (w : World) :
    (Instr.sliceAt 108 (.pointer (some ⟨g, o, none⟩)) none (some (.int .i64 (r : Int))) none).run Tryd.prog w = .ok (.slice (some ⟨g, o, none⟩) r 64) w := by
  rw [run_sliceAt_array_h w 108 _ arrOf64 .i64 r (by omega) (by rw [len64]; omega), elem64, Tryd.sizeOf5, len64]
  simp only [Result.andThen, slicedAt, Int.toNat_natCast]
  rw [if_neg (by omega), Nat.zero_mul, addr_add]
  rfl
theorem arr64_all (g o : Nat) (w : World) :
    (Instr.sliceAt 108 (.pointer (some ⟨g, o, none⟩)) none none none).run Tryd.prog w = .ok (.slice (some ⟨g, o, none⟩) 64 64) w := by
  rw [run_sliceAt_array_all w 108 _ arrOf64, elem64, Tryd.sizeOf5, len64]
  simp only [Result.andThen, slicedAt]
  rw [if_neg (by omega), Nat.zero_mul, addr_add]
  rfl
end Go.Proofs.YtfflpooiebeagaaDoor
