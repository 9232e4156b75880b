/- mac: a key's block, and what turns it. -/
import Derived.Test.YtmedlgnllgldiaaDoorSh8
import Derived.Outline
namespace Go.Proofs.YtmedlgnllgldiaaDoor
open Go.RowKit

/-- A key's block. -/
def kbL (key : List UInt8) : List UInt8 := let k := if 64 < key.length then shaL key else key; k ++ List.replicate (64 - k.length) 0
theorem kbL_long (key : List UInt8) (h : 64 < key.length) : kbL key = shaL key ++ List.replicate 32 0 := by simp only [kbL, if_pos h, shaL_len]
theorem kbL_short (key : List UInt8) (h : key.length ≤ 64) : kbL key = key ++ List.replicate (64 - key.length) 0 := by simp only [kbL, if_neg (Nat.not_lt.2 h)]
theorem kbL_len (key : List UInt8) : (kbL key).length = 64 := by
  by_cases h : 64 < key.length
  · rw [kbL_long _ h, List.length_append, shaL_len, List.length_replicate]
  · rw [kbL_short _ (by omega), List.length_append, List.length_replicate]; omega
/-- Bytes, each turned by another. -/
def turnL (l : List UInt8) (b : UInt8) : List UInt8 := l.map (· ^^^ b)
theorem turnL_len (l : List UInt8) (b : UInt8) : (turnL l b).length = l.length := by simp [turnL]
/-- The mac. -/
def macL (key text : List UInt8) : List UInt8 := shaL (turnL (kbL key) 92 ++ shaL (turnL (kbL key) 54 ++ text))
theorem macL_len (key text : List UInt8) : (macL key text).length = 32 := shaL_len _

def row64 (l : List UInt8) : Array Value := (u8s l).toArray
theorem row64_size (l : List UInt8) (h : l.length = 64) : (row64 l).size = 64 := by simp [row64, u8s_len, h]
theorem row64_one (l : List UInt8) : (row64 l).all (·.oneCell') = true := by simp [row64, u8s, Value.oneCell']
theorem row64_get (l : List UInt8) (k : Nat) (h : k < l.length) : (row64 l)[k]? = some (.int .u8 (l[k].toNat : Int)) := by rw [row64, List.getElem?_toArray, u8s_get l k h]
theorem info_b64 : (Tryd.prog.info? 82).map (·.size) = some 64 := by kernel_rfl
/-- A whole array of 64 bytes is loaded. -/
theorem wpList_loadb {ops : Array Oper} {rest : List Oper} {o : Oper} {a : Act} {w : World} {Q : Exit → Act → World → Prop} (hgd : o.guard = none) (x : Operand) (ho : o.op = .load 82 x)
    (g : Nat) (hx : a.eval x = .pointer (some ⟨g, 0, none⟩)) (cs : Array Value) (hs : cs.size = 64) (hg : Arr w g cs 82)
    (h : wpList Tryd.prog ops Q rest (a.put o.dst (.agg cs)) w) : wpList Tryd.prog ops Q (o :: rest) a w :=
  wpList_load_row hgd 82 x ho g hx 82 cs (0, 0) _ hg Tryd.underlying82 rfl (by rw [hs]; exact info_b64) h
theorem wpList_storeb {ops : Array Oper} {rest : List Oper} {o : Oper} {a : Act} {w : World} {Q : Exit → Act → World → Prop} (hgd : o.guard = none) (x y : Operand) (ho : o.op = .store 82 x y)
    (g : Nat) (hx : a.eval x = .pointer (some ⟨g, 0, none⟩)) (cs : Array Value) (hy : a.eval y = .agg cs) (hs : cs.size = 64) (h1 : cs.all (·.oneCell') = true) (old : Array Value) (hz : old.size = 64) (hg : Arr w g old 82)
    (h : wpList Tryd.prog ops Q rest (a.put o.dst undef) (w.setRow g cs)) : wpList Tryd.prog ops Q (o :: rest) a w :=
  wpList_store_row hgd 82 x y ho g cs hx hy 82 old hg (by rw [hs]; exact info_b64) (by omega) h1 h
/-- A new array variable gets its value. -/
theorem wpList_storeb_new {ops : Array Oper} {rest : List Oper} {o : Oper} {a : Act} {w : World} {Q : Exit → Act → World → Prop} (hgd : o.guard = none) (x y : Operand) (ho : o.op = .store 82 x y)
    (old : Array Value) (hz : old.size = 64) (hx : a.eval x = .pointer (some ⟨w.heap.size, 0, none⟩)) (cs : Array Value) (hy : a.eval y = .agg cs) (hs : cs.size = 64) (h1 : cs.all (·.oneCell') = true)
    (h : wpList Tryd.prog ops Q rest (a.put o.dst undef) (w.alloc (.cells cs 82))) : wpList Tryd.prog ops Q (o :: rest) a (w.alloc (.cells old 82)) :=
  wpList_storeb hgd x y ho w.heap.size hx cs hy hs h1 old hz (Arr.new w old _) (by rw [World.setRow_alloc_new]; exact h)
theorem ret_b64 {fn : Func} {p : Tmp} {R : Ending → World → Prop} {a : Act} {w : World} (h : fn.results = #[.cell p 82]) (g : Nat) (cs : Array Value) (hs : cs.size = 64) (hp : a.tmps.getD p undef = .pointer (some ⟨g, 0, none⟩))
    (hg : Arr w g cs 82) (hd : a.defers = []) (hR : R (.returned (.agg cs)) w) : bodyPost Tryd.prog fn R .ret a w :=
  bodyPost_ret (results_cell_row h a.tmps w g 82 cs (0, 0) _ hp hg Tryd.underlying82 rfl (by rw [hs]; exact info_b64)) hd hR

/-- k of the bytes are turned. -/
def turnK (l : List UInt8) (b : UInt8) (k : Nat) : List UInt8 := turnL (l.take k) b ++ l.drop k
theorem turnK_len (l : List UInt8) (b : UInt8) (k : Nat) : (turnK l b k).length = l.length := by
  rw [turnK, List.length_append, turnL_len, ← List.length_append, List.take_append_drop]
theorem turnK_zero (l : List UInt8) (b : UInt8) : turnK l b 0 = l := by simp [turnK, turnL]
theorem turnK_full (l : List UInt8) (b : UInt8) (h : l.length = 64) : turnK l b 64 = turnL l b := by
  rw [turnK, List.take_of_length_le (by omega), List.drop_of_length_le (by omega), List.append_nil]
theorem turnK_at (l : List UInt8) (b : UInt8) (k : Nat) (h : k < l.length) : (turnK l b k)[k]? = some l[k] := by
  have e : (turnL (l.take k) b).length = k := by rw [turnL_len, List.length_take]; omega
  rw [turnK, List.getElem?_append_right (by omega), e, Nat.sub_self, List.getElem?_drop, Nat.add_zero, List.getElem?_eq_getElem h]
theorem turnK_succ (l : List UInt8) (b : UInt8) (k : Nat) (h : k < l.length) : (turnK l b k).set k (l[k] ^^^ b) = turnK l b (k + 1) := by
  have e : (turnL (l.take k) b).length = k := by rw [turnL_len, List.length_take]; omega
  rw [turnK, turnK, List.set_append_right _ _ (by omega), e, Nat.sub_self, List.drop_eq_getElem_cons h, List.set_cons_zero, List.take_succ_eq_append_getElem h, turnL, turnL, List.map_append, List.append_assoc]
  rfl
theorem row64_at (l : List UInt8) (k : Nat) (c : UInt8) (h : l[k]? = some c) : (row64 l)[k]? = some (.int .u8 (c.toNat : Int)) := by rw [row64, List.getElem?_toArray, u8s, List.getElem?_map, h]; rfl
theorem row64_set (l : List UInt8) (k : Nat) (c : UInt8) : (row64 l).setIfInBounds k (.int .u8 (c.toNat : Int)) = row64 (l.set k c) := by
  rw [row64, row64, List.setIfInBounds_toArray, u8s_set]
theorem conv_row64 {w : World} {g : Nat} {l : List UInt8} (h : Arr w g (row64 l) 82) (hl : l.length = 64) :
    (convert 38 9 (.slice (some ⟨g, 0, none⟩) 64 64)).run Tryd.prog w = .ok (.string ⟨l.toArray⟩) w := by
  have := conv_cells w ⟨g, 0, none⟩ l 64 (fun j v hv => by
    rw [addr_add, Nat.zero_add]; exact h.cell (by rw [row64, List.getElem?_toArray]; exact hv))
  rw [hl] at this
  exact this

set_option maxHeartbeats 1000000 in
theorem turned1_any (g : Nat) (l : List UInt8) (hl : l.length = 64) (b : UInt8) (w : World) (hA : Arr w g (row64 l) 82) :
    Calls Tryd.prog 55 #[.int .u8 (b.toNat : Int), .pointer (some ⟨g, 0, none⟩)] w fun e w' => e = .returned (.string ⟨(turnL l b).toArray⟩) ∧ Below w.heap.size w w' := by
  have HZ := Lib.hid (row64_size l hl)
  have HO := Lib.hid (row64_one l)
  have HA := Lib.hid hA
  have hst : Arr (w.alloc (.cells (row64 l) 82)) w.heap.size (row64 (turnK l b 0)) 82 := by rw [turnK_zero]; exact Arr.new w _ _
  have HS := Lib.hid hst
  have hbel := (Below.refl w.heap.size w).alloc (Nat.le_refl _) (.cells (row64 l) 82)
  have HB := Lib.hid hbel
  clear hA hst hbel
  obtain ⟨R, hR⟩ : ∃ R, R = row64 l := ⟨_, rfl⟩
  rw [← hR] at HZ HO HA HS HB
  clear hR
  go_enter Tryd.func55, Tryd.ntmps55
  go_wp2_with (first
    | (with_reducible refine wpList_loadb rfl _ rfl g rfl _ HZ.out HA.out ?_)
    | (with_reducible refine wpList_storeb_new rfl _ _ rfl _ rfl rfl _ rfl HZ.out HO.out ?_))
  clear HZ HO HA
  go_loopw [7] (fun i wr => ∃ k : Nat, k ≤ 64 ∧ i = .int .i64 (k : Int) ∧ Arr wr w.heap.size (row64 (turnK l b k)) 82 ∧ Below w.heap.size w wr) (fun i _ => 64 - (intOf i).toNat)
  case atStart => exact ⟨0, by omega, rfl, HS.out, HB.out⟩
  case round =>
    clear HS HB
    obtain ⟨k, hk, rfl, hA, hbel⟩ := hrel
    by_cases hlt : k < 64
    · have hkl : k < l.length := by omega
      have hc := hA.cell (row64_at _ k _ (turnK_at l b k hkl))
      have hf := hA.frozen k
      have hx := xor_num l[k] b
      have hs := hA.set k (.int .u8 ((l[k] ^^^ b).toNat : Int))
      rw [row64_set, turnK_succ l b k hkl] at hs
      have HS := Lib.hid hs
      have hb2 := Lib.hid (hbel.setCell (p := ⟨w.heap.size, k, none⟩) (Nat.le_refl _) (.int .u8 ((l[k] ^^^ b).toNat : Int)))
      clear hA hs hbel
      generalize l[k] = c at *
      go_wp2
      go_roundw
      case rel => exact ⟨k + 1, hlt, by go_num, HS.out, hb2.out⟩
      case measure => simp [intOf]; omega
    · obtain rfl : k = 64 := by omega
      rw [turnK_full l b hl] at hA
      have hsa := arr64_all w.heap.size 0
      have hcv := conv_row64 hA (by rw [turnL_len, hl])
      go_wp2
      go_ret
      exact ⟨rfl, hbel⟩
end Go.Proofs.YtmedlgnllgldiaaDoor
