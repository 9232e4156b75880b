/- mac: a key's block, and what turns it. mac: the contracts of block and turner. mac: a Mac in memory; the contracts of begin, New, Add, Sum. mac: the contracts of New, sumAll, Sum, Check, Extract. mac: the contracts of Expand and Derive. -/
import Derived.Test.YtfflpooiebeagaaDoorM9
import Derived.Outline
import Derived.Test.YtfflpooiebeagaaDoorMA
import Derived.Deep.RegionWith
import Derived.Deep.RegionHeld3
namespace Go.Proofs.YtfflpooiebeagaaDoor
open Go.RowKit

/-- A key's block. -/
def kbL (key : List UInt8) : List UInt8 := let k := if 64 < key.length then shaL key else key; k ++ List.replicate (64 - k.length) 0
theorem kbL_long (key : List UInt8) (h : 64 < key.length) : kbL key = shaL key ++ List.replicate 32 0 := by simp only [kbL, if_pos h, shaL_len]
theorem kbL_short (key : List UInt8) (h : key.length ≤ 64) : kbL key = key ++ List.replicate (64 - key.length) 0 := by simp only [kbL, if_neg (Nat.not_lt.2 h)]
theorem kbL_len (key : List UInt8) : (kbL key).length = 64 := by
  by_cases h : 64 < key.length
  · rw [kbL_long _ h, List.length_append, shaL_len, List.length_replicate]
  · rw [kbL_short _ (by omega), List.length_append, List.length_replicate]; omega
/-- Bytes, each turned by another. -/
def turnL (l : List UInt8) (b : UInt8) : List UInt8 := l.map (· ^^^ b)
theorem turnL_len (l : List UInt8) (b : UInt8) : (turnL l b).length = l.length := by simp [turnL]
/-- The mac. -/
def macL (key text : List UInt8) : List UInt8 := shaL (turnL (kbL key) 92 ++ shaL (turnL (kbL key) 54 ++ text))
theorem macL_len (key text : List UInt8) : (macL key text).length = 32 := shaL_len _

def row64 (l : List UInt8) : Array Value := (u8s l).toArray
theorem row64_size (l : List UInt8) (h : l.length = 64) : (row64 l).size = 64 := by simp [row64, u8s_len, h]
theorem row64_one (l : List UInt8) : (row64 l).all (·.oneCell') = true := by simp [row64, u8s, Value.oneCell']
theorem row64_get (l : List UInt8) (k : Nat) (h : k < l.length) : (row64 l)[k]? = some (.int .u8 (l[k].toNat : Int)) := by rw [row64, List.getElem?_toArray, u8s_get l k h]
theorem info_b64 : (Tryd.prog.info? 108).map (·.size) = some 64 := by kernel_rfl
/-- A whole array of 64 bytes is loaded. -/
theorem wpList_loadb {ops : Array Oper} {rest : List Oper} {o : Oper} {a : Act} {w : World} {Q : Exit → Act → World → Prop} (hgd : o.guard = none) (x : Operand) (ho : o.op = .load 108 x)
    (g : Nat) (hx : a.eval x = .pointer (some ⟨g, 0, none⟩)) (cs : Array Value) (hs : cs.size = 64) (hg : Arr w g cs 108)
    (h : wpList Tryd.prog ops Q rest (a.put o.dst (.agg cs)) w) : wpList Tryd.prog ops Q (o :: rest) a w :=
  wpList_load_row hgd 108 x ho g hx 108 cs (0, 0) _ hg Tryd.underlying108 rfl (by rw [hs]; exact info_b64) h
theorem wpList_storeb {ops : Array Oper} {rest : List Oper} {o : Oper} {a : Act} {w : World} {Q : Exit → Act → World → Prop} (hgd : o.guard = none) (x y : Operand) (ho : o.op = .store 108 x y)
    (g : Nat) (hx : a.eval x = .pointer (some ⟨g, 0, none⟩)) (cs : Array Value) (hy : a.eval y = .agg cs) (hs : cs.size = 64) (h1 : cs.all (·.oneCell') = true) (old : Array Value) (hz : old.size = 64) (hg : Arr w g old 108)
    (h : wpList Tryd.prog ops Q rest (a.put o.dst undef) (w.setRow g cs)) : wpList Tryd.prog ops Q (o :: rest) a w :=
  wpList_store_row hgd 108 x y ho g cs hx hy 108 old hg (by rw [hs]; exact info_b64) (by omega) h1 h
/-- A new array variable gets its value. -/
theorem wpList_storeb_new {ops : Array Oper} {rest : List Oper} {o : Oper} {a : Act} {w : World} {Q : Exit → Act → World → Prop} (hgd : o.guard = none) (x y : Operand) (ho : o.op = .store 108 x y)
    (old : Array Value) (hz : old.size = 64) (hx : a.eval x = .pointer (some ⟨w.heap.size, 0, none⟩)) (cs : Array Value) (hy : a.eval y = .agg cs) (hs : cs.size = 64) (h1 : cs.all (·.oneCell') = true)
    (h : wpList Tryd.prog ops Q rest (a.put o.dst undef) (w.alloc (.cells cs 108))) : wpList Tryd.prog ops Q (o :: rest) a (w.alloc (.cells old 108)) :=
  wpList_storeb hgd x y ho w.heap.size hx cs hy hs h1 old hz (Arr.new w old _) (by rw [World.setRow_alloc_new]; exact h)
theorem ret_b64 {fn : Func} {p : Tmp} {R : Ending → World → Prop} {a : Act} {w : World} (h : fn.results = #[.cell p 108]) (g : Nat) (cs : Array Value) (hs : cs.size = 64) (hp : a.tmps.getD p undef = .pointer (some ⟨g, 0, none⟩))
    (hg : Arr w g cs 108) (hd : a.defers = []) (hR : R (.returned (.agg cs)) w) : bodyPost Tryd.prog fn R .ret a w :=
  bodyPost_ret (results_cell_row h a.tmps w g 108 cs (0, 0) _ hp hg Tryd.underlying108 rfl (by rw [hs]; exact info_b64)) hd hR

/-- k of the bytes are turned. -/
def turnK (l : List UInt8) (b : UInt8) (k : Nat) : List UInt8 := turnL (l.take k) b ++ l.drop k
theorem turnK_len (l : List UInt8) (b : UInt8) (k : Nat) : (turnK l b k).length = l.length := by
  rw [turnK, List.length_append, turnL_len, ← List.length_append, List.take_append_drop]
theorem turnK_zero (l : List UInt8) (b : UInt8) : turnK l b 0 = l := by simp [turnK, turnL]
theorem turnK_full (l : List UInt8) (b : UInt8) (h : l.length = 64) : turnK l b 64 = turnL l b := by
  rw [turnK, List.take_of_length_le (by omega), List.drop_of_length_le (by omega), List.append_nil]
theorem turnK_at (l : List UInt8) (b : UInt8) (k : Nat) (h : k < l.length) : (turnK l b k)[k]? = some l[k] := by
  have e : (turnL (l.take k) b).length = k := by rw [turnL_len, List.length_take]; omega
  rw [turnK, List.getElem?_append_right (by omega), e, Nat.sub_self, List.getElem?_drop, Nat.add_zero, List.getElem?_eq_getElem h]
theorem turnK_succ (l : List UInt8) (b : UInt8) (k : Nat) (h : k < l.length) : (turnK l b k).set k (l[k] ^^^ b) = turnK l b (k + 1) := by
  have e : (turnL (l.take k) b).length = k := by rw [turnL_len, List.length_take]; omega
  rw [turnK, turnK, List.set_append_right _ _ (by omega), e, Nat.sub_self, List.drop_eq_getElem_cons h, List.set_cons_zero, List.take_succ_eq_append_getElem h, turnL, turnL, List.map_append, List.append_assoc]
  rfl
theorem row64_at (l : List UInt8) (k : Nat) (c : UInt8) (h : l[k]? = some c) : (row64 l)[k]? = some (.int .u8 (c.toNat : Int)) := by rw [row64, List.getElem?_toArray, u8s, List.getElem?_map, h]; rfl
theorem row64_set (l : List UInt8) (k : Nat) (c : UInt8) : (row64 l).setIfInBounds k (.int .u8 (c.toNat : Int)) = row64 (l.set k c) := by
  rw [row64, row64, List.setIfInBounds_toArray, u8s_set]
theorem conv_row64 {w : World} {g : Nat} {l : List UInt8} (h : Arr w g (row64 l) 108) (hl : l.length = 64) :
    (convert 42 9 (.slice (some ⟨g, 0, none⟩) 64 64)).run Tryd.prog w = .ok (.string ⟨l.toArray⟩) w := by
  have := conv_cells w ⟨g, 0, none⟩ l 64 (fun j v hv => by
    rw [addr_add, Nat.zero_add]; exact h.cell (by rw [row64, List.getElem?_toArray]; exact hv))
  rw [hl] at this
  exact this

set_option maxHeartbeats 1000000 in
theorem turned1_any (g : Nat) (l : List UInt8) (hl : l.length = 64) (b : UInt8) (w : World) (hA : Arr w g (row64 l) 108) :
    Calls Tryd.prog 58 #[.int .u8 (b.toNat : Int), .pointer (some ⟨g, 0, none⟩)] w fun e w' => e = .returned (.string ⟨(turnL l b).toArray⟩) ∧ Below w.heap.size w w' := by
  have HZ := Lib.hid (row64_size l hl)
  have HO := Lib.hid (row64_one l)
  have HA := Lib.hid hA
  have hst : Arr (w.alloc (.cells (row64 l) 108)) w.heap.size (row64 (turnK l b 0)) 108 := by rw [turnK_zero]; exact Arr.new w _ _
  have HS := Lib.hid hst
  have hbel := (Below.refl w.heap.size w).alloc (Nat.le_refl _) (.cells (row64 l) 108)
  have HB := Lib.hid hbel
  clear hA hst hbel
  obtain ⟨R, hR⟩ : ∃ R, R = row64 l := ⟨_, rfl⟩
  rw [← hR] at HZ HO HA HS HB
  clear hR
  go_enter Tryd.func58, Tryd.ntmps58
  go_wp2_with (first
    | (with_reducible refine wpList_loadb rfl _ rfl g rfl _ HZ.out HA.out ?_)
    | (with_reducible refine wpList_storeb_new rfl _ _ rfl _ rfl rfl _ rfl HZ.out HO.out ?_))
  clear HZ HO HA
  go_loopw [7] (fun i wr => ∃ k : Nat, k ≤ 64 ∧ i = .int .i64 (k : Int) ∧ Arr wr w.heap.size (row64 (turnK l b k)) 108 ∧ Below w.heap.size w wr) (fun i _ => 64 - (intOf i).toNat)
  case atStart => exact ⟨0, by omega, rfl, HS.out, HB.out⟩
  case round =>
    clear HS HB
    obtain ⟨k, hk, rfl, hA, hbel⟩ := hrel
    by_cases hlt : k < 64
    · have hkl : k < l.length := by omega
      have hc := hA.cell (row64_at _ k _ (turnK_at l b k hkl))
      have hf := hA.frozen k
      have hx := xor_num l[k] b
      have hs := hA.set k (.int .u8 ((l[k] ^^^ b).toNat : Int))
      rw [row64_set, turnK_succ l b k hkl] at hs
      have HS := Lib.hid hs
      have hb2 := Lib.hid (hbel.setCell (p := ⟨w.heap.size, k, none⟩) (Nat.le_refl _) (.int .u8 ((l[k] ^^^ b).toNat : Int)))
      clear hA hs hbel
      generalize l[k] = c at *
      go_wp2
      go_roundw
      case rel => exact ⟨k + 1, hlt, by go_num, HS.out, hb2.out⟩
      case measure => simp [intOf]; omega
    · obtain rfl : k = 64 := by omega
      rw [turnK_full l b hl] at hA
      have hsa := arr64_all w.heap.size 0
      have hcv := conv_row64 hA (by rw [turnL_len, hl])
      go_wp2
      go_ret
      exact ⟨rfl, hbel⟩
end Go.Proofs.YtfflpooiebeagaaDoor
namespace Go.Proofs.YtfflpooiebeagaaDoor
open Go.RowKit

abbrev zero64 : Array Value := #[.int .u8 0, .int .u8 0, .int .u8 0, .int .u8 0, .int .u8 0, .int .u8 0, .int .u8 0, .int .u8 0, .int .u8 0, .int .u8 0, .int .u8 0, .int .u8 0, .int .u8 0, .int .u8 0, .int .u8 0, .int .u8 0, .int .u8 0, .int .u8 0, .int .u8 0, .int .u8 0, .int .u8 0, .int .u8 0, .int .u8 0, .int .u8 0, .int .u8 0, .int .u8 0, .int .u8 0, .int .u8 0, .int .u8 0, .int .u8 0, .int .u8 0, .int .u8 0, .int .u8 0, .int .u8 0, .int .u8 0, .int .u8 0, .int .u8 0, .int .u8 0, .int .u8 0, .int .u8 0, .int .u8 0, .int .u8 0, .int .u8 0, .int .u8 0, .int .u8 0, .int .u8 0, .int .u8 0, .int .u8 0, .int .u8 0, .int .u8 0, .int .u8 0, .int .u8 0, .int .u8 0, .int .u8 0, .int .u8 0, .int .u8 0, .int .u8 0, .int .u8 0, .int .u8 0, .int .u8 0, .int .u8 0, .int .u8 0, .int .u8 0, .int .u8 0]
theorem zero64_eq : zero64 = row64 (List.replicate 64 0) := rfl
theorem zero64_size : zero64.size = 64 := rfl
/-- What is copied into a block of zeros. -/
theorem copy_block (W : World) (g : Nat) (s : ByteArray) (hs : s.size ≤ 64) (Z : Array Value) (hA : Arr W g Z 108) (hZ : Z = zero64) (R : Array Value) (hR : Hid (R = row64 (s.data.toList ++ List.replicate (64 - s.size) 0))) :
    (Builtin.copy_ #[42, 9] 3 #[.slice (some ⟨g, 0, none⟩) 64 64, .string s]).run Tryd.prog W = .ok (.int .i64 (s.size : Int)) (W.setRow g R) := by
  subst hZ
  rw [hR.out, run_copy_str W 3 g 0 64 64 s.size s zero64 108 (by omega) hA (by rw [zero64_size]; omega)]
  have e : ((List.take 0 zero64.toList ++ u8s (List.take s.size s.data.toList) ++ List.drop (0 + s.size) zero64.toList).toArray : Array Value) = row64 (s.data.toList ++ List.replicate (64 - s.size) 0) := by
    rw [zero64_eq, List.take_zero, List.nil_append, take_all, Nat.zero_add]
    unfold row64
    rw [u8s_append]
    congr 2
    rw [u8s, u8s, List.map_replicate, List.map_replicate, List.drop_replicate]
  rw [e]
theorem wpList_copy_new {ops : Array Oper} {rest : List Oper} {o : Oper} {a : Act} {w : World} {Q : Exit → Act → World → Prop} (hgd : o.guard = none) (d s : Operand)
    (ho : o.op = .call { callee := .builtin .copy, args := #[d, s], argTypes := #[42, 9] }) (hty : o.type = 3) (g : Nat) (hg : g = w.heap.size) (S : ByteArray) (hS : S.size ≤ 64)
    (hd : a.eval d = .slice (some ⟨g, 0, none⟩) 64 64) (hs : a.eval s = .string S) (R : Array Value) (hR : Hid (R = row64 (S.data.toList ++ List.replicate (64 - S.size) 0)))
    (h : wpList Tryd.prog ops Q rest (a.put o.dst (.int .i64 (S.size : Int))) (w.alloc (.cells R 108))) : wpList Tryd.prog ops Q (o :: rest) a (w.alloc (.cells zero64 108)) := by
  subst hg
  refine Lib.wpList_copy_run _ hgd d s _ _ ho _ _ hd hs (v' := .int .i64 (S.size : Int)) (w' := w.alloc (.cells R 108)) ?_ h
  rw [hty, copy_block _ _ S hS zero64 (Arr.new w _ _) rfl R hR, World.setRow_alloc_new]


set_option maxHeartbeats 1000000 in
set_option maxRecDepth 100000 in
theorem block_short (key : ByteArray) (hk : key.size ≤ 64) (w : World) :
    Calls Tryd.prog 57 #[.string key] w fun e w' => e = .returned (.agg (row64 (kbL key.data.toList))) ∧ Below w.heap.size w w' := by
  have hkl : kbL key.data.toList = key.data.toList ++ List.replicate (64 - key.size) 0 := by rw [kbL_short _ (by simpa using hk)]; simp
  have hsa := fun g => arr64_all g 0
  have HR0 := Lib.hid (show row64 (kbL key.data.toList) = row64 (key.data.toList ++ List.replicate (64 - key.size) 0) by rw [hkl])
  have HZ := Lib.hid (row64_size _ (kbL_len key.data.toList))
  have HO := Lib.hid (row64_one (kbL key.data.toList))
  clear hkl
  obtain ⟨R, hR⟩ : ∃ R, R = row64 (kbL key.data.toList) := ⟨_, rfl⟩
  rw [← hR] at HZ HO HR0 ⊢
  clear hR
  go_enter Tryd.func57, Tryd.ntmps57
  go_wp2_with (first
    | (with_reducible refine wpList_copy_new rfl _ _ rfl rfl (w.heap.size + 1) (by simp) key hk rfl rfl R HR0 ?_)
    | (with_reducible refine wpList_loadb rfl _ rfl (w.heap.size + 1) rfl R HZ.out (Arr.newAt _ _ _ (by simp)) ?_)
    | (with_reducible refine wpList_storeb rfl _ _ rfl w.heap.size rfl R rfl HZ.out HO.out zero64 zero64_size (Arr.alloc (Arr.new w zero64 _) _) ?_))
  refine ret_b64 Tryd.results57 w.heap.size R HZ.out rfl ?_ rfl ⟨rfl, ?_⟩
  · exact Arr.row (Arr.alloc (Arr.new w zero64 _) _) R
  · exact below_setRow (((Below.refl _ _).alloc (Nat.le_refl _) _).alloc (by simp) _) (Nat.le_refl _) _

set_option maxHeartbeats 1000000 in
set_option maxRecDepth 100000 in
theorem block_long (key : ByteArray) (hk : 64 < key.size) (hk2 : key.size ≤ 1099511627776) (w : World) (htab : Tab w) :
    Calls Tryd.prog 57 #[.string key] w fun e w' => e = .returned (.agg (row64 (kbL key.data.toList))) ∧ Below w.heap.size w w' := by
  have hsum := sum_any key hk2
  obtain ⟨D, hD⟩ : ∃ D : ByteArray, D = ⟨(shaL key.data.toList).toArray⟩ := ⟨_, rfl⟩
  rw [← hD] at hsum
  have HSum := Lib.hid hsum
  have hDs : D.size = 32 := by rw [hD]; show (shaL key.data.toList).toArray.size = 32; rw [List.size_toArray, shaL_len]
  have hDl : D.data.toList = shaL key.data.toList := by rw [hD]
  have hkl : kbL key.data.toList = D.data.toList ++ List.replicate (64 - D.size) 0 := by rw [kbL_long _ (by simpa using hk), hDl, hDs]
  have hsa := fun g => arr64_all g 0
  have HR0 := Lib.hid (show row64 (kbL key.data.toList) = row64 (D.data.toList ++ List.replicate (64 - D.size) 0) by rw [hkl])
  have HZ := Lib.hid (row64_size _ (kbL_len key.data.toList))
  have HO := Lib.hid (row64_one (kbL key.data.toList))
  have HT := Lib.hid htab
  have hk3 : D.size ≤ 64 := by omega
  clear hkl hsum hD hDl htab hDs
  obtain ⟨R, hR⟩ : ∃ R, R = row64 (kbL key.data.toList) := ⟨_, rfl⟩
  rw [← hR] at HZ HO HR0 ⊢
  clear hR
  go_enter Tryd.func57, Tryd.ntmps57
  go_wp2_with (first
    | (go_at_call 67; (with_reducible refine (HSum.out _ (HT.out.alloc _)).mono ?_); rintro e w3 ⟨rfl, hb⟩; have hz := (Arr.new w zero64 _).next hb; have hl := hz.lt; have hbel := Lib.hid (((Below.refl w.heap.size w).alloc (Nat.le_refl _) _).trans (hb.mono (by simp))))
    | (with_reducible refine wpList_copy_new rfl _ _ rfl rfl w3.heap.size rfl D hk3 rfl rfl R HR0 ?_)
    | (with_reducible refine wpList_loadb rfl _ rfl w3.heap.size rfl R HZ.out (Arr.new _ _ _) ?_)
    | (with_reducible refine wpList_storeb rfl _ _ rfl w.heap.size rfl R rfl HZ.out HO.out zero64 zero64_size (Arr.alloc hz _) ?_))
  refine ret_b64 Tryd.results57 w.heap.size R HZ.out rfl ?_ rfl ⟨rfl, ?_⟩
  · exact Arr.row (Arr.alloc hz _) R
  · exact below_setRow (hbel.out.alloc (by omega) _) (Nat.le_refl _) _

theorem mblock_any (key : ByteArray) (hk : key.size ≤ 1099511627776) (w : World) (htab : Tab w) :
    Calls Tryd.prog 57 #[.string key] w fun e w' => e = .returned (.agg (row64 (kbL key.data.toList))) ∧ Below w.heap.size w w' := by
  by_cases h : 64 < key.size
  · exact block_long key h hk w htab
  · exact block_short key (by omega) w

/-- What turns a key's block. -/
def turnF (g : Nat) : Value := .func (.func 58) #[] #[.pointer (some ⟨g, 0, none⟩)]
/-- Block g holds a key's block. -/
def Kb (w : World) (g : Nat) (key : List UInt8) : Prop := Arr w g (row64 (kbL key)) 108

set_option maxHeartbeats 1000000 in
set_option maxRecDepth 100000 in
theorem turner_any (key : ByteArray) (hk : key.size ≤ 1099511627776) (w : World) (htab : Tab w) :
    Calls Tryd.prog 38 #[.string key] w fun e w' => (∃ g, e = .returned (turnF g) ∧ w.heap.size ≤ g ∧ Kb w' g key.data.toList) ∧ Below w.heap.size w w' := by
  have hmf : ∀ (fn : Fn) (first cap : Array Value) (w : World), (Instr.makeFunc fn first cap).run Tryd.prog w = .ok (.func fn first cap) w := fun _ _ _ _ => rfl
  have HB := Lib.hid (mblock_any key hk w htab)
  have HZ := Lib.hid (row64_size _ (kbL_len key.data.toList))
  have HO := Lib.hid (row64_one (kbL key.data.toList))
  clear htab
  unfold Kb
  obtain ⟨R, hR⟩ : ∃ R, R = row64 (kbL key.data.toList) := ⟨_, rfl⟩
  rw [← hR] at HZ HO HB ⊢
  clear hR
  go_enter Tryd.func38, Tryd.ntmps38
  go_wp2_with (first
    | (go_at_call 57; (with_reducible refine HB.out.mono ?_); rintro e w3 ⟨rfl, hb⟩)
    | (with_reducible refine wpList_storeb_new rfl _ _ rfl _ rfl rfl _ rfl HZ.out HO.out ?_))
  go_ret
  exact ⟨⟨w3.heap.size, rfl, hb.size, Arr.new w3 R _⟩, hb.alloc hb.size _⟩
end Go.Proofs.YtfflpooiebeagaaDoor
namespace Go.Proofs.YtfflpooiebeagaaDoor
open Go.RowKit

/-- The block, turned, as a string. -/
def mturnB (key : List UInt8) (b : UInt8) : ByteArray := ⟨(turnL (kbL key) b).toArray⟩
theorem mturnB_list (key : List UInt8) (b : UInt8) : (mturnB key b).data.toList = turnL (kbL key) b := by simp [mturnB]
theorem mturnB_size (key : List UInt8) (b : UInt8) : (mturnB key b).size = 64 := by show (turnL (kbL key) b).toArray.size = 64; rw [List.size_toArray, turnL_len, kbL_len]
theorem Kb.next {w w' : World} {g : Nat} {key : List UInt8} (h : Kb w g key) (hb : Below w.heap.size w w') : Kb w' g key := Arr.next h hb
theorem turn54 (g : Nat) (key : List UInt8) (w : World) (h : Kb w g key) :
    Calls Tryd.prog 58 #[.int .u8 54, .pointer (some ⟨g, 0, none⟩)] w fun e w' => e = .returned (.string (mturnB key 54)) ∧ Below w.heap.size w w' := turned1_any g _ (kbL_len key) 54 w h
theorem turn92 (g : Nat) (key : List UInt8) (w : World) (h : Kb w g key) :
    Calls Tryd.prog 58 #[.int .u8 92, .pointer (some ⟨g, 0, none⟩)] w fun e w' => e = .returned (.string (mturnB key 92)) ∧ Below w.heap.size w w' := turned1_any g _ (kbL_len key) 92 w h

/-- Block m is a Mac of this key and text; what it writes lies from B on. -/
def MacOf (w : World) (B m : Nat) (key t : List UInt8) : Prop :=
  ∃ g h, Arr w m #[turnF g, .pointer (some ⟨h, 0, none⟩)] 124 ∧ Kb w g key ∧ HashOf w h (turnL (kbL key) 54 ++ t) ∧ m ≠ h ∧ g ≠ h ∧ B ≤ h ∧ 2 < B
theorem MacOf.next {w w' : World} {B m : Nat} {key t : List UInt8} (h : MacOf w B m key t) (hb : Below w.heap.size w w') : MacOf w' B m key t := by
  obtain ⟨g, h0, h1, h2, h3, h4⟩ := h
  exact ⟨g, h0, h1.next hb, h2.next hb, h3.next hb, h4⟩

set_option maxHeartbeats 1000000 in
set_option maxRecDepth 100000 in
theorem mbegin_any (B g : Nat) (key : List UInt8) (w : World) (hk : Kb w g key) (htab : Tab w) (hB : B ≤ w.heap.size) (hB0 : 2 < B) :
    Calls Tryd.prog 59 #[turnF g] w fun e w' => (∃ m, e = .returned (.pointer (some ⟨m, 0, none⟩)) ∧ MacOf w' B m key []) ∧ Below w.heap.size w w' := by
  have HN := Lib.hid new_any
  have HT54 := Lib.hid (turn54 g key)
  have HK := Lib.hid hk
  have HT := Lib.hid htab
  have hg := Arr.lt hk
  have ht0 := htab.lt
  clear hk htab
  unfold turnF
  go_enter Tryd.func59, Tryd.ntmps59
  go_wp2_with (first
    | (go_at_call 68; (with_reducible refine (HN.out _).mono ?_); rintro e w1 ⟨⟨h, rfl, hwh, hh⟩, hb1⟩))
  have hlt := hh.lt
  have hA := Arr.new w1 #[.func (.func 58) #[] #[.pointer (some ⟨g, 0, none⟩)], .pointer (some ⟨h, 0, none⟩)] 124
  have HH := Lib.hid (show HashOf _ h [] from hh.next ((Below.refl _ w1).alloc (Nat.le_refl _) (.cells #[.func (.func 58) #[] #[.pointer (some ⟨g, 0, none⟩)], .pointer (some ⟨h, 0, none⟩)] 124)))
  have HK2 := Lib.hid (show Kb _ g key from (HK.out.next hb1).next ((Below.refl _ w1).alloc (Nat.le_refl _) (.cells #[.func (.func 58) #[] #[.pointer (some ⟨g, 0, none⟩)], .pointer (some ⟨h, 0, none⟩)] 124)))
  have HT2 := Lib.hid ((HT.out.next hb1).alloc (.cells #[.func (.func 58) #[] #[.pointer (some ⟨g, 0, none⟩)], .pointer (some ⟨h, 0, none⟩)] 124))
  have hb2 := Lib.hid (hb1.alloc hb1.size (.cells #[.func (.func 58) #[] #[.pointer (some ⟨g, 0, none⟩)], .pointer (some ⟨h, 0, none⟩)] 124))
  have hs1 := hb1.size
  clear hh HK HT
  have hmh : w1.heap.size ≠ h := by omega
  clear hb1
  generalize (w1.alloc (.cells #[.func (.func 58) #[] #[.pointer (some ⟨g, 0, none⟩)], .pointer (some ⟨h, 0, none⟩)] 124)) = w2 at *
  generalize w1.heap.size = m at *
  have c1 : w2.cell? ⟨m, 1, none⟩ = some (.pointer (some ⟨h, 0, none⟩)) := hA.cell rfl
  have HA := Lib.hid hA
  have HKd := Lib.hid (show Kb w2.drew g key from HK2.out)
  have HHd := Lib.hid (show HashOf w2.drew h [] from HH.out)
  have HTd := Lib.hid (show Tab w2.drew from HT2.out)
  have HAd := Lib.hid (show Arr w2.drew m _ _ from HA.out)
  have hn : 2 ≠ h := by omega
  have HADD := Lib.hid (fun w3 (hw : HashOf w3 h []) (ht : Tab w3) => add_fr h hn [] (mturnB key 54) w3 hw (by rw [mturnB_size]; decide) ht)
  clear hA
  go_region_with (first
    | (go_at_call 58; (with_reducible refine (HT54.out _ HKd.out).mono ?_); rintro e w3 ⟨rfl, hb3⟩; have c1' : w3.cell? ⟨m, 1, none⟩ = some (.pointer (some ⟨h, 0, none⟩)) := (HAd.out.next hb3).cell rfl)
    | (go_at_call 69; (with_reducible refine (HADD.out _ (HHd.out.next hb3) (HTd.out.next hb3)).mono ?_); rintro e w4 ⟨rfl, hh4, hf4⟩))
  all_goals
    go_wp2
    go_ret
    rw [List.nil_append, mturnB_list] at hh4
    refine ⟨⟨m, rfl, g, h, (HAd.out.next hb3).fr hf4 hmh, Arr.fr (HKd.out.next hb3) hf4 (by omega), by rw [List.append_nil]; exact hh4, hmh, by omega, by omega, hB0⟩, ?_⟩
    have hx : Below w.heap.size w w3 := (hb2.out.drew).trans (hb3.mono (by show w.heap.size ≤ w2.heap.size; exact hb2.out.size))
    exact hx.trans (hf4.below (by omega) hx.size)

set_option maxHeartbeats 1000000 in
set_option maxRecDepth 100000 in
theorem macAdd_any (B m : Nat) (key t : List UInt8) (x : ByteArray) (w : World) (hm : MacOf w B m key t) (htab : Tab w) (hB : B ≤ w.heap.size) (hl : t.length + x.size ≤ 1000000000000) :
    Calls Tryd.prog 60 #[.pointer (some ⟨m, 0, none⟩), .string x] w fun e w' => e = .returned (.tuple #[]) ∧ MacOf w' B m key (t ++ x.data.toList) ∧ Below B w w' := by
  obtain ⟨g, h, hA, hK, hH, hmh, hgh, hBh, h0⟩ := hm
  have HADD := Lib.hid (add_fr h (by omega) (turnL (kbL key) 54 ++ t) x w hH (by rw [List.length_append, turnL_len, kbL_len]; omega) htab)
  have c1 : w.cell? ⟨m, 1, none⟩ = some (.pointer (some ⟨h, 0, none⟩)) := hA.cell rfl
  have HA := Lib.hid hA
  have HK := Lib.hid hK
  clear hA hK hH htab
  go_enter Tryd.func60, Tryd.ntmps60
  go_wp2_with (first
    | (go_at_call 69; (with_reducible refine HADD.out.mono ?_); rintro e w4 ⟨rfl, hh4, hf4⟩))
  go_end0
  rw [List.append_assoc] at hh4
  exact ⟨rfl, ⟨g, h, HA.out.fr hf4 hmh, Arr.fr HK.out hf4 hgh, hh4, hmh, hgh, hBh, h0⟩, hf4.below hBh hB⟩

/-- The mac, as a string. -/
def macB (key t : List UInt8) : ByteArray := ⟨(macL key t).toArray⟩
theorem macB_size (key t : List UInt8) : (macB key t).size = 32 := by show (macL key t).toArray.size = 32; rw [List.size_toArray, macL_len]

set_option maxHeartbeats 1000000 in
set_option maxRecDepth 100000 in
theorem macSum_any (B m : Nat) (key t : List UInt8) (w : World) (hm : MacOf w B m key t) (htab : Tab w) (hl : t.length ≤ 1000000000000) :
    Calls Tryd.prog 61 #[.pointer (some ⟨m, 0, none⟩)] w fun e w' => e = .returned (.string (macB key t)) ∧ Below w.heap.size w w' := by
  obtain ⟨g, h, hA, hK, hH, hmh, hgh, hBh, h0⟩ := hm
  have HT92 := Lib.hid (turn92 g key)
  have hl2 : (turnL (kbL key) 54 ++ t).length ≤ 1099511627776 := by rw [List.length_append, turnL_len, kbL_len]; omega
  obtain ⟨D, hD⟩ : ∃ D : ByteArray, D = ⟨(shaL (turnL (kbL key) 54 ++ t)).toArray⟩ := ⟨_, rfl⟩
  have HS := Lib.hid (fun w (hw : HashOf w h (turnL (kbL key) 54 ++ t)) (ht : Tab w) => hsum_any h _ w hw hl2 ht)
  rw [← hD] at HS
  have hDs : D.size = 32 := by rw [hD]; show (shaL (turnL (kbL key) 54 ++ t)).toArray.size = 32; rw [List.size_toArray, shaL_len]
  have hT := mturnB_size key 92
  have hTl := mturnB_list key 92
  generalize mturnB key 92 = T at *
  have hcat : ∀ w : World, (Op.stringOp .add T D).run Tryd.prog w = .ok (.string (T ++ D)) w := fun w => cat_run T D (by omega) w
  obtain ⟨U, hU⟩ : ∃ U, U = T ++ D := ⟨_, rfl⟩
  rw [← hU] at hcat
  have hUs : U.size ≤ 1099511627776 := by rw [hU, ByteArray.size_append]; omega
  have hUl : (⟨(shaL U.data.toList).toArray⟩ : ByteArray) = macB key t := by
    rw [hU, macB, macL, ← hTl, show (T ++ D).data.toList = T.data.toList ++ D.data.toList by simp, hD]
  have hsum := sum_any U hUs
  rw [hUl] at hsum
  have HU := Lib.hid hsum
  have HKd := Lib.hid (show Kb w.drew g key from hK)
  have HHd := Lib.hid (show HashOf w.drew h _ from hH)
  have HTd := Lib.hid (show Tab w.drew from htab)
  have HAd := Lib.hid (show Arr w.drew m _ _ from hA)
  have c0 : w.cell? ⟨m, 0, none⟩ = some (turnF g) := hA.cell rfl
  have c1 : w.cell? ⟨m, 1, none⟩ = some (.pointer (some ⟨h, 0, none⟩)) := hA.cell rfl
  unfold turnF at c0
  clear hA hK hH htab hU hUs hUl hsum hDs hD hT hTl hl2
  go_enter Tryd.func61, Tryd.ntmps61
  go_wp2_with fail
  go_region_with (first
    | (go_at_call 58; (first | (with_reducible refine (HT92.out _ HKd.out).mono ?_) | (with_reducible refine (HT92.out _ (HKd.out.next hbS)).mono ?_)); rintro e wT ⟨rfl, hbT⟩; (first | (have c1' : wT.cell? ⟨m, 1, none⟩ = some (.pointer (some ⟨h, 0, none⟩)) := ((HAd.out.next hbS).next hbT).cell rfl) | (have c1' : wT.cell? ⟨m, 1, none⟩ = some (.pointer (some ⟨h, 0, none⟩)) := (HAd.out.next hbT).cell rfl)))
    | (go_at_call 70; (first | (with_reducible refine (HS.out _ HHd.out HTd.out).mono ?_) | (with_reducible refine (HS.out _ (HHd.out.next hbT) (HTd.out.next hbT)).mono ?_)); rintro e wS ⟨rfl, hbS⟩; (first | (have c0' : wS.cell? ⟨m, 0, none⟩ = some (.func (.func 58) #[] #[.pointer (some ⟨g, 0, none⟩)]) := ((HAd.out.next hbT).next hbS).cell rfl) | (have c0' : wS.cell? ⟨m, 0, none⟩ = some (.func (.func 58) #[] #[.pointer (some ⟨g, 0, none⟩)]) := (HAd.out.next hbS).cell rfl)))
    | (go_at_call 67; (first | (with_reducible refine (HU.out _ ((HTd.out.next hbT).next hbS)).mono ?_) | (with_reducible refine (HU.out _ ((HTd.out.next hbS).next hbT)).mono ?_)); rintro e wU ⟨rfl, hbU⟩))
  all_goals
    go_wp2
    go_ret
    refine ⟨rfl, ?_⟩
    first
      | exact Below_next (Below_next (Below_next (Below.drew (Below.refl _ _)) hbT) hbS) hbU
      | exact Below_next (Below_next (Below_next (Below.drew (Below.refl _ _)) hbS) hbT) hbU
end Go.Proofs.YtfflpooiebeagaaDoor
namespace Go.Proofs.YtfflpooiebeagaaDoor
open Go.RowKit

/-- Texts, one behind the other. -/
def catL (ts : List ByteArray) : List UInt8 := ts.flatMap fun s => s.data.toList
theorem catL_snoc (ts : List ByteArray) (s : ByteArray) : catL (ts ++ [s]) = catL ts ++ s.data.toList := by simp [catL]
theorem catL_take (ts : List ByteArray) (k : Nat) (h : k < ts.length) : catL (ts.take (k + 1)) = catL (ts.take k) ++ (ts.getD k ByteArray.empty).data.toList := by
  rw [List.take_succ_eq_append_getElem h, catL_snoc, List.getD_eq_getElem?_getD, List.getElem?_eq_getElem h]; rfl
theorem catL_prefix (ts : List ByteArray) (k : Nat) : (catL (ts.take k)).length ≤ (catL ts).length := by
  have : catL ts = catL (ts.take k) ++ catL (ts.drop k) := by rw [catL, catL, catL, ← List.flatMap_append, List.take_append_drop]
  rw [this, List.length_append]; omega

set_option maxHeartbeats 1000000 in
set_option maxRecDepth 100000 in
theorem sumAll_any (g a : Nat) (key : List UInt8) (ts : List ByteArray) (n : Nat) (hn : ts.length = n) (w : World) (hk : Kb w g key) (hc : ∀ i, i < n → w.cell? ⟨a, i, none⟩ = some (.string (ts.getD i ByteArray.empty))) (htab : Tab w) (hl : (catL ts).length ≤ 1000000000) (hn3 : n ≤ 3) :
    Calls Tryd.prog 40 #[turnF g, .slice (some ⟨a, 0, none⟩) n n] w fun e w' => e = .returned (.string (macB key (catL ts))) ∧ Below w.heap.size w w' := by
  have HBg := Lib.hid (mbegin_any w.heap.size g key w hk htab (Nat.le_refl _) htab.lt)
  have HT := Lib.hid htab
  have HC := Lib.hid hc
  clear hk htab hc
  unfold turnF at HBg ⊢
  go_enter Tryd.func40, Tryd.ntmps40
  go_wp2_with (first
    | (go_at_call 59; (with_reducible refine HBg.out.mono ?_); rintro e w2 ⟨⟨m, rfl, hm⟩, hb2⟩))
  have HM := Lib.hid hm
  have HB2 := Lib.hid hb2
  clear hm hb2
  go_loopw [12] (fun i wr => ∃ k : Nat, k ≤ n ∧ i = .int .i64 (k : Int) ∧ MacOf wr w.heap.size m key (catL (ts.take k)) ∧ Below w.heap.size w wr) (fun i _ => n - (intOf i).toNat)
  case atStart => exact ⟨0, by omega, rfl, HM.out, HB2.out⟩
  case round =>
    clear HM HB2
    obtain ⟨k, hk, rfl, hm, hbel⟩ := hrel
    have HTr := Lib.hid (HT.out.next hbel)
    have hpre := catL_prefix ts k
    have hsz := hbel.size
    by_cases hlt : k < n
    · have hcell := HC.out k hlt
      have hblk : a < w.heap.size := World.block_lt_of_cell? _ _ hcell
      have hcr : wr.cell? ⟨a, k, none⟩ = some (.string (ts.getD k ByteArray.empty)) := (hbel.cell (p := ⟨a, k, none⟩) hblk).trans hcell
      have hts := catL_take ts k (by omega)
      have hpre2 := catL_prefix ts (k + 1)
      have hlen : (catL (ts.take k)).length + (ts.getD k ByteArray.empty).size ≤ 1000000000 := by
        rw [hts, List.length_append] at hpre2; simp at hpre2 ⊢; omega
      have HAd := Lib.hid (macAdd_any w.heap.size m key (catL (ts.take k)) (ts.getD k ByteArray.empty) wr hm HTr.out hsz (by omega))
      rw [← hts] at HAd
      clear hcell hts hpre2 hlen hm
      generalize ts.getD k ByteArray.empty = T at *
      go_wp2_with (first
        | (go_at_call 60; (with_reducible refine HAd.out.mono ?_); rintro e w3 ⟨rfl, hm3, hb3⟩))
      go_roundw
      case rel => exact ⟨k + 1, by omega, by go_num, hm3, hbel.trans hb3⟩
      case measure => simp [intOf]; omega
    · obtain rfl : k = n := by omega
      rw [List.take_of_length_le (by omega)] at hm
      have HSm := Lib.hid (macSum_any w.heap.size m key (catL ts) wr hm HTr.out (by omega))
      clear hm
      go_wp2_with (first
        | (go_at_call 61; (with_reducible refine HSm.out.mono ?_); rintro e w3 ⟨rfl, hb3⟩))
      go_ret
      exact ⟨rfl, hbel.trans (hb3.mono hsz)⟩

set_option maxHeartbeats 1000000 in
set_option maxRecDepth 100000 in
theorem msum_any (key t : ByteArray) (hk : key.size ≤ 1099511627776) (ht : t.size ≤ 1000000000) (w : World) (htab : Tab w) :
    Calls Tryd.prog 43 #[.string key, .string t] w fun e w' => e = .returned (.string (macB key.data.toList t.data.toList)) ∧ Below w.heap.size w w' := by
  have HTn := Lib.hid (turner_any key hk w htab)
  have HT := Lib.hid htab
  have hcat : catL [t] = t.data.toList := by simp [catL]
  clear htab
  go_enter Tryd.func43, Tryd.ntmps43
  go_wp2_with (first
    | (go_at_call 38; (with_reducible refine HTn.out.mono ?_); rintro e w1 ⟨⟨g, rfl, hwg, hK⟩, hb1⟩; have HSa := Lib.hid (sumAll_any g w1.heap.size key.data.toList [t] 1 rfl (w1.alloc (.cells #[.string t] 9)) (Arr.alloc hK _) (by intro i hi; obtain rfl : i = 0 := (by omega); exact (Arr.new w1 #[.string t] 9).cell rfl) ((HT.out.next hb1).alloc _) (by rw [hcat]; simpa using ht) (by omega)); rw [hcat] at HSa; unfold turnF at HSa; unfold turnF)
    | (go_at_call 40; (with_reducible refine HSa.out.mono ?_); rintro e w2 ⟨rfl, hb2⟩))
  go_ret
  exact ⟨rfl, Below_next (hb1.alloc hb1.size _) hb2⟩

theorem extract_any (key t : ByteArray) (hk : key.size ≤ 1099511627776) (ht : t.size ≤ 1000000000) (w : World) (htab : Tab w) :
    Calls Tryd.prog 29 #[.string key, .string t] w fun e w' => e = .returned (.string (macB key.data.toList t.data.toList)) ∧ Below w.heap.size w w' := by
  have HS := Lib.hid (msum_any key t hk ht w htab)
  clear htab
  go_enter Tryd.func29, Tryd.ntmps29
  go_wp2_with (first
    | (go_at_call 43; (with_reducible refine HS.out.mono ?_); rintro e w1 ⟨rfl, hb1⟩))
  go_ret
  exact ⟨rfl, hb1⟩
end Go.Proofs.YtfflpooiebeagaaDoor
namespace Go.Proofs.YtfflpooiebeagaaDoor
open Go.RowKit

/-- Part i of what a key is expanded to. -/
def exPart (key info : List UInt8) : Nat → List UInt8
  | 0 => []
  | i + 1 => macL key (exPart key info i ++ info ++ [byteAt (i + 1) 0])
/-- The first parts, one behind the other. -/
def exL (key info : List UInt8) : Nat → List UInt8
  | 0 => []
  | i + 1 => exL key info i ++ exPart key info (i + 1)
theorem exPart_len (key info : List UInt8) (i : Nat) : (exPart key info i).length ≤ 32 := by
  cases i with
  | zero => simp [exPart]
  | succ i => rw [exPart, macL_len]; exact Nat.le_refl _
theorem exPart_succ_len (key info : List UInt8) (i : Nat) : (exPart key info (i + 1)).length = 32 := by rw [exPart, macL_len]
theorem exL_len (key info : List UInt8) (i : Nat) : (exL key info i).length = 32 * i := by
  induction i with
  | zero => rfl
  | succ i ih => rw [exL, List.length_append, ih, exPart_succ_len]; omega
theorem exL_more (key info : List UInt8) (i j : Nat) (h : i ≤ j) : ∃ r, exL key info j = exL key info i ++ r := by
  induction j with
  | zero => obtain rfl : i = 0 := by omega
            exact ⟨[], by simp⟩
  | succ j ih =>
    rcases Nat.lt_or_ge j i with h1 | h1
    · obtain rfl : i = j + 1 := by omega
      exact ⟨[], by simp⟩
    · obtain ⟨r, hr⟩ := ih h1
      exact ⟨r ++ exPart key info (j + 1), by rw [exL, hr, List.append_assoc]⟩
/-- What a key is expanded to. -/
def exB (key info : List UInt8) (n : Nat) : ByteArray := ⟨((exL key info 255).take n).toArray⟩
theorem exB_size (key info : List UInt8) (n : Nat) (h : n ≤ 8160) : (exB key info n).size = n := by
  show ((exL key info 255).take n).toArray.size = n
  rw [List.size_toArray, List.length_take, exL_len]; omega
theorem exB_of (key info : List UInt8) (n k : Nat) (hk : k ≤ 255) (h : n ≤ 32 * k) : (ByteArray.mk (exL key info k).toArray).extract 0 n = exB key info n := by
  obtain ⟨r, hr⟩ := exL_more key info k 255 hk
  apply ByteArray.ext
  rw [ByteArray.data_extract, exB, hr, List.take_append_of_le_length (by rw [exL_len]; omega)]
  simp
theorem high1_any (x : Nat) (hx : x < 18446744073709551616) (w : World) :
    Calls Tryd.prog 20 #[.int .u64 x, .int .i64 1] w fun e w' => e = .returned (.string ⟨#[byteAt x 0]⟩) ∧ Below w.heap.size w w' := by
  have := high_any x hx 1 w
  rw [show toldN 1 = 1 from rfl, show (lowL x 1).reverse = [byteAt x 0] from by simp [lowL]] at this
  exact this
/-- What Expand answers. -/
def exR (key info : List UInt8) (n : Int) : Value := if n < 0 ∨ 8160 < n then .tuple #[.string ByteArray.empty, .int .i64 5] else .tuple #[.string (exB key info n.toNat), .int .i64 0]

set_option maxHeartbeats 1000000 in
set_option maxRecDepth 100000 in
theorem expand_any (key info : ByteArray) (n : Int) (hk : key.size ≤ 1099511627776) (hi : info.size ≤ 100000000) (w : World) (htab : Tab w) :
    Calls Tryd.prog 28 #[.string key, .string info, .int .i64 n] w fun e w' => e = .returned (exR key.data.toList info.data.toList n) ∧ Below w.heap.size w w' := by
  unfold exR
  by_cases h1 : n < 0
  · rw [if_pos (Or.inl h1)]
    clear htab
    go_enter Tryd.func28, Tryd.ntmps28
    go_wp2
    go_ret2
    exact ⟨rfl, Below.refl _ _⟩
  · by_cases h2 : 8160 < n
    · rw [if_pos (Or.inr h2)]
      clear htab
      go_enter Tryd.func28, Tryd.ntmps28
      go_wp2
      go_ret2
      exact ⟨rfl, Below.refl _ _⟩
    · rw [if_neg (by omega)]
      obtain ⟨N, rfl⟩ : ∃ N : Nat, n = (N : Int) := ⟨n.toNat, by omega⟩
      have hN : N ≤ 8160 := by omega
      rw [Int.toNat_natCast]
      clear h1 h2
      have HTn := Lib.hid (turner_any key hk w htab)
      have HT := Lib.hid htab
      clear htab
      have hN1 : ¬ (N : Int) < 0 := by omega
      have hN2 : ¬ (8160 : Int) < (N : Int) := by omega
      go_enter Tryd.func28, Tryd.ntmps28
      go_wp2_with (first
        | (go_at_call 38; (with_reducible refine HTn.out.mono ?_); rintro e w1 ⟨⟨g, rfl, hwg, hK⟩, hb1⟩; unfold turnF))
      have hBl := Bld.new w1 w1.heap.size (Nat.le_refl _)
      have HBl := Lib.hid hBl
      have hbel := (Below.refl w1.heap.size w1).alloc (Nat.le_refl _) (.cells #[.pointer none, .slice none 0 0] 83)
      have HBe := Lib.hid hbel
      have HT1 := Lib.hid (HT.out.next hb1)
      have HK := Lib.hid hK
      have hgl := Arr.lt hK
      clear hBl hbel HT hK
      have hle1 := hb1.size
      generalize hbd : w1.heap.size = b at *
      have HBD := Lib.hid hbd
      clear hbd
      go_loopw [10, 11] (fun p i wr => ∃ k : Nat, k ≤ 255 ∧ 32 * k < N + 32 ∧ p = .string ⟨(exPart key.data.toList info.data.toList k).toArray⟩ ∧ i = .int .u64 ((k + 1 : Nat) : Int) ∧ Bld wr b b (exL key.data.toList info.data.toList k) ∧ Below b w1 wr) (fun _ i _ => 300 - (intOf i).toNat)
      case atStart => exact ⟨0, by omega, by omega, rfl, rfl, HBl.out, HBe.out⟩
      case round =>
        clear HBl HBe
        obtain ⟨k, hk2, hkN, rfl, rfl, hbl, hbel⟩ := hrel
        have hsz := hbel.size
        have HLen := Lib.hid (bldLen_any b b _ wr hbl)
        have hel := exL_len key.data.toList info.data.toList k
        rw [hel] at HLen
        have hb0 := HBD.out
        have hbw : b ≤ wr.heap.size := by omega
        have HKr := Lib.hid (show Kb wr g key.data.toList from Arr.below HK.out hbel hgl)
        have HTr := Lib.hid (HT1.out.below hbel (by have := HT1.out.lt; omega))
        clear hsz hb0
        by_cases hlt : 32 * k < N
        · have hlt' : (32 * (k : Int) < (N : Int)) := by omega
          have HH := Lib.hid (high1_any (k + 1) (by omega) wr)
          have hcat : catL [(⟨(exPart key.data.toList info.data.toList k).toArray⟩ : ByteArray), info, ⟨#[byteAt (k + 1) 0]⟩] = exPart key.data.toList info.data.toList k ++ info.data.toList ++ [byteAt (k + 1) 0] := by simp [catL]
          have hpl := exPart_len key.data.toList info.data.toList k
          have hcl : (exPart key.data.toList info.data.toList k ++ info.data.toList ++ [byteAt (k + 1) 0]).length ≤ 1000000000 := by simp; omega
          have hpart : macB key.data.toList (exPart key.data.toList info.data.toList k ++ info.data.toList ++ [byteAt (k + 1) 0]) = ⟨(exPart key.data.toList info.data.toList (k + 1)).toArray⟩ := rfl
          have HSu := Lib.hid (fun (a : Nat) (wx : World) (h1 : Kb wx g key.data.toList) (h2 : Tab wx) (h3 : ∀ i, i < 3 → wx.cell? ⟨a, i, none⟩ = some (.string ([(⟨(exPart key.data.toList info.data.toList k).toArray⟩ : ByteArray), info, ⟨#[byteAt (k + 1) 0]⟩].getD i ByteArray.empty))) =>
            sumAll_any g a key.data.toList [(⟨(exPart key.data.toList info.data.toList k).toArray⟩ : ByteArray), info, ⟨#[byteAt (k + 1) 0]⟩] 3 rfl wx h1 h3 h2 (by rw [hcat]; exact hcl) (by omega))
          rw [hcat, hpart] at HSu
          have hnx : exL key.data.toList info.data.toList (k + 1) = exL key.data.toList info.data.toList k ++ (ByteArray.mk (exPart key.data.toList info.data.toList (k + 1)).toArray).data.toList := by simp [exL]
          have hps : (ByteArray.mk (exPart key.data.toList info.data.toList (k + 1)).toArray).size = 32 := by show (exPart key.data.toList info.data.toList (k + 1)).toArray.size = 32; rw [List.size_toArray, exPart_succ_len]
          have HNX := Lib.hid hnx
          have hlen : (exL key.data.toList info.data.toList k).length + (ByteArray.mk (exPart key.data.toList info.data.toList (k + 1)).toArray).size ≤ 140737488355328 := by rw [hel, hps]; omega
          have HWr := Lib.hid (fun (wx : World) (h1 : Bld wx b b (exL key.data.toList info.data.toList k)) (h2 : b ≤ wx.heap.size) => writeString_any b b _ (ByteArray.mk (exPart key.data.toList info.data.toList (k + 1)).toArray) wx h1 hlen h2)
          rw [← hnx] at HWr
          have hk1 : ((k + 1 : Nat) : Int) = (k : Int) + 1 := by omega
          rw [hk1] at HH
          clear hcat hpl hcl hpart hnx hps hlen hel
          obtain ⟨P, hP⟩ : ∃ P, P = (ByteArray.mk (exPart key.data.toList info.data.toList k).toArray) := ⟨_, rfl⟩
          obtain ⟨P2, hP2⟩ : ∃ P2, P2 = (ByteArray.mk (exPart key.data.toList info.data.toList (k + 1)).toArray) := ⟨_, rfl⟩
          obtain ⟨X, hX⟩ : ∃ X : ByteArray, X = ⟨#[byteAt (k + 1) 0]⟩ := ⟨_, rfl⟩
          have HP2 := Lib.hid hP2
          rw [← hP, ← hP2, ← hX] at HSu
          rw [← hX] at HH
          rw [← hP2] at HWr
          rw [← hP]
          clear hP hP2 hX
          have hj : (k : Int) + 1 < 300 := by omega
          have HB := Lib.hid hbl
          have HE := Lib.hid hbel
          clear hbl hbel
          go_wp2_with (first
            | (go_at_call 39; (with_reducible refine HLen.out.mono ?_); rintro e w' ⟨rfl, rfl⟩)
            | (go_at_call 20; (with_reducible refine HH.out.mono ?_); rintro e wx ⟨rfl, hbx⟩; have hcx := Arr.new wx #[.string P, .string info, .string X] 9; have HS1 := Lib.hid (HSu.out wx.heap.size (wx.alloc (.cells #[.string P, .string info, .string X] 9)) (Arr.alloc (HKr.out.next hbx) _) ((HTr.out.next hbx).alloc _) (by intro i hi; match i, hi with | 0, _ => exact hcx.cell rfl | 1, _ => exact hcx.cell rfl | 2, _ => exact hcx.cell rfl)); clear hcx; unfold turnF at HS1; have hbxs := hbx.size; have HBx := Lib.hid ((HB.out.next hbx).next ((Below.refl _ wx).alloc (Nat.le_refl _) (.cells #[.string P, .string info, .string X] 9))))
            | (go_at_call 40; (with_reducible refine HS1.out.mono ?_); rintro e wy ⟨rfl, hby⟩; have hbys := hby.size; have HBy := Lib.hid (HBx.out.next hby); rw [World.size_alloc] at hbys)
            | (go_at_call 41; (with_reducible refine (HWr.out _ HBy.out (by omega)).mono ?_); rintro e wz ⟨rfl, hbz, hbw2⟩))
          go_roundw
          case rel => exact ⟨k + 1, by omega, by omega, by rw [HP2.out], by go_num, hbz, (HE.out.trans (((hbx.mono hbw).alloc (by omega) _).trans (hby.mono (by rw [World.size_alloc]; omega)))).trans hbw2⟩
          case measure => simp [intOf]; omega
        · have hfull := exB_of key.data.toList info.data.toList N k hk2 (by omega)
          have hS : (ByteArray.mk (exL key.data.toList info.data.toList k).toArray).size = 32 * k := by show (exL key.data.toList info.data.toList k).toArray.size = _; rw [List.size_toArray, hel]
          have hsl := slice_to (ByteArray.mk (exL key.data.toList info.data.toList k).toArray) N (by rw [hS]; omega)
          rw [hfull] at hsl
          have HSt := Lib.hid (bldString_any b b _ wr hbl hbw)
          have hlt' : ¬ (32 * (k : Int) < (N : Int)) := by omega
          have HE := Lib.hid hbel
          have hN2' : (N : Int) ≤ 32 * (k : Int) := by omega
          clear hbl hbel hfull hel
          obtain ⟨S, hSd⟩ : ∃ S, S = (ByteArray.mk (exL key.data.toList info.data.toList k).toArray) := ⟨_, rfl⟩
          rw [← hSd] at HSt hsl hS
          clear hSd
          go_wp2_with (first
            | (go_at_call 39; (with_reducible refine HLen.out.mono ?_); rintro e w' ⟨rfl, rfl⟩)
            | (go_at_call 42; (with_reducible refine HSt.out.mono ?_); rintro e wz ⟨rfl, hbz⟩))
          go_ret2
          have hx := HBD.out
          have hx2 : w.heap.size ≤ b := by omega
          exact ⟨rfl, (hb1.trans ((HE.out.mono hx2))).trans (hbz.mono hx2)⟩

/-- What Derive answers. -/
theorem derive_any (salt secret info : ByteArray) (n : Int) (hk : salt.size ≤ 1099511627776) (hs : secret.size ≤ 1000000000) (hi : info.size ≤ 100000000) (w : World) (htab : Tab w) :
    Calls Tryd.prog 21 #[.string salt, .string secret, .string info, .int .i64 n] w fun e w' => e = .returned (exR (macL salt.data.toList secret.data.toList) info.data.toList n) ∧ Below w.heap.size w w' := by
  have HT := Lib.hid htab
  have HX := Lib.hid (extract_any salt secret hk hs w htab)
  have hkl : (macB salt.data.toList secret.data.toList).data.toList = macL salt.data.toList secret.data.toList := by simp [macB]
  have hE := fun w ht => expand_any (macB salt.data.toList secret.data.toList) info n (by rw [macB_size]; decide) hi w ht
  rw [hkl] at hE
  have HE := Lib.hid hE
  clear htab hE hkl
  unfold exR at HE ⊢
  by_cases hc : n < 0 ∨ 8160 < n
  · rw [if_pos hc] at HE ⊢
    clear hc
    go_enter Tryd.func21, Tryd.ntmps21
    go_wp2_with (first
      | (go_at_call 29; (with_reducible refine HX.out.mono ?_); rintro e w1 ⟨rfl, hb1⟩)
      | (go_at_call 28; (with_reducible refine (HE.out _ (HT.out.next hb1)).mono ?_); rintro e w2 ⟨rfl, hb2⟩))
    go_ret2
    exact ⟨rfl, Below_next hb1 hb2⟩
  · rw [if_neg hc] at HE ⊢
    clear hc
    go_enter Tryd.func21, Tryd.ntmps21
    go_wp2_with (first
      | (go_at_call 29; (with_reducible refine HX.out.mono ?_); rintro e w1 ⟨rfl, hb1⟩)
      | (go_at_call 28; (with_reducible refine (HE.out _ (HT.out.next hb1)).mono ?_); rintro e w2 ⟨rfl, hb2⟩))
    go_ret2
    exact ⟨rfl, Below_next hb1 hb2⟩
end Go.Proofs.YtfflpooiebeagaaDoor
