/- mac: the contracts of block and turner. -/
import Derived.Test.YtmedlgnllgldiaaDoorSh11
import Derived.Test.YtmedlgnllgldiaaDoorMc1
namespace Go.Proofs.YtmedlgnllgldiaaDoor
open Go.RowKit

abbrev zero64 : Array Value := #[.int .u8 0, .int .u8 0, .int .u8 0, .int .u8 0, .int .u8 0, .int .u8 0, .int .u8 0, .int .u8 0, .int .u8 0, .int .u8 0, .int .u8 0, .int .u8 0, .int .u8 0, .int .u8 0, .int .u8 0, .int .u8 0, .int .u8 0, .int .u8 0, .int .u8 0, .int .u8 0, .int .u8 0, .int .u8 0, .int .u8 0, .int .u8 0, .int .u8 0, .int .u8 0, .int .u8 0, .int .u8 0, .int .u8 0, .int .u8 0, .int .u8 0, .int .u8 0, .int .u8 0, .int .u8 0, .int .u8 0, .int .u8 0, .int .u8 0, .int .u8 0, .int .u8 0, .int .u8 0, .int .u8 0, .int .u8 0, .int .u8 0, .int .u8 0, .int .u8 0, .int .u8 0, .int .u8 0, .int .u8 0, .int .u8 0, .int .u8 0, .int .u8 0, .int .u8 0, .int .u8 0, .int .u8 0, .int .u8 0, .int .u8 0, .int .u8 0, .int .u8 0, .int .u8 0, .int .u8 0, .int .u8 0, .int .u8 0, .int .u8 0, .int .u8 0]
theorem zero64_eq : zero64 = row64 (List.replicate 64 0) := rfl
theorem zero64_size : zero64.size = 64 := rfl
/-- What is copied into a block of zeros. -/
theorem copy_block (W : World) (g : Nat) (s : ByteArray) (hs : s.size ≤ 64) (Z : Array Value) (hA : Arr W g Z 82) (hZ : Z = zero64) (R : Array Value) (hR : Hid (R = row64 (s.data.toList ++ List.replicate (64 - s.size) 0))) :
    (Builtin.copy_ #[38, 9] 3 #[.slice (some ⟨g, 0, none⟩) 64 64, .string s]).run Tryd.prog W = .ok (.int .i64 (s.size : Int)) (W.setRow g R) := by
  subst hZ
  rw [hR.out, run_copy_str W 3 g 0 64 64 s.size s zero64 82 (by omega) hA (by rw [zero64_size]; omega)]
  have e : ((List.take 0 zero64.toList ++ u8s (List.take s.size s.data.toList) ++ List.drop (0 + s.size) zero64.toList).toArray : Array Value) = row64 (s.data.toList ++ List.replicate (64 - s.size) 0) := by
    rw [zero64_eq, List.take_zero, List.nil_append, take_all, Nat.zero_add]
    unfold row64
    rw [u8s_append]
    congr 2
    rw [u8s, u8s, List.map_replicate, List.map_replicate, List.drop_replicate]
  rw [e]
theorem wpList_copy_new {ops : Array Oper} {rest : List Oper} {o : Oper} {a : Act} {w : World} {Q : Exit → Act → World → Prop} (hgd : o.guard = none) (d s : Operand)
    (ho : o.op = .call { callee := .builtin .copy, args := #[d, s], argTypes := #[38, 9] }) (hty : o.type = 3) (g : Nat) (hg : g = w.heap.size) (S : ByteArray) (hS : S.size ≤ 64)
    (hd : a.eval d = .slice (some ⟨g, 0, none⟩) 64 64) (hs : a.eval s = .string S) (R : Array Value) (hR : Hid (R = row64 (S.data.toList ++ List.replicate (64 - S.size) 0)))
    (h : wpList Tryd.prog ops Q rest (a.put o.dst (.int .i64 (S.size : Int))) (w.alloc (.cells R 82))) : wpList Tryd.prog ops Q (o :: rest) a (w.alloc (.cells zero64 82)) := by
  subst hg
  refine Lib.wpList_copy_run _ hgd d s _ _ ho _ _ hd hs (v' := .int .i64 (S.size : Int)) (w' := w.alloc (.cells R 82)) ?_ h
  rw [hty, copy_block _ _ S hS zero64 (Arr.new w _ _) rfl R hR, World.setRow_alloc_new]


set_option maxHeartbeats 1000000 in
set_option maxRecDepth 100000 in
theorem block_short (key : ByteArray) (hk : key.size ≤ 64) (w : World) :
    Calls Tryd.prog 54 #[.string key] w fun e w' => e = .returned (.agg (row64 (kbL key.data.toList))) ∧ Below w.heap.size w w' := by
  have hkl : kbL key.data.toList = key.data.toList ++ List.replicate (64 - key.size) 0 := by rw [kbL_short _ (by simpa using hk)]; simp
  have hsa := fun g => arr64_all g 0
  have HR0 := Lib.hid (show row64 (kbL key.data.toList) = row64 (key.data.toList ++ List.replicate (64 - key.size) 0) by rw [hkl])
  have HZ := Lib.hid (row64_size _ (kbL_len key.data.toList))
  have HO := Lib.hid (row64_one (kbL key.data.toList))
  clear hkl
  obtain ⟨R, hR⟩ : ∃ R, R = row64 (kbL key.data.toList) := ⟨_, rfl⟩
  rw [← hR] at HZ HO HR0 ⊢
  clear hR
  go_enter Tryd.func54, Tryd.ntmps54
  go_wp2_with (first
    | (with_reducible refine wpList_copy_new rfl _ _ rfl rfl (w.heap.size + 1) (by simp) key hk rfl rfl R HR0 ?_)
    | (with_reducible refine wpList_loadb rfl _ rfl (w.heap.size + 1) rfl R HZ.out (Arr.newAt _ _ _ (by simp)) ?_)
    | (with_reducible refine wpList_storeb rfl _ _ rfl w.heap.size rfl R rfl HZ.out HO.out zero64 zero64_size (Arr.alloc (Arr.new w zero64 _) _) ?_))
  refine ret_b64 Tryd.results54 w.heap.size R HZ.out rfl ?_ rfl ⟨rfl, ?_⟩
  · exact Arr.row (Arr.alloc (Arr.new w zero64 _) _) R
  · exact below_setRow (((Below.refl _ _).alloc (Nat.le_refl _) _).alloc (by simp) _) (Nat.le_refl _) _

set_option maxHeartbeats 1000000 in
set_option maxRecDepth 100000 in
theorem block_long (key : ByteArray) (hk : 64 < key.size) (hk2 : key.size ≤ 1099511627776) (w : World) (htab : Tab w) :
    Calls Tryd.prog 54 #[.string key] w fun e w' => e = .returned (.agg (row64 (kbL key.data.toList))) ∧ Below w.heap.size w w' := by
  have hsum := sum_any key hk2
  obtain ⟨D, hD⟩ : ∃ D : ByteArray, D = ⟨(shaL key.data.toList).toArray⟩ := ⟨_, rfl⟩
  rw [← hD] at hsum
  have HSum := Lib.hid hsum
  have hDs : D.size = 32 := by rw [hD]; show (shaL key.data.toList).toArray.size = 32; rw [List.size_toArray, shaL_len]
  have hDl : D.data.toList = shaL key.data.toList := by rw [hD]
  have hkl : kbL key.data.toList = D.data.toList ++ List.replicate (64 - D.size) 0 := by rw [kbL_long _ (by simpa using hk), hDl, hDs]
  have hsa := fun g => arr64_all g 0
  have HR0 := Lib.hid (show row64 (kbL key.data.toList) = row64 (D.data.toList ++ List.replicate (64 - D.size) 0) by rw [hkl])
  have HZ := Lib.hid (row64_size _ (kbL_len key.data.toList))
  have HO := Lib.hid (row64_one (kbL key.data.toList))
  have HT := Lib.hid htab
  have hk3 : D.size ≤ 64 := by omega
  clear hkl hsum hD hDl htab hDs
  obtain ⟨R, hR⟩ : ∃ R, R = row64 (kbL key.data.toList) := ⟨_, rfl⟩
  rw [← hR] at HZ HO HR0 ⊢
  clear hR
  go_enter Tryd.func54, Tryd.ntmps54
  go_wp2_with (first
    | (go_at_call 26; (with_reducible refine (HSum.out _ (HT.out.alloc _)).mono ?_); rintro e w3 ⟨rfl, hb⟩; have hz := (Arr.new w zero64 _).next hb; have hl := hz.lt; have hbel := Lib.hid (((Below.refl w.heap.size w).alloc (Nat.le_refl _) _).trans (hb.mono (by simp))))
    | (with_reducible refine wpList_copy_new rfl _ _ rfl rfl w3.heap.size rfl D hk3 rfl rfl R HR0 ?_)
    | (with_reducible refine wpList_loadb rfl _ rfl w3.heap.size rfl R HZ.out (Arr.new _ _ _) ?_)
    | (with_reducible refine wpList_storeb rfl _ _ rfl w.heap.size rfl R rfl HZ.out HO.out zero64 zero64_size (Arr.alloc hz _) ?_))
  refine ret_b64 Tryd.results54 w.heap.size R HZ.out rfl ?_ rfl ⟨rfl, ?_⟩
  · exact Arr.row (Arr.alloc hz _) R
  · exact below_setRow (hbel.out.alloc (by omega) _) (Nat.le_refl _) _

theorem block_any (key : ByteArray) (hk : key.size ≤ 1099511627776) (w : World) (htab : Tab w) :
    Calls Tryd.prog 54 #[.string key] w fun e w' => e = .returned (.agg (row64 (kbL key.data.toList))) ∧ Below w.heap.size w w' := by
  by_cases h : 64 < key.size
  · exact block_long key h hk w htab
  · exact block_short key (by omega) w

/-- What turns a key's block. -/
def turnF (g : Nat) : Value := .func (.func 55) #[] #[.pointer (some ⟨g, 0, none⟩)]
/-- Block g holds a key's block. -/
def Kb (w : World) (g : Nat) (key : List UInt8) : Prop := Arr w g (row64 (kbL key)) 82

set_option maxHeartbeats 1000000 in
set_option maxRecDepth 100000 in
theorem turner_any (key : ByteArray) (hk : key.size ≤ 1099511627776) (w : World) (htab : Tab w) :
    Calls Tryd.prog 35 #[.string key] w fun e w' => (∃ g, e = .returned (turnF g) ∧ w.heap.size ≤ g ∧ Kb w' g key.data.toList) ∧ Below w.heap.size w w' := by
  have hmf : ∀ (fn : Fn) (first cap : Array Value) (w : World), (Instr.makeFunc fn first cap).run Tryd.prog w = .ok (.func fn first cap) w := fun _ _ _ _ => rfl
  have HB := Lib.hid (block_any key hk w htab)
  have HZ := Lib.hid (row64_size _ (kbL_len key.data.toList))
  have HO := Lib.hid (row64_one (kbL key.data.toList))
  clear htab
  unfold Kb
  obtain ⟨R, hR⟩ : ∃ R, R = row64 (kbL key.data.toList) := ⟨_, rfl⟩
  rw [← hR] at HZ HO HB ⊢
  clear hR
  go_enter Tryd.func35, Tryd.ntmps35
  go_wp2_with (first
    | (go_at_call 54; (with_reducible refine HB.out.mono ?_); rintro e w3 ⟨rfl, hb⟩)
    | (with_reducible refine wpList_storeb_new rfl _ _ rfl _ rfl rfl _ rfl HZ.out HO.out ?_))
  go_ret
  exact ⟨⟨w3.heap.size, rfl, hb.size, Arr.new w3 R _⟩, hb.alloc hb.size _⟩
end Go.Proofs.YtmedlgnllgldiaaDoor
