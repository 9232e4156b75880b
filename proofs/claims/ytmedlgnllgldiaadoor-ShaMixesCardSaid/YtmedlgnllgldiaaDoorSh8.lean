/- sha: what a Hash's cells become; a text that goes on, in plain lists. -/
import Derived.Test.YtmedlgnllgldiaaDoorSh7
namespace Go.Proofs.YtmedlgnllgldiaaDoor
open Go.RowKit

theorem hcells_setN (st : S8) (p : List UInt8) (n m : Nat) (hp : p.length = 64) : (hcells st p n).setIfInBounds 72 (.int .u64 (m : Int)) = hcells st p m := by
  have h8 : st.cells.toList.length = 8 := rfl
  rw [hcells, hcells, List.setIfInBounds_toArray, List.set_append_right _ _ (by rw [List.length_append, u8s_len]; omega), List.length_append, u8s_len, h8, hp]
  rfl
theorem hcells_toList (st : S8) (p : List UInt8) (n : Nat) : (hcells st p n).toList = st.cells.toList ++ u8s p ++ [Value.int .u64 (n : Int)] := rfl
theorem hcells_copy (st : S8) (p q : List UInt8) (n r : Nat) (hp : p.length = 64) (hr : r + q.length ≤ 64) :
    ((hcells st p n).toList.take (8 + r) ++ u8s q ++ (hcells st p n).toList.drop (8 + r + q.length)).toArray = hcells st (p.take r ++ q ++ p.drop (r + q.length)) n := by
  have h8 : st.cells.toList.length = 8 := rfl
  have e : (hcells st p n).toList = st.cells.toList ++ (u8s p ++ [Value.int .u64 (n : Int)]) := by rw [hcells_toList, List.append_assoc]
  rw [e, hcells, List.take_append, List.drop_append, h8]
  rw [List.take_of_length_le (by omega), List.drop_eq_nil_of_le (by omega), List.take_append_of_le_length (by rw [u8s_len]; omega), List.drop_append_of_le_length (by rw [u8s_len]; omega)]
  rw [show 8 + r - 8 = r from by omega, show 8 + r + q.length - 8 = r + q.length from by omega]
  simp [u8s]
theorem hcells_state (st st' : S8) (p : List UInt8) (n : Nat) : (st'.cells.toList ++ (hcells st p n).toList.drop 8).toArray = hcells st' p n := by
  have h8 : st.cells.toList.length = 8 := rfl
  have e : (hcells st p n).toList = st.cells.toList ++ (u8s p ++ [Value.int .u64 (n : Int)]) := by rw [hcells_toList, List.append_assoc]
  rw [e, hcells, List.drop_append, List.drop_eq_nil_of_le (by omega), h8]
  simp

theorem mixN_append (s : S8) (l m : List UInt8) (k : Nat) (h : 64 * k ≤ l.length) : mixN s (l ++ m) k = mixN s l k := by
  induction k with
  | zero => rfl
  | succ k ih =>
    rw [mixN, mixN, ih (by omega), List.drop_append_of_le_length (by omega), List.take_append_of_le_length (by rw [List.length_drop]; omega)]
theorem mixN_add (s : S8) (l : List UInt8) (a b : Nat) : mixN s l (a + b) = mixN (mixN s l a) (l.drop (64 * a)) b := by
  induction b with
  | zero => rfl
  | succ b ih =>
    rw [← Nat.add_assoc, mixN, mixN, ih, List.drop_drop]
    congr 3; omega

/-- Little enough comes that no block gets whole. -/
theorem on_small (l q p : List UInt8) (hp : p.length = 64) (hpl : p.take (l.length % 64) = l.drop (64 * (l.length / 64))) (h : l.length % 64 + q.length < 64) :
    (l ++ q).length / 64 = l.length / 64 ∧ (p.take (l.length % 64) ++ q ++ p.drop (l.length % 64 + q.length)).length = 64 ∧
    (p.take (l.length % 64) ++ q ++ p.drop (l.length % 64 + q.length)).take ((l ++ q).length % 64) = (l ++ q).drop (64 * ((l ++ q).length / 64)) ∧
    mixN firstS (l ++ q) ((l ++ q).length / 64) = mixN firstS l (l.length / 64) := by
  have hd : (l ++ q).length / 64 = l.length / 64 := by rw [List.length_append]; omega
  have hr : (p.take (l.length % 64)).length = l.length % 64 := by rw [List.length_take]; omega
  refine ⟨hd, ?_, ?_, ?_⟩
  · simp only [List.length_append, hr, List.length_drop]; omega
  · rw [hd, List.take_append_of_le_length (by rw [List.length_append, List.length_append, hr]; omega), List.take_of_length_le (by rw [List.length_append, List.length_append, hr]; omega),
      List.drop_append_of_le_length (by omega), hpl]
  · rw [hd, mixN_append _ _ _ _ (by omega)]

/-- A block gets whole: what it is, and what is behind it. -/
theorem on_block (l q p : List UInt8) (hp : p.length = 64) (hpl : p.take (l.length % 64) = l.drop (64 * (l.length / 64))) (h : 64 ≤ l.length % 64 + q.length) :
    (p.take (l.length % 64) ++ q.take (64 - l.length % 64)).length = 64 ∧
    mixS (mixN firstS l (l.length / 64)) (p.take (l.length % 64) ++ q.take (64 - l.length % 64)) = mixN firstS (l ++ q) (l.length / 64 + 1) ∧
    (l ++ q).drop (64 * (l.length / 64 + 1)) = q.drop (64 - l.length % 64) := by
  have hr : (p.take (l.length % 64)).length = l.length % 64 := by rw [List.length_take]; omega
  refine ⟨?_, ?_, ?_⟩
  · rw [List.length_append, hr, List.length_take]; omega
  · have e1 : (l.drop (64 * (l.length / 64)) ++ q).take 64 = l.drop (64 * (l.length / 64)) ++ q.take (64 - l.length % 64) := by
      rw [List.take_append, List.take_of_length_le (show (l.drop (64 * (l.length / 64))).length ≤ 64 by rw [List.length_drop]; omega), List.length_drop, show 64 - (l.length - 64 * (l.length / 64)) = 64 - l.length % 64 from by omega]
    rw [mixN, mixN_append _ _ _ _ (by omega), List.drop_append_of_le_length (by omega), hpl, e1]
  · clear hr
    rw [List.drop_append, List.drop_eq_nil_of_le (by omega), List.nil_append]
    congr 1; omega

/-- .. and all whole blocks behind it. -/
theorem on_rest (l q : List UInt8) (h : 64 ≤ l.length % 64 + q.length) :
    mixN (mixN firstS (l ++ q) (l.length / 64 + 1)) (q.drop (64 - l.length % 64)) ((q.length - (64 - l.length % 64)) / 64) = mixN firstS (l ++ q) ((l ++ q).length / 64) ∧
    (q.drop (64 - l.length % 64)).drop (64 * ((q.length - (64 - l.length % 64)) / 64)) = (l ++ q).drop (64 * ((l ++ q).length / 64)) ∧
    q.length - (64 - l.length % 64) - 64 * ((q.length - (64 - l.length % 64)) / 64) = (l ++ q).length % 64 := by
  have e : (l ++ q).length / 64 = l.length / 64 + 1 + (q.length - (64 - l.length % 64)) / 64 := by rw [List.length_append]; omega
  have hd : (l ++ q).drop (64 * (l.length / 64 + 1)) = q.drop (64 - l.length % 64) := by
    rw [List.drop_append, List.drop_eq_nil_of_le (by omega), List.nil_append]
    congr 1; omega
  refine ⟨?_, ?_, ?_⟩
  · rw [e, mixN_add firstS (l ++ q) (l.length / 64 + 1), hd]
  · rw [e, ← hd, List.drop_drop]
    congr 1; omega
  · rw [List.length_append]; omega

/-- 'copy(dst, s)' from a string, dst lying in row g from place o on: as many bytes go over as both have. -/
theorem run_copy_str (w : World) (ty : TypeId) (g o dLen dCap m : Nat) (s : ByteArray) (cur : Array Value) (t : TypeId) (hm : m = min s.size dLen)
    (hg : Arr w g cur t) (hfit : o + m ≤ cur.size) :
    (Builtin.copy_ #[38, 9] ty #[.slice (some ⟨g, o, none⟩) dLen dCap, .string s]).run Tryd.prog w =
      .ok (.int .i64 (m : Int)) (w.setRow g (cur.toList.take o ++ u8s (s.data.toList.take m) ++ cur.toList.drop (o + m)).toArray) := by
  have hsz : s.data.toList.length = s.size := by simp
  have hlen : (u8s (s.data.toList.take m)).length = m := by rw [u8s_len, List.length_take]; omega
  have hone : ∀ v ∈ u8s (s.data.toList.take m), v.oneCell' = true := by
    intro v hv
    simp only [u8s, List.mem_map] at hv
    obtain ⟨b, _, rfl⟩ := hv
    rfl
  have hst := run_storeCells_at Tryd.prog g o t (u8s (s.data.toList.take m)) 0 cur w hg (by rw [hlen]; simpa using hfit) hone
  have hmin : Nat.min s.size dLen = m := hm.symm
  have htk : List.take m (List.map (fun b : UInt8 => Value.int IntKind.u8 (b.toNat : Int)) s.data.toList) = u8s (s.data.toList.take m) := by
    rw [u8s, List.map_take]
  rw [hlen] at hst
  simp only [Nat.add_zero] at hst
  obtain ⟨i0, hi, hz0, hz1, hz2⟩ := info_parts Tryd.infoU8
  simp [Builtin.copy_, run_underlying Tryd.underlying38, Builtin.lenOf, Builtin.firstCells, sizeOf, typeInfo, hi, hmin]
  rw [htk, hst]
  simp [Result.andThen, goInt]

theorem copy_arr {W : World} {g : Nat} {st : S8} {p : List UInt8} {N : Nat} (h : Arr W g (hcells st p N) 87) (q : List UInt8) (r m : Nat) (hm : q.length = m) (hp : p.length = 64) (hr : r + m ≤ 64) :
    Arr (W.setRow g (List.take (8 + r) (hcells st p N).toList ++ (u8s q ++ List.drop (8 + r + m) (hcells st p N).toList)).toArray) g (hcells st (p.take r ++ q ++ p.drop (r + m)) N) 87 := by
  subst hm
  rw [← List.append_assoc, hcells_copy st p q N r hp hr]
  exact h.row _
/-- A state is stored at a block's head. -/
theorem wpList_store_head {ops : Array Oper} {rest : List Oper} {o : Oper} {a : Act} {w : World} {Q : Exit → Act → World → Prop} (hgd : o.guard = none) (x y : Operand) (ho : o.op = .store 45 x y)
    (g : Nat) (hx : a.eval x = .pointer (some ⟨g, 0, none⟩)) (cs : Array Value) (hy : a.eval y = .agg cs) (hs : cs.size = 8) (h1 : cs.all (·.oneCell') = true) (t : TypeId) (cur : Array Value) (hz : 8 ≤ cur.size) (hg : Arr w g cur t)
    (h : wpList Tryd.prog ops Q rest (a.put o.dst undef) (w.setRow g (cs.toList ++ cur.toList.drop 8).toArray)) : wpList Tryd.prog ops Q (o :: rest) a w := by
  refine wpList_plain hgd fun K hK => ?_
  have hone : ∀ v ∈ cs.toList, v.oneCell' = true := fun v hv => (Array.all_eq_true_iff_forall_mem.1 h1) v (by simpa using hv)
  have hst := run_storeCells_at Tryd.prog g 0 t cs.toList 0 cur w hg (by simp; omega) hone
  have hrun : (storeVar 45 ⟨g, 0, none⟩ (.agg cs)).run Tryd.prog w = .ok () (w.setRow g (cs.toList ++ cur.toList.drop 8).toArray) := by
    cases hq : Tryd.prog.info? 45 with
    | none => have := info_s8; simp [hq] at this
    | some i =>
      have hs8 : cs.size = i.size := by have := info_s8; simp [hq] at this; omega
      simp only [Nat.add_zero, List.take_zero, List.nil_append, Nat.zero_add, Array.length_toList, hs] at hst
      simp [storeVar, sizeOf, typeInfo, hq, Value.cells, hs8, hst]
  unfold Oper.wp execOp
  simp only [ho, hx, hy, Instr.storeAt, Instr.sureAddr, Sem.run_bind, Sem.run_pure, Result.andThen_ok, hrun]
  exact hK _ _ h

theorem arrOf64 : Tryd.prog.underlying 82 = some (.array (Tryd.prog.arrayLen 82) (Tryd.prog.elem 82)) := by kernel_rfl
theorem len64 : Tryd.prog.arrayLen 82 = 64 := by kernel_rfl
theorem elem64 : Tryd.prog.elem 82 = 5 := by kernel_rfl
theorem addr_add (g o i : Nat) : (⟨g, o, none⟩ : Addr).add i = ⟨g, o + i, none⟩ := by unfold Addr.add; split <;> simp_all
theorem arr64_from (g o r : Nat) (hr : r < 64) (w : World) :
    (Instr.sliceAt 82 (.pointer (some ⟨g, o, none⟩)) (some (.int .i64 (r : Int))) none none).run Tryd.prog w = .ok (.slice (some ⟨g, o + r, none⟩) (64 - r) (64 - r)) w := by
  rw [run_sliceAt_array_l w 82 _ arrOf64 .i64 r (by omega) (by rw [len64]; omega), elem64, Tryd.sizeOf5, len64]
  simp only [Result.andThen, slicedAt, Int.toNat_natCast]
  rw [if_neg (by omega), Nat.mul_one, addr_add]
theorem arr64_to (g o r : Nat) (hr : r ≤ 64) (w : World) :
    (Instr.sliceAt 82 (.pointer (some ⟨g, o, none⟩)) none (some (.int .i64 (r : Int))) none).run Tryd.prog w = .ok (.slice (some ⟨g, o, none⟩) r 64) w := by
  rw [run_sliceAt_array_h w 82 _ arrOf64 .i64 r (by omega) (by rw [len64]; omega), elem64, Tryd.sizeOf5, len64]
  simp only [Result.andThen, slicedAt, Int.toNat_natCast]
  rw [if_neg (by omega), Nat.zero_mul, addr_add]
  rfl
theorem arr64_all (g o : Nat) (w : World) :
    (Instr.sliceAt 82 (.pointer (some ⟨g, o, none⟩)) none none none).run Tryd.prog w = .ok (.slice (some ⟨g, o, none⟩) 64 64) w := by
  rw [run_sliceAt_array_all w 82 _ arrOf64, elem64, Tryd.sizeOf5, len64]
  simp only [Result.andThen, slicedAt]
  rw [if_neg (by omega), Nat.zero_mul, addr_add]
  rfl
end Go.Proofs.YtmedlgnllgldiaaDoor
