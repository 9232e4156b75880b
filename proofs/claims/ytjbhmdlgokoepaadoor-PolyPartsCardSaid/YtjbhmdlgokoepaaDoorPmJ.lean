/- poly: what a Poly's cells become; the contract of Add. -/
import Derived.Test.YtjbhmdlgokoepaaDoorPmI
import Derived.Deep.RegionLaw
namespace Go.Proofs.YtjbhmdlgokoepaaDoor
open Go.RowKit

theorem pcells_toList (R S A : List Nat) (p : List UInt8) (n : Nat) : (pcells R S A p n).toList = u64s R ++ (u64s S ++ (u64s A ++ (u8s p ++ [Value.int .i64 (n : Int)]))) := rfl
theorem take_after {α : Type} (a b : List α) (n k : Nat) (h : a.length = n) : (a ++ b).take (n + k) = a ++ b.take k := by
  rw [List.take_append, List.take_of_length_le (by omega)]
  congr 2; omega
theorem drop_after {α : Type} (a b : List α) (n k : Nat) (h : a.length = n) : (a ++ b).drop (n + k) = b.drop k := by
  rw [List.drop_append, List.drop_eq_nil_of_le (by omega), List.nil_append]
  congr 1; omega
theorem pcells_setN {R S A : List Nat} {p : List UInt8} (n m : Nat) (h : Pok R S A p) : (pcells R S A p n).setIfInBounds 31 (.int .i64 (m : Int)) = pcells R S A p m := by
  rw [pcells, pcells, List.setIfInBounds_toArray,
    List.set_append_right _ _ (by rw [u64s_len, h.r]; omega), u64s_len, h.r,
    List.set_append_right _ _ (by rw [u64s_len, h.s]; omega), u64s_len, h.s,
    List.set_append_right _ _ (by rw [u64s_len, h.a]; omega), u64s_len, h.a,
    List.set_append_right _ _ (by rw [u8s_len, h.p]; omega), u8s_len, h.p]
  rfl
theorem pcells_sum {R S A A' : List Nat} {p : List UInt8} (n : Nat) (h : Pok R S A p) (_ : A'.length = 5) :
    (List.take 10 (pcells R S A p n).toList ++ u64s A' ++ List.drop 15 (pcells R S A p n).toList).toArray = pcells R S A' p n := by
  rw [pcells_toList, show (10 : Nat) = 5 + (5 + 0) from rfl, show (15 : Nat) = 5 + (5 + (5 + 0)) from rfl, take_after _ _ 5 _ (by rw [u64s_len, h.r]), take_after _ _ 5 _ (by rw [u64s_len, h.s]), List.take_zero, List.append_nil,
    drop_after _ _ 5 _ (by rw [u64s_len, h.r]), drop_after _ _ 5 _ (by rw [u64s_len, h.s]), drop_after _ _ 5 _ (by rw [u64s_len, h.a]), List.drop_zero, pcells]
  simp
theorem pcells_copy {R S A : List Nat} {p : List UInt8} (n : Nat) (h : Pok R S A p) (q : List UInt8) (r m : Nat) (hm : q.length = m) (hr : r + m ≤ 16) :
    (List.take (15 + r) (pcells R S A p n).toList ++ u8s q ++ List.drop (15 + r + m) (pcells R S A p n).toList).toArray = pcells R S A (p.take r ++ q ++ p.drop (r + m)) n := by
  subst hm
  rw [pcells_toList, show 15 + r + q.length = 5 + (5 + (5 + (r + q.length))) by omega, show 15 + r = 5 + (5 + (5 + r)) by omega,
    take_after _ _ 5 _ (by rw [u64s_len, h.r]), take_after _ _ 5 _ (by rw [u64s_len, h.s]), take_after _ _ 5 _ (by rw [u64s_len, h.a]), List.take_append_of_le_length (by rw [u8s_len, h.p]; omega),
    drop_after _ _ 5 _ (by rw [u64s_len, h.r]), drop_after _ _ 5 _ (by rw [u64s_len, h.s]), drop_after _ _ 5 _ (by rw [u64s_len, h.a]), List.drop_append_of_le_length (by rw [u8s_len, h.p]; omega), pcells]
  simp [u8s]
theorem Pok.part {R S A : List Nat} {p q : List UInt8} (h : Pok R S A p) (hq : q.length = 16) : Pok R S A q := ⟨h.r, h.s, h.a, hq⟩
theorem Pok.sum {R S A A' : List Nat} {p : List UInt8} (h : Pok R S A p) (hq : A'.length = 5) : Pok R S A' p := ⟨h.r, h.s, hq, h.p⟩

/-- A sum is stored into a Poly. -/
theorem wpList_store_sum {ops : Array Oper} {rest : List Oper} {o : Oper} {a : Act} {w : World} {Q : Exit → Act → World → Prop} (hgd : o.guard = none) (x y : Operand) (ho : o.op = .store 50 x y)
    (g : Nat) (hx : a.eval x = .pointer (some ⟨g, 10, none⟩)) {R S A A' : List Nat} {p : List UInt8} {n : Nat} (hy : a.eval y = .agg (row5 A')) (hA : A'.length = 5) (hp : Pok R S A p) (hg : Arr w g (pcells R S A p n) 53)
    (h : wpList Tryd.prog ops Q rest (a.put o.dst undef) (w.setRow g (pcells R S A' p n))) : wpList Tryd.prog ops Q (o :: rest) a w := by
  refine wpList_plain hgd fun K hK => ?_
  have hst := run_storeCells_at Tryd.prog g 10 53 (u64s A') 0 _ w hg (by rw [u64s_len, hA, pcells_size n hp]; omega) (fun v hv => by
    simp only [u64s, List.mem_map] at hv
    obtain ⟨b, _, rfl⟩ := hv
    rfl)
  rw [u64s_len, hA, Nat.add_zero, pcells_sum n hp hA] at hst
  have hrun : (storeVar 50 ⟨g, 10, none⟩ (.agg (row5 A'))).run Tryd.prog w = .ok () (w.setRow g (pcells R S A' p n)) := by
    have hi := info_n5
    cases hq : Tryd.prog.info? 50 with
    | none => simp [hq] at hi
    | some i =>
      have hs : i.size = 5 := by simpa [hq] using hi
      have hsz : (row5 A').size = 5 := row5_size hA
      simp [storeVar, sizeOf, typeInfo, hq, Value.cells, hs, hsz]
      rw [show (row5 A').toList = u64s A' from rfl, hst]
  unfold Oper.wp execOp
  simp only [ho, hx, hy, Instr.storeAt, Instr.sureAddr, Sem.run_bind, Sem.run_pure, Result.andThen_ok, hrun]
  exact hK _ _ h
/-- 'copy(dst, s)' as one step of a region that draws. -/
theorem step_copyR {ops : Array Oper} {o : Oper} {a : Act} {w : World} {K : Act → World → Prop} {Q : Exit → Act → World → Prop} {E : Prop}
    (hg : o.guard = none) (d x : Operand) (dT sT : TypeId) (hop : o.op = Op.call { callee := Callee.builtin Builtin.copy, args := #[d, x], argTypes := #[dT, sT] })
    (v u : Value) (hd : a.eval d = v) (hx : a.eval x = u) {v' : Value} {w' : World} (hr : (Builtin.copy_ #[dT, sT] o.type #[v, u]).run Tryd.prog w = .ok v' w') (hK : K (a.put o.dst v') w') :
    if Region.wanted o (yielded ops a.tmps) = true then Oper.wp Tryd.prog o a w K Q else E := by
  have hw : Region.wanted o (yielded ops a.tmps) = true := by simp [Region.wanted, hg]
  rw [if_pos hw]
  unfold Oper.wp
  simp [execOp, hop, resolve, invoke, builtin, hd, hx, hr, Result.andThen]
  exact hK
theorem arr16_from (g o r : Nat) (hr : r ≤ 16) (w : World) :
    (Instr.sliceAt 38 (.pointer (some ⟨g, o, none⟩)) (some (.int .i64 (r : Int))) none none).run Tryd.prog w = .ok (.slice (some (if r = 16 then ⟨g, o, none⟩ else ⟨g, o + r, none⟩)) (16 - r) (16 - r)) w := by
  rw [run_sliceAt_array_l w 38 _ arrOf16 .i64 r (by omega) (by rw [arrLen16]; omega), arrElem16, Tryd.sizeOf5, arrLen16]
  simp only [Result.andThen, slicedAt, Int.toNat_natCast]
  by_cases h : r = 16
  · subst h; rfl
  · rw [if_neg (by omega), if_neg h, Nat.mul_one, addr_add]
theorem arr16_to (g o r : Nat) (hr : r ≤ 16) (hr0 : 0 < r) (w : World) :
    (Instr.sliceAt 38 (.pointer (some ⟨g, o, none⟩)) none (some (.int .i64 (r : Int))) none).run Tryd.prog w = .ok (.slice (some ⟨g, o, none⟩) r 16) w := by
  rw [run_sliceAt_array_h w 38 _ arrOf16 .i64 r (by omega) (by rw [arrLen16]; omega), arrElem16, Tryd.sizeOf5, arrLen16]
  simp only [Result.andThen, slicedAt, Int.toNat_natCast]
  rw [if_neg (by omega), Nat.zero_mul, addr_add]
  rfl
/-- The first bytes of the part, as a string. -/
theorem part_cv {w : World} {g : Nat} {R S A : List Nat} {p : List UInt8} {n : Nat} (h : Arr w g (pcells R S A p n) 53) (hp : Pok R S A p) (r : Nat) (hr : r ≤ 16) :
    (convert 33 9 (.slice (some ⟨g, 15, none⟩) r 16)).run Tryd.prog w = .ok (.string ⟨(p.take r).toArray⟩) w := by
  have hl : (p.take r).length = r := by rw [List.length_take, hp.p]; omega
  have := conv_cells w ⟨g, 15, none⟩ (p.take r) 16 (fun j v hv => by
    have hj : j < r := by have := (List.getElem?_eq_some_iff.1 hv).1; rwa [u8s_len, hl] at this
    rw [addr_add]
    refine h.cell ?_
    rw [pcells_p n hp j (by omega), ← hv]
    simp only [u8s, List.map_take]
    rw [List.getElem?_take, if_pos hj])
  rw [hl] at this
  exact this

theorem drop_past {α : Type} (l q : List α) (n m : Nat) (h : l.length ≤ n) (hm : n - l.length = m) : (l ++ q).drop n = q.drop m := by
  rw [List.drop_append, List.drop_eq_nil_of_le h, List.nil_append, hm]
/-- A block more. -/
theorem acc_step {A z R : List Nat} {r : Nat} {t b : List UInt8} {m : Nat} (hA : numP A % PP = accN r t m) (hR : numP R = r) (hb : b = partL t m) (hz : numP z % PP = (numP A + (numLow b + 256 ^ b.length)) * numP R % PP) : numP z % PP = accN r t (m + 1) := by
  rw [accN, hz, hR, ← hb, ← hA, Nat.mul_mod, ← Nat.mod_add_mod, ← Nat.mul_mod]
/-- Little enough comes that no block gets whole. -/
theorem add_smallP {key l q p : List UInt8} {A : List Nat} (h : Pst key l A p) (hs : l.length % 16 + q.length < 16) :
    Pst key (l ++ q) A (p.take (l.length % 16) ++ q ++ p.drop (l.length % 16 + q.length)) ∧ (l ++ q).length % 16 = l.length % 16 + q.length := by
  have hd : (l ++ q).length / 16 = l.length / 16 := by rw [List.length_append]; omega
  have hm : (l ++ q).length % 16 = l.length % 16 + q.length := by rw [List.length_append]; omega
  have hr : (p.take (l.length % 16)).length = l.length % 16 := by rw [List.length_take, h.ok.p]; omega
  refine ⟨⟨h.ok.part (by simp only [List.length_append, hr, List.length_drop, h.ok.p]; omega), h.lt, by rw [hd, accN_append _ _ _ _ (by omega), h.num], ?_⟩, hm⟩
  rw [hd, hm, List.take_append_of_le_length (by rw [List.length_append, hr]; exact Nat.le_refl _), List.take_of_length_le (by rw [List.length_append, hr]; exact Nat.le_refl _), List.drop_append_of_le_length (by omega), h.part]
/-- A block gets whole. -/
theorem add_block {key l q p : List UInt8} {A : List Nat} (h : Pst key l A p) (hs : 16 ≤ l.length % 16 + q.length) :
    (p.take (l.length % 16) ++ q.take (16 - l.length % 16)).length = 16 ∧ p.take (l.length % 16) ++ q.take (16 - l.length % 16) = partL (l ++ q) (l.length / 16) := by
  have hr : (p.take (l.length % 16)).length = l.length % 16 := by rw [List.length_take, h.ok.p]; omega
  refine ⟨by rw [List.length_append, hr, List.length_take]; omega, ?_⟩
  have hl : (l.drop (16 * (l.length / 16))).length = l.length % 16 := by rw [List.length_drop]; omega
  rw [partL, List.drop_append_of_le_length (by omega), List.take_append (l₁ := l.drop _), List.take_of_length_le (l := l.drop _) (by omega), hl, h.part]
theorem add_next (l q : List UInt8) (k : Nat) (_ : 16 ≤ l.length % 16 + q.length) : (q.drop (16 - l.length % 16 + 16 * k)).take 16 = partL (l ++ q) (l.length / 16 + 1 + k) := by
  rw [partL, drop_past l q _ (16 - l.length % 16 + 16 * k) (by omega) (by omega)]
theorem add_end {key l q p rest : List UInt8} {A B : List Nat} {k : Nat} (h : Pst key l A p) (hB : B.length = 5) (hb : ∀ z ∈ B, z < 67108864) (hn : numP B % PP = accN (keyR key) (l ++ q) (l.length / 16 + 1 + k))
    (blk : List UInt8) (hblk : blk.length = 16) (_ : 16 ≤ l.length % 16 + q.length) (hk : 16 - l.length % 16 + 16 * k ≤ q.length) (hk2 : q.length < 16 - l.length % 16 + 16 * k + 16) (hr : rest = q.drop (16 - l.length % 16 + 16 * k)) :
    Pst key (l ++ q) B (rest ++ blk.drop rest.length) ∧ (l ++ q).length % 16 = rest.length := by
  have hd : (l ++ q).length / 16 = l.length / 16 + 1 + k := by rw [List.length_append]; omega
  have hl : rest.length = q.length - (16 - l.length % 16 + 16 * k) := by rw [hr, List.length_drop]
  have hm : (l ++ q).length % 16 = rest.length := by rw [hl, List.length_append]; omega
  refine ⟨⟨⟨h.ok.r, h.ok.s, hB, by rw [List.length_append, List.length_drop, hblk]; omega⟩, hb, by rw [hd, hn], ?_⟩, hm⟩
  rw [hm, hd, List.take_append_of_le_length (Nat.le_refl _), List.take_of_length_le (Nat.le_refl _), hr, drop_past l q _ (16 - l.length % 16 + 16 * k) (by omega) (by omega)]
end Go.Proofs.YtjbhmdlgokoepaaDoor
