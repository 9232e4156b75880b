/- line: bytes that lie in a block from a place on, as a slice; 'append' of a string behind them. -/
import Derived.Test.YtmpchbhimfjomaaBas
import Derived.Test.YtmpchbhimfjomaaFro
import Derived.Lib.AppendStr
namespace Go.Proofs.Ytmpchbhimfjomaa
open Go.RowKit

/-- From a place on a block reads as these bytes. -/
def Byt (w : World) (a : Option Addr) (l : List UInt8) : Prop :=
  (a = none ∧ l = []) ∨ ∃ g o, a = some ⟨g, o, none⟩ ∧ (w.heap[g]?).isSome = true ∧ ∀ j b, l[j]? = some b → w.cell? ⟨g, o + j, none⟩ = some (.int .u8 (b.toNat : Int))
/-- There is room behind them, of one's own. -/
def Row (w : World) (a : Option Addr) (cap : Nat) : Prop :=
  (a = none ∧ cap = 0) ∨ ∃ g o cur, a = some ⟨g, o, none⟩ ∧ Arr w g cur 5 ∧ o + cap ≤ cur.size
/-- The place i bytes further on. -/
def from' (a : Option Addr) (cap i : Nat) : Option Addr := if cap = i then a else a.map (·.add i)

theorem Arr.there {w : World} {g : Nat} {cs : Array Value} {t : TypeId} (h : Arr w g cs t) : (w.heap[g]?).isSome = true := by rw [show w.heap[g]? = _ from h]; rfl
theorem from_block {a : Option Addr} {cap i : Nat} {x : Addr} (h : from' a cap i = some x) : ∃ y, a = some y ∧ y.block = x.block := by
  unfold from' at h
  split at h
  · exact ⟨x, h, rfl⟩
  · obtain ⟨y, rfl, rfl⟩ := Option.map_eq_some_iff.1 h
    refine ⟨y, rfl, ?_⟩
    unfold Addr.add; split <;> rfl
theorem Byt.lt {w : World} {a : Option Addr} {l : List UInt8} (h : Byt w a l) : ∀ x, a = some x → x.block < w.heap.size := by
  rintro x rfl
  rcases h with ⟨h, _⟩ | ⟨g, o, h, hl, _⟩
  · cases h
  · cases h
    rcases Nat.lt_or_ge g w.heap.size with hlt | hge
    · exact hlt
    · rw [Array.getElem?_eq_none hge] at hl; cases hl
theorem Byt.keep {w w' : World} {a : Option Addr} {l : List UInt8} (h : Byt w a l) (hk : ∀ x, a = some x → w'.heap[x.block]? = w.heap[x.block]?) : Byt w' a l := by
  rcases h with h | ⟨g, o, rfl, hl, hc⟩
  · exact .inl h
  · exact .inr ⟨g, o, rfl, by rw [hk _ rfl]; exact hl, fun j b hb => (World.cell?_of_block (a := ⟨g, o + j, none⟩) (hk ⟨g, o, none⟩ rfl)).trans (hc j b hb)⟩
theorem Row.keep {w w' : World} {a : Option Addr} {cap : Nat} (h : Row w a cap) (hk : ∀ x, a = some x → w'.heap[x.block]? = w.heap[x.block]?) : Row w' a cap := by
  rcases h with h | ⟨g, o, cur, rfl, hA, hc⟩
  · exact .inl h
  · exact .inr ⟨g, o, cur, rfl, (hk _ rfl).trans hA, hc⟩
theorem Byt.from {w : World} {a : Option Addr} {l : List UInt8} (h : Byt w a l) {cap i : Nat} (hi : i ≤ l.length) (hl : l.length ≤ cap) : Byt w (from' a cap i) (l.drop i) := by
  unfold from'
  split
  · have e : l.drop i = [] := List.drop_eq_nil_of_le (by omega)
    rw [e]
    rcases h with ⟨rfl, _⟩ | ⟨g, o, rfl, hg, _⟩
    · exact .inl ⟨rfl, rfl⟩
    · exact .inr ⟨g, o, rfl, hg, fun j b hb => (by simp at hb)⟩
  · rcases h with ⟨rfl, rfl⟩ | ⟨g, o, rfl, hg, hc⟩
    · exact .inl ⟨rfl, by simp⟩
    · refine .inr ⟨g, o + i, by rw [Option.map_some, addr_add], hg, fun j b hb => ?_⟩
      rw [List.getElem?_drop] at hb
      rw [Nat.add_assoc]; exact hc _ b hb
theorem Row.from {w : World} {a : Option Addr} {cap : Nat} (h : Row w a cap) {i : Nat} (hi : i ≤ cap) : Row w (from' a cap i) (cap - i) := by
  unfold from'
  rcases h with ⟨rfl, rfl⟩ | ⟨g, o, cur, rfl, hA, hc⟩
  · exact .inl ⟨by split <;> rfl, by omega⟩
  · by_cases h : cap = i
    · rw [if_pos h]; exact .inr ⟨g, o, cur, rfl, hA, by omega⟩
    · rw [if_neg h]; exact .inr ⟨g, o + i, cur, by rw [Option.map_some, addr_add], hA, by omega⟩
theorem Byt.take {w : World} {a : Option Addr} {l : List UInt8} (h : Byt w a l) (i : Nat) : Byt w a (l.take i) := by
  rcases h with ⟨rfl, rfl⟩ | ⟨g, o, rfl, hg, hc⟩
  · exact .inl ⟨rfl, by simp⟩
  · refine .inr ⟨g, o, rfl, hg, fun j b hb => hc j b ?_⟩
    rw [List.getElem?_take] at hb
    split at hb
    · exact hb
    · cases hb
/-- 'string(b)'. -/
theorem Byt.conv {w : World} {a : Option Addr} {l : List UInt8} (h : Byt w a l) (cap : Nat) :
    (convert 34 9 (.slice a l.length cap)).run Try.prog w = .ok (.string (ba l)) w := by
  rcases h with ⟨rfl, rfl⟩ | ⟨g, o, rfl, _, hc⟩
  · exact run_convert_bytes_nil (P := Try.prog) w _ _ Try.underlying34 Try.underlying5 _ _ _ Try.underlying9
  · refine conv_cells w _ l cap fun j v hv => ?_
    have hj : j < l.length := by
      have := (List.getElem?_eq_some_iff.1 hv).1
      rw [u8s_len] at this; exact this
    rw [u8s_get l j hj] at hv
    rw [addr_add, hc j l[j] (List.getElem?_eq_getElem hj)]
    exact hv
/-- A part of bytes, as the walk asks for it. -/
theorem sl_to (a : Option Addr) (n cap h : Nat) (hh : h ≤ cap) (w : World) :
    (Instr.slice 34 (.slice a n cap) none (some (.int .i64 (h : Int))) none).run Try.prog w = .ok (.slice (from' a cap 0) h cap) w := by
  have he : Program.elem Try.prog 34 = 5 := by simp [Program.elem, Try.underlying34]
  have hz : (sizeOf 5).run Try.prog w = .ok 1 w := by
    obtain ⟨i0, hi, hz0, hz1, hz2⟩ := info_parts Try.infoU8
    simp [sizeOf, typeInfo, hi, hz1]
  rw [run_slice_h (P := Try.prog) w 34 a n cap (by rw [he]; exact Try.underlying34) .i64 (h : Int) (by omega) (by omega), he, hz]
  simp only [Result.andThen, sliced, from', Int.toNat_natCast, Nat.sub_zero, Nat.zero_mul]
theorem sl_from (a : Option Addr) (n cap l : Nat) (hl : l ≤ n) (w : World) :
    (Instr.slice 34 (.slice a n cap) (some (.int .i64 (l : Int))) none none).run Try.prog w = .ok (.slice (from' a cap l) (n - l) (cap - l)) w := by
  have he : Program.elem Try.prog 34 = 5 := by simp [Program.elem, Try.underlying34]
  have hz : (sizeOf 5).run Try.prog w = .ok 1 w := by
    obtain ⟨i0, hi, hz0, hz1, hz2⟩ := info_parts Try.infoU8
    simp [sizeOf, typeInfo, hi, hz1]
  rw [run_slice_l (P := Try.prog) w 34 a n cap (by rw [he]; exact Try.underlying34) .i64 (l : Int) (by omega) (by omega), he, hz]
  simp only [Result.andThen, sliced, from', Int.toNat_natCast, Nat.mul_one]
theorem Byt.det {w : World} {a : Option Addr} {l l' : List UInt8} (h : Byt w a l) (h' : Byt w a l') (hl : l.length = l'.length) : l = l' := by
  rcases h with ⟨_, rfl⟩ | ⟨g, o, rfl, _, hc⟩
  · exact (List.eq_nil_of_length_eq_zero hl.symm).symm
  · rcases h' with ⟨h, _⟩ | ⟨g', o', h, _, hc'⟩
    · cases h
    · cases h
      refine List.ext_getElem hl fun i h1 h2 => ?_
      have e := (hc i _ (List.getElem?_eq_getElem h1)).symm.trans (hc' i _ (List.getElem?_eq_getElem h2))
      simp only [Option.some.injEq, Value.int.injEq, true_and] at e
      exact UInt8.toNat_inj.1 (by omega)
/-- What stands at a place. -/
theorem Byt.at {w : World} {a : Option Addr} {l : List UInt8} (h : Byt w a l) {k : Nat} (hk : k < l.length) : ∃ g o, a = some ⟨g, o, none⟩ ∧ w.cell? ⟨g, o + k, none⟩ = some (.int .u8 (l[k].toNat : Int)) := by
  rcases h with ⟨_, rfl⟩ | ⟨g, o, h, _, hc⟩
  · cases hk
  · exact ⟨g, o, h, hc k _ (List.getElem?_eq_getElem hk)⟩

theorem strCells_u8s (s : ByteArray) : Lib.strCells s = u8s s.data.toList := rfl
/-- But for the block that the bytes lie in, all that was there is as it was. -/
def Appd (a a' : Option Addr) (w w' : World) : Prop :=
  w'.os = w.os ∧ w'.tape = w.tape ∧ w'.output = w.output ∧ w.heap.size ≤ w'.heap.size ∧ (∀ k, k < w.heap.size → (∀ x, a = some x → k ≠ x.block) → w'.heap[k]? = w.heap[k]?) ∧
    (∀ x, a' = some x → (∃ y, a = some y ∧ y.block = x.block) ∨ w.heap.size ≤ x.block)
theorem run_append_at (w : World) (ty : TypeId) {a : Option Addr} {l : List UInt8} {cap : Nat} (hb : Byt w a l) (hr : Row w a cap) (s : ByteArray) (hs : l.length + s.size ≤ 140737488355328) :
    ∃ a' cap' w', (Builtin.append_ #[34, 9] ty #[.slice a l.length cap, .string s]).run Try.prog w = .ok (.slice a' (l.length + s.size) cap') w' ∧ Byt w' a' (l ++ s.data.toList) ∧ Row w' a' cap' ∧ l.length + s.size ≤ cap' ∧ Appd a a' w w' := by
  obtain ⟨i0, hi, hz0, hz1, hz2⟩ := info_parts Try.infoU8
  have hsz : s.data.toList.length = s.size := by simp
  have hstl : (Lib.strCells s).length = s.size := Lib.strCells_length s
  have grown : ∀ (old : Nat), Byt (w.drew.alloc (.cells ((u8s l).toArray ++ (Lib.strCells s).toArray ++ Builtin.zeroCells (Value.int .u8 0).cells (grownCap w (l.length + s.size) old 5 - (l.length + s.size))) 5)) (some ⟨w.heap.size, 0, none⟩) (l ++ s.data.toList) ∧
      Row (w.drew.alloc (.cells ((u8s l).toArray ++ (Lib.strCells s).toArray ++ Builtin.zeroCells (Value.int .u8 0).cells (grownCap w (l.length + s.size) old 5 - (l.length + s.size))) 5)) (some ⟨w.heap.size, 0, none⟩) (grownCap w (l.length + s.size) old 5) ∧
      l.length + s.size ≤ grownCap w (l.length + s.size) old 5 ∧ Appd a (some ⟨w.heap.size, 0, none⟩) w (w.drew.alloc (.cells ((u8s l).toArray ++ (Lib.strCells s).toArray ++ Builtin.zeroCells (Value.int .u8 0).cells (grownCap w (l.length + s.size) old 5 - (l.length + s.size))) 5)) := by
    intro old
    have hge := grownCap_ge w (l.length + s.size) old 5
    have hA := Arr.new w.drew ((u8s l).toArray ++ (Lib.strCells s).toArray ++ Builtin.zeroCells (Value.int .u8 0).cells (grownCap w (l.length + s.size) old 5 - (l.length + s.size))) 5
    refine ⟨.inr ⟨_, 0, rfl, Arr.there hA, fun j b hb => ?_⟩, .inr ⟨_, 0, _, rfl, hA, ?_⟩, hge, rfl, rfl, rfl, by simp, fun k hk _ => heap_alloc_old w.drew _ hk, fun x hx => by cases hx; exact .inr (Nat.le_refl _)⟩
    · have hj := (List.getElem?_eq_some_iff.1 hb).1
      rw [List.length_append, hsz] at hj
      refine Arr.cell hA ?_
      rw [Nat.zero_add, Array.getElem?_append_left (by rw [Array.size_append, List.size_toArray, List.size_toArray, u8s_len, hstl]; exact hj), strCells_u8s,
        show (u8s l).toArray ++ (u8s s.data.toList).toArray = (u8s (l ++ s.data.toList)).toArray by simp [u8s], List.getElem?_toArray, u8s_get _ _ (by rw [List.length_append, hsz]; exact hj), (List.getElem?_eq_some_iff.1 hb).2]
    · have hz1 : (Value.int IntKind.u8 0).cells.size = 1 := rfl
      simp only [Array.size_append, List.size_toArray, size_zeroCells, hz1, u8s_len, hstl]
      omega
  rcases hr with ⟨rfl, rfl⟩ | ⟨g, o, cur, rfl, hA, hc⟩
  · obtain rfl : l = [] := by
      rcases hb with ⟨_, h⟩ | ⟨g, o, h, _⟩
      · exact h
      · cases h
    by_cases h0 : s.size = 0
    · have hs0 : s.data.toList = [] := List.eq_nil_of_length_eq_zero (by omega)
      refine ⟨none, 0, w, ?_, .inl ⟨rfl, by rw [hs0]; rfl⟩, .inl ⟨rfl, rfl⟩, by simp [h0], rfl, rfl, rfl, Nat.le_refl _, fun _ _ _ => rfl, fun x hx => by cases hx⟩
      have hf := Lib.run_firstCells_string (P := Try.prog) w 1 s
      rw [h0] at hf
      simp [Builtin.append_, run_underlying Try.underlying34, run_underlying Try.underlying9, sizeOf, typeInfo, hi, hz1, Builtin.lenOf, h0, hf]
    · have hr := run_append_nil_string (P := Try.prog) w 34 9 ty 5 i0 (.int .u8 0) Try.underlying34 Try.underlying9 hi hz0 s (by omega) (by simp at hs; omega) (by rw [hz2]; simp at hs; omega)
      have e1 : (s.data.map fun b => Value.int .u8 b.toNat) = (Lib.strCells s).toArray := by
        apply Array.ext'
        simp [Lib.strCells]
      rw [e1] at hr
      have hgr := grown 0
      simp only [List.length_nil, Nat.zero_add, show u8s [] = [] from rfl, Array.empty_append, List.nil_append] at hgr ⊢
      exact ⟨_, _, _, hr, hgr⟩
  · rcases hb with ⟨h, _⟩ | ⟨g', o', h, hg, hcl⟩
    · cases h
    · cases h
      have hgf := hA
      by_cases hroom : l.length + s.size ≤ cap
      · have hf := Lib.run_firstCells_string (P := Try.prog) w 1 s
        have hst := run_storeCells_at Try.prog g (o + l.length) 5 (Lib.strCells s) 0 cur w hA (by rw [hstl]; omega) (Lib.strCells_oneCell s)
        simp only [Nat.add_zero, hstl] at hst
        have hcl0 : cur.toList.length = cur.size := by simp
        refine ⟨some ⟨g, o, none⟩, cap, w.setRow g (cur.toList.take (o + l.length) ++ Lib.strCells s ++ cur.toList.drop (o + l.length + s.size)).toArray, ?_, .inr ⟨g, o, rfl, Arr.there (Arr.row hA _), fun j b hb => ?_⟩, .inr ⟨g, o, _, rfl, Arr.row hA _, ?_⟩, hroom, rfl, rfl, rfl, by simp, fun k _ hk => setRow_other w g k _ (hk _ rfl), fun x hx => .inl ⟨_, rfl, by cases hx; rfl⟩⟩
        · simp [Builtin.append_, run_underlying Try.underlying34, run_underlying Try.underlying9, sizeOf, typeInfo, hi, hz1, Builtin.lenOf, hroom, hf, Addr.add_lit, hst]
        · refine Arr.cell (Arr.row hA _) ?_
          rw [List.getElem?_toArray]
          have hj := (List.getElem?_eq_some_iff.1 hb).1
          rw [List.length_append, hsz] at hj
          have htl : (cur.toList.take (o + l.length)).length = o + l.length := by rw [List.length_take]; omega
          by_cases hjl : j < l.length
          · rw [List.append_assoc, List.getElem?_append_left (by rw [htl]; omega), List.getElem?_take_of_lt (by omega)]
            rw [List.getElem?_append_left hjl] at hb
            have := hcl j b hb
            rw [cell_of_row w g _ cur _ _ hA] at this
            simpa using this
          · rw [List.getElem?_append_right (by omega)] at hb
            rw [List.append_assoc, List.getElem?_append_right (by rw [htl]; omega), htl, List.getElem?_append_left (by rw [hstl]; omega), strCells_u8s, show o + j - (o + l.length) = j - l.length by omega, u8s_get _ _ (by rw [hsz]; omega), (List.getElem?_eq_some_iff.1 hb).2]
        · simp only [List.size_toArray, List.length_append, List.length_take, List.length_drop, Array.length_toList, hstl]
          omega
      · have hr := Lib.run_append_grow_string (P := Try.prog) w 34 9 ty 5 i0 (.int .u8 0) Try.underlying34 Try.underlying9 hi hz0 ⟨g, o, none⟩ l.length cap (u8s l) (by rw [hz1, u8s_len, Nat.mul_one])
          (fun j v hv => by
            have hj : j < l.length := by
              have := (List.getElem?_eq_some_iff.1 hv).1
              rw [u8s_len] at this; exact this
            rw [u8s_get l j hj] at hv
            rw [addr_add, hcl j l[j] (List.getElem?_eq_getElem hj)]; exact hv) s (by omega) (by omega) (by rw [hz2]; exact growslice_fits (by omega) (by omega))
        exact ⟨_, _, _, hr, grown cap⟩

/-- The walk's law for 'append(b, s...)'. -/
theorem wpList_append_at (w : World) {ops : Array Oper} {rest : List Oper} {o : Oper} {act : Act} {Q : Exit → Act → World → Prop} (hgd : o.guard = none) (sl x : Operand)
    (ho : o.op = .call { callee := .builtin .append, args := #[sl, x], argTypes := #[34, 9] })
    {a : Option Addr} {l : List UInt8} {n cap : Nat} (hnl : l.length = n) (hs : act.eval sl = .slice a n cap) (s : ByteArray) (hx : act.eval x = .string s)
    (hb : Byt w a l) (hr : Row w a cap) (hsz : n + s.size ≤ 140737488355328)
    (h : ∀ a' cap' w', Byt w' a' (l ++ s.data.toList) → Row w' a' cap' → n + s.size ≤ cap' → Appd a a' w w' → wpList Try.prog ops Q rest (act.put o.dst (.slice a' (n + s.size) cap')) w') : wpList Try.prog ops Q (o :: rest) act w := by
  subst hnl
  refine wpList_plain hgd fun K hK => ?_
  obtain ⟨a', cap', w', hrun, h1, h2, h3, h4⟩ := run_append_at w o.type hb hr s hsz
  unfold Oper.wp execOp
  simp only [ho, resolve, invoke, builtin, Sem.run_bind, Sem.run_pure, Result.andThen_ok, List.map_toArray, List.map_cons, List.map_nil, hs, hx, hrun]
  exact hK _ _ (h a' cap' w' h1 h2 h3 h4)
end Go.Proofs.Ytmpchbhimfjomaa
