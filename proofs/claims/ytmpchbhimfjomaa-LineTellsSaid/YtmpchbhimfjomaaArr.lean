/- Blocks of memory known whole; parts of strings; sums of numbers of 32 bits. -/
import Derived.Test.YtmpchbhimfjomaaOct
import Derived.Laws.Rows
import Derived.Laws.Tables
import Derived.Laws.CopyOwn
import Derived.Laws.ResultCell
import Derived.Deep.WholeRow
import Derived.Below
import Derived.WalkSpells
import Derived.IntWalk
namespace Go.Proofs.Ytmpchbhimfjomaa
open Go.RowKit

/-- Numbers as the cells of a block. -/
def u32s (l : List Nat) : List Value := l.map fun (n : Nat) => .int .u32 (n : Int)
theorem u32s_len (l : List Nat) : (u32s l).length = l.length := by simp [u32s]
theorem u32s_get (l : List Nat) (i : Nat) (h : i < l.length) : (u32s l)[i]? = some (.int .u32 ((l[i] : Nat) : Int)) := by simp [u32s, h]
/-- Block g holds these cells, none of them frozen. -/
def Arr (w : World) (g : Nat) (cs : Array Value) (t : TypeId) : Prop := w.heap[g]? = some (.cells cs t (0, 0))
theorem Arr.lt {w : World} {g : Nat} {cs : Array Value} {t : TypeId} (h : Arr w g cs t) : g < w.heap.size := by
  by_cases hl : g < w.heap.size
  · exact hl
  · have hn : w.heap[g]? = none := by simp; omega
    rw [Arr, hn] at h; cases h
theorem Arr.cell {w : World} {g : Nat} {cs : Array Value} {t : TypeId} (h : Arr w g cs t) {j : Nat} {v : Value} (hv : cs[j]? = some v) : w.cell? ⟨g, j, none⟩ = some v := by
  rw [cell_of_row w g j cs t (0, 0) h]; exact hv
theorem Arr.frozen {w : World} {g : Nat} {cs : Array Value} {t : TypeId} (h : Arr w g cs t) (j : Nat) : w.frozen? ⟨g, j, none⟩ = false := frozen_of_row w g j cs t h
theorem Arr.new (w : World) (cs : Array Value) (t : TypeId) : Arr (w.alloc (.cells cs t)) w.heap.size cs t := heap_alloc_new w _
theorem Arr.newAt (w : World) {g : Nat} (cs : Array Value) (t : TypeId) (h : g = w.heap.size) : Arr (w.alloc (.cells cs t)) g cs t := by subst h; exact heap_alloc_new w _
theorem Arr.alloc {w : World} {g : Nat} {cs : Array Value} {t : TypeId} (h : Arr w g cs t) (o : Obj) : Arr (w.alloc o) g cs t := (Below.heap_alloc w o g h.lt).trans h
theorem Arr.set {w : World} {g : Nat} {cs : Array Value} {t : TypeId} (h : Arr w g cs t) (i : Nat) (v : Value) : Arr (w.setCell ⟨g, i, none⟩ v) g (cs.setIfInBounds i v) t := heap_setCell_same w g i cs t v h
theorem Arr.other {w : World} {g : Nat} {cs : Array Value} {t : TypeId} (h : Arr w g cs t) (a : Addr) (v : Value) (hn : g ≠ a.block) : Arr (w.setCell a v) g cs t := (heap_setCell_other w a g v hn).trans h
theorem Arr.below {w w' : World} {B g : Nat} {cs : Array Value} {t : TypeId} (h : Arr w g cs t) (hb : Below B w w') (hg : g < B) : Arr w' g cs t := (hb.block g hg).trans h
theorem Arr.next {w w' : World} {g : Nat} {cs : Array Value} {t : TypeId} (h : Arr w g cs t) (hb : Below w.heap.size w w') : Arr w' g cs t := h.below hb h.lt
theorem Arr.drew {w : World} {g : Nat} {cs : Array Value} {t : TypeId} (h : Arr w g cs t) : Arr w.drew g cs t := h
theorem Arr.drewN {w : World} {g : Nat} {cs : Array Value} {t : TypeId} (h : Arr w g cs t) (n : Nat) : Arr (w.drewN n) g cs t := h
theorem Arr.row {w : World} {g : Nat} {cs : Array Value} {t : TypeId} (h : Arr w g cs t) (cs' : Array Value) : Arr (w.setRow g cs') g cs' t := setRow_heap w g cs cs' t (0, 0) h
theorem Arr.rowOther {w : World} {g g' : Nat} {cs : Array Value} {t : TypeId} (h : Arr w g cs t) (cs' : Array Value) (hn : g ≠ g') : Arr (w.setRow g' cs') g cs t := (setRow_other w g' g cs' hn).trans h
theorem one_u32s (l : List Nat) : (u32s l).toArray.all (·.oneCell') = true := by simp [u32s, Value.oneCell']
/-- A part of a string, as the walk asks for it. -/
theorem slice_str (s : ByteArray) (i j : Int) (a b : Nat) (hi : i = (a : Int)) (hj : j = (b : Int)) (hab : a ≤ b) (hb : b ≤ s.size) (w : World) :
    (Instr.slice 9 (.string s) (some (.int .i64 i)) (some (.int .i64 j)) none).run Try.prog w = .ok (.string (s.extract a b)) w := by
  subst hi hj
  have := run_slice_string (P := Try.prog) w 9 s .i64 .i64 (a : Int) (b : Int) Try.underlying9 (by omega) (by omega) (by omega)
  simpa using this
theorem ext_toList (s : ByteArray) (a b : Nat) : (s.extract a b).data.toList = (s.data.toList.drop a).take (b - a) := by
  simp [ByteArray.data_extract]
theorem ext_size (s : ByteArray) (a b : Nat) (h : b ≤ s.size) : (s.extract a b).size = b - a := by
  rw [ByteArray.size_extract]; omega
theorem xor32 (a b : Nat) (ha : a < 4294967296) (hb : b < 4294967296) : bits .xor .u32 (a : Int) (b : Int) = ((a ^^^ b : Nat) : Int) := u32_xor_nat a b ha hb
theorem sum2 (a b : Nat) : ((a : Int) + (b : Int)) % 4294967296 = (((a + b) % 4294967296 : Nat) : Int) := by omega
/-- 'copy(dst, s)' from a string, dst lying in row g from place o on: as many bytes go over as both have. -/
theorem run_copy_str (w : World) (ty : TypeId) (g o dLen dCap m : Nat) (s : ByteArray) (cur : Array Value) (t : TypeId) (hm : m = min s.size dLen)
    (hg : Arr w g cur t) (hfit : o + m ≤ cur.size) :
    (Builtin.copy_ #[34, 9] ty #[.slice (some ⟨g, o, none⟩) dLen dCap, .string s]).run Try.prog w =
      .ok (.int .i64 (m : Int)) (w.setRow g (cur.toList.take o ++ u8s (s.data.toList.take m) ++ cur.toList.drop (o + m)).toArray) := by
  have hsz : s.data.toList.length = s.size := by simp
  have hlen : (u8s (s.data.toList.take m)).length = m := by rw [u8s_len, List.length_take]; omega
  have hone : ∀ v ∈ u8s (s.data.toList.take m), v.oneCell' = true := by
    intro v hv
    simp only [u8s, List.mem_map] at hv
    obtain ⟨b, _, rfl⟩ := hv
    rfl
  have hst := run_storeCells_at Try.prog g o t (u8s (s.data.toList.take m)) 0 cur w hg (by rw [hlen]; simpa using hfit) hone
  have hmin : Nat.min s.size dLen = m := hm.symm
  have htk : List.take m (List.map (fun b : UInt8 => Value.int IntKind.u8 (b.toNat : Int)) s.data.toList) = u8s (s.data.toList.take m) := by
    rw [u8s, List.map_take]
  rw [hlen] at hst
  simp only [Nat.add_zero] at hst
  obtain ⟨i0, hi, hz0, hz1, hz2⟩ := info_parts Try.infoU8
  simp [Builtin.copy_, run_underlying Try.underlying34, Builtin.lenOf, Builtin.firstCells, sizeOf, typeInfo, hi, hmin]
  rw [htk, hst]
  simp [Result.andThen, goInt]
theorem addr_add (g o i : Nat) : (⟨g, o, none⟩ : Addr).add i = ⟨g, o + i, none⟩ := by unfold Addr.add; split <;> simp_all
theorem cat_run (s t : ByteArray) (h : s.size + t.size ≤ 9223372036854775807) (w : World) : (Op.stringOp .add s t).run Try.prog w = .ok (.string (s ++ t)) w := by
  simp [Op.stringOp]
  omega
theorem slice_to (s : ByteArray) (n : Nat) (h : n ≤ s.size) (w : World) :
    (Instr.slice 9 (.string s) none (some (.int .i64 (n : Int))) none).run Try.prog w = .ok (.string (s.extract 0 n)) w := by
  have := run_slice_string_to_if (P := Try.prog) (w := w) 9 s .i64 (n : Int) Try.underlying9
  rw [this, if_pos (by omega)]
  simp
theorem slice_from (s : ByteArray) (n : Nat) (h : n ≤ s.size) (w : World) :
    (Instr.slice 9 (.string s) (some (.int .i64 (n : Int))) none none).run Try.prog w = .ok (.string (s.extract n s.size)) w := by
  have := run_slice_string_from_if (P := Try.prog) (w := w) 9 s .i64 (n : Int) Try.underlying9
  rw [this, if_pos (by omega)]
  simp
theorem ext_left (a b : ByteArray) (n : Nat) (h : a.size = n) : (a ++ b).extract 0 n = a := by
  apply ByteArray.ext
  apply Array.ext'
  rw [ext_toList, show (a ++ b).data.toList = a.data.toList ++ b.data.toList by simp, List.drop_zero, Nat.sub_zero, List.take_left' (by simpa using h)]
theorem ext_right (a b : ByteArray) (n m : Nat) (h : a.size = n) (h2 : n + b.size = m) : (a ++ b).extract n m = b := by
  apply ByteArray.ext
  apply Array.ext'
  rw [ext_toList, show (a ++ b).data.toList = a.data.toList ++ b.data.toList by simp, List.drop_left' (by simpa using h), List.take_of_length_le (by simp; omega)]
/-- But for one block, all that was there is as it was. -/
structure Fr (g : Nat) (a w : World) : Prop where
  os : w.os = a.os
  tape : w.tape = a.tape
  output : w.output = a.output
  size : a.heap.size ≤ w.heap.size
  block : ∀ k, k < a.heap.size → k ≠ g → w.heap[k]? = a.heap[k]?
theorem Fr.refl (g : Nat) (w : World) : Fr g w w := ⟨rfl, rfl, rfl, Nat.le_refl _, fun _ _ _ => rfl⟩
theorem Fr.trans {g : Nat} {a b c : World} (h : Fr g a b) (k : Fr g b c) : Fr g a c :=
  ⟨k.os.trans h.os, k.tape.trans h.tape, k.output.trans h.output, Nat.le_trans h.size k.size, fun i hi hn => (k.block i (Nat.lt_of_lt_of_le hi h.size) hn).trans (h.block i hi hn)⟩
theorem Fr.drew {g : Nat} {a w : World} (h : Fr g a w) : Fr g a w.drew := ⟨h.os, h.tape, h.output, h.size, h.block⟩
theorem Fr.thenB {g B : Nat} {a w w' : World} (h : Fr g a w) (hb : Below B w w') (hB : w.heap.size ≤ B) : Fr g a w' :=
  ⟨hb.os.trans h.os, hb.tape.trans h.tape, hb.output.trans h.output, Nat.le_trans h.size hb.size, fun i hi hn => (hb.block i (Nat.lt_of_lt_of_le hi (Nat.le_trans h.size hB))).trans (h.block i hi hn)⟩
theorem Fr.alloc {g : Nat} {a w : World} (h : Fr g a w) (o : Obj) : Fr g a (w.alloc o) := h.thenB ((Below.refl w.heap.size w).alloc (Nat.le_refl _) o) (Nat.le_refl _)
theorem Fr.self {g : Nat} {a w : World} (h : Fr g a w) {p : Addr} (hp : p.block = g) (u : Value) : Fr g a (w.setCell p u) :=
  h.trans ⟨rfl, rfl, rfl, by simp [World.setCell], fun k _ hn => Below.heap_setCell _ _ _ _ (by omega)⟩
theorem Fr.fresh {g : Nat} {a w : World} (h : Fr g a w) {p : Addr} (hp : a.heap.size ≤ p.block) (u : Value) : Fr g a (w.setCell p u) :=
  ⟨h.os, h.tape, h.output, Nat.le_trans h.size (by simp [World.setCell]), fun k hk hn => (Below.heap_setCell _ _ _ _ (by omega)).trans (h.block k hk hn)⟩
theorem Fr.row {g : Nat} {a w : World} (h : Fr g a w) (cs : Array Value) : Fr g a (w.setRow g cs) := by
  have hb := below_setRow (Below.refl g w) (Nat.le_refl g) cs
  exact h.trans ⟨hb.os, hb.tape, hb.output, hb.size, fun k _ hn => setRow_other w g k cs hn⟩
theorem Fr.below {g B : Nat} {a w : World} (h : Fr g a w) (hB : B ≤ g) (hw : B ≤ a.heap.size) : Below B a w :=
  ⟨h.os, h.tape, h.output, h.size, fun k hk => h.block k (by omega) (by omega)⟩
theorem Arr.fr {w w' : World} {m g : Nat} {cs : Array Value} {t : TypeId} (h : Arr w m cs t) (hf : Fr g w w') (hn : m ≠ g) : Arr w' m cs t := (hf.block m h.lt hn).trans h
end Go.Proofs.Ytmpchbhimfjomaa
