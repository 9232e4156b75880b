/- Bytes: a row of the call's own that holds bytes; what it reads as, as a string. -/
import Derived.Test.YtanaingknbjgdaaProg
import Derived.WalkKit
import Derived.Lib.Hide
import Derived.Laws.BytesString
import Derived.Laws.Cells
import Derived.Laws.IdiomStrings
import Derived.Deep.QuietTactic
namespace Go.Proofs.Ytanaingknbjgdaa
open Go.RowKit

theorem Try.infoU8 : (Try.prog.info? 5).map (fun i => (i.zero, i.size, i.bytes)) = some (some (.int .u8 0), 1, 1) := by kernel_rfl

/-- Bytes as the cells of a block. -/
def u8s (l : List UInt8) : List Value := l.map fun b => .int .u8 (b.toNat : Int)
theorem u8s_len (l : List UInt8) : (u8s l).length = l.length := by simp [u8s]
theorem u8s_get (l : List UInt8) (i : Nat) (h : i < l.length) : (u8s l)[i]? = some (.int .u8 (l[i].toNat : Int)) := by simp [u8s, h]
theorem u8s_set (l : List UInt8) (i : Nat) (b : UInt8) : (u8s l).set i (.int .u8 (b.toNat : Int)) = u8s (l.set i b) := by
  simp [u8s, List.map_set]
theorem u8s_append (l m : List UInt8) : u8s (l ++ m) = u8s l ++ u8s m := by simp [u8s]
theorem u8s_zeros (n : Nat) : (madeCells #[Value.int .u8 0] n).toList = u8s (List.replicate n 0) := by
  rw [toList_madeCells_one]
  simp [u8s]

theorem fold_bytes (l : List UInt8) (acc : ByteArray) :
    (l.map fun b => ((b.toNat : Nat) : Int)).foldl (fun (r : ByteArray) n => r.push (UInt8.ofNat n.toNat)) acc = ⟨acc.data ++ l.toArray⟩ := by
  induction l generalizing acc with
  | nil => simp
  | cons b l ih =>
    rw [List.map_cons, List.foldl_cons, ih]
    simp [ByteArray.push]

theorem conv_cells (w : World) (a : Addr) (l : List UInt8) (cap : Nat) (h : ∀ j v, (u8s l)[j]? = some v → w.cell? (a.add j) = some v) :
    (convert 40 9 (.slice (some a) l.length cap)).run Try.prog w = .ok (.string ⟨l.toArray⟩) w := by
  rw [run_convert_bytes_string w _ _ 5 _ _ _ Try.underlying40 Try.underlying5 Try.underlying9]
  have h2 := run_loadCells_list (P := Try.prog) (w := w) a (u8s l) h
  rw [u8s_len] at h2
  rw [run_bytesToString w a l.length cap (l.map fun b => ((b.toNat : Nat) : Int)) (by rw [h2]; simp [u8s]), fold_bytes]
  simp

theorem conv_own {w : World} {base g n cap : Nat} {l : List UInt8} (h : w.ownsRow base 5 1 (.slice (some ⟨g, 0, none⟩) n cap) n (u8s l)) :
    (convert 40 9 (.slice (some ⟨g, 0, none⟩) n cap)).run Try.prog w = .ok (.string ⟨l.toArray⟩) w := by
  have hn : l.length = n := by have := h.1; rw [u8s_len] at this; omega
  subst hn
  refine conv_cells w _ l cap fun j v hv => ?_
  have hj : j < l.length := by
    have := (List.getElem?_eq_some_iff.1 hv).1
    rw [u8s_len] at this; exact this
  rw [← hv, ← h.cellAt j (by omega)]
  rcases j with _ | j <;> simp [Addr.add]

/-- A byte is stored into a row of the call's own. -/
theorem row_step {w : World} {base g n cap : Nat} {l l' : List UInt8} (h : w.ownsRow base 5 1 (.slice (some ⟨g, 0, none⟩) n cap) n (u8s l)) {k : Nat} {b : UInt8} {v : Int}
    (_ : l.length = n) (_ : k < n) (hl : l.set k b = l') (hv : v = (b.toNat : Int)) :
    (w.setCell ⟨g, k, none⟩ (.int .u8 v)).ownsRow base 5 1 (.slice (some ⟨g, 0, none⟩) n cap) n (u8s l') := by
  subst hl hv
  rw [← u8s_set]
  exact (h.stored k _).1

/-- The slice value v owns these bytes, in a row of the call's own (blocks from base on); nil owns none. -/
def Ob (w : World) (base : Nat) (v : Value) (l : List UInt8) : Prop := w.ownsRow base 5 1 v l.length (u8s l)

theorem Ob.start (w : World) (base : Nat) (h : base ≤ w.heap.size) : Ob (w.alloc (.cells #[] 5)) base (.slice (some ⟨w.heap.size, 0, none⟩) 0 0) [] :=
  World.ownsRow_lit w #[] 0 h (by unfold maxLen; omega) rfl
theorem Ob.none (w : World) (base : Nat) : Ob w base (.slice none 0 0) [] := World.ownsRow_nil _ _ _ _
theorem Ob.alloc {w : World} {base : Nat} {v : Value} {l : List UInt8} (h : Ob w base v l) (o : Obj) : Ob (w.alloc o) base v l := World.ownsRow.alloc h o
theorem Ob.drew {w : World} {base : Nat} {v : Value} {l : List UInt8} (h : Ob w base v l) : Ob w.drew base v l := h
theorem Ob.drewN {w : World} {base : Nat} {v : Value} {l : List UInt8} (h : Ob w base v l) (n : Nat) : Ob (w.drewN n) base v l := h

/-- The walk's law for 'append(out, b)', out a row of the call's own. -/
theorem wpList_push (wr : World) {ops : Array Oper} {rest : List Oper} {o : Oper} {a : Act} {Q : Exit → Act → World → Prop} {bv : Int}
    (hgd : o.guard = none) (s x : Operand) (ho : o.op = .call { callee := .builtin .append, args := #[s, x], argTypes := #[40, 40] })
    (base : Nat) (v : Value) (l : List UInt8) (hs : a.eval s = v) (hx : a.eval x = .slice (some ⟨wr.heap.size, 0, none⟩) 1 1) (hown : Ob wr base v l) (b : UInt8) (hb : bv = (b.toNat : Int))
    (hlen : l.length ≤ 1099511627776) (hbase : base ≤ wr.heap.size)
    (h : ∀ v' w', Ob w' base v' (l ++ [b]) → Below base wr w' → wpList Try.prog ops Q rest (a.put o.dst v') w') :
    wpList Try.prog ops Q (o :: rest) a (wr.alloc (.cells #[.int .u8 bv] 5)) := by
  subst hb
  obtain ⟨i0, hi, hz0, hz1, hz2⟩ := info_parts Try.infoU8
  have hsz : (wr.alloc (.cells #[.int .u8 (b.toNat : Int)] 5)).heap.size = wr.heap.size + 1 := by show (wr.heap.push _).size = _; simp
  refine wpList_append_own _ hgd s x 40 ho base 5 i0 (.int .u8 0) 1 1 Try.underlying40 hi hz0 hz1 hz2 rfl (by decide) v l.length (u8s l) hs (World.ownsRow.alloc hown _) ⟨wr.heap.size, 0, none⟩ 1 1 [.int .u8 (b.toNat : Int)] hx rfl ?_ ?_ (by unfold maxLen; omega) (by omega) (by omega) ?_
  · intro j u hj
    match j, hj with
    | 0, hj => simp at hj; subst hj; simp [Addr.add]
  · intro u hu; simp at hu; subst hu; rfl
  · intro v' w' h1 h2 _
    refine h v' w' ?_ ?_
    · have e : u8s (l ++ [b]) = u8s l ++ [.int .u8 (b.toNat : Int)] := by simp [u8s]
      unfold Ob
      rw [e, List.length_append]; exact h1
    · refine Below.grown ((Below.refl _ _).alloc hbase _) h2 (by omega) ?_
      intro k hk
      rcases hown.2 with ⟨rfl, _⟩ | ⟨g, cap, cur, rfl, hb, _⟩
      · simp [Value.ownBlock] at hk
      · simp [Value.ownBlock] at hk; omega

theorem conv_Ob {w : World} {base : Nat} {v : Value} {l : List UInt8} (h : Ob w base v l) :
    (convert 40 9 v).run Try.prog w = .ok (.string ⟨l.toArray⟩) w := by
  have h' := h
  rcases h.2 with ⟨rfl, h0⟩ | ⟨g, cap, cur, rfl, _⟩
  · have : l = [] := List.eq_nil_of_length_eq_zero h0
    subst this
    rw [run_convert_bytes_string w _ _ 5 _ _ _ Try.underlying40 Try.underlying5 Try.underlying9]
    rfl
  · exact conv_own h'

/-- The walk's law for 'string(out)', out a row of the call's own. -/
theorem wpList_ob_string (w : World) {ops : Array Oper} {rest : List Oper} {o : Oper} {a : Act} {Q : Exit → Act → World → Prop}
    (hg : o.guard = none) (x : Operand) (hop : o.op = Op.convert 40 9 x) {base : Nat} {v : Value} {l : List UInt8} (h : Ob w base v l) (hx : a.eval x = v)
    (hK : wpList Try.prog ops Q rest (a.put o.dst (.string ⟨l.toArray⟩)) w) :
    wpList Try.prog ops Q (o :: rest) a w := by
  refine wpList_plain hg fun K hK' => ?_
  have hrun := conv_Ob h
  unfold Oper.wp
  simp [execOp, hop, hx, hrun, Result.andThen]
  exact hK' _ _ hK
theorem Below_next {a b c : World} (h : Below a.heap.size a b) (k : Below b.heap.size b c) : Below a.heap.size a c := h.trans (k.mono h.size)
theorem Below_drewN {B : Nat} {a w : World} (h : Below B a w) (n : Nat) : Below B a (w.drewN n) := ⟨h.os, h.tape, h.output, h.size, h.block⟩
end Go.Proofs.Ytanaingknbjgdaa
