/- Bytes: a row of the call's own that holds bytes; what it reads as, as a string. -/
import Derived.Test.YtanaingknbjgdaaProg
import Derived.WalkKit
import Derived.Lib.Hide
import Derived.Laws.BytesString
import Derived.Laws.Cells
import Derived.Laws.IdiomStrings
namespace Go.Proofs.Ytanaingknbjgdaa
open Go.RowKit

theorem Try.infoU8 : (Try.prog.info? 5).map (fun i => (i.zero, i.size, i.bytes)) = some (some (.int .u8 0), 1, 1) := by kernel_rfl

/-- Bytes as the cells of a block. -/
def u8s (l : List UInt8) : List Value := l.map fun b => .int .u8 (b.toNat : Int)
theorem u8s_len (l : List UInt8) : (u8s l).length = l.length := by simp [u8s]
theorem u8s_get (l : List UInt8) (i : Nat) (h : i < l.length) : (u8s l)[i]? = some (.int .u8 (l[i].toNat : Int)) := by simp [u8s, h]
theorem u8s_set (l : List UInt8) (i : Nat) (b : UInt8) : (u8s l).set i (.int .u8 (b.toNat : Int)) = u8s (l.set i b) := by
  simp [u8s, List.map_set]
theorem u8s_append (l m : List UInt8) : u8s (l ++ m) = u8s l ++ u8s m := by simp [u8s]
theorem u8s_zeros (n : Nat) : (madeCells #[Value.int .u8 0] n).toList = u8s (List.replicate n 0) := by
  rw [toList_madeCells_one]
  simp [u8s]

theorem fold_bytes (l : List UInt8) (acc : ByteArray) :
    (l.map fun b => ((b.toNat : Nat) : Int)).foldl (fun (r : ByteArray) n => r.push (UInt8.ofNat n.toNat)) acc = ⟨acc.data ++ l.toArray⟩ := by
  induction l generalizing acc with
  | nil => simp
  | cons b l ih =>
    rw [List.map_cons, List.foldl_cons, ih]
    simp [ByteArray.push]

theorem conv_cells (w : World) (a : Addr) (l : List UInt8) (cap : Nat) (h : ∀ j v, (u8s l)[j]? = some v → w.cell? (a.add j) = some v) :
    (convert 40 9 (.slice (some a) l.length cap)).run Try.prog w = .ok (.string ⟨l.toArray⟩) w := by
  rw [run_convert_bytes_string w _ _ 5 _ _ _ Try.underlying40 Try.underlying5 Try.underlying9]
  have h2 := run_loadCells_list (P := Try.prog) (w := w) a (u8s l) h
  rw [u8s_len] at h2
  rw [run_bytesToString w a l.length cap (l.map fun b => ((b.toNat : Nat) : Int)) (by rw [h2]; simp [u8s]), fold_bytes]
  simp

theorem conv_own {w : World} {base g n cap : Nat} {l : List UInt8} (h : w.ownsRow base 5 1 (.slice (some ⟨g, 0, none⟩) n cap) n (u8s l)) :
    (convert 40 9 (.slice (some ⟨g, 0, none⟩) n cap)).run Try.prog w = .ok (.string ⟨l.toArray⟩) w := by
  have hn : l.length = n := by have := h.1; rw [u8s_len] at this; omega
  subst hn
  refine conv_cells w _ l cap fun j v hv => ?_
  have hj : j < l.length := by
    have := (List.getElem?_eq_some_iff.1 hv).1
    rw [u8s_len] at this; exact this
  rw [← hv, ← h.cellAt j (by omega)]
  rcases j with _ | j <;> simp [Addr.add]

/-- A byte is stored into a row of the call's own. -/
theorem row_step {w : World} {base g n cap : Nat} {l l' : List UInt8} (h : w.ownsRow base 5 1 (.slice (some ⟨g, 0, none⟩) n cap) n (u8s l)) {k : Nat} {b : UInt8} {v : Int}
    (_ : l.length = n) (_ : k < n) (hl : l.set k b = l') (hv : v = (b.toNat : Int)) :
    (w.setCell ⟨g, k, none⟩ (.int .u8 v)).ownsRow base 5 1 (.slice (some ⟨g, 0, none⟩) n cap) n (u8s l') := by
  subst hl hv
  rw [← u8s_set]
  exact (h.stored k _).1
end Go.Proofs.Ytanaingknbjgdaa
