/- The document's own block, Sum, Expand, Derive of layer 3. The document's own Expand and Derive of layer 3. -/
import Derived.Test.YtfflpooiebeagaaDoorMB
import Derived.Test.YtfflpooiebeagaaDoorMC
namespace Go.Proofs.YtfflpooiebeagaaDoor
open Go.RowKit

/-- k bytes of a block are turned, the others are 0. -/
def rowAt (kb : List UInt8) (b : UInt8) (k : Nat) : List UInt8 := turnL (kb.take k) b ++ List.replicate (64 - k) 0
theorem rowAt_zero (kb : List UInt8) (b : UInt8) : rowAt kb b 0 = List.replicate 64 0 := by simp [rowAt, turnL]
theorem rowAt_full (kb : List UInt8) (b : UInt8) (h : kb.length = 64) : rowAt kb b 64 = turnL kb b := by
  rw [rowAt, List.take_of_length_le (by omega), Nat.sub_self, List.replicate_zero, List.append_nil]
theorem rowAt_head (kb : List UInt8) (b : UInt8) (k : Nat) (h : kb.length = 64) (hk : k < 64) : (turnL (kb.take k) b).length = k := by rw [turnL_len, List.length_take]; omega
theorem rowAt_at (kb : List UInt8) (b : UInt8) (k : Nat) (h : kb.length = 64) (hk : k < 64) : (rowAt kb b k)[k]? = some 0 := by
  have e := rowAt_head kb b k h hk
  rw [rowAt, List.getElem?_append_right (by omega), e, Nat.sub_self, List.getElem?_replicate, if_pos (by omega)]
theorem rowAt_set (kb : List UInt8) (b : UInt8) (k : Nat) (h : kb.length = 64) (hk : k < 64) : (rowAt kb b k).set k (kb[k]'(by omega) ^^^ b) = rowAt kb b (k + 1) := by
  have e := rowAt_head kb b k h hk
  obtain ⟨m, hm⟩ : ∃ m, 64 - k = m + 1 := ⟨63 - k, by omega⟩
  rw [rowAt, rowAt, List.set_append_right _ _ (by omega), e, Nat.sub_self, hm, List.replicate_succ, List.set_cons_zero, List.take_succ_eq_append_getElem (by omega), turnL, turnL, List.map_append, List.append_assoc, show 64 - (k + 1) = m by omega]
  rfl
/-- What a block is made of. -/
def KbIs (K : ByteArray) (kb : List UInt8) : Prop := (∀ k (h : k < K.size) (h2 : k < kb.length), kb[k] = K[k]) ∧ (∀ k (_ : K.size ≤ k) (h2 : k < kb.length), kb[k] = 0)
theorem kbIs (K : ByteArray) (kb : List UInt8) (h : kb = K.data.toList ++ List.replicate (64 - K.size) 0) : KbIs K kb := by
  subst h
  have hl : K.data.toList.length = K.size := by simp
  refine ⟨fun k h1 h2 => ?_, fun k h1 h2 => ?_⟩
  · rw [List.getElem_append_left (by omega)]; rfl
  · rw [List.getElem_append_right (by omega), List.getElem_replicate]

theorem conv_row64' {ty : TypeId} {w : World} {g : Nat} {l : List UInt8} (h : Arr w g (row64 l) ty) (hl : l.length = 64) :
    (convert 42 9 (.slice (some ⟨g, 0, none⟩) 64 64)).run Tryd.prog w = .ok (.string ⟨l.toArray⟩) w := by
  have := conv_cells w ⟨g, 0, none⟩ l 64 (fun j v hv => by
    rw [addr_add, Nat.zero_add]; exact h.cell (by rw [row64, List.getElem?_toArray]; exact hv))
  rw [hl] at this
  exact this
theorem made64 : madeCells #[Value.int .u8 0] 64 = row64 (List.replicate 64 0) := by
  apply Array.ext'
  rw [u8s_zeros, row64]
theorem make64 (w : World) : (Instr.makeSlice 42 (.int .i64 64) (.int .i64 64)).run Tryd.prog w = .ok (.slice (some ⟨w.heap.size, 0, none⟩) 64 64) (w.alloc (.cells (row64 (List.replicate 64 0)) 5)) := by
  obtain ⟨i0, hi, hz0, hz1, hz2⟩ := info_parts Tryd.infoU8
  have := run_makeSlice (P := Tryd.prog) w 42 5 i0 (.int .u8 0) Tryd.underlying42 hi hz0 .i64 .i64 64 64 (by decide) (by decide) (by rw [hz1]; decide) (by rw [hz2]; decide) (by decide)
  rw [hz1] at this
  rw [← made64]
  exact this
end Go.Proofs.YtfflpooiebeagaaDoor
namespace Go.Proofs.YtfflpooiebeagaaDoor
open Go.RowKit

/-- One byte as a string. -/
theorem conv_one (w : World) (b : UInt8) (v : Int) (hv : v = (b.toNat : Int)) :
    (convert 42 9 (.slice (some ⟨w.heap.size, 0, none⟩) 1 1)).run Tryd.prog (w.alloc (.cells #[.int .u8 v] 5)) = .ok (.string ⟨#[b]⟩) (w.alloc (.cells #[.int .u8 v] 5)) := by
  subst hv
  exact conv_cells _ ⟨w.heap.size, 0, none⟩ [b] 1 (fun j v hv => by
    rw [addr_add, Nat.zero_add]
    exact (Arr.new w #[.int .u8 (b.toNat : Int)] 5).cell (by simpa [u8s] using hv))
theorem byteAt_small (j : Nat) (h : j < 256) : ((byteAt j 0).toNat : Int) = (j : Int) := by
  rw [← byte_num']; omega

end Go.Proofs.YtfflpooiebeagaaDoor
