/- The document's own Stir and stirred of layer 4. The document's own Block of layer 4. 'large' of layer 4's laws. chacha: the layer's law's own first calls. ChachaSizes: the law's walk. The document's own Stream and Turn of layer 4. -/
import Derived.Test.YtfflpooiebeagaaDoorM3
import Derived.Test.YtfflpooiebeagaaDoorM1
import Derived.StillTailTactics
import Derived.Deep.RegionHeld3
import Derived.Deep.DeepCutAuto
import Derived.KernelRfl
namespace Go.Proofs.YtfflpooiebeagaaDoor
open Go.RowKit

theorem ow16 {w : World} {base : Nat} {v : Value} {Y : List Nat} (h : Ow w base v ([] ++ Y)) (hY : Y.length = 16) : ∃ g cap, v = .slice (some ⟨g, 0, none⟩) 16 cap ∧ base ≤ g ∧ w.ownsRow base 65 1 (.slice (some ⟨g, 0, none⟩) 16 cap) 16 (u32s Y) := by
  rw [List.nil_append] at h
  have h' := h
  rcases h.2 with ⟨_, hx⟩ | ⟨g, cap, cur, rfl, hb, _⟩
  · rw [hY] at hx; exact absurd hx (by decide)
  · unfold Ow at h'
    rw [hY] at h'
    exact ⟨g, cap, by rw [hY], hb, h'⟩
end Go.Proofs.YtfflpooiebeagaaDoor
namespace Go.Proofs.YtfflpooiebeagaaDoor
open Go.RowKit

theorem pl_lo (m : Nat) (h : m < 4) : plN (4 * m) = m ∧ plN (4 * m + 1) = 4 + m ∧ plN (4 * m + 2) = 8 + m ∧ plN (4 * m + 3) = 12 + m := by
  rcases (show m = 0 ∨ m = 1 ∨ m = 2 ∨ m = 3 by omega) with h | h | h | h <;> subst h <;> decide
theorem pl_hi (m : Nat) (h : m < 4) : plN (4 * (4 + m)) = m ∧ plN (4 * (4 + m) + 1) = 4 + (m + 1) % 4 ∧ plN (4 * (4 + m) + 2) = 8 + (m + 2) % 4 ∧ plN (4 * (4 + m) + 3) = 12 + (m + 3) % 4 := by
  rcases (show m = 0 ∨ m = 1 ∨ m = 2 ∨ m = 3 by omega) with h | h | h | h <;> subst h <;> decide
theorem st8_lo (Y : List Nat) (m : Nat) (h : m < 4) : st8 Y (m + 1) = stirAt (st8 Y m) m (4 + m) (8 + m) (12 + m) := by
  obtain ⟨h1, h2, h3, h4⟩ := pl_lo m h
  rw [st8, h1, h2, h3, h4]
theorem st8_hi (Y : List Nat) (m : Nat) (h : m < 4) : st8 Y (4 + (m + 1)) = stirAt (st8 Y (4 + m)) m (4 + (m + 1) % 4) (8 + (m + 2) % 4) (12 + (m + 3) % 4) := by
  obtain ⟨h1, h2, h3, h4⟩ := pl_hi m h
  rw [← Nat.add_assoc, st8, h1, h2, h3, h4]
theorem owF {w : World} {base : Nat} {v : Value} {Y : List Nat} (h : Ow w base v Y) (hY : Y.length = 16) : ∃ g cap, v = .slice (some ⟨g, 0, none⟩) 16 cap ∧ RowW w g Y := by
  obtain ⟨g, cap, rfl, _, hc⟩ := h.form (by omega)
  exact ⟨g, cap, by rw [hY], hc⟩

end Go.Proofs.YtfflpooiebeagaaDoor
namespace Go.Proofs.YtfflpooiebeagaaDoor
open Go.RowKit

end Go.Proofs.YtfflpooiebeagaaDoor
namespace Go.Proofs.YtfflpooiebeagaaDoor
open Go.RowKit

def zk : List UInt8 := List.replicate 32 0
def zn : List UInt8 := List.replicate 12 0
theorem blk_zero : (blockL zk 0 zn).take 4 = [118, 184, 224, 173] := by decide +kernel
theorem str_zero : xorL [97, 98] (strmL zk 0 zn 2) = [23, 218] := by decide +kernel
theorem stir_ex : stirQ ⟨286331153, 16909060, 2609737539, 19088743⟩ = ⟨3928658676, 3407673550, 1166100270, 1484899515⟩ := by
  have h : (stirQ ⟨286331153, 16909060, 2609737539, 19088743⟩).a = 3928658676 ∧ (stirQ ⟨286331153, 16909060, 2609737539, 19088743⟩).b = 3407673550 ∧ (stirQ ⟨286331153, 16909060, 2609737539, 19088743⟩).c = 1166100270 ∧ (stirQ ⟨286331153, 16909060, 2609737539, 19088743⟩).d = 1484899515 := by decide +kernel
  generalize stirQ ⟨286331153, 16909060, 2609737539, 19088743⟩ = q at *
  obtain ⟨a, b, c, d⟩ := q
  obtain ⟨h1, h2, h3, h4⟩ := h
  simp only at h1 h2 h3 h4
  rw [h1, h2, h3, h4]





theorem convZg (n : Nat) (w : World) (g : Nat) (hg : g = w.heap.size) : (convert 42 9 (.slice (some ⟨g, 0, none⟩) n n)).run Tryd.prog (w.alloc (.cells (zrow n) 5)) = .ok (.string (zeros n)) (w.alloc (.cells (zrow n) 5)) := by
  subst hg; exact convZ n w

theorem sz_zero : szB (zeros 32) (zeros 12) = true := szB_mk (zeros_size 32) (zeros_size 12)

theorem stir_ex_any (w : World) : Calls Tryd.prog 63 #[.agg #[.int .u32 286331153, .int .u32 16909060, .int .u32 2609737539, .int .u32 19088743]] w fun e w' => e = .returned (.agg #[.int .u32 3928658676, .int .u32 3407673550, .int .u32 1166100270, .int .u32 1484899515]) ∧ Below w.heap.size w w' :=
  (stir_any ⟨286331153, 16909060, 2609737539, 19088743⟩ (by refine ⟨?_, ?_, ?_, ?_⟩ <;> decide) w).mono fun _ _ ⟨h, k⟩ => ⟨h.trans (by rw [stir_ex]; rfl), k⟩
theorem eq_ex (w : World) : (Op.equalIn 10000 115 (.agg #[.int .u32 3928658676, .int .u32 3407673550, .int .u32 1166100270, .int .u32 1484899515]) (.agg #[.int .u32 3928658676, .int .u32 3407673550, .int .u32 1166100270, .int .u32 1484899515])).run Tryd.prog w = .ok true w :=
  equalIn_ints w 9998 115 65 4 .u32 [3928658676, 3407673550, 1166100270, 1484899515] Tryd.underlying115 Tryd.underlying65 Tryd.isAgg65 Tryd.sizeOf65 rfl

end Go.Proofs.YtfflpooiebeagaaDoor
namespace Go.Proofs.YtfflpooiebeagaaDoor
open Go.RowKit

theorem wf_u32 {a : Int} (h : (Lit.int .u32 a).wf = true) : 0 ≤ a ∧ a ≤ 4294967295 := by simpa [Lit.wf, IntKind.min, IntKind.max, IntKind.signed, IntKind.bits] using h
theorem szB_e {key nonce : ByteArray} (h : szB key nonce = true) : ((key.size : Int) == 32) = true ∧ ((nonce.size : Int) == 12) = true := by
  obtain ⟨h1, h2⟩ := szB_yes h
  rw [h1, h2]; exact ⟨rfl, rfl⟩
theorem szB_n {key nonce : ByteArray} (h : szB key nonce = false) : ((key.size : Int) == 32) = false ∨ (((key.size : Int) == 32) = true ∧ ((nonce.size : Int) == 12) = false) := by
  by_cases h1 : key.size = 32
  · right
    refine ⟨by rw [h1]; rfl, ?_⟩
    have : ¬ nonce.size = 12 := fun h2 => by rw [szB_mk h1 h2] at h; cases h
    simp; omega
  · left; simp; omega
end Go.Proofs.YtfflpooiebeagaaDoor
namespace Go.Proofs.YtfflpooiebeagaaDoor
open Go.RowKit

theorem szB_x {key nonce : ByteArray} (h : szB key nonce = true) : ((key.size : Int) != 32) = false ∧ ((nonce.size : Int) != 12) = false := by
  obtain ⟨h1, h2⟩ := szB_yes h
  rw [h1, h2]; exact ⟨rfl, rfl⟩
theorem szB_xn {key nonce : ByteArray} (h : szB key nonce = false) : ((key.size : Int) != 32) = true ∨ (((key.size : Int) != 32) = false ∧ ((nonce.size : Int) != 12) = true) := by
  by_cases h1 : key.size = 32
  · right
    refine ⟨by rw [h1]; rfl, ?_⟩
    have : ¬ nonce.size = 12 := fun h2 => by rw [szB_mk h1 h2] at h; cases h
    simp; omega
  · left; simp; omega
end Go.Proofs.YtfflpooiebeagaaDoor
