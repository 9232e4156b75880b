/- The document's own Mix at whatever block. -/
import Derived.Test.YtmedlgnllgldiaaDoorShS
namespace Go.Proofs.YtmedlgnllgldiaaDoor
open Go.RowKit

theorem made8 : madeCells #[Value.int .u32 0] 8 = zeroS.cells := by
  apply Array.ext'
  rw [toList_madeCells_one]
  rfl
theorem make8 (w : World) : (Instr.makeSlice 49 (.int .i64 8) (.int .i64 8)).run Tryd.prog w = .ok (.slice (some ⟨w.heap.size, 0, none⟩) 8 8) (w.alloc (.cells zeroS.cells 43)) := by
  obtain ⟨i0, hi, hz0, hz1, hz2⟩ := info_parts Tryd.infoU32
  have := run_makeSlice (P := Tryd.prog) w 49 43 i0 (.int .u32 0) Tryd.underlying49 hi hz0 .i64 .i64 8 8 (by decide) (by decide) (by rw [hz1]; decide) (by rw [hz2]; decide) (by decide)
  rw [hz1] at this
  rw [← made8]
  exact this
set_option maxHeartbeats 1000000 in
set_option maxRecDepth 100000 in
theorem rMix_bad (g0 : Nat) (t : ByteArray) (ht : ¬ t.size = 64) (w : World) :
    Calls Tryd.prog 28 #[.slice (some ⟨g0, 0, none⟩) 8 8, .string t] w fun e w' => (∃ g, e = .returned (.tuple #[.slice (some ⟨g, 0, none⟩) 8 8, .int .i64 5]) ∧ w.heap.size ≤ g ∧ Arr w' g zeroS.cells 43) ∧ Below w.heap.size w w' := by
  have hne : ((t.size : Int) != 64) = true := by simp; omega
  have hne2 : ¬ (t.size : Int) = 64 := by omega
  have hmk := make8
  clear ht
  go_enter Tryd.func28, Tryd.ntmps28
  go_wp2
  go_ret2
  exact ⟨⟨w.heap.size, rfl, Nat.le_refl _, Arr.new w zeroS.cells _⟩, (Below.refl _ _).alloc (Nat.le_refl _) _⟩

theorem rMix_any {ty : TypeId} (s : S8) (hs : s.ok) (g0 : Nat) (t : ByteArray) (w : World) (hA : Arr w g0 s.cells ty) :
    Calls Tryd.prog 28 #[.slice (some ⟨g0, 0, none⟩) 8 8, .string t] w fun e w' => (∃ g, e = .returned (.tuple #[.slice (some ⟨g, 0, none⟩) 8 8, .int .i64 (mixE t)]) ∧ w.heap.size ≤ g ∧ Arr w' g (mixR s t).cells 43) ∧ Below w.heap.size w w' := by
  by_cases h : t.size = 64
  · rw [mixE, if_pos h, mixR, if_pos h]; exact rmix_any s hs g0 t h w hA
  · rw [mixE, if_neg h, mixR, if_neg h]; exact rMix_bad g0 t h w

theorem st_of {zs : List Int} (h : zs.length = 8) (hw : ∀ z ∈ zs, (Lit.int .u32 z).wf = true) : ∃ s : S8, s.ok ∧ (zs.map (Value.int .u32)).toArray = s.cells := by
  have each : ∀ z ∈ zs, ∃ n : Nat, z = (n : Int) ∧ n < 4294967296 := fun z hz => by
    have := hw z hz
    have hb : 0 ≤ z ∧ z ≤ 4294967295 := by simpa [Lit.wf, IntKind.min, IntKind.max, IntKind.signed, IntKind.bits] using this
    obtain ⟨n, rfl⟩ := Int.eq_ofNat_of_zero_le hb.1
    exact ⟨n, rfl, by omega⟩
  match zs, h with
  | [a, b, c, d, e, f, g, i], _ =>
    obtain ⟨a, rfl, ha⟩ := each a (by simp)
    obtain ⟨b, rfl, hb⟩ := each b (by simp)
    obtain ⟨c, rfl, hc⟩ := each c (by simp)
    obtain ⟨d, rfl, hd⟩ := each d (by simp)
    obtain ⟨e, rfl, he⟩ := each e (by simp)
    obtain ⟨f, rfl, hf⟩ := each f (by simp)
    obtain ⟨g, rfl, hg⟩ := each g (by simp)
    obtain ⟨i, rfl, hi⟩ := each i (by simp)
    exact ⟨⟨a, b, c, d, e, f, g, i⟩, ⟨ha, hb, hc, hd, he, hf, hg, hi⟩, rfl⟩

theorem arrOf8 : Tryd.prog.underlying 45 = some (.array (Tryd.prog.arrayLen 45) (Tryd.prog.elem 45)) := by kernel_rfl
theorem len8 : Tryd.prog.arrayLen 45 = 8 := by kernel_rfl
theorem mixR_ok (s : S8) (t : ByteArray) : (mixR s t).ok := by
  unfold mixR
  split
  · exact mixS_ok _ _
  · unfold S8.ok zeroS; decide
end Go.Proofs.YtmedlgnllgldiaaDoor
