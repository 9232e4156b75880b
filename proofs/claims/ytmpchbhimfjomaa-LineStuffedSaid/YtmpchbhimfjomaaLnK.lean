/- awake of layer 8's laws, over the record. -/
import Derived.Test.YtmpchbhimfjomaaLnQ
import Derived.Test.YtmpchbhimfjomaaLnD
import Derived.OwnWalk
namespace Go.Proofs.Ytmpchbhimfjomaa
open Go.RowKit

theorem ex8_1 : nextL 3 [97, 98, 13] = ([], 0, false, [97, 98, 13]) := by decide +kernel
theorem ex8_2 : nextL 3 [97, 98, 13, 10, 13, 99, 13, 10, 97, 98, 99, 100, 13, 10, 100] = ([97, 98], 0, true, [13, 99, 13, 10, 97, 98, 99, 100, 13, 10, 100]) := by decide +kernel
theorem ex8_3 : nextL 3 [13, 99, 13, 10, 97, 98, 99, 100, 13, 10, 100] = ([13, 99], 0, true, [97, 98, 99, 100, 13, 10, 100]) := by decide +kernel
theorem ex8_4 : nextL 3 [97, 98, 99, 100, 13, 10, 100] = ([], 5, true, [100]) := by decide +kernel
theorem ex8_5 : nextL 3 [100] = ([], 0, false, [100]) := by decide +kernel
theorem ex8_6 : linesL [97, 13, 10, 98] = ([[97]], [98]) := by decide +kernel
theorem ex8_7 : unstuffL [46, 46, 97, 13, 10, 46, 13, 10, 120] = ([[46, 97]], [120], true) := by decide +kernel
theorem ex8_8 : undotL [46] = ([], true) := by decide +kernel
theorem ex8_9 : ba (joinL (lsB [⟨#[97]⟩])) = ⟨#[97, 13, 10]⟩ := by rfl
theorem ex8_10 : ba (stuffL (lsB [⟨#[46, 97]⟩])) = ⟨#[46, 46, 97, 13, 10, 46, 13, 10]⟩ := by
  have : stuffL [[46, 97]] = [46, 46, 97, 13, 10, 46, 13, 10] := by decide +kernel
  rw [show lsB [⟨#[46, 97]⟩] = [[46, 97]] from rfl, this]
  rfl

section
variable {Rd : World → (Nat → Prop) → Value → Nat → List UInt8 → Prop}
/-- One reader. -/
def OneRd (Rd : World → (Nat → Prop) → Value → Nat → List UInt8 → Prop) (w0 wr : World) (p : Value) (L : List UInt8) : Prop := ∃ own : Nat → Prop, Rd wr own p 3 L ∧ (∀ h, own h → w0.heap.size ≤ h) ∧ Below w0.heap.size w0 wr
theorem OneRd.next {w0 w w' : World} {p : Value} {L : List UInt8} (C : LineB Rd) (h : OneRd Rd w0 w p L) (hb : Below w.heap.size w w') : OneRd Rd w0 w' p L := by
  obtain ⟨a, h1, h2, h3⟩ := h
  exact ⟨a, C.nextB h1 hb, h2, Below_next h3 hb⟩
theorem OneRd.bel {w0 w : World} {p : Value} {L : List UInt8} (h : OneRd Rd w0 w p L) : Below w0.heap.size w0 w := by obtain ⟨_, _, _, h⟩ := h; exact h
theorem one_step {w0 w w' : World} {p : Value} {L' : List UInt8} {own own' : Nat → Prop} (h2 : ∀ h, own h → w0.heap.size ≤ h) (h3 : Below w0.heap.size w0 w)
    (k1 : Rd w' own' p 3 L') (k2 : ∀ h, own' h → own h ∨ w.heap.size ≤ h) (k3 : Fro own w w') : OneRd Rd w0 w' p L' := by
  have hs := h3.size
  refine ⟨own', k1, fun h hh => ?_, h3.trans (k3.below h2 hs)⟩
  rcases k2 h hh with h' | h'
  · exact h2 h h'
  · omega
theorem OneRd.add (C : LineB Rd) {w0 w : World} {p : Value} {L : List UInt8} (s : ByteArray) (M : List UInt8) (hM : L ++ s.data.toList = M) (hl : L.length + s.size ≤ 65536) (h : OneRd Rd w0 w p L) :
    Calls Try.prog 23 #[p, .string s] w fun e w' => e = .returned (.tuple #[]) ∧ OneRd Rd w0 w' p M := by
  subst hM
  obtain ⟨a, h1, h2, h3⟩ := h
  exact (C.add s hl w h1).mono fun e w' ⟨he, own', k1, k2, k3⟩ => ⟨he, one_step h2 h3 k1 k2 k3⟩
theorem OneRd.nextL (C : LineB Rd) {w0 w : World} {p : Value} {L : List UInt8} (x : List UInt8) (er : Int) (is : Bool) (M : List UInt8) (hN : nextL 3 L = (x, er, is, M)) (hl : L.length ≤ 65536) (h : OneRd Rd w0 w p L) :
    Calls Try.prog 24 #[p] w fun e w' => e = .returned (.tuple #[.string (ba x), .int .i64 er, .bool is]) ∧ OneRd Rd w0 w' p M := by
  obtain ⟨a, h1, h2, h3⟩ := h
  have := C.next' hl w h1
  rw [hN] at this
  exact this.mono fun e w' ⟨he, own', k1, k2, k3⟩ => ⟨he, one_step h2 h3 k1 k2 k3⟩
/-- A slice of one text. -/
theorem one_slice {w : World} {a : Option Addr} {n c : Nat} {x : List UInt8} (h : IsTexts w a n c (bas [x])) : ∃ y, a = some y ∧ n = 1 ∧ w.cell? y = some (.string (ba x)) := by
  have hl5 := h.len.1
  obtain rfl : n = 1 := hl5.symm
  obtain ⟨y, rfl, cy, _⟩ := h.at (i := 0) (by omega)
  rw [addr_zero] at cy
  exact ⟨y, rfl, rfl, cy⟩

set_option maxHeartbeats 4000000 in
set_option maxRecDepth 100000 in
theorem awake8_walk (C : LineB Rd) (W : World) :
    Calls Try.prog 9 #[] W fun e w' => e = .returned (.bool true) ∧ Below W.heap.size W w' := by
  have HC := Lib.hid C
  have HN1 := Lib.hid (C.new' 3 (by decide) (by decide) W)
  rw [show ((3 : Nat) : Int) = 3 from rfl] at HN1
  have HN0 := Lib.hid (fun w => C.none' 0 (by decide) w)
  have HS := Lib.hid (fun w => C.split ⟨#[97, 13, 10, 98]⟩ (by decide) w)
  rw [show (⟨#[97, 13, 10, 98]⟩ : ByteArray).data.toList = [97, 13, 10, 98] from rfl, ex8_6] at HS
  have HU := Lib.hid (fun w => C.unstuffed ⟨#[46, 46, 97, 13, 10, 46, 13, 10, 120]⟩ (by decide) w)
  rw [show (⟨#[46, 46, 97, 13, 10, 46, 13, 10, 120]⟩ : ByteArray).data.toList = [46, 46, 97, 13, 10, 46, 13, 10, 120] from rfl, ex8_7] at HU
  have HV := Lib.hid (fun w => C.unstuff ⟨#[46]⟩ (by decide) w)
  rw [show (⟨#[46]⟩ : ByteArray).data.toList = [46] from rfl, ex8_8] at HV
  have HJ := Lib.hid (fun w => C.join (some ⟨w.heap.size, 0, none⟩) 1 1 [⟨#[97]⟩] (by decide) (by decide) (w.alloc (.cells #[.string ⟨#[97]⟩] 9)) (one_texts w _ (by decide)))
  rw [ex8_9] at HJ
  have HF := Lib.hid (fun w => C.stuff (some ⟨w.heap.size, 0, none⟩) 1 1 [⟨#[46, 97]⟩] (by decide) (by decide) (w.alloc (.cells #[.string ⟨#[46, 97]⟩] 9)) (one_texts w _ (by decide)))
  rw [ex8_10] at HF
  have A1 := Lib.hid (fun w p h => OneRd.add C (w0 := W) (w := w) (p := p) (L := []) ⟨#[97, 98, 13]⟩ [97, 98, 13] rfl (by decide) h)
  have B1 := Lib.hid (fun w p h => OneRd.nextL C (w0 := W) (w := w) (p := p) _ _ _ _ ex8_1 (by decide) h)
  have A2 := Lib.hid (fun w p h => OneRd.add C (w0 := W) (w := w) (p := p) (L := [97, 98, 13]) ⟨#[10, 13, 99, 13, 10, 97, 98, 99, 100, 13, 10, 100]⟩ [97, 98, 13, 10, 13, 99, 13, 10, 97, 98, 99, 100, 13, 10, 100] rfl (by decide) h)
  have B2 := Lib.hid (fun w p h => OneRd.nextL C (w0 := W) (w := w) (p := p) _ _ _ _ ex8_2 (by decide) h)
  have B3 := Lib.hid (fun w p h => OneRd.nextL C (w0 := W) (w := w) (p := p) _ _ _ _ ex8_3 (by decide) h)
  have B4 := Lib.hid (fun w p h => OneRd.nextL C (w0 := W) (w := w) (p := p) _ _ _ _ ex8_4 (by decide) h)
  have B5 := Lib.hid (fun w p h => OneRd.nextL C (w0 := W) (w := w) (p := p) _ _ _ _ ex8_5 (by decide) h)
  have q1 : ((ba [97, 98]).toList == [97, 98]) = true := by rw [ba, ByteArray.toList_mk]; rfl
  have q2 : ((ba [13, 99]).toList == [13, 99]) = true := by rw [ba, ByteArray.toList_mk]; rfl
  have q3 : ((ba [98]).toList == [98]) = true := by rw [ba, ByteArray.toList_mk]; rfl
  have q4 : ((ba [97]).toList == [97]) = true := by rw [ba, ByteArray.toList_mk]; rfl
  have q5 : ((ba [46, 97]).toList == [46, 97]) = true := by rw [ba, ByteArray.toList_mk]; rfl
  have q6 : ((ba [120]).toList == [120]) = true := by rw [ba, ByteArray.toList_mk]; rfl
  generalize ba [97, 98] = S1 at *
  generalize ba [13, 99] = S2 at *
  generalize hS3 : ba [98] = S3 at *
  generalize hS4 : ba [97] = S4 at *
  generalize hS5 : ba [46, 97] = S5 at *
  generalize hS6 : ba [120] = S6 at *
  have HS' := Lib.hid (fun w => (HS.out w).mono (R' := fun e w' => ∃ (y : Addr) (c : Nat), e = .returned (.tuple #[.slice (some y) 1 c, .string S3]) ∧ w'.cell? y = some (.string S4) ∧ Below w.heap.size w w') fun e w' ⟨a, n, c, he, ht, hb⟩ => by
    obtain ⟨y, rfl, rfl, cy⟩ := one_slice ht
    rw [hS4] at cy
    exact ⟨y, c, he.trans (by rw [← hS3]), cy, hb⟩)
  have HU' := Lib.hid (fun w => (HU.out w).mono (R' := fun e w' => ∃ (y : Addr) (c : Nat), e = .returned (.tuple #[.slice (some y) 1 c, .string S6, .bool true]) ∧ w'.cell? y = some (.string S5) ∧ Below w.heap.size w w') fun e w' ⟨a, n, c, he, ht, hb⟩ => by
    obtain ⟨y, rfl, rfl, cy⟩ := one_slice ht
    rw [hS5] at cy
    exact ⟨y, c, he.trans (by rw [← hS6]), cy, hb⟩)
  clear HS HU hS3 hS4 hS5 hS6
  go_enter Try.func9, Try.ntmps9
  go_wp2_with (first
    | (go_at_call 22; (with_reducible refine HN1.out.mono ?_); rintro e w1 ⟨p, own, rfl, hr, ho, hb⟩; obtain ⟨g, rfl⟩ := HC.out.ptr hr; have h1 : OneRd Rd W w1 (.pointer (some ⟨g, 0, none⟩)) [] := ⟨own, hr, ho, hb⟩)
    | (go_at_call 22; (with_reducible refine (HN0.out _).mono ?_); rintro e w2 ⟨rfl, hb2⟩; have h2 := h1.next HC.out hb2)
    | (go_at_call 23; (with_reducible refine (A1.out _ _ h2).mono ?_); rintro e w3 ⟨rfl, h3⟩)
    | (go_at_call 24; (with_reducible refine (B1.out _ _ h3).mono ?_); rintro e w4 ⟨rfl, h4⟩)
    | (go_at_call 23; (with_reducible refine (A2.out _ _ h4).mono ?_); rintro e w5 ⟨rfl, h5⟩)
    | (go_at_call 24; (with_reducible refine (B2.out _ _ h5).mono ?_); rintro e w6 ⟨rfl, h6⟩)
    | (go_at_call 24; (with_reducible refine (B3.out _ _ h6).mono ?_); rintro e w7 ⟨rfl, h7⟩)
    | (go_at_call 24; (with_reducible refine (B4.out _ _ h7).mono ?_); rintro e w8 ⟨rfl, h8⟩)
    | (go_at_call 24; (with_reducible refine (B5.out _ _ h8).mono ?_); rintro e w9 ⟨rfl, h9⟩)
    | (go_at_call 11; (with_reducible refine (HS'.out _).mono ?_); rintro e wA ⟨y, c, rfl, cy, hbA⟩; have hA := h9.next HC.out hbA; have hyl := World.block_lt_of_cell? _ _ cy)
    | (go_at_call 13; (with_reducible refine (HU'.out _).mono ?_); rintro e wB ⟨z, cz, rfl, dz, hbB⟩; have hB := hA.next HC.out hbB; have hzl := World.block_lt_of_cell? _ _ dz)
    | (go_at_call 15; (with_reducible refine (HV.out _).mono ?_); rintro e wC ⟨rfl, hbC⟩; have hC := hB.next HC.out hbC; obtain ⟨ow, hrC, _, _⟩ := id hC; have hln := HC.out.len (by decide) _ hrC)
    | (go_at_call 26; (with_reducible refine hln.mono ?_); rintro e wD ⟨rfl, hbD⟩; have hD := hC.next HC.out hbD; have cyD : wD.cell? y = some (.string S4) := ((Below_next (Below_next hbB hbC) hbD).cell hyl).trans cy)
    | (go_at_call 18; (with_reducible refine (HJ.out _).mono ?_); rintro e wE ⟨rfl, hbE⟩; have hbD2 := (Below.refl wD.heap.size wD).alloc (Nat.le_refl _) (.cells #[.string ⟨#[97]⟩] 9); have hE := (hD.next HC.out hbD2).next HC.out hbE)
    | (go_at_call 20; (with_reducible refine (HF.out _).mono ?_); rintro e wF ⟨rfl, hbF⟩; have hbE2 := (Below.refl wE.heap.size wE).alloc (Nat.le_refl _) (.cells #[.string ⟨#[46, 97]⟩] 9); have hF := (hE.next HC.out hbE2).next HC.out hbF; have dzF : wF.cell? z = some (.string S5) := ((Below_next (Below_next (Below_next (Below_next (Below_next hbC hbD) hbD2) hbE) hbE2) hbF).cell hzl).trans dz))
  go_ret
  exact ⟨rfl, hF.bel⟩
end
end Go.Proofs.Ytmpchbhimfjomaa
