/- sha: the contract of mix. -/
import Derived.Test.YtmedlgnllgldiaaDoorSh3
namespace Go.Proofs.YtmedlgnllgldiaaDoor
open Go.RowKit

theorem not32 (x : Nat) (h : x < 4294967296) : 4294967295 ^^^ x = 4294967295 - x := by
  have h1 : (BitVec.allOnes 32 ^^^ BitVec.ofNat 32 x).toNat = (~~~ (BitVec.ofNat 32 x)).toNat := by rw [BitVec.allOnes_xor]
  rw [BitVec.toNat_xor, BitVec.toNat_not, BitVec.toNat_ofNat, Nat.mod_eq_of_lt (by omega)] at h1
  exact h1
theorem notu32 (x : Nat) (h : x < 4294967296) : bits .xor .u32 IntKind.u32.max (x : Int) = ((4294967295 - x : Nat) : Int) := by
  rw [← not32 x h]; exact xor32 4294967295 x (by decide) h
theorem sum5 (a b c d e : Nat) : ((a : Int) + (b : Int) + (c : Int) + (d : Int) + (e : Int)) % 4294967296 = (((a + b + c + d + e) % 4294967296 : Nat) : Int) := by omega
theorem sum2 (a b : Nat) : ((a : Int) + (b : Int)) % 4294967296 = (((a + b) % 4294967296 : Nat) : Int) := by omega

/-- What the memory is ahead of round k: the state that came in, the result's place, the block's numbers, the table. -/
def RelM (s : S8) (W : List Nat) (w : World) (g : Nat) (_ : Nat) (wr : World) : Prop :=
  Arr wr w.heap.size s.cells 45 ∧ Arr wr (w.heap.size + 1) #[.int .u32 0, .int .u32 0, .int .u32 0, .int .u32 0, .int .u32 0, .int .u32 0, .int .u32 0, .int .u32 0] 45 ∧ Arr wr g (rowW W) 90 ∧ Tab wr ∧ Below w.heap.size w wr
theorem RelM.drewN {s : S8} {W : List Nat} {w : World} {g k : Nat} {wr : World} (h : RelM s W w g k wr) (n : Nat) : RelM s W w g k (wr.drewN n) :=
  ⟨h.1.drewN _, h.2.1.drewN _, h.2.2.1.drewN _, h.2.2.2.1.drewN _, Below_drewN h.2.2.2.2 _⟩
theorem val_addS (s t : S8) : Value.agg (addS s t).cells = .agg #[.int .u32 (((s.a : Int) + (t.a : Int)) % 4294967296), .int .u32 (((s.b : Int) + (t.b : Int)) % 4294967296), .int .u32 (((s.c : Int) + (t.c : Int)) % 4294967296), .int .u32 (((s.d : Int) + (t.d : Int)) % 4294967296), .int .u32 (((s.e : Int) + (t.e : Int)) % 4294967296), .int .u32 (((s.f : Int) + (t.f : Int)) % 4294967296), .int .u32 (((s.g : Int) + (t.g : Int)) % 4294967296), .int .u32 (((s.h : Int) + (t.h : Int)) % 4294967296)] := by
  unfold S8.cells addS
  simp only [sum2]
def AtS (s : S8) (a b c d e f g h : Value) : Prop :=
  a = .int .u32 (s.a : Int) ∧ b = .int .u32 (s.b : Int) ∧ c = .int .u32 (s.c : Int) ∧ d = .int .u32 (s.d : Int) ∧ e = .int .u32 (s.e : Int) ∧ f = .int .u32 (s.f : Int) ∧ g = .int .u32 (s.g : Int) ∧ h = .int .u32 (s.h : Int)

set_option maxHeartbeats 4000000 in
set_option maxRecDepth 100000 in
theorem mix_any (s : S8) (hs : s.ok) (t : ByteArray) (ht : t.size = 64) (w : World) (htab : Tab w) :
    Calls Tryd.prog 47 #[.agg s.cells, .string t] w fun e w' => e = .returned (.agg (mixS s t.data.toList).cells) ∧ Below w.heap.size w w' := by
  have HC := Lib.hid (numbers_any t ht)
  have HZ := Lib.hid (rowW_size (wL t.data.toList 64) (by rw [wL_len]; exact Nat.le_refl _))
  have HO := Lib.hid (one_rowW (wL t.data.toList 64))
  obtain ⟨W, hW⟩ : ∃ W, W = wL t.data.toList 64 := ⟨_, rfl⟩
  have HWl : Hid (W.length = 64) := by rw [hW]; exact wL_len _ _
  have HWx : Hid (∀ k, W.getD k 0 < 4294967296) := fun k => by rw [hW]; exact wL_getD_lt _ _ _
  have HM : Hid (mixS s t.data.toList = addS s (rndsN s W 64)) := by rw [hW]; rfl
  rw [← hW] at HC HZ HO
  clear hW ht
  have HT := Lib.hid htab
  clear htab
  go_enter Tryd.func47, Tryd.ntmps47
  go_wp2_with (first
    | (go_at_call 62; ((with_reducible refine (HC.out _).mono ?_); rintro e w' ⟨rfl, hb⟩))
    | (with_reducible refine wpList_store64_new rfl _ _ rfl _ (by simp) rfl _ rfl HZ.out HO.out ?_))
  simp only [Act.put]
  have hA := Lib.hid ((((Arr.new w s.cells 45).alloc _).next hb).alloc (.cells (rowW W) 90))
  have hZ := Lib.hid (((Arr.newAt (w.alloc (.cells s.cells 45)) (g := w.heap.size + 1) _ 45 (by simp)).next hb).alloc (.cells (rowW W) 90))
  have hR := Lib.hid (Arr.new w' (rowW W) 90)
  have hT := Lib.hid ((((HT.out.alloc _).alloc _).next hb).alloc (.cells (rowW W) 90))
  have hG : w.heap.size + 2 ≤ w'.heap.size := by have := hb.size; simp at this; omega
  have hB := Lib.hid (((((Below.refl w.heap.size w).alloc (Nat.le_refl _) _).alloc (by simp) _).trans (hb.mono (by simp; omega))).alloc (by omega) (.cells (rowW W) 90))
  obtain ⟨g, hg⟩ : ∃ g, w'.heap.size = g := ⟨_, rfl⟩
  rw [hg] at hR hG ⊢
  generalize w'.alloc (.cells (rowW W) 90) = w1 at *
  clear hb hg HT
  have c0 : w1.cell? ⟨w.heap.size, 0, none⟩ = some (.int .u32 (s.a : Int)) := hA.out.cell (j := 0) rfl
  have c1 : w1.cell? ⟨w.heap.size, 1, none⟩ = some (.int .u32 (s.b : Int)) := hA.out.cell (j := 1) rfl
  have c2 : w1.cell? ⟨w.heap.size, 2, none⟩ = some (.int .u32 (s.c : Int)) := hA.out.cell (j := 2) rfl
  have c3 : w1.cell? ⟨w.heap.size, 3, none⟩ = some (.int .u32 (s.d : Int)) := hA.out.cell (j := 3) rfl
  have c4 : w1.cell? ⟨w.heap.size, 4, none⟩ = some (.int .u32 (s.e : Int)) := hA.out.cell (j := 4) rfl
  have c5 : w1.cell? ⟨w.heap.size, 5, none⟩ = some (.int .u32 (s.f : Int)) := hA.out.cell (j := 5) rfl
  have c6 : w1.cell? ⟨w.heap.size, 6, none⟩ = some (.int .u32 (s.g : Int)) := hA.out.cell (j := 6) rfl
  have c7 : w1.cell? ⟨w.heap.size, 7, none⟩ = some (.int .u32 (s.h : Int)) := hA.out.cell (j := 7) rfl
  go_quiet (fail)
  go_wp2
  have hrel0 : RelM s W w g 0 (w1.drewN nq) := ⟨hA.out.drewN _, hZ.out.drewN _, hR.out.drewN _, hT.out.drewN _, Below_drewN hB.out _⟩
  clear c0 c1 c2 c3 c4 c5 c6 c7 hA hZ hR hT hB
  have HR0 := Lib.hid hrel0
  clear hrel0
  go_loopw [6, 7, 8, 9, 10, 11, 12, 13, 39] (fun a b c d e f g' h i wr => ∃ k : Nat, k ≤ 64 ∧ i = .int .i64 k ∧ AtS (rndsN s W k) a b c d e f g' h ∧ RelM s W w g k wr) (fun _ _ _ _ _ _ _ _ i _ => 64 - (intOf i).toNat)
  case atStart => exact ⟨0, by omega, rfl, ⟨rfl, rfl, rfl, rfl, rfl, rfl, rfl, rfl⟩, HR0.out⟩
  case round =>
    clear HR0
    obtain ⟨k, hk, rfl, ⟨rfl, rfl, rfl, rfl, rfl, rfl, rfl, rfl⟩, hrel⟩ := hrel
    by_cases hlt : k < 64
    · have hok := rndsN_ok hs W k
      have HS := Lib.hid (rndsN_succ s W k)
      have ct := hrel.2.2.2.1 k hlt
      have cw := hrel.2.2.1.cell (rowW_get W k (by rw [HWl.out]; exact hlt))
      have HR := Lib.hid hrel
      clear hrel
      generalize rndsN s W k = S at *
      obtain ⟨A, B, C, D, E, F, G, H⟩ := S
      obtain ⟨hA, hB, hC, hD, hE, hF, hG', hH⟩ := hok
      simp only at hA hB hC hD hE hF hG' hH ⊢
      generalize W.getD k 0 = wk at *
      generalize tabN k = tk at *
      have HA := Lib.hid hA
      have HE := Lib.hid hE
      have q1 := xor32 _ _ (rotr_lt hE 6) (rotr_lt hE 11)
      have q2 : bits .xor .u32 ((rotr E 6 ^^^ rotr E 11 : Nat) : Int) ((rotr E 25 : Nat) : Int) = ((sh1 E : Nat) : Int) := xor32 _ _ (Nat.xor_lt_two_pow (n := 32) (rotr_lt hE 6) (rotr_lt hE 11)) (rotr_lt hE 25)
      have q3 := xor32 _ _ (rotr_lt hA 2) (rotr_lt hA 13)
      have q4 : bits .xor .u32 ((rotr A 2 ^^^ rotr A 13 : Nat) : Int) ((rotr A 22 : Nat) : Int) = ((sh0 A : Nat) : Int) := xor32 _ _ (Nat.xor_lt_two_pow (n := 32) (rotr_lt hA 2) (rotr_lt hA 13)) (rotr_lt hA 22)
      have q5 : bits .and .u32 (E : Int) (F : Int) = ((E &&& F : Nat) : Int) := u32_and_nat E F hE hF
      have q6 : bits .and .u32 (A : Int) (B : Int) = ((A &&& B : Nat) : Int) := u32_and_nat A B hA hB
      have q7 : bits .and .u32 (A : Int) (C : Int) = ((A &&& C : Nat) : Int) := u32_and_nat A C hA hC
      have q8 : bits .and .u32 (B : Int) (C : Int) = ((B &&& C : Nat) : Int) := u32_and_nat B C hB hC
      have q9 := or32 (A &&& B) (A &&& C) (Nat.and_lt_two_pow (n := 32) _ hB) (Nat.and_lt_two_pow (n := 32) _ hC)
      have q10 : bits .or .u32 (((A &&& B) ||| (A &&& C) : Nat) : Int) ((B &&& C : Nat) : Int) = ((mst A B C : Nat) : Int) := or32 _ _ (Nat.or_lt_two_pow (n := 32) (Nat.and_lt_two_pow (n := 32) _ hB) (Nat.and_lt_two_pow (n := 32) _ hC)) (Nat.and_lt_two_pow (n := 32) _ hC)
      have q11 := notu32 E hE
      have q12 : bits .and .u32 ((4294967295 - E : Nat) : Int) (G : Int) = (((4294967295 - E) &&& G : Nat) : Int) := u32_and_nat _ G (by omega) hG'
      have q13 : bits .or .u32 ((E &&& F : Nat) : Int) (((4294967295 - E) &&& G : Nat) : Int) = ((cho E F G : Nat) : Int) := or32 _ _ (Nat.and_lt_two_pow (n := 32) _ hF) (Nat.and_lt_two_pow (n := 32) _ hG')
      obtain ⟨P, hP⟩ : ∃ P, P = (H + sh1 E + cho E F G + tk + wk) % 4294967296 := ⟨_, rfl⟩
      obtain ⟨Q, hQ⟩ : ∃ Q, Q = (sh0 A + mst A B C) % 4294967296 := ⟨_, rfl⟩
      obtain ⟨PQ, hPQ⟩ : ∃ PQ, PQ = (P + Q) % 4294967296 := ⟨_, rfl⟩
      obtain ⟨DP, hDP⟩ : ∃ DP, DP = (D + P) % 4294967296 := ⟨_, rfl⟩
      have hrnd : rnd ⟨A, B, C, D, E, F, G, H⟩ tk wk = ⟨PQ, A, B, C, DP, E, F, G⟩ := by rw [hPQ, hDP, hP, hQ]; rfl
      have q14 : (((H : Int) + ((sh1 E : Nat) : Int) + ((cho E F G : Nat) : Int) + (tk : Int)) % 4294967296 + (wk : Int)) % 4294967296 = (P : Int) := by rw [hP]; omega
      have q14' : ((H : Int) + ((sh1 E : Nat) : Int) + ((cho E F G : Nat) : Int) + (tk : Int) + (wk : Int)) % 4294967296 = (P : Int) := by rw [hP]; omega
      have q15 : (((sh0 A : Nat) : Int) + ((mst A B C : Nat) : Int)) % 4294967296 = (Q : Int) := by rw [hQ]; omega
      have q16 : ((P : Int) + (Q : Int)) % 4294967296 = (PQ : Int) := by rw [hPQ]; omega
      have q17 : ((D : Int) + (P : Int)) % 4294967296 = (DP : Int) := by rw [hDP]; omega
      rw [hrnd] at HS
      clear hP hQ hPQ hDP hrnd
      clear hA hB hC hD hE hF hG' hH
      go_wp2_with (go_at_call 63; (first | (with_reducible refine (right_c 6 6 rfl _ HE _).mono ?_) | (with_reducible refine (right_c 11 11 rfl _ HE _).mono ?_) | (with_reducible refine (right_c 25 25 rfl _ HE _).mono ?_) | (with_reducible refine (right_c 2 2 rfl _ HA _).mono ?_) | (with_reducible refine (right_c 13 13 rfl _ HA _).mono ?_) | (with_reducible refine (right_c 22 22 rfl _ HA _).mono ?_)); rintro e w' ⟨rfl, rfl⟩)
      go_quiet (fail)
      have HR2 := Lib.hid (HR.out.drewN nq)
      clear ct cw HR
      generalize wr.drewN nq = w2 at *
      go_wp2_with (go_at_call 63; (first | (with_reducible refine (right_c 6 6 rfl _ HE _).mono ?_) | (with_reducible refine (right_c 11 11 rfl _ HE _).mono ?_) | (with_reducible refine (right_c 25 25 rfl _ HE _).mono ?_) | (with_reducible refine (right_c 2 2 rfl _ HA _).mono ?_) | (with_reducible refine (right_c 13 13 rfl _ HA _).mono ?_) | (with_reducible refine (right_c 22 22 rfl _ HA _).mono ?_)); rintro e w' ⟨rfl, rfl⟩)
      go_roundw
      case rel => exact ⟨k + 1, by omega, by go_num, by rw [HS.out, q16, q17]; exact ⟨rfl, rfl, rfl, rfl, rfl, rfl, rfl, rfl⟩, HR2.out⟩
      case measure => simp [intOf]; omega
    · have hk64 : k = 64 := by omega
      rw [hk64] at hrel
      have HS64 : Hid (rndsN s W k = rndsN s W 64) := by rw [hk64]; rfl
      have hk3 : 64 ≤ k := by omega
      clear hk64
      have HR := Lib.hid hrel
      have hA := hrel.1
      clear hrel
      have c0 : wr.cell? ⟨w.heap.size, 0, none⟩ = some (.int .u32 (s.a : Int)) := hA.cell (j := 0) rfl
      have c1 : wr.cell? ⟨w.heap.size, 1, none⟩ = some (.int .u32 (s.b : Int)) := hA.cell (j := 1) rfl
      have c2 : wr.cell? ⟨w.heap.size, 2, none⟩ = some (.int .u32 (s.c : Int)) := hA.cell (j := 2) rfl
      have c3 : wr.cell? ⟨w.heap.size, 3, none⟩ = some (.int .u32 (s.d : Int)) := hA.cell (j := 3) rfl
      have c4 : wr.cell? ⟨w.heap.size, 4, none⟩ = some (.int .u32 (s.e : Int)) := hA.cell (j := 4) rfl
      have c5 : wr.cell? ⟨w.heap.size, 5, none⟩ = some (.int .u32 (s.f : Int)) := hA.cell (j := 5) rfl
      have c6 : wr.cell? ⟨w.heap.size, 6, none⟩ = some (.int .u32 (s.g : Int)) := hA.cell (j := 6) rfl
      have c7 : wr.cell? ⟨w.heap.size, 7, none⟩ = some (.int .u32 (s.h : Int)) := hA.cell (j := 7) rfl
      clear hA
      generalize rndsN s W k = S at *
      have HZ := Lib.hid HR.out.2.1
      have HV := Lib.hid (val_addS s S)
      go_wp2_with (with_reducible refine wpList_store8 rfl _ _ rfl (w.heap.size + 1) rfl _ rfl (by simp) (by simp [Value.oneCell']) _ (by simp) HZ.out ?_)
      refine ret_s8 Tryd.results47 (w.heap.size + 1) _ (by simp) rfl (HZ.out.row _) rfl ⟨?_, below_setRow HR.out.2.2.2.2 (by omega) _⟩
      rw [HM.out, ← HS64.out]
      exact congrArg _ HV.out.symm
end Go.Proofs.YtmedlgnllgldiaaDoor
