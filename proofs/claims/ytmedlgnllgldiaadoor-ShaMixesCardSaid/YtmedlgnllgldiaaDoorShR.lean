/- Contracts of the document's own answers of layer 2: the small ones. -/
import Derived.Test.YtmedlgnllgldiaaDoorSh11
import Derived.Test.YtmedlgnllgldiaaDoorOctR
namespace Go.Proofs.YtmedlgnllgldiaaDoor
open Go.RowKit

set_option maxHeartbeats 400000 in
theorem rfirst_any (w : World) :
    Calls Tryd.prog 29 #[] w fun e w' => (∃ g, e = .returned (.slice (some ⟨g, 0, none⟩) 8 8) ∧ w.heap.size ≤ g ∧ Arr w' g firstS.cells 43) ∧ Below w.heap.size w w' := by
  go_enter Tryd.func29, Tryd.ntmps29
  go_wp2
  go_ret
  exact ⟨⟨w.heap.size, rfl, Nat.le_refl _, Arr.new w firstS.cells _⟩, (Below.refl _ _).alloc (Nat.le_refl _) _⟩

set_option maxHeartbeats 1000000 in
set_option maxRecDepth 100000 in
theorem rtable_any (w : World) :
    Calls Tryd.prog 50 #[] w fun e w' => (∃ g, e = .returned (.slice (some ⟨g, 0, none⟩) 64 64) ∧ w.heap.size ≤ g ∧ Arr w' g (u32s tabL).toArray 43) ∧ Below w.heap.size w w' := by
  go_enter Tryd.func50, Tryd.ntmps50
  go_wp2
  go_ret
  exact ⟨⟨w.heap.size, rfl, Nat.le_refl _, Arr.new w (u32s tabL).toArray _⟩, (Below.refl _ _).alloc (Nat.le_refl _) _⟩

theorem rchoice_any (e f g : Nat) (he : e < 4294967296) (hf : f < 4294967296) (hg : g < 4294967296) (w : World) :
    Calls Tryd.prog 51 #[.int .u32 e, .int .u32 f, .int .u32 g] w fun r w' => r = .returned (.int .u32 (cho e f g : Nat)) ∧ w = w' := by
  have q1 : bits .and .u32 (e : Int) (f : Int) = ((e &&& f : Nat) : Int) := u32_and_nat e f he hf
  have q2 : bits .and .u32 ((4294967295 - e : Nat) : Int) (g : Int) = (((4294967295 - e) &&& g : Nat) : Int) := u32_and_nat _ g (by omega) hg
  have q3 : bits .or .u32 ((e &&& f : Nat) : Int) (((4294967295 - e) &&& g : Nat) : Int) = ((cho e f g : Nat) : Int) := or32 _ _ (Nat.and_lt_two_pow (n := 32) _ hf) (Nat.and_lt_two_pow (n := 32) _ hg)
  have q0 : (4294967295 : Int) - (e : Int) = ((4294967295 - e : Nat) : Int) := by omega
  have hei : (e : Int) ≤ 4294967295 := by omega
  have Q0 := Lib.hid q0
  have Q2 := Lib.hid q2
  have Q3 := Lib.hid q3
  clear q0 q2 q3 he hf hg
  go_enter Tryd.func51, Tryd.ntmps51
  go_wp2
  go_ret
  refine ⟨ret_int ?_, rfl⟩
  rw [Q0.out, Q2.out]
  exact Q3.out

theorem mst_eq (a b c : Nat) : (a &&& b) ||| (b &&& c) ||| (a &&& c) = mst a b c := by
  rw [mst, Nat.or_assoc, Nat.or_comm (b &&& c), ← Nat.or_assoc]
theorem rmost_any (a b c : Nat) (ha : a < 4294967296) (hb : b < 4294967296) (hc : c < 4294967296) (w : World) :
    Calls Tryd.prog 52 #[.int .u32 a, .int .u32 b, .int .u32 c] w fun r w' => r = .returned (.int .u32 (mst a b c : Nat)) ∧ w = w' := by
  have q1 : bits .and .u32 (a : Int) (b : Int) = ((a &&& b : Nat) : Int) := u32_and_nat a b ha hb
  have q2 : bits .and .u32 (b : Int) (c : Int) = ((b &&& c : Nat) : Int) := u32_and_nat b c hb hc
  have q3 : bits .and .u32 (a : Int) (c : Int) = ((a &&& c : Nat) : Int) := u32_and_nat a c ha hc
  have q4 := or32 (a &&& b) (b &&& c) (Nat.and_lt_two_pow (n := 32) _ hb) (Nat.and_lt_two_pow (n := 32) _ hc)
  have q5 : bits .or .u32 ((a &&& b ||| b &&& c : Nat) : Int) ((a &&& c : Nat) : Int) = ((mst a b c : Nat) : Int) := by
    rw [← mst_eq]; exact or32 _ _ (Nat.or_lt_two_pow (n := 32) (Nat.and_lt_two_pow (n := 32) _ hb) (Nat.and_lt_two_pow (n := 32) _ hc)) (Nat.and_lt_two_pow (n := 32) _ hc)
  clear ha hb hc
  go_enter Tryd.func52, Tryd.ntmps52
  go_wp2
  go_ret
  exact ⟨rfl, rfl⟩

/-- A word turned right by a number below 32, by the document's own answer. -/
theorem rright_c (n : Int) (k : Nat) (hn : (n % 32).toNat = k) (h0 : -9223372036854775808 ≤ n) (h1 : n ≤ 9223372036854775807) (x : Nat) (hx : Hid (x < 4294967296)) (w : World) :
    Calls Tryd.prog 49 #[.int .u32 x, .int .i64 n] w fun e w' => e = .returned (.int .u32 (rotr x k : Nat)) ∧ w = w' := by
  subst hn
  exact rright_any x hx.out n h0 h1 w

theorem rep_snoc (k : Nat) : (128 : UInt8) :: List.replicate (k + 1) 0 = (128 :: List.replicate k 0) ++ [0] := by rw [List.replicate_succ']; rfl
theorem pad_more (n k : Nat) (h : k < padZ n) : (n % 64 + (k + 1)) % 64 ≠ 56 := by unfold padZ at h; omega
theorem pad_done (n : Nat) : (n % 64 + (padZ n + 1)) % 64 = 56 := by unfold padZ; omega

set_option maxHeartbeats 400000 in
theorem rpad_any (n : Nat) (hn : n < 18446744073709551616) (w : World) :
    Calls Tryd.prog 32 #[.int .u64 n] w fun e w' => e = .returned (.string ⟨(padL n).toArray⟩) ∧ Below w.heap.size w w' := by
  have h8 := rhigh_any (8 * n % 18446744073709551616) (Nat.mod_lt _ (by decide)) 8
  have e8 : ((8 * n % 18446744073709551616 : Nat) : Int) = IntKind.u64.wrap (8 * (n : Int)) := by rw [IntKind.wrap_u64]; omega
  rw [e8, show toldN 8 = 8 from rfl] at h8
  obtain ⟨X, hX⟩ : ∃ X : ByteArray, X = ⟨(lowL (8 * n % 18446744073709551616) 8).reverse.toArray⟩ := ⟨_, rfl⟩
  have hX8 : X.size = 8 := highB_size _ 8 X hX
  rw [← hX] at h8
  have H8 := Lib.hid h8
  have HX8 := Lib.hid hX8
  have hz := padZ_lt n
  have HX := Lib.hid hX
  have HZ := Lib.hid (show padL n = 128 :: (List.replicate (padZ n) 0 ++ (lowL (8 * n % 18446744073709551616) 8).reverse) from rfl)
  have HM := Lib.hid (pad_more n)
  have HD := Lib.hid (pad_done n)
  have t1 : (n : Int).tmod 64 = (n : Int) % 64 := Int.tmod_eq_emod_of_nonneg (by omega)
  clear h8 e8 hn hX hX8
  go_enter Tryd.func32, Tryd.ntmps32
  go_wp2_with fail
  go_loop [3] (fun x => ∃ k : Nat, k ≤ padZ n ∧ ∃ B : ByteArray, x = .string B ∧ B = ⟨(128 :: List.replicate k (0 : UInt8)).toArray⟩) (fun x => match x with | .string b => 100 - b.size | _ => 0)
  case atStart => exact ⟨0, by omega, _, rfl, rfl⟩
  case round =>
    obtain ⟨k, hk, B, rfl, hB⟩ := hrel
    have hBs : B.size = k + 1 := by rw [hB]; show ((128 : UInt8) :: List.replicate k 0).toArray.size = _; simp
    have hn64 : n % 64 < 64 := Nat.mod_lt _ (by decide)
    have t2 : IntKind.u64.wrap (B.size : Int) = (B.size : Int) := by rw [IntKind.wrap_u64]; omega
    have t3 : IntKind.u64.wrap ((n : Int) % 64 + (B.size : Int)) = (n : Int) % 64 + (B.size : Int) := by rw [IntKind.wrap_u64]; omega
    have t4 : ((n : Int) % 64 + (B.size : Int)).tmod 64 = ((n : Int) % 64 + (B.size : Int)) % 64 := Int.tmod_eq_emod_of_nonneg (by omega)
    by_cases hlt : k < padZ n
    · have hne : ¬ ((n : Int) % 64 + (B.size : Int)) % 64 = 56 := by have := HM.out k hlt; omega
      have hneb : (((n : Int) % 64 + (B.size : Int)) % 64 != 56) = true := by simpa using hne
      have hrun : ∀ w : World, (Op.stringOp .add B ⟨#[0]⟩).run Tryd.prog w = .ok (.string (B ++ ⟨#[0]⟩)) w := fun w => cat_run B ⟨#[0]⟩ (by show B.size + 1 ≤ _; omega) w
      obtain ⟨C, hC⟩ : ∃ C, C = B ++ (⟨#[0]⟩ : ByteArray) := ⟨_, rfl⟩
      rw [← hC] at hrun
      have hC2 : C = ⟨(128 :: List.replicate (k + 1) (0 : UInt8)).toArray⟩ := by rw [hC, hB, rep_snoc]; apply ByteArray.ext; simp
      have hCs : C.size = B.size + 1 := by rw [hC, ByteArray.size_append]; rfl
      have HC2 := Lib.hid hC2
      have HCs := Lib.hid hCs
      have HBs := Lib.hid hBs
      clear hC hC2 hCs hB hBs hne
      go_wp2_with fail
      go_round
      case rel => exact ⟨k + 1, hlt, C, rfl, HC2.out⟩
      case measure => have h1 := HCs.out; have h2 := HBs.out; simp; omega
    · obtain rfl : k = padZ n := by omega
      have hd : ((n : Int) % 64 + (B.size : Int)) % 64 = 56 := by have := HD.out; omega
      have hdb : (((n : Int) % 64 + (B.size : Int)) % 64 != 56) = false := by simpa using hd
      have hrun : ∀ w : World, (Op.stringOp .add B X).run Tryd.prog w = .ok (.string (B ++ X)) w := fun w => cat_run B X (by rw [HX8.out]; omega) w
      obtain ⟨C, hC⟩ : ∃ C, C = B ++ X := ⟨_, rfl⟩
      rw [← hC] at hrun
      have hC2 : C = ⟨(padL n).toArray⟩ := by rw [hC, hB, HZ.out, HX.out]; apply ByteArray.ext; simp
      have HC2 := Lib.hid hC2
      clear hC hC2 hBs hB
      go_wp2_with (go_at_call 44; (with_reducible refine (H8.out _).mono ?_); rintro e w2 ⟨rfl, hb2⟩)
      go_ret
      exact ⟨by rw [HC2.out]; rfl, hb2⟩
end Go.Proofs.YtmedlgnllgldiaaDoor
