/- Contracts of the document's own answers of layer 2: the small ones. The document's own Mix of layer 2: rows of numbers that are built by append. The document's own Sum of layer 2. -/
import Derived.Test.YtfflpooiebeagaaGreatDoorMA
import Derived.Test.YtfflpooiebeagaaGreatDoorM1
import Derived.Test.YtfflpooiebeagaaGreatDoorM9
import Derived.Deep.RegionLaw
import Derived.Deep.DeepCutAuto
import Derived.StillTailTactics
import Derived.Deep.QuietTactic
import Derived.BigQuiet
namespace Go.Proofs.YtfflpooiebeagaaGreatDoor
open Go.RowKit

set_option maxHeartbeats 400000 in
theorem rfirst_any (w : World) :
    Calls Tryz.prog 97 #[] w fun e w' => (∃ g, e = .returned (.slice (some ⟨g, 0, none⟩) 8 8) ∧ w.heap.size ≤ g ∧ Arr w' g firstS.cells 60) ∧ Below w.heap.size w w' := by
  go_enter Tryz.func97, Tryz.ntmps97
  go_wp2
  go_ret
  exact ⟨⟨w.heap.size, rfl, Nat.le_refl _, Arr.new w firstS.cells _⟩, (Below.refl _ _).alloc (Nat.le_refl _) _⟩

set_option maxHeartbeats 1000000 in
set_option maxRecDepth 100000 in
theorem rtable_any (w : World) :
    Calls Tryz.prog 112 #[] w fun e w' => (∃ g, e = .returned (.slice (some ⟨g, 0, none⟩) 64 64) ∧ w.heap.size ≤ g ∧ Arr w' g (u32s tabL).toArray 60) ∧ Below w.heap.size w w' := by
  go_enter Tryz.func112, Tryz.ntmps112
  go_wp2
  go_ret
  exact ⟨⟨w.heap.size, rfl, Nat.le_refl _, Arr.new w (u32s tabL).toArray _⟩, (Below.refl _ _).alloc (Nat.le_refl _) _⟩

theorem rchoice_any (e f g : Nat) (he : e < 4294967296) (hf : f < 4294967296) (hg : g < 4294967296) (w : World) :
    Calls Tryz.prog 113 #[.int .u32 e, .int .u32 f, .int .u32 g] w fun r w' => r = .returned (.int .u32 (cho e f g : Nat)) ∧ w = w' := by
  have q1 : bits .and .u32 (e : Int) (f : Int) = ((e &&& f : Nat) : Int) := u32_and_nat e f he hf
  have q2 : bits .and .u32 ((4294967295 - e : Nat) : Int) (g : Int) = (((4294967295 - e) &&& g : Nat) : Int) := u32_and_nat _ g (by omega) hg
  have q3 : bits .or .u32 ((e &&& f : Nat) : Int) (((4294967295 - e) &&& g : Nat) : Int) = ((cho e f g : Nat) : Int) := or32 _ _ (Nat.and_lt_two_pow (n := 32) _ hf) (Nat.and_lt_two_pow (n := 32) _ hg)
  have q0 : (4294967295 : Int) - (e : Int) = ((4294967295 - e : Nat) : Int) := by omega
  have hei : (e : Int) ≤ 4294967295 := by omega
  have Q0 := Lib.hid q0
  have Q2 := Lib.hid q2
  have Q3 := Lib.hid q3
  clear q0 q2 q3 he hf hg
  go_enter Tryz.func113, Tryz.ntmps113
  go_wp2
  go_ret
  refine ⟨ret_int ?_, rfl⟩
  rw [Q0.out, Q2.out]
  exact Q3.out

theorem mst_eq (a b c : Nat) : (a &&& b) ||| (b &&& c) ||| (a &&& c) = mst a b c := by
  rw [mst, Nat.or_assoc, Nat.or_comm (b &&& c), ← Nat.or_assoc]
theorem rmost_any (a b c : Nat) (ha : a < 4294967296) (hb : b < 4294967296) (hc : c < 4294967296) (w : World) :
    Calls Tryz.prog 114 #[.int .u32 a, .int .u32 b, .int .u32 c] w fun r w' => r = .returned (.int .u32 (mst a b c : Nat)) ∧ w = w' := by
  have q1 : bits .and .u32 (a : Int) (b : Int) = ((a &&& b : Nat) : Int) := u32_and_nat a b ha hb
  have q2 : bits .and .u32 (b : Int) (c : Int) = ((b &&& c : Nat) : Int) := u32_and_nat b c hb hc
  have q3 : bits .and .u32 (a : Int) (c : Int) = ((a &&& c : Nat) : Int) := u32_and_nat a c ha hc
  have q4 := or32 (a &&& b) (b &&& c) (Nat.and_lt_two_pow (n := 32) _ hb) (Nat.and_lt_two_pow (n := 32) _ hc)
  have q5 : bits .or .u32 ((a &&& b ||| b &&& c : Nat) : Int) ((a &&& c : Nat) : Int) = ((mst a b c : Nat) : Int) := by
    rw [← mst_eq]; exact or32 _ _ (Nat.or_lt_two_pow (n := 32) (Nat.and_lt_two_pow (n := 32) _ hb) (Nat.and_lt_two_pow (n := 32) _ hc)) (Nat.and_lt_two_pow (n := 32) _ hc)
  clear ha hb hc
  go_enter Tryz.func114, Tryz.ntmps114
  go_wp2
  go_ret
  exact ⟨rfl, rfl⟩

/-- A word turned right by a number below 32, by the document's own answer. -/
theorem rright_c (n : Int) (k : Nat) (hn : (n % 32).toNat = k) (h0 : -9223372036854775808 ≤ n) (h1 : n ≤ 9223372036854775807) (x : Nat) (hx : Hid (x < 4294967296)) (w : World) :
    Calls Tryz.prog 111 #[.int .u32 x, .int .i64 n] w fun e w' => e = .returned (.int .u32 (rotr x k : Nat)) ∧ w = w' := by
  subst hn
  exact rright_any x hx.out n h0 h1 w

theorem rep_snoc (k : Nat) : (128 : UInt8) :: List.replicate (k + 1) 0 = (128 :: List.replicate k 0) ++ [0] := by rw [List.replicate_succ']; rfl
theorem pad_more (n k : Nat) (h : k < padZ n) : (n % 64 + (k + 1)) % 64 ≠ 56 := by unfold padZ at h; omega
theorem pad_done (n : Nat) : (n % 64 + (padZ n + 1)) % 64 = 56 := by unfold padZ; omega

set_option maxHeartbeats 400000 in
theorem rpad_any (n : Nat) (hn : n < 18446744073709551616) (w : World) :
    Calls Tryz.prog 96 #[.int .u64 n] w fun e w' => e = .returned (.string ⟨(padL n).toArray⟩) ∧ Below w.heap.size w w' := by
  have h8 := rhigh_any (8 * n % 18446744073709551616) (Nat.mod_lt _ (by decide)) 8
  have e8 : ((8 * n % 18446744073709551616 : Nat) : Int) = IntKind.u64.wrap (8 * (n : Int)) := by rw [IntKind.wrap_u64]; omega
  rw [e8, show toldN 8 = 8 from rfl] at h8
  obtain ⟨X, hX⟩ : ∃ X : ByteArray, X = ⟨(lowL (8 * n % 18446744073709551616) 8).reverse.toArray⟩ := ⟨_, rfl⟩
  have hX8 : X.size = 8 := highB_size _ 8 X hX
  rw [← hX] at h8
  have H8 := Lib.hid h8
  have HX8 := Lib.hid hX8
  have hz := padZ_lt n
  have HX := Lib.hid hX
  have HZ := Lib.hid (show padL n = 128 :: (List.replicate (padZ n) 0 ++ (lowL (8 * n % 18446744073709551616) 8).reverse) from rfl)
  have HM := Lib.hid (pad_more n)
  have HD := Lib.hid (pad_done n)
  have t1 : (n : Int).tmod 64 = (n : Int) % 64 := Int.tmod_eq_emod_of_nonneg (by omega)
  clear h8 e8 hn hX hX8
  go_enter Tryz.func96, Tryz.ntmps96
  go_wp2_with fail
  go_loop [3] (fun x => ∃ k : Nat, k ≤ padZ n ∧ ∃ B : ByteArray, x = .string B ∧ B = ⟨(128 :: List.replicate k (0 : UInt8)).toArray⟩) (fun x => match x with | .string b => 100 - b.size | _ => 0)
  case atStart => exact ⟨0, by omega, _, rfl, rfl⟩
  case round =>
    obtain ⟨k, hk, B, rfl, hB⟩ := hrel
    have hBs : B.size = k + 1 := by rw [hB]; show ((128 : UInt8) :: List.replicate k 0).toArray.size = _; simp
    have hn64 : n % 64 < 64 := Nat.mod_lt _ (by decide)
    have t2 : IntKind.u64.wrap (B.size : Int) = (B.size : Int) := by rw [IntKind.wrap_u64]; omega
    have t3 : IntKind.u64.wrap ((n : Int) % 64 + (B.size : Int)) = (n : Int) % 64 + (B.size : Int) := by rw [IntKind.wrap_u64]; omega
    have t4 : ((n : Int) % 64 + (B.size : Int)).tmod 64 = ((n : Int) % 64 + (B.size : Int)) % 64 := Int.tmod_eq_emod_of_nonneg (by omega)
    by_cases hlt : k < padZ n
    · have hne : ¬ ((n : Int) % 64 + (B.size : Int)) % 64 = 56 := by have := HM.out k hlt; omega
      have hneb : (((n : Int) % 64 + (B.size : Int)) % 64 != 56) = true := by simpa using hne
      have hrun : ∀ w : World, (Op.stringOp .add B ⟨#[0]⟩).run Tryz.prog w = .ok (.string (B ++ ⟨#[0]⟩)) w := fun w => cat_run B ⟨#[0]⟩ (by show B.size + 1 ≤ _; omega) w
      obtain ⟨C, hC⟩ : ∃ C, C = B ++ (⟨#[0]⟩ : ByteArray) := ⟨_, rfl⟩
      rw [← hC] at hrun
      have hC2 : C = ⟨(128 :: List.replicate (k + 1) (0 : UInt8)).toArray⟩ := by rw [hC, hB, rep_snoc]; apply ByteArray.ext; simp
      have hCs : C.size = B.size + 1 := by rw [hC, ByteArray.size_append]; rfl
      have HC2 := Lib.hid hC2
      have HCs := Lib.hid hCs
      have HBs := Lib.hid hBs
      clear hC hC2 hCs hB hBs hne
      go_wp2_with fail
      go_round
      case rel => exact ⟨k + 1, hlt, C, rfl, HC2.out⟩
      case measure => have h1 := HCs.out; have h2 := HBs.out; simp; omega
    · obtain rfl : k = padZ n := by omega
      have hd : ((n : Int) % 64 + (B.size : Int)) % 64 = 56 := by have := HD.out; omega
      have hdb : (((n : Int) % 64 + (B.size : Int)) % 64 != 56) = false := by simpa using hd
      have hrun : ∀ w : World, (Op.stringOp .add B X).run Tryz.prog w = .ok (.string (B ++ X)) w := fun w => cat_run B X (by rw [HX8.out]; omega) w
      obtain ⟨C, hC⟩ : ∃ C, C = B ++ X := ⟨_, rfl⟩
      rw [← hC] at hrun
      have hC2 : C = ⟨(padL n).toArray⟩ := by rw [hC, hB, HZ.out, HX.out]; apply ByteArray.ext; simp
      have HC2 := Lib.hid hC2
      clear hC hC2 hBs hB
      go_wp2_with (go_at_call 29; (with_reducible refine (H8.out _).mono ?_); rintro e w2 ⟨rfl, hb2⟩)
      go_ret
      exact ⟨by rw [HC2.out]; rfl, hb2⟩
end Go.Proofs.YtfflpooiebeagaaGreatDoor
namespace Go.Proofs.YtfflpooiebeagaaGreatDoor
open Go.RowKit

/-- What Mix's memory is while the rounds go on. -/
def RelR (ty : TypeId) (s : S8) (W : List Nat) (w : World) (g0 gt gw : Nat) (wr : World) : Prop :=
  Arr wr g0 s.cells ty ∧ (∀ j, j < 64 → wr.cell? ⟨gw, j, none⟩ = some (.int .u32 ((W.getD j 0 : Nat) : Int))) ∧ Arr wr gt (u32s tabL).toArray 60 ∧ Below w.heap.size w wr
theorem RelR.drewN {ty : TypeId} {s : S8} {W : List Nat} {w : World} {g0 gt gw : Nat} {wr : World} (h : RelR ty s W w g0 gt gw wr) (n : Nat) : RelR ty s W w g0 gt gw (wr.drewN n) :=
  ⟨h.1.drewN n, h.2.1, h.2.2.1.drewN n, Below_drewN h.2.2.2 n⟩
theorem same_quiet {f : FuncId} {args : Array Value} {w : World} {n : Nat} {v : Value} (h : Calls Tryz.prog f args (w.drewN n) fun e w' => e = .returned v ∧ w.drewN n = w') :
    Calls Tryz.prog f args (w.drewN n) fun e w'' => e = .returned v ∧ ∃ m, w'' = w.drewN m :=
  Calls.quiet_of_same (h.mono fun _ _ ⟨h, k⟩ => ⟨h, k.symm⟩)

set_option maxHeartbeats 4000000 in
set_option maxRecDepth 100000 in
theorem rmix_any {ty : TypeId} (s : S8) (hs : s.ok) (g0 : Nat) (blk : ByteArray) (hblk : blk.size = 64) (w : World) (hA : Arr w g0 s.cells ty) :
    Calls Tryz.prog 98 #[.slice (some ⟨g0, 0, none⟩) 8 8, .string blk] w fun e w' => (∃ g, e = .returned (.tuple #[.slice (some ⟨g, 0, none⟩) 8 8, .int .i64 0]) ∧ w.heap.size ≤ g ∧ Arr w' g (mixS s blk.data.toList).cells 60) ∧ Below w.heap.size w w' := by
  have hst := Ow.start w w.heap.size (Nat.le_refl _)
  have hbe := (Below.refl w.heap.size w).alloc (Nat.le_refl _) (.cells #[] 60)
  have HA := Lib.hid (hA.alloc (.cells #[] 60))
  have hg0 := hA.lt
  clear hA
  go_enter Tryz.func98, Tryz.ntmps98
  go_wp2_with fail
  go_loopw [6, 7] (fun v i wr => ∃ k : Nat, k ≤ 64 ∧ i = .int .i64 (k : Int) ∧ Ow wr w.heap.size v (wL blk.data.toList k) ∧ Arr wr g0 s.cells ty ∧ Below w.heap.size w wr) (fun _ i _ => 64 - (intOf i).toNat)
  case atStart => exact ⟨0, by omega, rfl, hst, HA.out, hbe⟩
  case round =>
    clear hst hbe HA
    obtain ⟨k, hk, rfl, hown, hA, hbel⟩ := hrel
    by_cases hlt : k < 16
    · have hj : IntKind.i64.wrap (4 * (k : Int)) = ((4 * k : Nat) : Int) := by rw [IntWalk.i64_in _ (by omega)]; omega
      have hj4 : IntKind.i64.wrap (4 * (k : Int) + 4) = ((4 * k + 4 : Nat) : Int) := by rw [IntWalk.i64_in _ (by omega)]; omega
      have hsl := fun w => slice_str blk (4 * (k : Int)) (4 * (k : Int) + 4) (4 * k) (4 * k + 4) (by omega) (by omega) (by omega) (by omega) w
      obtain ⟨B, hB⟩ : ∃ B, B = blk.extract (4 * k) (4 * k + 4) := ⟨_, rfl⟩
      have hBs : B.size = 4 := by rw [hB, ext_size _ _ _ (by omega)]; omega
      have hBn : numHigh B.data.toList = wFirst blk.data.toList k := by rw [hB, ext_toList, wFirst]; congr 2; omega
      rw [← hB] at hsl
      have hfh : ∀ w : World, Calls Tryz.prog 110 #[.string B] w fun e w' => e = .returned (.tuple #[.int .u64 ((wFirst blk.data.toList k : Nat) : Int), .int .i64 0]) ∧ w = w' := fun w =>
        (rfromHigh_any B (by omega) w).mono fun _ _ ⟨h, k⟩ => ⟨h.trans (by rw [hBs, hBn]; rfl), k⟩
      have HF := Lib.hid hfh
      have HN := Lib.hid (show IntKind.u32.wrap ((wFirst blk.data.toList k : Nat) : Int) = ((wFirst blk.data.toList k : Nat) : Int) by have := wFirst_lt blk.data.toList k; rw [IntKind.wrap_u32]; omega)
      have HS := Lib.hid (show wStep blk.data.toList (wL blk.data.toList k) k = wL blk.data.toList k ++ [wFirst blk.data.toList k] by rw [wStep, if_pos hlt])
      have hWk := wL_succ blk.data.toList k
      have HW := Lib.hid hWk
      have hlen := wL_len blk.data.toList k
      have HL := Lib.hid hlen
      clear hfh hWk hlen hB hBn
      generalize wFirst blk.data.toList k = N at *
      go_wp2_with (first
        | (go_at_call 110; (with_reducible refine (HF.out _).mono ?_); rintro e w' ⟨rfl, rfl⟩)
        | (at_builtin; refine wpList_pushw wr rfl _ _ rfl w.heap.size _ (wL blk.data.toList k) rfl rfl hown N HN.out (by rw [HL.out]; omega) hbel.size ?_; intro v' w1 hown' hb1))
      go_roundw
      case rel => exact ⟨k + 1, by omega, by go_num, by rw [HW.out, HS.out]; exact hown', hA.below hb1 hg0, hbel.trans hb1⟩
      case measure => simp [intOf]; omega
    · by_cases hlt2 : k < 64
      · have hl := wL_len blk.data.toList k
        obtain ⟨g, cap, rfl, hgb, hcells⟩ := hown.form (by omega)
        have hb15 : (wL blk.data.toList k).getD (k - 15) 0 < 4294967296 := wL_getD_lt _ _ _
        have hb2 : (wL blk.data.toList k).getD (k - 2) 0 < 4294967296 := wL_getD_lt _ _ _
        have cell : ∀ j, j < k → wr.cell? ⟨g, j, none⟩ = some (.int .u32 (((wL blk.data.toList k).getD j 0 : Nat) : Int)) := fun j hj => by
          rw [hcells j (by omega), List.getD_eq_getElem?_getD, List.getElem?_eq_getElem (by omega)]; rfl
        have g15 := cell (k - 15) (by omega)
        have g2 := cell (k - 2) (by omega)
        have g16 := cell (k - 16) (by omega)
        have g7 := cell (k - 7) (by omega)
        have hn : wStep blk.data.toList (wL blk.data.toList k) k = wL blk.data.toList k ++ [((wL blk.data.toList k).getD (k - 16) 0 + sg0 ((wL blk.data.toList k).getD (k - 15) 0) + (wL blk.data.toList k).getD (k - 7) 0 + sg1 ((wL blk.data.toList k).getD (k - 2) 0)) % 4294967296] := by rw [wStep, if_neg hlt]; rfl
        have HW := Lib.hid (wL_succ blk.data.toList k)
        have HS := Lib.hid hn
        have HL := Lib.hid hl
        rw [hl] at hown
        have HO := Lib.hid hown
        clear hn hcells cell hown
        generalize (wL blk.data.toList k).getD (k - 15) 0 = X15 at *
        generalize (wL blk.data.toList k).getD (k - 2) 0 = X2 at *
        generalize (wL blk.data.toList k).getD (k - 16) 0 = X16 at *
        generalize (wL blk.data.toList k).getD (k - 7) 0 = X7 at *
        have q1 := xor32 _ _ (rotr_lt hb15 7) (rotr_lt hb15 18)
        have q3 := xor32 _ _ (rotr_lt hb2 17) (rotr_lt hb2 19)
        have q2 : bits .xor .u32 ((rotr X15 7 ^^^ rotr X15 18 : Nat) : Int) ((X15 : Int) / 8) = ((sg0 X15 : Nat) : Int) := xor32 _ (X15 / 8) (Nat.xor_lt_two_pow (n := 32) (rotr_lt hb15 7) (rotr_lt hb15 18)) (Nat.lt_of_le_of_lt (Nat.div_le_self _ _) hb15)
        have q4 : bits .xor .u32 ((rotr X2 17 ^^^ rotr X2 19 : Nat) : Int) ((X2 : Int) / 1024) = ((sg1 X2 : Nat) : Int) := xor32 _ (X2 / 1024) (Nat.xor_lt_two_pow (n := 32) (rotr_lt hb2 17) (rotr_lt hb2 19)) (Nat.lt_of_le_of_lt (Nat.div_le_self _ _) hb2)
        have m1 : (X15 : Int) / 8 % 4294967296 = (X15 : Int) / 8 := by omega
        have m2 : (X2 : Int) / 1024 % 4294967296 = (X2 : Int) / 1024 := by omega
        rw [← m1] at q2
        rw [← m2] at q4
        clear m1 m2
        have HN := Lib.hid (show IntKind.u32.wrap (IntKind.u32.wrap (IntKind.u32.wrap ((X16 : Int) + (sg0 X15 : Int)) + (X7 : Int)) + (sg1 X2 : Int)) = (((X16 + sg0 X15 + X7 + sg1 X2) % 4294967296 : Nat) : Int) by rw [IntKind.wrap_u32, IntKind.wrap_u32, IntKind.wrap_u32]; omega)
        have HB15 := Lib.hid hb15
        have HB2 := Lib.hid hb2
        have e1 : IntKind.i64.wrap ((k : Int) - 15) = ((k - 15 : Nat) : Int) := by rw [IntWalk.i64_in _ (by omega)]; omega
        have e2 : IntKind.i64.wrap ((k : Int) - 2) = ((k - 2 : Nat) : Int) := by rw [IntWalk.i64_in _ (by omega)]; omega
        have e3 : IntKind.i64.wrap ((k : Int) - 16) = ((k - 16 : Nat) : Int) := by rw [IntWalk.i64_in _ (by omega)]; omega
        have e4 : IntKind.i64.wrap ((k : Int) - 7) = ((k - 7 : Nat) : Int) := by rw [IntWalk.i64_in _ (by omega)]; omega
        have l16 : k - 16 < k := by omega
        have l7 : k - 7 < k := by omega
        clear hb15 hb2
        rw [hl]
        clear hl
        go_wp2_with (go_at_call 111; (first | (with_reducible refine (rright_c 7 7 rfl (by decide) (by decide) _ HB15 _).mono ?_) | (with_reducible refine (rright_c 18 18 rfl (by decide) (by decide) _ HB15 _).mono ?_) | (with_reducible refine (rright_c 17 17 rfl (by decide) (by decide) _ HB2 _).mono ?_) | (with_reducible refine (rright_c 19 19 rfl (by decide) (by decide) _ HB2 _).mono ?_)); rintro e w' ⟨rfl, rfl⟩)
        go_region_law (refine step_pushw wr _ rfl _ _ rfl w.heap.size _ (wL blk.data.toList k) rfl rfl HO.out _ HN.out rfl (by rw [HL.out]; omega) hbel.size ?_; intro v' w1 hown' hb1)
        all_goals
          go_wp2
          go_roundw
          case rel => exact ⟨k + 1, by omega, by go_num, by rw [HW.out, HS.out]; exact hown', ((hA.alloc _).drew).below hb1 hg0, (hbel.alloc hbel.size _).drew.trans hb1⟩
          case measure => simp [intOf]; omega
      · obtain rfl : k = 64 := by omega
        have hl := wL_len blk.data.toList 64
        obtain ⟨g, cap, rfl, hgb, hcells⟩ := hown.form (by omega)
        have c0 : wr.cell? ⟨g0, 0, none⟩ = some (.int .u32 (s.a : Int)) := hA.cell (j := 0) rfl
        have c1 : wr.cell? ⟨g0, 1, none⟩ = some (.int .u32 (s.b : Int)) := hA.cell (j := 1) rfl
        have c2 : wr.cell? ⟨g0, 2, none⟩ = some (.int .u32 (s.c : Int)) := hA.cell (j := 2) rfl
        have c3 : wr.cell? ⟨g0, 3, none⟩ = some (.int .u32 (s.d : Int)) := hA.cell (j := 3) rfl
        have c4 : wr.cell? ⟨g0, 4, none⟩ = some (.int .u32 (s.e : Int)) := hA.cell (j := 4) rfl
        have c5 : wr.cell? ⟨g0, 5, none⟩ = some (.int .u32 (s.f : Int)) := hA.cell (j := 5) rfl
        have c6 : wr.cell? ⟨g0, 6, none⟩ = some (.int .u32 (s.g : Int)) := hA.cell (j := 6) rfl
        have c7 : wr.cell? ⟨g0, 7, none⟩ = some (.int .u32 (s.h : Int)) := hA.cell (j := 7) rfl
        have HT := Lib.hid rtable_any
        rw [hl]
        go_wp2_with fail
        refine (HT.out _).mono ?_
        rintro e w2 ⟨⟨gt, rfl, hgt, hT⟩, hb⟩
        have hA2 := hA.next hb
        have hgl : g < wr.heap.size := block_lt_of_cell (hcells 0 (by omega))
        have HR0 : Hid (RelR ty s (wL blk.data.toList 64) w g0 gt g w2) := ⟨hA2, fun j hj => by
          rw [hb.cell (p := ⟨g, j, none⟩) hgl, hcells j (by omega), List.getD_eq_getElem?_getD, List.getElem?_eq_getElem (by omega)]; rfl, hT, hbel.trans (hb.mono hbel.size)⟩
        clear c0 c1 c2 c3 c4 c5 c6 c7 hcells hA hT hbel hb hown hgt hgl hgb
        have HA2 := Lib.hid hA2
        clear hA2
        have c0 : w2.cell? ⟨g0, 0, none⟩ = some (.int .u32 (s.a : Int)) := HA2.out.cell (j := 0) rfl
        have c1 : w2.cell? ⟨g0, 1, none⟩ = some (.int .u32 (s.b : Int)) := HA2.out.cell (j := 1) rfl
        have c2 : w2.cell? ⟨g0, 2, none⟩ = some (.int .u32 (s.c : Int)) := HA2.out.cell (j := 2) rfl
        have c3 : w2.cell? ⟨g0, 3, none⟩ = some (.int .u32 (s.d : Int)) := HA2.out.cell (j := 3) rfl
        have c4 : w2.cell? ⟨g0, 4, none⟩ = some (.int .u32 (s.e : Int)) := HA2.out.cell (j := 4) rfl
        have c5 : w2.cell? ⟨g0, 5, none⟩ = some (.int .u32 (s.f : Int)) := HA2.out.cell (j := 5) rfl
        have c6 : w2.cell? ⟨g0, 6, none⟩ = some (.int .u32 (s.g : Int)) := HA2.out.cell (j := 6) rfl
        have c7 : w2.cell? ⟨g0, 7, none⟩ = some (.int .u32 (s.h : Int)) := HA2.out.cell (j := 7) rfl
        go_wp2_with fail
        go_quiet (fail)
        have HR1 := Lib.hid (HR0.out.drewN nq)
        clear c0 c1 c2 c3 c4 c5 c6 c7 HA2 HR0 HT
        generalize w2.drewN nq = w3 at *
        clear nq w2
        have hA2 := HR1.out.1
        have c4 : w3.cell? ⟨g0, 4, none⟩ = some (.int .u32 (s.e : Int)) := hA2.cell (j := 4) rfl
        have c5 : w3.cell? ⟨g0, 5, none⟩ = some (.int .u32 (s.f : Int)) := hA2.cell (j := 5) rfl
        have c6 : w3.cell? ⟨g0, 6, none⟩ = some (.int .u32 (s.g : Int)) := hA2.cell (j := 6) rfl
        have c7 : w3.cell? ⟨g0, 7, none⟩ = some (.int .u32 (s.h : Int)) := hA2.cell (j := 7) rfl
        clear hA2
        go_wp2_with fail
        obtain ⟨W, hW⟩ : ∃ W, W = wL blk.data.toList 64 := ⟨_, rfl⟩
        rw [← hW] at HR1
        have HWd := Lib.hid hW
        clear hW hlt hlt2 hk hl
        go_cut [19, 20, 21, 22] (fun e f g' h wx => e = .int .u32 (s.e : Int) ∧ f = .int .u32 (s.f : Int) ∧ g' = .int .u32 (s.g : Int) ∧ h = .int .u32 (s.h : Int) ∧ RelR ty s W w g0 gt g wx)
        case first =>
          go_quiet (fail)
          go_wp2_with fail
          go_meet
          exact ⟨rfl, rfl, rfl, rfl, HR1.out.drewN nq⟩
        case rest =>
          obtain ⟨rfl, rfl, rfl, rfl, HR2⟩ := hcut
          clear c4 c5 c6 c7 HR1
          go_wp2_with fail
          go_loopw [15, 16, 17, 18, 19, 20, 21, 22, 23] (fun a b c d e f g' h i wr => ∃ k : Nat, k ≤ 64 ∧ i = .int .i64 (k : Int) ∧ AtS (rndsN s W k) a b c d e f g' h ∧ RelR ty s W w g0 gt g wr) (fun _ _ _ _ _ _ _ _ i _ => 64 - (intOf i).toNat)
          case atStart => exact ⟨0, by omega, rfl, ⟨rfl, rfl, rfl, rfl, rfl, rfl, rfl, rfl⟩, HR2⟩
          case round =>
            clear HR2
            obtain ⟨k, hk, rfl, ⟨rfl, rfl, rfl, rfl, rfl, rfl, rfl, rfl⟩, hrel⟩ := hrel
            by_cases hlt : k < 64
            · have hok := rndsN_ok hs W k
              have HS := Lib.hid (rndsN_succ s W k)
              have ct : wr.cell? ⟨gt, k, none⟩ = some (.int .u32 ((tabN k : Nat) : Int)) := hrel.2.2.1.cell (by rw [List.getElem?_toArray, u32s_get _ k (by rw [tabL_len]; exact hlt), tabN, List.getD_eq_getElem?_getD, List.getElem?_eq_getElem (by rw [tabL_len]; exact hlt)]; rfl)
              have cw := hrel.2.1 k hlt
              have HR := Lib.hid hrel
              clear hrel
              generalize rndsN s W k = S at *
              obtain ⟨A, B, C, D, E, F, G, H⟩ := S
              obtain ⟨hA, hB, hC, hD, hE, hF, hG', hH⟩ := hok
              simp only at hA hB hC hD hE hF hG' hH ⊢
              generalize W.getD k 0 = wk at *
              generalize tabN k = tk at *
              have HA := Lib.hid hA
              have HE := Lib.hid hE
              have HCh := Lib.hid (rchoice_any E F G hE hF hG')
              have HMo := Lib.hid (rmost_any A B C hA hB hC)
              have q1 := xor32 _ _ (rotr_lt hE 6) (rotr_lt hE 11)
              have q2 : bits .xor .u32 ((rotr E 6 ^^^ rotr E 11 : Nat) : Int) ((rotr E 25 : Nat) : Int) = ((sh1 E : Nat) : Int) := xor32 _ _ (Nat.xor_lt_two_pow (n := 32) (rotr_lt hE 6) (rotr_lt hE 11)) (rotr_lt hE 25)
              have q3 := xor32 _ _ (rotr_lt hA 2) (rotr_lt hA 13)
              have q4 : bits .xor .u32 ((rotr A 2 ^^^ rotr A 13 : Nat) : Int) ((rotr A 22 : Nat) : Int) = ((sh0 A : Nat) : Int) := xor32 _ _ (Nat.xor_lt_two_pow (n := 32) (rotr_lt hA 2) (rotr_lt hA 13)) (rotr_lt hA 22)
              obtain ⟨P, hP⟩ : ∃ P, P = (H + sh1 E + cho E F G + tk + wk) % 4294967296 := ⟨_, rfl⟩
              obtain ⟨Q, hQ⟩ : ∃ Q, Q = (sh0 A + mst A B C) % 4294967296 := ⟨_, rfl⟩
              obtain ⟨PQ, hPQ⟩ : ∃ PQ, PQ = (P + Q) % 4294967296 := ⟨_, rfl⟩
              obtain ⟨DP, hDP⟩ : ∃ DP, DP = (D + P) % 4294967296 := ⟨_, rfl⟩
              have hrnd : rnd ⟨A, B, C, D, E, F, G, H⟩ tk wk = ⟨PQ, A, B, C, DP, E, F, G⟩ := by rw [hPQ, hDP, hP, hQ]; rfl
              have q14 : (((H : Int) + ((sh1 E : Nat) : Int) + ((cho E F G : Nat) : Int) + (tk : Int)) % 4294967296 + (wk : Int)) % 4294967296 = (P : Int) := by rw [hP]; omega
              have q14' : ((H : Int) + ((sh1 E : Nat) : Int) + ((cho E F G : Nat) : Int) + (tk : Int) + (wk : Int)) % 4294967296 = (P : Int) := by rw [hP]; omega
              have q15 : (((sh0 A : Nat) : Int) + ((mst A B C : Nat) : Int)) % 4294967296 = (Q : Int) := by rw [hQ]; omega
              have q16 : ((P : Int) + (Q : Int)) % 4294967296 = (PQ : Int) := by rw [hPQ]; omega
              have q17 : ((D : Int) + (P : Int)) % 4294967296 = (DP : Int) := by rw [hDP]; omega
              rw [hrnd] at HS
              clear hP hQ hPQ hDP hrnd
              clear hA hB hC hD hE hF hG' hH
              go_wp2_with fail
              go_quiet (first
                | (go_at_call 111; (first | with_reducible exact same_quiet (rright_c 6 6 rfl (by decide) (by decide) _ HE _) | with_reducible exact same_quiet (rright_c 11 11 rfl (by decide) (by decide) _ HE _) | with_reducible exact same_quiet (rright_c 25 25 rfl (by decide) (by decide) _ HE _)))
                | (go_at_call 113; with_reducible exact same_quiet (HCh.out _)))
              have HR2 := Lib.hid (HR.out.drewN nq)
              clear ct cw HR
              generalize wr.drewN nq = w5 at *
              go_wp2_with (first
                | (go_at_call 111; (first | (with_reducible refine (rright_c 2 2 rfl (by decide) (by decide) _ HA _).mono ?_) | (with_reducible refine (rright_c 13 13 rfl (by decide) (by decide) _ HA _).mono ?_) | (with_reducible refine (rright_c 22 22 rfl (by decide) (by decide) _ HA _).mono ?_)); rintro e w' ⟨rfl, rfl⟩)
                | (go_at_call 114; (with_reducible refine (HMo.out _).mono ?_); rintro e w' ⟨rfl, rfl⟩))
              go_roundw
              case rel => exact ⟨k + 1, by omega, by go_num, by rw [HS.out]; first | (rw [q16, q17]; exact ⟨rfl, rfl, rfl, rfl, rfl, rfl, rfl, rfl⟩) | (rw [q17]; exact ⟨rfl, rfl, rfl, rfl, rfl, rfl, rfl, rfl⟩), HR2.out⟩
              case measure => simp [intOf]; omega
            · obtain rfl : k = 64 := by omega
              have HR := Lib.hid hrel
              have hA := hrel.1
              clear hrel
              have c0 : wr.cell? ⟨g0, 0, none⟩ = some (.int .u32 (s.a : Int)) := hA.cell (j := 0) rfl
              have c1 : wr.cell? ⟨g0, 1, none⟩ = some (.int .u32 (s.b : Int)) := hA.cell (j := 1) rfl
              have c2 : wr.cell? ⟨g0, 2, none⟩ = some (.int .u32 (s.c : Int)) := hA.cell (j := 2) rfl
              have c3 : wr.cell? ⟨g0, 3, none⟩ = some (.int .u32 (s.d : Int)) := hA.cell (j := 3) rfl
              have c4 : wr.cell? ⟨g0, 4, none⟩ = some (.int .u32 (s.e : Int)) := hA.cell (j := 4) rfl
              have c5 : wr.cell? ⟨g0, 5, none⟩ = some (.int .u32 (s.f : Int)) := hA.cell (j := 5) rfl
              have c6 : wr.cell? ⟨g0, 6, none⟩ = some (.int .u32 (s.g : Int)) := hA.cell (j := 6) rfl
              have c7 : wr.cell? ⟨g0, 7, none⟩ = some (.int .u32 (s.h : Int)) := hA.cell (j := 7) rfl
              clear hA hk
              have HM : Hid (mixS s blk.data.toList = addS s (rndsN s W 64)) := by show mixS s blk.data.toList = addS s (rndsN s W 64); rw [HWd.out]; rfl
              generalize rndsN s W 64 = S at *
              have HV := Lib.hid (val_addS s S)
              go_wp2_with fail
              go_still_tail 40, (by kernel_rfl)
              change wpList _ _ _ _ _ wr.drew
              have HR2 := Lib.hid (show RelR ty s W w g0 gt g wr.drew from ⟨HR.out.1.drew, HR.out.2.1, HR.out.2.2.1.drew, HR.out.2.2.2.drew⟩)
              clear c0 c1 c2 c3 c4 c5 c6 c7 HR
              generalize wr.drew = w6 at *
              go_wp2
              go_ret2
              refine ⟨⟨w6.heap.size, rfl, HR2.out.2.2.2.size, ?_⟩, HR2.out.2.2.2.alloc HR2.out.2.2.2.size _⟩
              rw [HM.out]
              have hv := HV.out
              injection hv with hv
              rw [hv]
              exact Arr.new w6 _ _
end Go.Proofs.YtfflpooiebeagaaGreatDoor
namespace Go.Proofs.YtfflpooiebeagaaGreatDoor
open Go.RowKit

theorem nth_cellR (s : S8) (j : Nat) (h : j < 8) : s.cells[j]? = some (.int .u32 ((s.nth j : Nat) : Int)) := by
  match j, h with
  | 0, _ => rfl
  | 1, _ => rfl
  | 2, _ => rfl
  | 3, _ => rfl
  | 4, _ => rfl
  | 5, _ => rfl
  | 6, _ => rfl
  | 7, _ => rfl
theorem Arr.of_below {w w' : World} {g : Nat} {cs : Array Value} {t : TypeId} (h : Arr w g cs t) (hb : Below w.heap.size w w') : Arr w' g cs t := h.next hb

set_option maxHeartbeats 2000000 in
set_option maxRecDepth 100000 in
theorem rsum_any (t : ByteArray) (ht : t.size ≤ 1000000) (w : World) :
    Calls Tryz.prog 69 #[.string t] w fun e w' => e = .returned (.string ⟨(shaL t.data.toList).toArray⟩) ∧ Below w.heap.size w w' := by
  have hpad := fun w => rpad_any t.size (by omega) w
  obtain ⟨X, hX⟩ : ∃ X : ByteArray, X = ⟨(padL t.size).toArray⟩ := ⟨_, rfl⟩
  have hXs : X.size = padZ t.size + 9 := by rw [hX]; show (padL t.size).toArray.size = _; rw [List.size_toArray, padL_len]
  rw [← hX] at hpad
  have HPad := Lib.hid hpad
  have hz := padZ_lt t.size
  have hzd : padZ t.size = (119 - t.size % 64) % 64 := rfl
  have hrun : ∀ w : World, (Op.stringOp .add t X).run Tryz.prog w = .ok (.string (t ++ X)) w := fun w => cat_run t X (by omega) w
  obtain ⟨ALL, hALL⟩ : ∃ ALL, ALL = t ++ X := ⟨_, rfl⟩
  have hAs : ALL.size = t.size + X.size := by rw [hALL, ByteArray.size_append]
  have hAl : ALL.data.toList = t.data.toList ++ padL t.size := by rw [hALL, hX]; simp
  rw [← hALL] at hrun
  obtain ⟨q, hq⟩ : ∃ q, ALL.size = 64 * q := ⟨ALL.size / 64, by omega⟩
  have hq2 : q ≤ 20000 := by omega
  obtain ⟨D, hD⟩ : ∃ D : ByteArray, D = ⟨(shaL t.data.toList).toArray⟩ := ⟨_, rfl⟩
  have hfin : outL (mixN firstS ALL.data.toList q) = shaL t.data.toList := by
    rw [hAl, shaL]
    have : (t.data.toList ++ padL t.size).length / 64 = q := by rw [← hAl, show ALL.data.toList.length = ALL.size by simp]; omega
    rw [show padL t.data.toList.length = padL t.size by simp, this]
  rw [← hD]
  have HFIN := Lib.hid hfin
  have HD := Lib.hid hD
  have HF := Lib.hid rfirst_any
  have HQ := Lib.hid hq
  clear hpad hX hXs hz hzd hD hALL hAl hfin hAs
  go_enter Tryz.func69, Tryz.ntmps69
  go_wp2_with (first
    | (go_at_call 96; (with_reducible refine (HPad.out _).mono ?_); rintro e wb ⟨rfl, hb1⟩)
    | (go_at_call 97; (with_reducible refine (HF.out _).mono ?_); rintro e wf ⟨⟨g0, rfl, hg0, hA0⟩, hb2⟩))
  have HB0 := Lib.hid (Below_next hb1 hb2)
  have HA0 := Lib.hid hA0
  clear hb1 hb2 hA0 hg0 HPad HF hrun
  have HQ2 := Lib.hid hq2
  clear hq2
  go_loopw [4, 5] (fun s i wr => ∃ k g : Nat, k ≤ q ∧ i = .int .i64 (64 * (k : Int)) ∧ s = .slice (some ⟨g, 0, none⟩) 8 8 ∧ Arr wr g (mixN firstS ALL.data.toList k).cells 60 ∧ Below w.heap.size w wr) (fun _ i _ => 64 * q - (intOf i).toNat)
  case atStart => exact ⟨0, g0, by omega, by simp, rfl, HA0.out, HB0.out⟩
  case round =>
    clear HA0 HB0
    obtain ⟨k, g, hk, rfl, rfl, hA, hbel⟩ := hrel
    have hq71 := HQ2.out
    by_cases hlt : k < q
    · have hj64 : IntKind.i64.wrap (64 * (k : Int) + 64) = ((64 * k + 64 : Nat) : Int) := by rw [IntWalk.i64_in _ (by omega)]; omega
      have hsl := fun w => slice_str ALL (64 * (k : Int)) (64 * (k : Int) + 64) (64 * k) (64 * k + 64) (by omega) (by omega) (by omega) (by omega) w
      obtain ⟨B, hB⟩ : ∃ B, B = ALL.extract (64 * k) (64 * k + 64) := ⟨_, rfl⟩
      have hBs : B.size = 64 := by rw [hB, ext_size _ _ _ (by omega)]; omega
      have hMk : mixS (mixN firstS ALL.data.toList k) B.data.toList = mixN firstS ALL.data.toList (k + 1) := by rw [hB, blk_eq]; rfl
      rw [← hB] at hsl
      have hsok := mixN_ok firstS_ok ALL.data.toList k
      have HM := Lib.hid (rmix_any (mixN firstS ALL.data.toList k) hsok g B hBs wr hA)
      rw [hMk] at HM
      have hb64 : ALL.size = 64 * q := HQ.out
      clear hB hBs hMk hsok hA
      go_wp2_with (first
        | (go_at_call 98; (with_reducible refine HM.out.mono ?_); rintro e w3 ⟨⟨g2, rfl, hg2, hA2⟩, hb2⟩))
      go_roundw
      case rel => exact ⟨k + 1, g2, hlt, by go_num, rfl, hA2, hbel.trans (hb2.mono hbel.size)⟩
      case measure => simp [intOf]; omega
    · obtain rfl : k = q := by omega
      have hsok := mixN_ok firstS_ok ALL.data.toList k
      obtain ⟨S, hS⟩ : ∃ S, S = mixN firstS ALL.data.toList k := ⟨_, rfl⟩
      have hfin := HFIN.out
      rw [← hS] at hsok hA hfin
      have HFN := Lib.hid hfin
      have HOK := Lib.hid hsok
      have HA := Lib.hid hA
      have HB := Lib.hid hbel
      have hb64 : ALL.size = 64 * k := HQ.out
      clear hS hsok hfin hA hbel HFIN
      go_wp2_with fail
      go_loopw [6, 7] (fun o i wr => ∃ j : Nat, j ≤ 8 ∧ i = .int .i64 (j : Int) ∧ (∃ OB : ByteArray, o = .string OB ∧ OB = ⟨(outN S j).toArray⟩) ∧ Arr wr g S.cells 60 ∧ Below w.heap.size w wr) (fun _ i _ => 8 - (intOf i).toNat)
      case atStart => exact ⟨0, by omega, rfl, ⟨_, rfl, rfl⟩, HA.out, HB.out⟩
      case round =>
        clear HA HB
        obtain ⟨j, hj, rfl, ⟨OB, rfl, hOB⟩, hA, hbel⟩ := hrel
        have HA := Lib.hid hA
        have HB := Lib.hid hbel
        clear hA hbel
        by_cases hlt8 : j < 8
        · have hcj : wr.cell? ⟨g, j, none⟩ = some (.int .u32 ((S.nth j : Nat) : Int)) := HA.out.cell (nth_cellR S j hlt8)
          have hx := nth_lt HOK.out j
          have hhi := rhigh_any (S.nth j) (by omega) 4
          obtain ⟨Y, hY⟩ : ∃ Y : ByteArray, Y = ⟨(lowL (S.nth j) (toldN 4)).reverse.toArray⟩ := ⟨_, rfl⟩
          rw [← hY, ← u64_of_u32 _ hx] at hhi
          have HHI := Lib.hid hhi
          have hY4 := highB_size _ _ Y hY
          rw [show toldN 4 = 4 from rfl] at hY4
          have hN := outN_succ S j Y hY
          have hOs : OB.size = 4 * j := by rw [hOB]; show (outN S j).toArray.size = _; rw [List.size_toArray, outN_len]
          have hrun2 : ∀ w : World, (Op.stringOp .add OB Y).run Tryz.prog w = .ok (.string (OB ++ Y)) w := fun w => cat_run OB Y (by omega) w
          have hnext : OB ++ Y = ⟨(outN S (j + 1)).toArray⟩ := by
            rw [hN, hOB]; apply ByteArray.ext; simp
          obtain ⟨O2, hO2⟩ : ∃ O2, O2 = OB ++ Y := ⟨_, rfl⟩
          rw [← hO2] at hrun2 hnext
          have HNX := Lib.hid hnext
          clear hhi hY hY4 hN hOs hO2 hnext hOB hx
          generalize S.nth j = x at *
          go_wp2_with (first
            | (go_at_call 29; (with_reducible refine (HHI.out _).mono ?_); rintro e w5 ⟨rfl, hb5⟩))
          go_roundw
          case rel => exact ⟨j + 1, hlt8, by go_num, ⟨O2, rfl, HNX.out⟩, HA.out.next hb5, HB.out.trans (hb5.mono HB.out.size)⟩
          case measure => simp [intOf]; omega
        · obtain rfl : j = 8 := by omega
          obtain rfl : OB = D := by rw [hOB, HD.out, ← HFN.out, outN_full]
          clear hOB
          go_wp2
          go_ret
          exact ⟨rfl, HB.out⟩
end Go.Proofs.YtfflpooiebeagaaGreatDoor
