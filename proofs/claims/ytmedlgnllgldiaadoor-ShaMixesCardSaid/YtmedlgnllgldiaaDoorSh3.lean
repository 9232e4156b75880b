/- sha: the contract of numbers. -/
import Derived.Test.YtmedlgnllgldiaaDoorSh2
import Derived.Outline
namespace Go.Proofs.YtmedlgnllgldiaaDoor
open Go.RowKit

theorem fromHigh_part (s : ByteArray) (hs : s.size = 64) (k : Nat) (hk : k < 16) (w : World) :
    Calls Tryd.prog 70 #[.string (s.extract (4 * k) (4 * (k + 1)))] w fun e w' => e = .returned (.tuple #[.int .u64 (wFirst s.data.toList k : Nat), .int .i64 0]) ∧ w = w' := by
  have h := fromHigh_any (s.extract (4 * k) (4 * (k + 1))) w
  have hz : (s.extract (4 * k) (4 * (k + 1))).size = 4 := by rw [ext_size _ _ _ (by omega)]; omega
  rw [hz, ext_toList, show 4 * (k + 1) - 4 * k = 4 from by omega] at h
  exact h

/-- A word turned right by a number below 32. -/
theorem right_c (n : Int) (k : Nat) (hn : (n % 32).toNat = k) (x : Nat) (hx : Hid (x < 4294967296)) (w : World) :
    Calls Tryd.prog 63 #[.int .u32 x, .int .i64 n] w fun e w' => e = .returned (.int .u32 (rotr x k : Nat)) ∧ w = w' := by
  subst hn
  exact right_any x hx.out n w
theorem xor32 (a b : Nat) (ha : a < 4294967296) (hb : b < 4294967296) : bits .xor .u32 (a : Int) (b : Int) = ((a ^^^ b : Nat) : Int) := u32_xor_nat a b ha hb

theorem sum4 (a b c d : Nat) : ((a : Int) + (b : Int) + (c : Int) + (d : Int)) % 4294967296 = (((a + b + c + d) % 4294967296 : Nat) : Int) := by omega
theorem wL_getD_lt (blk : List UInt8) (n i : Nat) : (wL blk n).getD i 0 < 4294967296 := by
  by_cases h : i < (wL blk n).length
  · rw [List.getD, List.getElem?_eq_getElem h]; exact wL_lt blk n _ (List.getElem_mem _)
  · rw [List.getD, List.getElem?_eq_none (by omega)]; decide
theorem wStep_lo (blk : List UInt8) (k : Nat) (h : k < 16) : wL blk (k + 1) = wL blk k ++ [wFirst blk k] := by rw [wL_succ, wStep, if_pos h]
theorem wStep_hi (blk : List UInt8) (k : Nat) (h : 16 ≤ k) : wL blk (k + 1) = wL blk k ++ [wNext (wL blk k) k] := by rw [wL_succ, wStep, if_neg (by omega)]

set_option maxHeartbeats 4000000 in
set_option maxRecDepth 100000 in
theorem numbers_any (s : ByteArray) (hs : s.size = 64) (w : World) :
    Calls Tryd.prog 62 #[.string s] w fun e w' => e = .returned (.agg (rowW (wL s.data.toList 64))) ∧ Below w.heap.size w w' := by
  have hs1 : 64 ≤ s.size := by omega
  have HS := Lib.hid hs
  clear hs
  go_enter Tryd.func62, Tryd.ntmps62
  go_wp2
  go_loopw [12] (fun i wr => ∃ k : Nat, k ≤ 16 ∧ i = .int .i64 k ∧ Arr wr w.heap.size (rowW []) 90 ∧ Arr wr (w.heap.size + 1) (rowW (wL s.data.toList k)) 90 ∧ Below w.heap.size w wr) (fun i _ => 16 - (intOf i).toNat)
  case atStart =>
    refine ⟨0, by omega, rfl, (Arr.new w _ _).alloc _, Arr.newAt (w.alloc _) _ _ (by simp), ((Below.refl _ _).alloc (Nat.le_refl _) _).alloc (by simp) _⟩
  case round =>
    obtain ⟨k, hk, rfl, ha, hr, hbel⟩ := hrel
    by_cases hlt : k < 16
    · have hsl := slice_str s (4 * (k : Int)) (4 * ((k : Int) + 1)) (4 * k) (4 * (k + 1)) (by omega) (by omega) (by omega) (by omega)
      have HF := Lib.hid (fromHigh_part s HS.out k hlt)
      have hl := wL_len s.data.toList k
      have hc := hr.cell (rowW_hi _ k (by omega) (by omega))
      have hf := hr.frozen k
      have hr2 := hr.set k (.int .u32 (wFirst s.data.toList k : Nat))
      have hs2 := rowW_set (wL s.data.toList k) (wFirst s.data.toList k) (by omega)
      rw [hl, ← wStep_lo _ _ hlt] at hs2
      rw [hs2] at hr2
      have HR := Lib.hid hr2
      have HA := Lib.hid ha
      have hx := wFirst_lt s.data.toList k
      have HX : Hid ((wFirst s.data.toList k : Int) % 4294967296 = (wFirst s.data.toList k : Int)) := by show _ = _; omega
      clear hl hr hs2 hr2 ha hx
      generalize wFirst s.data.toList k = x at *
      go_wp2_with (go_at_call 70; ((with_reducible refine (HF.out _).mono ?_); rintro e w' ⟨rfl, rfl⟩))
      go_roundw
      case rel => exact ⟨k + 1, by omega, by go_num, Arr.other HA.out _ _ (by simp), by rw [HX.out]; exact HR.out, hbel.setCell (by simp) _⟩
      case measure => simp [intOf]; omega
    · have hk16 : k = 16 := by omega
      rw [hk16] at hr
      have hk17 : 16 ≤ k := by omega
      clear hk16
      have HR := Lib.hid hr
      have HA := Lib.hid ha
      clear hr ha
      obtain ⟨w0, hw0⟩ : ∃ w0, w0 = wr := ⟨_, rfl⟩
      have hbel0 := hbel
      go_wp2
      go_loopw [7] (fun i wr => ∃ k : Nat, 16 ≤ k ∧ k ≤ 64 ∧ i = .int .i64 k ∧ Arr wr w.heap.size (rowW []) 90 ∧ Arr wr (w.heap.size + 1) (rowW (wL s.data.toList k)) 90 ∧ Below w.heap.size w wr) (fun i _ => 64 - (intOf i).toNat)
      case atStart => exact ⟨16, by omega, by omega, rfl, HA.out, HR.out, hbel⟩
      case round =>
        clear hbel
        obtain ⟨k, hk1, hk, rfl, ha, hr, hbel⟩ := hrel
        by_cases hlt : k < 64
        · have hl := wL_len s.data.toList k
          have hb15 : (wL s.data.toList k).getD (k - 15) 0 < 4294967296 := wL_getD_lt _ _ _
          have hb2 : (wL s.data.toList k).getD (k - 2) 0 < 4294967296 := wL_getD_lt _ _ _
          have hn : wNext (wL s.data.toList k) k = ((wL s.data.toList k).getD (k - 16) 0 + sg0 ((wL s.data.toList k).getD (k - 15) 0) + (wL s.data.toList k).getD (k - 7) 0 + sg1 ((wL s.data.toList k).getD (k - 2) 0)) % 4294967296 := rfl
          have hr2 := hr.set k (.int .u32 (wNext (wL s.data.toList k) k : Nat))
          have hs2 := rowW_set (wL s.data.toList k) (wNext (wL s.data.toList k) k) (by omega)
          rw [hl, ← wStep_hi _ _ hk1] at hs2
          rw [hs2, hn] at hr2
          have g15 := hr.cell (rowW_get (wL s.data.toList k) (k - 15) (by omega))
          have g2 := hr.cell (rowW_get (wL s.data.toList k) (k - 2) (by omega))
          have g16 := hr.cell (rowW_get (wL s.data.toList k) (k - 16) (by omega))
          have g7 := hr.cell (rowW_get (wL s.data.toList k) (k - 7) (by omega))
          have gk := hr.cell (rowW_hi (wL s.data.toList k) k (by omega) hlt)
          have hf := hr.frozen k
          clear hs2 hn hl
          generalize (wL s.data.toList k).getD (k - 15) 0 = X15 at *
          generalize (wL s.data.toList k).getD (k - 2) 0 = X2 at *
          generalize (wL s.data.toList k).getD (k - 16) 0 = X16 at *
          generalize (wL s.data.toList k).getD (k - 7) 0 = X7 at *
          have q1 := xor32 _ _ (rotr_lt hb15 7) (rotr_lt hb15 18)
          have q3 := xor32 _ _ (rotr_lt hb2 17) (rotr_lt hb2 19)
          have q2 : bits .xor .u32 ((rotr X15 7 ^^^ rotr X15 18 : Nat) : Int) ((X15 : Int) / 8) = ((sg0 X15 : Nat) : Int) := xor32 _ (X15 / 8) (Nat.xor_lt_two_pow (n := 32) (rotr_lt hb15 7) (rotr_lt hb15 18)) (Nat.lt_of_le_of_lt (Nat.div_le_self _ _) hb15)
          have q4 : bits .xor .u32 ((rotr X2 17 ^^^ rotr X2 19 : Nat) : Int) ((X2 : Int) / 1024) = ((sg1 X2 : Nat) : Int) := xor32 _ (X2 / 1024) (Nat.xor_lt_two_pow (n := 32) (rotr_lt hb2 17) (rotr_lt hb2 19)) (Nat.lt_of_le_of_lt (Nat.div_le_self _ _) hb2)
          have HN := Lib.hid (sum4 X16 (sg0 X15) X7 (sg1 X2))
          have HR2 := Lib.hid hr2
          have HA' := Lib.hid ha
          have HB15 := Lib.hid hb15
          have HB2 := Lib.hid hb2
          have e1 : IntKind.i64.wrap ((k : Int) - 15) = ((k - 15 : Nat) : Int) := by rw [IntWalk.i64_in _ (by omega)]; omega
          have e2 : IntKind.i64.wrap ((k : Int) - 2) = ((k - 2 : Nat) : Int) := by rw [IntWalk.i64_in _ (by omega)]; omega
          have e3 : IntKind.i64.wrap ((k : Int) - 16) = ((k - 16 : Nat) : Int) := by rw [IntWalk.i64_in _ (by omega)]; omega
          have e4 : IntKind.i64.wrap ((k : Int) - 7) = ((k - 7 : Nat) : Int) := by rw [IntWalk.i64_in _ (by omega)]; omega
          clear hr hr2 ha hb15 hb2
          go_wp2
          go_region
          go_wp2_with (go_at_call 63; (first | (with_reducible refine (right_c 7 7 rfl _ HB15 _).mono ?_) | (with_reducible refine (right_c 18 18 rfl _ HB15 _).mono ?_) | (with_reducible refine (right_c 17 17 rfl _ HB2 _).mono ?_) | (with_reducible refine (right_c 19 19 rfl _ HB2 _).mono ?_)); rintro e w' ⟨rfl, rfl⟩)
          go_region
          go_wp2
          go_roundw
          case rel => exact ⟨k + 1, by omega, by omega, by go_num, (HA'.out.other _ _ (by simp)).drew.drew, by rw [HN.out]; exact HR2.out.drew.drew, ((hbel.setCell (Nat.le_succ _) _).drew).drew⟩
          case measure => simp [intOf]; omega
        · obtain rfl : k = 64 := by omega
          have HZ := Lib.hid (rowW_size (wL s.data.toList 64) (by rw [wL_len]; exact Nat.le_refl _))
          have HR' := Lib.hid hr
          have HA' := Lib.hid ha
          clear hr ha
          have HO := Lib.hid (one_rowW (wL s.data.toList 64))
          have HZ0 := Lib.hid (rowW_size [] (by simp))
          generalize hRd : rowW (wL s.data.toList 64) = R at *
          generalize rowW [] = Z at *
          have HRd := Lib.hid hRd
          clear hRd
          go_wp2_with (first | (with_reducible refine wpList_load64 rfl _ rfl (w.heap.size + 1) rfl _ HZ.out HR'.out ?_) | (with_reducible refine wpList_store64 rfl _ _ rfl w.heap.size rfl _ rfl HZ.out HO.out _ HZ0.out HA'.out ?_))
          exact ret_w64 Tryd.results62 w.heap.size R HZ.out rfl (HA'.out.row R) rfl ⟨by rw [HRd.out], below_setRow hbel (Nat.le_refl _) _⟩
end Go.Proofs.YtmedlgnllgldiaaDoor
