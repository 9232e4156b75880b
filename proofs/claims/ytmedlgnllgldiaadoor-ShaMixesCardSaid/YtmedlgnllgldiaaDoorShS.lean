/- The document's own Sum of layer 2. -/
import Derived.Test.YtmedlgnllgldiaaDoorShQ
namespace Go.Proofs.YtmedlgnllgldiaaDoor
open Go.RowKit

theorem nth_cellR (s : S8) (j : Nat) (h : j < 8) : s.cells[j]? = some (.int .u32 ((s.nth j : Nat) : Int)) := by
  match j, h with
  | 0, _ => rfl
  | 1, _ => rfl
  | 2, _ => rfl
  | 3, _ => rfl
  | 4, _ => rfl
  | 5, _ => rfl
  | 6, _ => rfl
  | 7, _ => rfl
theorem Arr.of_below {w w' : World} {g : Nat} {cs : Array Value} {t : TypeId} (h : Arr w g cs t) (hb : Below w.heap.size w w') : Arr w' g cs t := h.next hb

set_option maxHeartbeats 2000000 in
set_option maxRecDepth 100000 in
theorem rsum_any (t : ByteArray) (ht : t.size ≤ 1000000) (w : World) :
    Calls Tryd.prog 24 #[.string t] w fun e w' => e = .returned (.string ⟨(shaL t.data.toList).toArray⟩) ∧ Below w.heap.size w w' := by
  have hpad := fun w => rpad_any t.size (by omega) w
  obtain ⟨X, hX⟩ : ∃ X : ByteArray, X = ⟨(padL t.size).toArray⟩ := ⟨_, rfl⟩
  have hXs : X.size = padZ t.size + 9 := by rw [hX]; show (padL t.size).toArray.size = _; rw [List.size_toArray, padL_len]
  rw [← hX] at hpad
  have HPad := Lib.hid hpad
  have hz := padZ_lt t.size
  have hzd : padZ t.size = (119 - t.size % 64) % 64 := rfl
  have hrun : ∀ w : World, (Op.stringOp .add t X).run Tryd.prog w = .ok (.string (t ++ X)) w := fun w => cat_run t X (by omega) w
  obtain ⟨ALL, hALL⟩ : ∃ ALL, ALL = t ++ X := ⟨_, rfl⟩
  have hAs : ALL.size = t.size + X.size := by rw [hALL, ByteArray.size_append]
  have hAl : ALL.data.toList = t.data.toList ++ padL t.size := by rw [hALL, hX]; simp
  rw [← hALL] at hrun
  obtain ⟨q, hq⟩ : ∃ q, ALL.size = 64 * q := ⟨ALL.size / 64, by omega⟩
  have hq2 : q ≤ 20000 := by omega
  obtain ⟨D, hD⟩ : ∃ D : ByteArray, D = ⟨(shaL t.data.toList).toArray⟩ := ⟨_, rfl⟩
  have hfin : outL (mixN firstS ALL.data.toList q) = shaL t.data.toList := by
    rw [hAl, shaL]
    have : (t.data.toList ++ padL t.size).length / 64 = q := by rw [← hAl, show ALL.data.toList.length = ALL.size by simp]; omega
    rw [show padL t.data.toList.length = padL t.size by simp, this]
  rw [← hD]
  have HFIN := Lib.hid hfin
  have HD := Lib.hid hD
  have HF := Lib.hid rfirst_any
  have HQ := Lib.hid hq
  clear hpad hX hXs hz hzd hD hALL hAl hfin hAs
  go_enter Tryd.func24, Tryd.ntmps24
  go_wp2_with (first
    | (go_at_call 32; (with_reducible refine (HPad.out _).mono ?_); rintro e wb ⟨rfl, hb1⟩)
    | (go_at_call 29; (with_reducible refine (HF.out _).mono ?_); rintro e wf ⟨⟨g0, rfl, hg0, hA0⟩, hb2⟩))
  have HB0 := Lib.hid (Below_next hb1 hb2)
  have HA0 := Lib.hid hA0
  clear hb1 hb2 hA0 hg0 HPad HF hrun
  have HQ2 := Lib.hid hq2
  clear hq2
  go_loopw [4, 5] (fun s i wr => ∃ k g : Nat, k ≤ q ∧ i = .int .i64 (64 * (k : Int)) ∧ s = .slice (some ⟨g, 0, none⟩) 8 8 ∧ Arr wr g (mixN firstS ALL.data.toList k).cells 43 ∧ Below w.heap.size w wr) (fun _ i _ => 64 * q - (intOf i).toNat)
  case atStart => exact ⟨0, g0, by omega, by simp, rfl, HA0.out, HB0.out⟩
  case round =>
    clear HA0 HB0
    obtain ⟨k, g, hk, rfl, rfl, hA, hbel⟩ := hrel
    have hq71 := HQ2.out
    by_cases hlt : k < q
    · have hj64 : IntKind.i64.wrap (64 * (k : Int) + 64) = ((64 * k + 64 : Nat) : Int) := by rw [IntWalk.i64_in _ (by omega)]; omega
      have hsl := fun w => slice_str ALL (64 * (k : Int)) (64 * (k : Int) + 64) (64 * k) (64 * k + 64) (by omega) (by omega) (by omega) (by omega) w
      obtain ⟨B, hB⟩ : ∃ B, B = ALL.extract (64 * k) (64 * k + 64) := ⟨_, rfl⟩
      have hBs : B.size = 64 := by rw [hB, ext_size _ _ _ (by omega)]; omega
      have hMk : mixS (mixN firstS ALL.data.toList k) B.data.toList = mixN firstS ALL.data.toList (k + 1) := by rw [hB, blk_eq]; rfl
      rw [← hB] at hsl
      have hsok := mixN_ok firstS_ok ALL.data.toList k
      have HM := Lib.hid (rmix_any (mixN firstS ALL.data.toList k) hsok g B hBs wr hA)
      rw [hMk] at HM
      have hb64 : ALL.size = 64 * q := HQ.out
      clear hB hBs hMk hsok hA
      go_wp2_with (first
        | (go_at_call 28; (with_reducible refine HM.out.mono ?_); rintro e w3 ⟨⟨g2, rfl, hg2, hA2⟩, hb2⟩))
      go_roundw
      case rel => exact ⟨k + 1, g2, hlt, by go_num, rfl, hA2, hbel.trans (hb2.mono hbel.size)⟩
      case measure => simp [intOf]; omega
    · obtain rfl : k = q := by omega
      have hsok := mixN_ok firstS_ok ALL.data.toList k
      obtain ⟨S, hS⟩ : ∃ S, S = mixN firstS ALL.data.toList k := ⟨_, rfl⟩
      have hfin := HFIN.out
      rw [← hS] at hsok hA hfin
      have HFN := Lib.hid hfin
      have HOK := Lib.hid hsok
      have HA := Lib.hid hA
      have HB := Lib.hid hbel
      have hb64 : ALL.size = 64 * k := HQ.out
      clear hS hsok hfin hA hbel HFIN
      go_wp2_with fail
      go_loopw [6, 7] (fun o i wr => ∃ j : Nat, j ≤ 8 ∧ i = .int .i64 (j : Int) ∧ (∃ OB : ByteArray, o = .string OB ∧ OB = ⟨(outN S j).toArray⟩) ∧ Arr wr g S.cells 43 ∧ Below w.heap.size w wr) (fun _ i _ => 8 - (intOf i).toNat)
      case atStart => exact ⟨0, by omega, rfl, ⟨_, rfl, rfl⟩, HA.out, HB.out⟩
      case round =>
        clear HA HB
        obtain ⟨j, hj, rfl, ⟨OB, rfl, hOB⟩, hA, hbel⟩ := hrel
        have HA := Lib.hid hA
        have HB := Lib.hid hbel
        clear hA hbel
        by_cases hlt8 : j < 8
        · have hcj : wr.cell? ⟨g, j, none⟩ = some (.int .u32 ((S.nth j : Nat) : Int)) := HA.out.cell (nth_cellR S j hlt8)
          have hx := nth_lt HOK.out j
          have hhi := rhigh_any (S.nth j) (by omega) 4
          obtain ⟨Y, hY⟩ : ∃ Y : ByteArray, Y = ⟨(lowL (S.nth j) (toldN 4)).reverse.toArray⟩ := ⟨_, rfl⟩
          rw [← hY, ← u64_of_u32 _ hx] at hhi
          have HHI := Lib.hid hhi
          have hY4 := highB_size _ _ Y hY
          rw [show toldN 4 = 4 from rfl] at hY4
          have hN := outN_succ S j Y hY
          have hOs : OB.size = 4 * j := by rw [hOB]; show (outN S j).toArray.size = _; rw [List.size_toArray, outN_len]
          have hrun2 : ∀ w : World, (Op.stringOp .add OB Y).run Tryd.prog w = .ok (.string (OB ++ Y)) w := fun w => cat_run OB Y (by omega) w
          have hnext : OB ++ Y = ⟨(outN S (j + 1)).toArray⟩ := by
            rw [hN, hOB]; apply ByteArray.ext; simp
          obtain ⟨O2, hO2⟩ : ∃ O2, O2 = OB ++ Y := ⟨_, rfl⟩
          rw [← hO2] at hrun2 hnext
          have HNX := Lib.hid hnext
          clear hhi hY hY4 hN hOs hO2 hnext hOB hx
          generalize S.nth j = x at *
          go_wp2_with (first
            | (go_at_call 44; (with_reducible refine (HHI.out _).mono ?_); rintro e w5 ⟨rfl, hb5⟩))
          go_roundw
          case rel => exact ⟨j + 1, hlt8, by go_num, ⟨O2, rfl, HNX.out⟩, HA.out.next hb5, HB.out.trans (hb5.mono HB.out.size)⟩
          case measure => simp [intOf]; omega
        · obtain rfl : j = 8 := by omega
          obtain rfl : OB = D := by rw [hOB, HD.out, ← HFN.out, outN_full]
          clear hOB
          go_wp2
          go_ret
          exact ⟨rfl, HB.out⟩
end Go.Proofs.YtmedlgnllgldiaaDoor
