/- The document's own layer 10: Write of Rcpt. -/
import Derived.Test.YtahbbnimoogapaaGreatDoorMR
import Derived.BigQuiet
import Derived.StillTailTactics
namespace Go.Proofs.YtahbbnimoogapaaGreatDoor
open Go.RowKit

set_option maxHeartbeats 8000000 in
set_option maxRecDepth 100000 in
theorem rwrite10_rcpt (c : CmdA) (k : Nat) (hk : c.verb = k) (hkc : k = 4) (h0 : c.text.length ≤ 524288) (h1 : c.box.loc.length ≤ 524288) (h2 : c.box.dom.length ≤ 524288) (w : World) :
    Calls Tryz.prog 15 #[cmdV c] w fun e w' => e = .returned (wriV c) ∧ Below w.heap.size w w' := by
  have hA := Arr.new w (cmdZ c) 32
  have hb := Lib.hid (below_one w (.cells (cmdZ c) 32))
  have hNon := fun w => rnone_any c (by omega) (by omega) w
  have hPath := fun w => rpath_any c.box (by omega) (by omega) w
  have hDom := fun w => rdomain_any (ba c.text) (by rw [ba_size]; omega) w
  rw [ba_list] at hDom
  rw [cmdV] at hNon ⊢
  unfold cmdZ at hA hb hNon ⊢
  rw [boxV] at hPath
  have HA := Lib.hid (show CmdW _ _ _ from hA)
  have hk1 : ¬ (k : Int) < 1 := by omega
  have hk9 : ¬ 9 < (k : Int) := by omega
  have hk0 : (0 : Int) ≤ (k : Int) := by omega
  have hk10 : (k : Int) < 10 := by omega
  have hkn : k < 10 := by omega
  have HR := Lib.hid (show wriV c = match lineC c with
    | none => .tuple #[.string ⟨#[]⟩, .int .i64 2]
    | some w => .tuple #[.string (ba w), .int .i64 0] by rw [wriV, if_neg (by omega)]; rfl)
  rw [hk] at hA hb HA hNon ⊢
  obtain ⟨c0, c1, c2, c3, c4, c5⟩ := HA.out.limbs
  generalize wriV c = R at *
  have hPr := fun w => rprinted_any c.text (by omega) w
  have hTr := fun w => rtrimmed_any c.text (by omega) w
  have q := tl8 (a := ba (trL c.text)) (b := ba c.text)
  have hq : decide (ba (trL c.text) = ba c.text) = decide (trL c.text = c.text) := by
    by_cases h : trL c.text = c.text
    · rw [h, decide_eq_true rfl, decide_eq_true rfl]
    · rw [decide_eq_false h, decide_eq_false fun e => h (ba_inj e)]
  rw [hq] at q
  clear hq hA
  have hvb2 : (bas vbL).getD k ByteArray.empty = ba (vb k) := by
    rw [List.getD_eq_getElem?_getD, bas, List.getElem?_map, vb, List.getD_eq_getElem?_getD]
    have : k < vbL.length := hkn
    rw [List.getElem?_eq_getElem this]; rfl
  have HVb := Lib.hid (fun (W : World) (a : Option Addr) (h : IsTexts W a 10 10 (bas vbL)) => show ∃ x, a = some x ∧ W.cell? (x.add k) = some (.string (ba (vb k))) by
    obtain ⟨x, hx, c, _⟩ := h.at hkn
    rw [hvb2] at c
    exact ⟨x, hx, c⟩)
  have hvbs := vb_size k
  have hts := ba_size c.text
  obtain ⟨PX, PE, hpr, hpc⟩ := pathR_two c.box
  rw [hpr] at hPath
  have HPc := Lib.hid hpc
  have HK := Lib.hid (show ((k : Int) == 1) = false ∧ ((k : Int) == 2) = false ∧ ((k : Int) == 3) = false ∧ ((k : Int) == 4) = true by subst hkc; exact ⟨rfl, rfl, rfl, rfl⟩)
  have hmm : Hid (((PE != 0) = true ∧ Hid (lineC c = none)) ∨ ∃ p, (PE != 0) = false ∧ PX = ba p ∧ p.length ≤ 2097152 ∧ (((PX.toList == [60, 62]) = true ∧ Hid (lineC c = none)) ∨ ((PX.toList == [60, 62]) = false ∧ ((((0 : Int) < ((ba c.text).size : Int) ∧ ¬ ba c.text = ByteArray.empty) ∧ Hid (lineC c = none)) ∨ (ba c.text = ByteArray.empty ∧ c.eight = true ∧ Hid (lineC c = none)) ∨
      (ba c.text = ByteArray.empty ∧ c.eight = false ∧ Hid (lineC c = some (vb k ++ (32 :: toW ++ p)))))))) := by
    have hl : lineC c = match pathL c.box with
        | none => none
        | some p => if p ≠ [60, 62] ∧ c.text = [] ∧ c.eight = false then some (vb 4 ++ 32 :: (toW ++ p)) else none := by
      rw [lineC, if_neg (by rw [hk]; omega), if_neg (by rw [hk]; omega), if_pos (by rw [hk]; omega)]; rfl
    rcases hpc with ⟨h3, h4⟩ | ⟨p, h3, h4, h5⟩
    · exact .inl ⟨h4, by rw [hl, h3]; rfl⟩
    · have hpl := path_plen h3
      rw [h3] at hl
      simp only at hl
      have hpx : (PX.toList == [60, 62]) = decide (p = [60, 62]) := by
        have q : ((ba p).toList == (ba [60, 62]).toList) = decide (ba p = ba [60, 62]) := tl8
        rw [show (ba [60, 62]).toList = [60, 62] from ByteArray.toList_mk [60, 62]] at q
        rw [h4, q]
        by_cases h : p = [60, 62]
        · rw [decide_eq_true h, decide_eq_true (congrArg ba h)]
        · rw [decide_eq_false h, decide_eq_false fun e => h (ba_inj e)]
      refine .inr ⟨p, h5, h4, by omega, ?_⟩
      by_cases p0 : p = [60, 62]
      · exact .inl ⟨by rw [hpx, decide_eq_true p0], by rw [hl, if_neg (fun h => h.1 p0)]; rfl⟩
      · refine .inr ⟨by rw [hpx, decide_eq_false p0], ?_⟩
        by_cases t0 : c.text = []
        · have z : ba c.text = ByteArray.empty := by rw [t0]; rfl
          cases h8 : c.eight with
          | true => exact .inr (.inl ⟨z, rfl, by rw [hl, h8, if_neg (fun h => by cases h.2.2)]; rfl⟩)
          | false => exact .inr (.inr ⟨z, rfl, by rw [hl, if_pos ⟨p0, t0, h8⟩, hkc]; rfl⟩)
        · have hpos := List.length_pos_iff.2 t0
          exact .inl ⟨⟨by omega, fun e => t0 (ba_inj (e.trans (show ByteArray.empty = ba [] from rfl)))⟩, by rw [hl, if_neg (fun h => t0 h.2.1)]; rfl⟩
  clear hpr hpc hvb2 hkc hts
  have HNon := Lib.hid hNon
  have HPath := Lib.hid hPath
  have HPr := Lib.hid (fun w => (hPr w).mono (fun _ w' (h : _ ∧ w = w') => And.intro h.1 h.2.symm))
  have HTr := Lib.hid (fun w => (hTr w).mono (fun _ w' (h : _ ∧ w = w') => And.intro h.1 h.2.symm))
  have HDom := Lib.hid hDom
  clear hNon hPath hPr hTr hDom
  generalize hVB : ba (vb k) = VB at *
  generalize hTT : ba c.text = TT at *
  generalize ba c.box.loc = LL at *
  generalize ba c.box.dom = DD at *
  generalize c.size = SZ at *
  generalize c.eight = EI at *
  generalize hTR : ba (trL c.text) = TR at *
  go_enter Tryz.func15, Tryz.ntmps15
  go_wp2
  have hS0 := HA.out.limbs.1
  clear c0 c1 c2 c3 c4 c5
  go_region_with (first
    | (go_at_call 30; (with_reducible refine (rverbs_any _).mono ?_); rintro e w1 ⟨a1, rfl, ht1, hb1⟩; obtain ⟨x1, rfl, cx⟩ := HVb.out _ _ ht1; have HA1 := Lib.hid (HA.out.drew.next hb1); have HB1 := Lib.hid (Below_next hb.out.drew hb1); have hS1 := HA1.out.limbs.1))
  all_goals
    clear hS0 hS1 cx ht1 hb1
    obtain ⟨d0, d1, d2, d3, d4, d5⟩ := HA1.out.limbs
    go_wp2
    rcases (show prB c.text = false ∨ (prB c.text = true ∧ decide (trL c.text = c.text) = false) ∨ (prB c.text = true ∧ decide (trL c.text = c.text) = true) by cases prB c.text <;> cases decide (trL c.text = c.text) <;> simp) with hA | ⟨hB, hB2⟩ | ⟨hC, hC2⟩
    all_goals first
      | (rw [hA] at HPr; go_quiet (first
        | (go_at_call 36; with_reducible refine Calls.quiet_of_same (HPr.out _))
        | (go_at_call 32; with_reducible refine Calls.quiet_of_same (HTr.out _))); have HAX := Lib.hid (show CmdW (w1.drewN nq) w.heap.size _ from HA1.out); have HBX := Lib.hid (Below_drewN HB1.out nq); have HTB := Lib.hid (show false = (prB c.text && decide (trL c.text = c.text) && nonB c) by rw [hA]; rfl); generalize w1.drewN nq = wX at *; clear hA d0 d1 d2 d3 d4 d5 HA1 HB1)
      | (rw [hB] at HPr; rw [hB2] at q; go_quiet (first
        | (go_at_call 36; with_reducible refine Calls.quiet_of_same (HPr.out _))
        | (go_at_call 32; with_reducible refine Calls.quiet_of_same (HTr.out _))); have HAX := Lib.hid (show CmdW (w1.drewN nq) w.heap.size _ from HA1.out); have HBX := Lib.hid (Below_drewN HB1.out nq); have HTB := Lib.hid (show false = (prB c.text && decide (trL c.text = c.text) && nonB c) by rw [hB2, Bool.and_false]; rfl); generalize w1.drewN nq = wX at *; clear hB hB2 d0 d1 d2 d3 d4 d5 HA1 HB1)
      | (rw [hC] at HPr; rw [hC2] at q; go_still_tail 13, (by kernel_rfl); still_call (HPr.out _); repeat still_step
         still_call (HTr.out _); repeat still_step
         refine wpStill_nil ?_
         change wpList _ _ _ _ _ w1.drew
         have HTB := Lib.hid (show nonB c = (prB c.text && decide (trL c.text = c.text) && nonB c) by rw [hC, hC2]; rfl)
         clear d0 d1 d2 d3 d4 d5
         obtain ⟨d0, d1, d2, d3, d4, d5⟩ := HA1.out.drew.limbs
         go_wp2_with fail
         refine (HNon.out _).mono ?_
         rintro e wX ⟨rfl, hb2⟩
         have HAX := Lib.hid (HA1.out.drew.next hb2)
         have HBX := Lib.hid (Below_next HB1.out.drew hb2)
         clear hC hC2 d0 d1 d2 d3 d4 d5 HA1 HB1 hb2)
    all_goals
      clear HTB q
      obtain ⟨d0, d1, d2, d3, d4, d5⟩ := HAX.out.limbs
      obtain ⟨e1, e2, e3, e4⟩ := HK.out
      rcases hmm.out with ⟨m0, hRf⟩ | ⟨p, m0, hpx, hpl, ⟨m1, hRf⟩ | ⟨m1, ⟨⟨m2, m2b⟩, hRf⟩ | ⟨rfl, rfl, hRf⟩ | ⟨rfl, rfl, hRf⟩⟩⟩
      · clear hmm HPc hk
        go_wp2_with (first
          | (go_at_call 40; (with_reducible refine (HPath.out _).mono ?_); rintro e w3 ⟨rfl, hb3⟩; have HA3 := Lib.hid (HAX.out.next hb3); have HB3 := Lib.hid (Below_next HBX.out hb3); obtain ⟨g0, g1, g2, g3, g4, g5⟩ := HA3.out.limbs))
        go_ret2
        exact ⟨by rw [HR.out, hRf.out]; rfl, HB3.out⟩
      · clear hmm HPc hk hpx hpl
        go_wp2_with (first
          | (go_at_call 40; (with_reducible refine (HPath.out _).mono ?_); rintro e w3 ⟨rfl, hb3⟩; have HA3 := Lib.hid (HAX.out.next hb3); have HB3 := Lib.hid (Below_next HBX.out hb3); obtain ⟨g0, g1, g2, g3, g4, g5⟩ := HA3.out.limbs))
        go_ret2
        exact ⟨by rw [HR.out, hRf.out]; rfl, HB3.out⟩
      · clear hmm HPc hk hpx hpl
        go_wp2_with (first
          | (go_at_call 40; (with_reducible refine (HPath.out _).mono ?_); rintro e w3 ⟨rfl, hb3⟩; have HA3 := Lib.hid (HAX.out.next hb3); have HB3 := Lib.hid (Below_next HBX.out hb3); obtain ⟨g0, g1, g2, g3, g4, g5⟩ := HA3.out.limbs))
        go_ret2
        exact ⟨by rw [HR.out, hRf.out]; rfl, HB3.out⟩
      · clear hmm HPc hk hpx hpl
        go_wp2_with (first
          | (go_at_call 40; (with_reducible refine (HPath.out _).mono ?_); rintro e w3 ⟨rfl, hb3⟩; have HA3 := Lib.hid (HAX.out.next hb3); have HB3 := Lib.hid (Below_next HBX.out hb3); obtain ⟨g0, g1, g2, g3, g4, g5⟩ := HA3.out.limbs))
        go_ret2
        exact ⟨by rw [HR.out, hRf.out]; rfl, HB3.out⟩
      · clear hmm HPc hk
        have HPX := Lib.hid hpx
        have hVs : VB.size ≤ 4 := hvbs
        have hN0 : (ba p).size = p.length := ba_size p
        have hb1 : (⟨#[32, 84, 79, 58]⟩ : ByteArray) = ba (32 :: toW) := rfl
        have s1 := cat_run VB (ba (32 :: toW)) (by rw [ba_size]; simp only [List.length_cons, toW, List.length_nil]; omega)
        rw [← hVB, ba_append] at s1
        have z1 : (ba (vb k ++ 32 :: toW)).size = VB.size + 4 := by rw [← hVB, ba_size, ba_size, List.length_append]; simp only [List.length_cons, toW, List.length_nil]
        have s2 := cat_run (ba (vb k ++ 32 :: toW)) (ba p) (by omega)
        rw [ba_append, ← hpx] at s2
        rw [hVB, ← hb1] at s1
        have HF2 := Lib.hid (show lineC c = some ((vb k ++ 32 :: toW) ++ p) by rw [hRf.out, List.append_assoc])
        clear hpx hVs hN0 z1 hpl hVB hTT hTR hvbs hb1 hRf
        generalize hFI : (vb k ++ 32 :: toW) ++ p = FIN at *
        clear hFI
        generalize hFB : ba FIN = FB at *
        have HFB := Lib.hid hFB
        generalize ba (vb k ++ 32 :: toW) = P1 at *
        clear hFB
        go_wp2_with (first
          | (go_at_call 40; (with_reducible refine (HPath.out _).mono ?_); rintro e w3 ⟨rfl, hb3⟩; have HA3 := Lib.hid (HAX.out.next hb3); have HB3 := Lib.hid (Below_next HBX.out hb3); obtain ⟨g0, g1, g2, g3, g4, g5⟩ := HA3.out.limbs))
        go_ret2
        exact ⟨by rw [HR.out, HF2.out, ← HFB.out]; rfl, HB3.out⟩
end Go.Proofs.YtahbbnimoogapaaGreatDoor
