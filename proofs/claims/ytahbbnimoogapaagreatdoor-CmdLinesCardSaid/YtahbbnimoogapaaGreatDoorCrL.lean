/- The document's own layer 10: Write of Data, Rset, Quit. -/
import Derived.Test.YtahbbnimoogapaaGreatDoorMR
import Derived.BigQuiet
import Derived.StillTailTactics
namespace Go.Proofs.YtahbbnimoogapaaGreatDoor
open Go.RowKit

set_option maxHeartbeats 8000000 in
set_option maxRecDepth 100000 in
theorem rwrite10_rest (c : CmdA) (k : Nat) (hk : c.verb = k) (hkc : k = 5 ∨ k = 6 ∨ k = 8) (h0 : c.text.length ≤ 524288) (h1 : c.box.loc.length ≤ 524288) (h2 : c.box.dom.length ≤ 524288) (w : World) :
    Calls Tryz.prog 15 #[cmdV c] w fun e w' => e = .returned (wriV c) ∧ Below w.heap.size w w' := by
  have hA := Arr.new w (cmdZ c) 32
  have hb := Lib.hid (below_one w (.cells (cmdZ c) 32))
  have hNon := fun w => rnone_any c (by omega) (by omega) w
  have hPath := fun w => rpath_any c.box (by omega) (by omega) w
  have hDom := fun w => rdomain_any (ba c.text) (by rw [ba_size]; omega) w
  rw [ba_list] at hDom
  rw [cmdV] at hNon ⊢
  unfold cmdZ at hA hb hNon ⊢
  rw [boxV] at hPath
  have HA := Lib.hid (show CmdW _ _ _ from hA)
  have hk1 : ¬ (k : Int) < 1 := by omega
  have hk9 : ¬ 9 < (k : Int) := by omega
  have hk0 : (0 : Int) ≤ (k : Int) := by omega
  have hk10 : (k : Int) < 10 := by omega
  have hkn : k < 10 := by omega
  have HR := Lib.hid (show wriV c = match lineC c with
    | none => .tuple #[.string ⟨#[]⟩, .int .i64 2]
    | some w => .tuple #[.string (ba w), .int .i64 0] by rw [wriV, if_neg (by omega)]; rfl)
  rw [hk] at hA hb HA hNon ⊢
  obtain ⟨c0, c1, c2, c3, c4, c5⟩ := HA.out.limbs
  generalize wriV c = R at *
  have hPr := fun w => rprinted_any c.text (by omega) w
  have hTr := fun w => rtrimmed_any c.text (by omega) w
  have q := tl8 (a := ba (trL c.text)) (b := ba c.text)
  have hq : decide (ba (trL c.text) = ba c.text) = decide (trL c.text = c.text) := by
    by_cases h : trL c.text = c.text
    · rw [h, decide_eq_true rfl, decide_eq_true rfl]
    · rw [decide_eq_false h, decide_eq_false fun e => h (ba_inj e)]
  rw [hq] at q
  clear hq hA
  have hvb2 : (bas vbL).getD k ByteArray.empty = ba (vb k) := by
    rw [List.getD_eq_getElem?_getD, bas, List.getElem?_map, vb, List.getD_eq_getElem?_getD]
    have : k < vbL.length := hkn
    rw [List.getElem?_eq_getElem this]; rfl
  have HVb := Lib.hid (fun (W : World) (a : Option Addr) (h : IsTexts W a 10 10 (bas vbL)) => show ∃ x, a = some x ∧ W.cell? (x.add k) = some (.string (ba (vb k))) by
    obtain ⟨x, hx, c, _⟩ := h.at hkn
    rw [hvb2] at c
    exact ⟨x, hx, c⟩)
  have hvbs := vb_size k
  have hts := ba_size c.text
  obtain ⟨PX, PE, hpr, hpc⟩ := pathR_two c.box
  rw [hpr] at hPath
  have HPc := Lib.hid hpc
  have HK := Lib.hid (show ((k : Int) == 1) = false ∧ ((k : Int) == 2) = false ∧ ((k : Int) == 3) = false ∧ ((k : Int) == 4) = false ∧ ((k : Int) == 7) = false ∧ ((k : Int) == 9) = false by rcases hkc with rfl | rfl | rfl <;> exact ⟨rfl, rfl, rfl, rfl, rfl, rfl⟩)
  have hmm : Hid ((((0 : Int) < ((ba c.text).size : Int) ∧ ¬ ba c.text = ByteArray.empty) ∧ Hid (lineC c = none)) ∨ (ba c.text = ByteArray.empty ∧ nonB c = false ∧ Hid (lineC c = none)) ∨ (ba c.text = ByteArray.empty ∧ nonB c = true ∧ Hid (lineC c = some (vb k)))) := by
    have hl : lineC c = if c.text = [] ∧ nonB c = true then some (vb k) else none := by
      rw [lineC, if_neg (by rw [hk]; omega), if_neg (by rw [hk]; omega), if_neg (by rw [hk]; omega), if_neg (by rw [hk]; omega), hk, Int.toNat_natCast]
    by_cases t0 : c.text = []
    · have z : ba c.text = ByteArray.empty := by rw [t0]; rfl
      cases hn : nonB c with
      | false => exact .inr (.inl ⟨z, rfl, by rw [hl, hn, if_neg (fun h => by cases h.2)]; rfl⟩)
      | true => exact .inr (.inr ⟨z, rfl, by rw [hl, if_pos ⟨t0, hn⟩]; rfl⟩)
    · have hpos := List.length_pos_iff.2 t0
      exact .inl ⟨⟨by omega, fun e => t0 (ba_inj (e.trans (show ByteArray.empty = ba [] from rfl)))⟩, by rw [hl, if_neg (fun h => t0 h.1)]; rfl⟩
  clear hpr hpc hvb2 hkc hts
  have HNon := Lib.hid hNon
  have HPath := Lib.hid hPath
  have HPr := Lib.hid (fun w => (hPr w).mono (fun _ w' (h : _ ∧ w = w') => And.intro h.1 h.2.symm))
  have HTr := Lib.hid (fun w => (hTr w).mono (fun _ w' (h : _ ∧ w = w') => And.intro h.1 h.2.symm))
  have HDom := Lib.hid hDom
  clear hNon hPath hPr hTr hDom
  generalize hVB : ba (vb k) = VB at *
  generalize hTT : ba c.text = TT at *
  generalize ba c.box.loc = LL at *
  generalize ba c.box.dom = DD at *
  generalize c.size = SZ at *
  generalize c.eight = EI at *
  generalize hTR : ba (trL c.text) = TR at *
  go_enter Tryz.func15, Tryz.ntmps15
  go_wp2
  have hS0 := HA.out.limbs.1
  clear c0 c1 c2 c3 c4 c5
  go_region_with (first
    | (go_at_call 30; (with_reducible refine (rverbs_any _).mono ?_); rintro e w1 ⟨a1, rfl, ht1, hb1⟩; obtain ⟨x1, rfl, cx⟩ := HVb.out _ _ ht1; have HA1 := Lib.hid (HA.out.drew.next hb1); have HB1 := Lib.hid (Below_next hb.out.drew hb1); have hS1 := HA1.out.limbs.1))
  all_goals
    clear hS0 hS1 cx ht1 hb1
    obtain ⟨d0, d1, d2, d3, d4, d5⟩ := HA1.out.limbs
    go_wp2
    rcases (show prB c.text = false ∨ (prB c.text = true ∧ decide (trL c.text = c.text) = false) ∨ (prB c.text = true ∧ decide (trL c.text = c.text) = true) by cases prB c.text <;> cases decide (trL c.text = c.text) <;> simp) with hA | ⟨hB, hB2⟩ | ⟨hC, hC2⟩
    all_goals first
      | (rw [hA] at HPr; go_quiet (first
        | (go_at_call 36; with_reducible refine Calls.quiet_of_same (HPr.out _))
        | (go_at_call 32; with_reducible refine Calls.quiet_of_same (HTr.out _))); have HAX := Lib.hid (show CmdW (w1.drewN nq) w.heap.size _ from HA1.out); have HBX := Lib.hid (Below_drewN HB1.out nq); have HTB := Lib.hid (show false = (prB c.text && decide (trL c.text = c.text) && nonB c) by rw [hA]; rfl); generalize w1.drewN nq = wX at *; clear hA d0 d1 d2 d3 d4 d5 HA1 HB1)
      | (rw [hB] at HPr; rw [hB2] at q; go_quiet (first
        | (go_at_call 36; with_reducible refine Calls.quiet_of_same (HPr.out _))
        | (go_at_call 32; with_reducible refine Calls.quiet_of_same (HTr.out _))); have HAX := Lib.hid (show CmdW (w1.drewN nq) w.heap.size _ from HA1.out); have HBX := Lib.hid (Below_drewN HB1.out nq); have HTB := Lib.hid (show false = (prB c.text && decide (trL c.text = c.text) && nonB c) by rw [hB2, Bool.and_false]; rfl); generalize w1.drewN nq = wX at *; clear hB hB2 d0 d1 d2 d3 d4 d5 HA1 HB1)
      | (rw [hC] at HPr; rw [hC2] at q; go_still_tail 13, (by kernel_rfl); still_call (HPr.out _); repeat still_step
         still_call (HTr.out _); repeat still_step
         refine wpStill_nil ?_
         change wpList _ _ _ _ _ w1.drew
         have HTB := Lib.hid (show nonB c = (prB c.text && decide (trL c.text = c.text) && nonB c) by rw [hC, hC2]; rfl)
         clear d0 d1 d2 d3 d4 d5
         obtain ⟨d0, d1, d2, d3, d4, d5⟩ := HA1.out.drew.limbs
         go_wp2_with fail
         refine (HNon.out _).mono ?_
         rintro e wX ⟨rfl, hb2⟩
         have HAX := Lib.hid (HA1.out.drew.next hb2)
         have HBX := Lib.hid (Below_next HB1.out.drew hb2)
         clear hC hC2 d0 d1 d2 d3 d4 d5 HA1 HB1 hb2)
    all_goals
      clear HTB q
      obtain ⟨d0, d1, d2, d3, d4, d5⟩ := HAX.out.limbs
      obtain ⟨e1, e2, e3, e4, e5, e6⟩ := HK.out
      rcases hmm.out with ⟨⟨m1, m1b⟩, hRf⟩ | ⟨rfl, m2, hRf⟩ | ⟨rfl, m2, hRf⟩
      · clear hmm HPc hk
        go_wp2_with (first
          | (go_at_call 40; (with_reducible refine (HPath.out _).mono ?_); rintro e w3 ⟨rfl, hb3⟩; have HA3 := Lib.hid (HAX.out.next hb3); have HB3 := Lib.hid (Below_next HBX.out hb3); obtain ⟨g0, g1, g2, g3, g4, g5⟩ := HA3.out.limbs))
        go_ret2
        exact ⟨by rw [HR.out, hRf.out]; rfl, HB3.out⟩
      · clear hmm HPc hk
        rw [m2] at HNon
        go_wp2_with (first
          | (go_at_call 40; (with_reducible refine (HPath.out _).mono ?_); rintro e w3 ⟨rfl, hb3⟩; have HA3 := Lib.hid (HAX.out.next hb3); have HB3 := Lib.hid (Below_next HBX.out hb3); obtain ⟨g0, g1, g2, g3, g4, g5⟩ := HA3.out.limbs)
          | (go_at_call 39; (with_reducible refine (HNon.out _).mono ?_); rintro e w5 ⟨rfl, hb5⟩; have HB5 := Lib.hid (Below_next HB3.out hb5)))
        go_ret2
        exact ⟨by rw [HR.out, hRf.out]; rfl, HB5.out⟩
      · clear hmm HPc hk
        rw [m2] at HNon
        go_wp2_with (first
          | (go_at_call 40; (with_reducible refine (HPath.out _).mono ?_); rintro e w3 ⟨rfl, hb3⟩; have HA3 := Lib.hid (HAX.out.next hb3); have HB3 := Lib.hid (Below_next HBX.out hb3); obtain ⟨g0, g1, g2, g3, g4, g5⟩ := HA3.out.limbs)
          | (go_at_call 39; (with_reducible refine (HNon.out _).mono ?_); rintro e w5 ⟨rfl, hb5⟩; have HB5 := Lib.hid (Below_next HB3.out hb5)))
        go_ret2
        exact ⟨by rw [HR.out, hRf.out, ← hVB]; rfl, HB5.out⟩
end Go.Proofs.YtahbbnimoogapaaGreatDoor
