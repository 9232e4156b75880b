/- cmd, landed: what Mail says behind its path. -/
import Derived.Test.YtahbbnimoogapaaGreatDoorMP
namespace Go.Proofs.YtahbbnimoogapaaGreatDoor
open Go.RowKit

theorem Two.mov {g gc : Nat} {r s : List UInt8} {cs : Array Value} {w w1 w2 : World} (h : Two g gc r cs w w1) (m : Mov g s w1 w2) (hn : g ≠ gc) : Two g gc s cs w w2 :=
  ⟨m.sc, m.fro.arr h.cm (fun e => hn e.symm), h.fro.trans (m.fro.wide fun _ e => .inl e)⟩
theorem Two.size {g gc : Nat} {r : List UInt8} {V T L D E S : Value} {w w1 : World} (h : Two g gc r #[V, T, L, D, S, E] w w1) (hn : g ≠ gc) (X : Value) : Two g gc r #[V, T, L, D, X, E] w (w1.setCell ⟨gc, 4, none⟩ X) :=
  ⟨Arr.other h.sc _ _ hn, Arr.set h.cm 4 X, h.fro.setAt _ _ (.inl (.inr rfl))⟩
theorem Two.eight {g gc : Nat} {r : List UInt8} {V T L D E S : Value} {w w1 : World} (h : Two g gc r #[V, T, L, D, S, E] w w1) (hn : g ≠ gc) (X : Value) : Two g gc r #[V, T, L, D, S, X] w (w1.setCell ⟨gc, 5, none⟩ X) :=
  ⟨Arr.other h.sc _ _ hn, Arr.set h.cm 5 X, h.fro.setAt _ _ (.inl (.inr rfl))⟩
theorem Two.draws {g gc : Nat} {r : List UInt8} {cs : Array Value} {w w1 w2 : World} (h : Two g gc r cs w w1) (hd : Drw w1 w2) : Two g gc r cs w w2 := h.next (hd.below _)
/-- How much of a line is left, as a loop's measure. -/
def lenAt (g : Nat) (w : World) : Nat := match w.cell? ⟨g, 0, none⟩ with
  | some (.string s) => s.size
  | _ => 0
theorem Sc.len {w : World} {g : Nat} {l : List UInt8} (h : Sc w g l) : lenAt g w = l.length := by
  rw [lenAt, h.cells.1]; exact ba_size l
theorem lenAt_less {w w' : World} {g : Nat} {l r : List UInt8} (h : Sc w g l) (h' : Sc w' g r) (hl : r.length < l.length) : lenAt g w' < lenAt g w := by rw [h.len, h'.len]; exact hl
/-- What options answers: is it all read? What is left then. -/
def OptR (g gc : Nat) (V T L D : Value) (w : World) (X : Option MaS) (e : Ending) (w' : World) : Prop := match X with
  | none => e = .returned (.bool false) ∧ Fro (fun h => h = g ∨ h = gc) w w'
  | some s => e = .returned (.bool true) ∧ Two g gc [] #[V, T, L, D, .int .i64 s.size, .bool s.eight] w w'
theorem OptR.no {g gc : Nat} {V T L D : Value} {w : World} {X : Option MaS} {w' : World} (hX : X = none) (h : Fro (fun h => h = g ∨ h = gc) w w') : OptR g gc V T L D w X (.returned (.bool false)) w' := by subst hX; exact ⟨rfl, h⟩
theorem OptR.yes {g gc : Nat} {V T L D : Value} {w : World} {X : Option MaS} {S : Int} {E b : Bool} {w' : World} (hX : maF (wdF [] []) ⟨S, E, b⟩ = X) (h : Two g gc [] #[V, T, L, D, .int .i64 S, .bool E] w w') : OptR g gc V T L D w X (.returned (.bool true)) w' := by subst hX; exact ⟨rfl, h⟩

set_option maxHeartbeats 8000000 in
set_option maxRecDepth 100000 in
theorem loptions_any {g gc : Nat} {l : List UInt8} {V T L D : Value} (hn : g ≠ gc) (hl : l.length ≤ 65536) (w : World) (ht : Tb w) (hg : NoG g) (hgc : NoG gc) (h : Sc w g l) (hc : Arr w gc #[V, T, L, D, .int .i64 (-1), .bool false] 26)
    (h32 : l = [] ∨ l.head? = some 32) (hla : l.getLast? ≠ some 32) :
    Calls Tryz.prog 57 #[.pointer (some ⟨g, 0, none⟩), .pointer (some ⟨gc, 0, none⟩)] w (OptR g gc V T L D w (maF (wdF [] l) ⟨-1, false, false⟩)) := by
  have HTb := Lib.hid (fun w1 (h : Fro (fun h => h = g ∨ h = gc) w w1) => h.tb2 ht hg hgc)
  have HS := Lib.hid (fun r w (h : Sc w g r) => lspaces_any (l := r) w h)
  have HTk := Lib.hid (fun r w (hr : r.length ≤ 1048576) (h : Sc w g r) => ltakes_any (l := r) sizW (by decide) hr (by decide) w h)
  have HTb5 := Lib.hid (fun r w (hr : r.length ≤ 1048576) (h : Sc w g r) => ltakes_any (l := r) bodP (by decide) hr (by decide) w h)
  have HWd := Lib.hid (fun r w (hr : r.length ≤ 1048576) (h : Sc w g r) => lword_any (l := r) hr w h)
  have HRs := Lib.hid (fun x w (h : Tb w) => lreadSize_any x w h)
  have HA8 := Lib.hid (fun x (hx : x.length ≤ 1048576) w => lalike_any x eigW hx (by decide) w)
  have HA7 := Lib.hid (fun x (hx : x.length ≤ 1048576) w => lalike_any x sevW hx (by decide) w)
  rw [show ba sizW = ⟨#[83, 73, 90, 69, 61]⟩ from rfl] at HTk
  rw [show ba bodP = ⟨#[66, 79, 68, 89, 61]⟩ from rfl] at HTb5
  rw [show ba eigW = ⟨#[56, 66, 73, 84, 77, 73, 77, 69]⟩ from rfl] at HA8
  rw [show ba sevW = ⟨#[55, 66, 73, 84]⟩ from rfl] at HA7
  have HNe := Lib.hid hn
  have H0 := Lib.hid (show Two g gc l #[V, T, L, D, .int .i64 (-1), .bool false] w w from ⟨h, hc, Fro.of_below (Below.refl _ _)⟩)
  have HI := Lib.hid (And.intro h32 (And.intro hla hl))
  obtain ⟨X, hX⟩ : ∃ X, X = maF (wdF [] l) ⟨-1, false, false⟩ := ⟨_, rfl⟩
  rw [← hX]
  have HX0 := Lib.hid hX.symm
  clear ht hg hgc h hc h32 hla hl hn hX
  go_enter Tryz.func57, Tryz.ntmps57
  go_wp2
  go_loopw [5, 6] (fun s b wr => ∃ (r : List UInt8) (S : Int) (E sized bodied : Bool), s = .bool sized ∧ b = .bool bodied ∧ Two g gc r #[V, T, L, D, .int .i64 S, .bool E] w wr ∧ (sized = true ↔ 0 ≤ S) ∧ maF (wdF [] r) ⟨S, E, bodied⟩ = X ∧ (r = [] ∨ r.head? = some 32) ∧ r.getLast? ≠ some 32 ∧ r.length ≤ 65536) (fun _ _ wr => lenAt g wr)
  case atStart => exact ⟨l, -1, false, false, false, rfl, rfl, H0.out, by decide, HX0.out, HI.out.1, HI.out.2.1, HI.out.2.2⟩
  case round =>
    clear H0 HI HX0
    obtain ⟨r, S, E, sized, bodied, rfl, rfl, htw, hsz, hma, h32, hla, hrl⟩ := hrel
    have HT := Lib.hid htw
    have hsp := HS.out r wr htw.sc
    rcases h32 with rfl | h32
    · rw [show spL [] = [] from rfl, decide_eq_false (by decide)] at hsp
      have HSp := Lib.hid hsp
      have HX := Lib.hid hma
      clear htw hsz hma hla hrl hsp
      go_wp2_with (first
        | (go_at_call 53; (with_reducible refine HSp.out.mono ?_); rintro e w1 ⟨rfl, hm⟩; have HT1 := Lib.hid (HT.out.mov hm HNe.out)))
      go_ret
      exact OptR.yes HX.out HT1.out
    · obtain ⟨n1, n2, n3, n4, n5, n6⟩ := wdF_next h32 hla
      rw [decide_eq_true (spL_less h32)] at hsp
      have HSp := Lib.hid hsp
      have hl1 : (spL r).length ≤ 65536 := Nat.le_trans (spL_len r) hrl
      obtain ⟨b1, b2⟩ := beg_wrd (l := spL r) (w := sizW) (by decide)
      obtain ⟨b3, b4⟩ := beg_wrd (l := spL r) (w := bodP) (by decide)
      rw [n3] at hma
      have HMa := Lib.hid hma
      have HLs := Lib.hid (fun w' (h' : Sc w' g (rst (spL r))) => lenAt_less htw.sc h' n6)
      have HNx := Lib.hid (And.intro n5 (And.intro n4 (show (rst (spL r)).length ≤ 65536 by omega)))
      have HL1 := Lib.hid hl1
      have hwl : (wrd (spL r)).length ≤ 65536 := Nat.le_trans (wrd_len _) hl1
      clear h32 hla hrl hsp n1 n2 n3 n4 n5 n6 hma hl1 htw
      generalize spL r = q at *
      cases sized with
      | true =>
        have hno1 := Lib.hid (show (begB (wrd q) bodP = true → bodied = true) → maF (wrd q :: wdF [] (rst q)) ⟨S, E, bodied⟩ = none from fun hb => by
          have h0 := hsz.1 rfl
          cases hs : begB (wrd q) sizW with
          | true => rw [ma_siz hs, if_pos h0]
          | false =>
            cases hb2 : begB (wrd q) bodP with
            | true => rw [ma_bod hb2, if_pos (hb hb2)]
            | false => exact ma_no hs hb2)
        cases bodied with
        | true =>
          have HN := Lib.hid (show X = none by
            rw [← HMa.out]
            exact hno1.out (fun _ => rfl))
          clear hno1 b1 b2 b3 b4 hwl hsz
          go_wp2_with (first
            | (go_at_call 53; (with_reducible refine HSp.out.mono ?_); rintro e w1 ⟨rfl, hm⟩; have HT1 := Lib.hid (HT.out.mov hm HNe.out); clear hm; have s1 := HT1.out.sc))
          go_ret
          exact OptR.no HN.out HT1.out.fro
        | false =>
          have hTB := fun w (h : Sc w g q) => HTb5.out q w (Nat.le_trans HL1.out (by decide)) h
          cases hbb : begB q bodP with
          | false =>
            rw [hbb, if_neg (by decide)] at hTB
            have HTb2 := Lib.hid hTB
            have HN := Lib.hid (show X = none by
              rw [← HMa.out]
              exact hno1.out (fun e => by rw [← b3, hbb] at e; cases e))
            clear hno1 b1 b2 b3 b4 hwl hsz hTB hbb
            go_wp2_with (first
              | (go_at_call 53; (with_reducible refine HSp.out.mono ?_); rintro e w1 ⟨rfl, hm⟩; have HT1 := Lib.hid (HT.out.mov hm HNe.out); clear hm; have s1 := HT1.out.sc)
              | (go_at_call 55; (with_reducible refine (HTb2.out _ s1).mono ?_); rintro e w4 ⟨rfl, hm⟩; have HT4 := Lib.hid (HT1.out.mov hm HNe.out); clear hm; have s4 := HT4.out.sc))
            go_ret
            exact OptR.no HN.out HT4.out.fro
          | true =>
            rw [hbb, if_pos rfl] at hTB
            have HTb2 := Lib.hid hTB
            obtain ⟨e1, e2⟩ := b4 hbb
            have hW := fun w (h : Sc w g (q.drop bodP.length)) => HWd.out (q.drop bodP.length) w (by rw [List.length_drop]; have := HL1.out; omega) h
            rw [e1, e2] at hW
            have HW2 := Lib.hid hW
            have hM := HMa.out
            rw [ma_bod (by rw [← b3]; exact hbb), if_neg Bool.false_ne_true] at hM
            have h8 := fun w => HA8.out ((wrd q).drop bodP.length) (by rw [List.length_drop]; omega) w
            have h7 := fun w => HA7.out ((wrd q).drop bodP.length) (by rw [List.length_drop]; omega) w
            rw [decide_eq_decide.2 (sm_great (b := eigW) (by decide))] at h8
            rw [decide_eq_decide.2 (sm_great (b := sevW) (by decide))] at h7
            by_cases h8e : grL ((wrd q).drop bodP.length) = eigW
            · rw [decide_eq_true h8e] at h8
              rw [show (5 : Nat) = bodP.length from rfl, if_pos h8e] at hM
              have HM := Lib.hid hM
              have H8 := Lib.hid h8
              have HSz := Lib.hid hsz
              clear hno1 b1 b2 b3 b4 hwl hsz hTB hbb hW hM h8 h7 h8e e1 e2
              generalize ba ((wrd q).drop bodP.length) = Y at *
              go_wp2_with (first
                | (go_at_call 53; (with_reducible refine HSp.out.mono ?_); rintro e w1 ⟨rfl, hm⟩; have HT1 := Lib.hid (HT.out.mov hm HNe.out); clear hm; have s1 := HT1.out.sc)
                | (go_at_call 55; (with_reducible refine (HTb2.out _ s1).mono ?_); rintro e w4 ⟨rfl, hm⟩; have HT4 := Lib.hid (HT1.out.mov hm HNe.out); clear hm; have s4 := HT4.out.sc)
                | (go_at_call 52; (with_reducible refine (HW2.out _ s4).mono ?_); rintro e w3 ⟨rfl, hm⟩; have HT3 := Lib.hid (HT4.out.mov hm HNe.out); clear hm; have t3 := HTb.out _ HT3.out.fro; obtain ⟨⟨k0, k1, k2, k3, k4, k5⟩, f1, f2, f3, f4, f5⟩ := HT3.out.cells; obtain ⟨i0, i1, i2⟩ := HT3.out.sc.cells)
                | (go_at_call 27; (with_reducible refine (H8.out _).mono ?_); rintro e w5 ⟨rfl, hd⟩; have HT5 := Lib.hid (HT3.out.draws hd); clear hd; have HT6 := Lib.hid (HT5.out.eight HNe.out (.bool true)); obtain ⟨⟨m0, m1, m2, m3, m4, m5⟩, j1, j2, j3, j4, j5⟩ := HT5.out.cells; obtain ⟨⟨o0, o1, o2, o3, o4, o5⟩, r1, r2, r3, r4, r5⟩ := HT6.out.cells; obtain ⟨u0, u1, u2⟩ := HT6.out.sc.cells))
              go_roundw
              case rel => exact ⟨rst q, S, true, _, true, rfl, rfl, HT6.out, (by first | exact HSz.out | simpa using HSz.out), HM.out, HNx.out.1, HNx.out.2.1, HNx.out.2.2⟩
              case measure => exact HLs.out _ HT6.out.sc
            · rw [decide_eq_false h8e] at h8
              rw [show (5 : Nat) = bodP.length from rfl, if_neg h8e] at hM
              by_cases h7e : grL ((wrd q).drop bodP.length) = sevW
              · rw [decide_eq_true h7e] at h7
                rw [if_pos h7e] at hM
                have HM := Lib.hid hM
                have H8 := Lib.hid h8
                have H7 := Lib.hid h7
                have HSz := Lib.hid hsz
                clear hno1 b1 b2 b3 b4 hwl hsz hTB hbb hW hM h8 h7 h8e h7e e1 e2
                generalize ba ((wrd q).drop bodP.length) = Y at *
                go_wp2_with (first
                  | (go_at_call 53; (with_reducible refine HSp.out.mono ?_); rintro e w1 ⟨rfl, hm⟩; have HT1 := Lib.hid (HT.out.mov hm HNe.out); clear hm; have s1 := HT1.out.sc)
                  | (go_at_call 55; (with_reducible refine (HTb2.out _ s1).mono ?_); rintro e w4 ⟨rfl, hm⟩; have HT4 := Lib.hid (HT1.out.mov hm HNe.out); clear hm; have s4 := HT4.out.sc)
                  | (go_at_call 52; (with_reducible refine (HW2.out _ s4).mono ?_); rintro e w3 ⟨rfl, hm⟩; have HT3 := Lib.hid (HT4.out.mov hm HNe.out); clear hm; have t3 := HTb.out _ HT3.out.fro; obtain ⟨⟨k0, k1, k2, k3, k4, k5⟩, f1, f2, f3, f4, f5⟩ := HT3.out.cells; obtain ⟨i0, i1, i2⟩ := HT3.out.sc.cells)
                  | (go_at_call 27; (with_reducible refine (H8.out _).mono ?_); rintro e w5 ⟨rfl, hd⟩; have HT5 := Lib.hid (HT3.out.draws hd); clear hd; have HT6 := Lib.hid (HT5.out.eight HNe.out (.bool false)); obtain ⟨⟨m0, m1, m2, m3, m4, m5⟩, j1, j2, j3, j4, j5⟩ := HT5.out.cells; obtain ⟨⟨o0, o1, o2, o3, o4, o5⟩, r1, r2, r3, r4, r5⟩ := HT6.out.cells; obtain ⟨u0, u1, u2⟩ := HT6.out.sc.cells)
                  | (go_at_call 27; (with_reducible refine (H7.out _).mono ?_); rintro e w7 ⟨rfl, hd⟩; have HT7 := Lib.hid (HT6.out.draws hd); clear hd))
                go_roundw
                case rel => exact ⟨rst q, S, false, _, true, rfl, rfl, HT7.out, (by first | exact HSz.out | simpa using HSz.out), HM.out, HNx.out.1, HNx.out.2.1, HNx.out.2.2⟩
                case measure => exact HLs.out _ HT7.out.sc
              · rw [decide_eq_false h7e] at h7
                rw [if_neg h7e] at hM
                have HM := Lib.hid hM.symm
                have H8 := Lib.hid h8
                have H7 := Lib.hid h7
                clear hno1 b1 b2 b3 b4 hwl hsz hTB hbb hW hM h8 h7 h8e h7e e1 e2
                generalize ba ((wrd q).drop bodP.length) = Y at *
                go_wp2_with (first
                  | (go_at_call 53; (with_reducible refine HSp.out.mono ?_); rintro e w1 ⟨rfl, hm⟩; have HT1 := Lib.hid (HT.out.mov hm HNe.out); clear hm; have s1 := HT1.out.sc)
                  | (go_at_call 55; (with_reducible refine (HTb2.out _ s1).mono ?_); rintro e w4 ⟨rfl, hm⟩; have HT4 := Lib.hid (HT1.out.mov hm HNe.out); clear hm; have s4 := HT4.out.sc)
                  | (go_at_call 52; (with_reducible refine (HW2.out _ s4).mono ?_); rintro e w3 ⟨rfl, hm⟩; have HT3 := Lib.hid (HT4.out.mov hm HNe.out); clear hm; have t3 := HTb.out _ HT3.out.fro; obtain ⟨⟨k0, k1, k2, k3, k4, k5⟩, f1, f2, f3, f4, f5⟩ := HT3.out.cells; obtain ⟨i0, i1, i2⟩ := HT3.out.sc.cells)
                  | (go_at_call 27; (with_reducible refine (H8.out _).mono ?_); rintro e w5 ⟨rfl, hd⟩; have HT5 := Lib.hid (HT3.out.draws hd); clear hd; have HT6 := Lib.hid (HT5.out.eight HNe.out (.bool false)); obtain ⟨⟨m0, m1, m2, m3, m4, m5⟩, j1, j2, j3, j4, j5⟩ := HT5.out.cells; obtain ⟨⟨o0, o1, o2, o3, o4, o5⟩, r1, r2, r3, r4, r5⟩ := HT6.out.cells; obtain ⟨u0, u1, u2⟩ := HT6.out.sc.cells)
                  | (go_at_call 27; (with_reducible refine (H7.out _).mono ?_); rintro e w7 ⟨rfl, hd⟩; have HT7 := Lib.hid (HT6.out.draws hd); clear hd))
                go_ret
                exact OptR.no HM.out HT7.out.fro
      | false =>
        have hTS := fun w (h : Sc w g q) => HTk.out q w (Nat.le_trans HL1.out (by decide)) h
        cases hbs : begB q sizW with
        | false =>
          rw [hbs, if_neg (by decide)] at hTS
          have HTs := Lib.hid hTS
          have hno1 := Lib.hid (show (begB (wrd q) bodP = true → bodied = true) → maF (wrd q :: wdF [] (rst q)) ⟨S, E, bodied⟩ = none from fun hb => by
            rw [hbs] at b1
            cases hb2 : begB (wrd q) bodP with
            | true => rw [ma_bod hb2, if_pos (hb hb2)]
            | false => exact ma_no b1.symm hb2)
          clear hTS hbs
          cases bodied with
          | true =>
            have HN := Lib.hid (show X = none by
              rw [← HMa.out]
              exact hno1.out (fun _ => rfl))
            clear hno1 b1 b2 b3 b4 hwl hsz
            go_wp2_with (first
              | (go_at_call 53; (with_reducible refine HSp.out.mono ?_); rintro e w1 ⟨rfl, hm⟩; have HT1 := Lib.hid (HT.out.mov hm HNe.out); clear hm; have s1 := HT1.out.sc)
              | (go_at_call 55; (with_reducible refine (HTs.out w1 s1).mono ?_); rintro e w2 ⟨rfl, hm⟩; have HT2 := Lib.hid (HT1.out.mov hm HNe.out); clear hm; have s2 := HT2.out.sc))
            go_ret
            exact OptR.no HN.out HT2.out.fro
          | false =>
            have hTB := fun w (h : Sc w g q) => HTb5.out q w (Nat.le_trans HL1.out (by decide)) h
            cases hbb : begB q bodP with
            | false =>
              rw [hbb, if_neg (by decide)] at hTB
              have HTb2 := Lib.hid hTB
              have HN := Lib.hid (show X = none by
                rw [← HMa.out]
                exact hno1.out (fun e => by rw [← b3, hbb] at e; cases e))
              clear hno1 b1 b2 b3 b4 hwl hsz hTB hbb
              go_wp2_with (first
                | (go_at_call 53; (with_reducible refine HSp.out.mono ?_); rintro e w1 ⟨rfl, hm⟩; have HT1 := Lib.hid (HT.out.mov hm HNe.out); clear hm; have s1 := HT1.out.sc)
                | (go_at_call 55; (with_reducible refine (HTs.out w1 s1).mono ?_); rintro e w2 ⟨rfl, hm⟩; have HT2 := Lib.hid (HT1.out.mov hm HNe.out); clear hm; have s2 := HT2.out.sc)
                | (go_at_call 55; (with_reducible refine (HTb2.out _ s2).mono ?_); rintro e w4 ⟨rfl, hm⟩; have HT4 := Lib.hid (HT2.out.mov hm HNe.out); clear hm; have s4 := HT4.out.sc))
              go_ret
              exact OptR.no HN.out HT4.out.fro
            | true =>
              rw [hbb, if_pos rfl] at hTB
              have HTb2 := Lib.hid hTB
              obtain ⟨e1, e2⟩ := b4 hbb
              have hW := fun w (h : Sc w g (q.drop bodP.length)) => HWd.out (q.drop bodP.length) w (by rw [List.length_drop]; have := HL1.out; omega) h
              rw [e1, e2] at hW
              have HW2 := Lib.hid hW
              have hM := HMa.out
              rw [ma_bod (by rw [← b3]; exact hbb), if_neg Bool.false_ne_true] at hM
              have h8 := fun w => HA8.out ((wrd q).drop bodP.length) (by rw [List.length_drop]; omega) w
              have h7 := fun w => HA7.out ((wrd q).drop bodP.length) (by rw [List.length_drop]; omega) w
              rw [decide_eq_decide.2 (sm_great (b := eigW) (by decide))] at h8
              rw [decide_eq_decide.2 (sm_great (b := sevW) (by decide))] at h7
              by_cases h8e : grL ((wrd q).drop bodP.length) = eigW
              · rw [decide_eq_true h8e] at h8
                rw [show (5 : Nat) = bodP.length from rfl, if_pos h8e] at hM
                have HM := Lib.hid hM
                have H8 := Lib.hid h8
                have HSz := Lib.hid hsz
                clear hno1 b1 b2 b3 b4 hwl hsz hTB hbb hW hM h8 h7 h8e e1 e2
                generalize ba ((wrd q).drop bodP.length) = Y at *
                go_wp2_with (first
                  | (go_at_call 53; (with_reducible refine HSp.out.mono ?_); rintro e w1 ⟨rfl, hm⟩; have HT1 := Lib.hid (HT.out.mov hm HNe.out); clear hm; have s1 := HT1.out.sc)
                  | (go_at_call 55; (with_reducible refine (HTs.out w1 s1).mono ?_); rintro e w2 ⟨rfl, hm⟩; have HT2 := Lib.hid (HT1.out.mov hm HNe.out); clear hm; have s2 := HT2.out.sc)
                  | (go_at_call 55; (with_reducible refine (HTb2.out _ s2).mono ?_); rintro e w4 ⟨rfl, hm⟩; have HT4 := Lib.hid (HT2.out.mov hm HNe.out); clear hm; have s4 := HT4.out.sc)
                  | (go_at_call 52; (with_reducible refine (HW2.out _ s4).mono ?_); rintro e w3 ⟨rfl, hm⟩; have HT3 := Lib.hid (HT4.out.mov hm HNe.out); clear hm; have t3 := HTb.out _ HT3.out.fro; obtain ⟨⟨k0, k1, k2, k3, k4, k5⟩, f1, f2, f3, f4, f5⟩ := HT3.out.cells; obtain ⟨i0, i1, i2⟩ := HT3.out.sc.cells)
                  | (go_at_call 27; (with_reducible refine (H8.out _).mono ?_); rintro e w5 ⟨rfl, hd⟩; have HT5 := Lib.hid (HT3.out.draws hd); clear hd; have HT6 := Lib.hid (HT5.out.eight HNe.out (.bool true)); obtain ⟨⟨m0, m1, m2, m3, m4, m5⟩, j1, j2, j3, j4, j5⟩ := HT5.out.cells; obtain ⟨⟨o0, o1, o2, o3, o4, o5⟩, r1, r2, r3, r4, r5⟩ := HT6.out.cells; obtain ⟨u0, u1, u2⟩ := HT6.out.sc.cells))
                go_roundw
                case rel => exact ⟨rst q, S, true, _, true, rfl, rfl, HT6.out, (by first | exact HSz.out | simpa using HSz.out), HM.out, HNx.out.1, HNx.out.2.1, HNx.out.2.2⟩
                case measure => exact HLs.out _ HT6.out.sc
              · rw [decide_eq_false h8e] at h8
                rw [show (5 : Nat) = bodP.length from rfl, if_neg h8e] at hM
                by_cases h7e : grL ((wrd q).drop bodP.length) = sevW
                · rw [decide_eq_true h7e] at h7
                  rw [if_pos h7e] at hM
                  have HM := Lib.hid hM
                  have H8 := Lib.hid h8
                  have H7 := Lib.hid h7
                  have HSz := Lib.hid hsz
                  clear hno1 b1 b2 b3 b4 hwl hsz hTB hbb hW hM h8 h7 h8e h7e e1 e2
                  generalize ba ((wrd q).drop bodP.length) = Y at *
                  go_wp2_with (first
                    | (go_at_call 53; (with_reducible refine HSp.out.mono ?_); rintro e w1 ⟨rfl, hm⟩; have HT1 := Lib.hid (HT.out.mov hm HNe.out); clear hm; have s1 := HT1.out.sc)
                    | (go_at_call 55; (with_reducible refine (HTs.out w1 s1).mono ?_); rintro e w2 ⟨rfl, hm⟩; have HT2 := Lib.hid (HT1.out.mov hm HNe.out); clear hm; have s2 := HT2.out.sc)
                    | (go_at_call 55; (with_reducible refine (HTb2.out _ s2).mono ?_); rintro e w4 ⟨rfl, hm⟩; have HT4 := Lib.hid (HT2.out.mov hm HNe.out); clear hm; have s4 := HT4.out.sc)
                    | (go_at_call 52; (with_reducible refine (HW2.out _ s4).mono ?_); rintro e w3 ⟨rfl, hm⟩; have HT3 := Lib.hid (HT4.out.mov hm HNe.out); clear hm; have t3 := HTb.out _ HT3.out.fro; obtain ⟨⟨k0, k1, k2, k3, k4, k5⟩, f1, f2, f3, f4, f5⟩ := HT3.out.cells; obtain ⟨i0, i1, i2⟩ := HT3.out.sc.cells)
                    | (go_at_call 27; (with_reducible refine (H8.out _).mono ?_); rintro e w5 ⟨rfl, hd⟩; have HT5 := Lib.hid (HT3.out.draws hd); clear hd; have HT6 := Lib.hid (HT5.out.eight HNe.out (.bool false)); obtain ⟨⟨m0, m1, m2, m3, m4, m5⟩, j1, j2, j3, j4, j5⟩ := HT5.out.cells; obtain ⟨⟨o0, o1, o2, o3, o4, o5⟩, r1, r2, r3, r4, r5⟩ := HT6.out.cells; obtain ⟨u0, u1, u2⟩ := HT6.out.sc.cells)
                    | (go_at_call 27; (with_reducible refine (H7.out _).mono ?_); rintro e w7 ⟨rfl, hd⟩; have HT7 := Lib.hid (HT6.out.draws hd); clear hd))
                  go_roundw
                  case rel => exact ⟨rst q, S, false, _, true, rfl, rfl, HT7.out, (by first | exact HSz.out | simpa using HSz.out), HM.out, HNx.out.1, HNx.out.2.1, HNx.out.2.2⟩
                  case measure => exact HLs.out _ HT7.out.sc
                · rw [decide_eq_false h7e] at h7
                  rw [if_neg h7e] at hM
                  have HM := Lib.hid hM.symm
                  have H8 := Lib.hid h8
                  have H7 := Lib.hid h7
                  clear hno1 b1 b2 b3 b4 hwl hsz hTB hbb hW hM h8 h7 h8e h7e e1 e2
                  generalize ba ((wrd q).drop bodP.length) = Y at *
                  go_wp2_with (first
                    | (go_at_call 53; (with_reducible refine HSp.out.mono ?_); rintro e w1 ⟨rfl, hm⟩; have HT1 := Lib.hid (HT.out.mov hm HNe.out); clear hm; have s1 := HT1.out.sc)
                    | (go_at_call 55; (with_reducible refine (HTs.out w1 s1).mono ?_); rintro e w2 ⟨rfl, hm⟩; have HT2 := Lib.hid (HT1.out.mov hm HNe.out); clear hm; have s2 := HT2.out.sc)
                    | (go_at_call 55; (with_reducible refine (HTb2.out _ s2).mono ?_); rintro e w4 ⟨rfl, hm⟩; have HT4 := Lib.hid (HT2.out.mov hm HNe.out); clear hm; have s4 := HT4.out.sc)
                    | (go_at_call 52; (with_reducible refine (HW2.out _ s4).mono ?_); rintro e w3 ⟨rfl, hm⟩; have HT3 := Lib.hid (HT4.out.mov hm HNe.out); clear hm; have t3 := HTb.out _ HT3.out.fro; obtain ⟨⟨k0, k1, k2, k3, k4, k5⟩, f1, f2, f3, f4, f5⟩ := HT3.out.cells; obtain ⟨i0, i1, i2⟩ := HT3.out.sc.cells)
                    | (go_at_call 27; (with_reducible refine (H8.out _).mono ?_); rintro e w5 ⟨rfl, hd⟩; have HT5 := Lib.hid (HT3.out.draws hd); clear hd; have HT6 := Lib.hid (HT5.out.eight HNe.out (.bool false)); obtain ⟨⟨m0, m1, m2, m3, m4, m5⟩, j1, j2, j3, j4, j5⟩ := HT5.out.cells; obtain ⟨⟨o0, o1, o2, o3, o4, o5⟩, r1, r2, r3, r4, r5⟩ := HT6.out.cells; obtain ⟨u0, u1, u2⟩ := HT6.out.sc.cells)
                    | (go_at_call 27; (with_reducible refine (H7.out _).mono ?_); rintro e w7 ⟨rfl, hd⟩; have HT7 := Lib.hid (HT6.out.draws hd); clear hd))
                  go_ret
                  exact OptR.no HM.out HT7.out.fro
        | true =>
          rw [hbs, if_pos rfl] at hTS
          have HTs := Lib.hid hTS
          obtain ⟨e1, e2⟩ := b2 hbs
          have hW := fun w (h : Sc w g (q.drop sizW.length)) => HWd.out (q.drop sizW.length) w (by rw [List.length_drop]; have := HL1.out; omega) h
          rw [e1, e2] at hW
          have HW2 := Lib.hid hW
          have hM := HMa.out
          rw [ma_siz (by rw [← b1]; exact hbs), if_neg (fun h0 => absurd (hsz.2 h0) (by decide))] at hM
          rw [show (5 : Nat) = sizW.length from rfl] at hM
          have hRs := fun w h => HRs.out ((wrd q).drop sizW.length) w h
          cases hz : sizC ((wrd q).drop sizW.length) with
          | none =>
            rw [rszV, hz] at hRs
            rw [hz] at hM
            have HR := Lib.hid hRs
            have HM := Lib.hid hM.symm
            clear b1 b2 b3 b4 hwl hsz hTS hbs hW hM hRs hz e1 e2
            generalize ba ((wrd q).drop sizW.length) = Y at *
            go_wp2_with (first
              | (go_at_call 53; (with_reducible refine HSp.out.mono ?_); rintro e w1 ⟨rfl, hm⟩; have HT1 := Lib.hid (HT.out.mov hm HNe.out); clear hm; have s1 := HT1.out.sc)
              | (go_at_call 55; (with_reducible refine (HTs.out w1 s1).mono ?_); rintro e w2 ⟨rfl, hm⟩; have HT2 := Lib.hid (HT1.out.mov hm HNe.out); clear hm; have s2 := HT2.out.sc)
              | (go_at_call 52; (with_reducible refine (HW2.out _ s2).mono ?_); rintro e w3 ⟨rfl, hm⟩; have HT3 := Lib.hid (HT2.out.mov hm HNe.out); clear hm; have t3 := HTb.out _ HT3.out.fro; obtain ⟨⟨k0, k1, k2, k3, k4, k5⟩, f1, f2, f3, f4, f5⟩ := HT3.out.cells; obtain ⟨i0, i1, i2⟩ := HT3.out.sc.cells)
              | (go_at_call 81; (with_reducible refine (HR.out _ t3).mono ?_); rintro e w5 ⟨rfl, hb⟩; have HT5 := Lib.hid (HT3.out.next hb); clear hb; have HT6 := Lib.hid (HT5.out.size HNe.out (.int .i64 0)); obtain ⟨⟨m0, m1, m2, m3, m4, m5⟩, j1, j2, j3, j4, j5⟩ := HT5.out.cells))
            go_ret
            exact OptR.no HM.out HT6.out.fro
          | some n =>
            rw [rszV, hz] at hRs
            rw [hz] at hM
            have HR := Lib.hid hRs
            have HM := Lib.hid hM
            clear b1 b2 b3 b4 hwl hsz hTS hbs hW hM hRs hz e1 e2
            generalize ba ((wrd q).drop sizW.length) = Y at *
            go_wp2_with (first
              | (go_at_call 53; (with_reducible refine HSp.out.mono ?_); rintro e w1 ⟨rfl, hm⟩; have HT1 := Lib.hid (HT.out.mov hm HNe.out); clear hm; have s1 := HT1.out.sc)
              | (go_at_call 55; (with_reducible refine (HTs.out w1 s1).mono ?_); rintro e w2 ⟨rfl, hm⟩; have HT2 := Lib.hid (HT1.out.mov hm HNe.out); clear hm; have s2 := HT2.out.sc)
              | (go_at_call 52; (with_reducible refine (HW2.out _ s2).mono ?_); rintro e w3 ⟨rfl, hm⟩; have HT3 := Lib.hid (HT2.out.mov hm HNe.out); clear hm; have t3 := HTb.out _ HT3.out.fro; obtain ⟨⟨k0, k1, k2, k3, k4, k5⟩, f1, f2, f3, f4, f5⟩ := HT3.out.cells; obtain ⟨i0, i1, i2⟩ := HT3.out.sc.cells)
              | (go_at_call 81; (with_reducible refine (HR.out _ t3).mono ?_); rintro e w5 ⟨rfl, hb⟩; have HT5 := Lib.hid (HT3.out.next hb); clear hb; have HT6 := Lib.hid (HT5.out.size HNe.out (.int .i64 (n : Int))); obtain ⟨⟨m0, m1, m2, m3, m4, m5⟩, j1, j2, j3, j4, j5⟩ := HT5.out.cells))
            go_roundw
            case rel => exact ⟨rst q, n, E, true, _, rfl, rfl, HT6.out, (by simp), HM.out, HNx.out.1, HNx.out.2.1, HNx.out.2.2⟩
            case measure => exact HLs.out _ HT6.out.sc
end Go.Proofs.YtahbbnimoogapaaGreatDoor
