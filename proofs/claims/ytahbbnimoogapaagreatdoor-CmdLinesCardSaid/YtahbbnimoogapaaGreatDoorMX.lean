/- CmdReplies: its walk over the record. CmdWrites: its walk over the record. CmdReads: its walk over the record. -/
import Derived.Test.YtahbbnimoogapaaGreatDoorMU
import Derived.Deep.RegionHeld3
namespace Go.Proofs.YtahbbnimoogapaaGreatDoor
open Go.RowKit

theorem linO_len (n : Int) (L : List (List UInt8)) : (linO n L).length ≤ L.length := by
  rw [linO]
  split
  · rw [rep_len]; exact Nat.le_refl _
  · exact Nat.zero_le _
theorem redT_len (L : List (List UInt8)) : (redT L).length ≤ L.length := by
  rw [redT]
  cases h : redL L with
  | none => exact Nat.zero_le _
  | some p =>
    rw [redL] at h
    cases hc : codF L 0 with
    | none => rw [hc] at h; cases h
    | some n =>
      rw [hc] at h
      simp only at h
      split at h
      · rw [← Option.some.inj h]; simp
      · cases h
/-- What CmdReplies keeps: the lines; two rows; two replies in memory and their rows. -/
def RepS (a : Option Addr) (len cap : Nat) (L : List (List UInt8)) (aL aM aR aQ : Option Addr) (nL cL nM cM nR cR nQ cQ : Nat) (LO RT : List (List UInt8)) (g h : Nat) (RN : Int) (w : World) : Prop :=
  IsTexts w a len cap (bas L) ∧ IsTexts w aL nL cL (bas LO) ∧ IsTexts w aM nM cM (bas LO) ∧ IsTexts w aR nR cR (bas RT) ∧ IsTexts w aQ nQ cQ (bas RT) ∧
    Arr w g #[.int .i64 RN, .slice aR nR cR] 46 ∧ Arr w h #[.int .i64 RN, .slice aQ nQ cQ] 48
theorem RepS.next {a aL aM aR aQ : Option Addr} {len cap nL cL nM cM nR cR nQ cQ : Nat} {L LO RT : List (List UInt8)} {g h : Nat} {RN : Int} {w w' : World} (H : RepS a len cap L aL aM aR aQ nL cL nM cM nR cR nQ cQ LO RT g h RN w) (hb : Below w.heap.size w w') :
    RepS a len cap L aL aM aR aQ nL cL nM cM nR cR nQ cQ LO RT g h RN w' :=
  ⟨H.1.next hb, H.2.1.next hb, H.2.2.1.next hb, H.2.2.2.1.next hb, H.2.2.2.2.1.next hb, H.2.2.2.2.2.1.next hb, H.2.2.2.2.2.2.next hb⟩
theorem RepS.cells {a aL aM aR aQ : Option Addr} {len cap nL cL nM cM nR cR nQ cQ : Nat} {L LO RT : List (List UInt8)} {g h : Nat} {RN : Int} {w : World} (H : RepS a len cap L aL aM aR aQ nL cL nM cM nR cR nQ cQ LO RT g h RN w) :
    w.cell? ⟨g, 0, none⟩ = some (.int .i64 RN) ∧ w.cell? ⟨g, 1, none⟩ = some (.slice aR nR cR) ∧ w.cell? ⟨h, 0, none⟩ = some (.int .i64 RN) ∧ w.cell? ⟨h, 1, none⟩ = some (.slice aQ nQ cQ) :=
  ⟨H.2.2.2.2.2.1.cell rfl, H.2.2.2.2.2.1.cell rfl, H.2.2.2.2.2.2.cell rfl, H.2.2.2.2.2.2.cell rfl⟩
theorem same_yes {a b : Option Addr} {n c m d : Nat} {L : List (List UInt8)} (hl : L.length ≤ 1048576) (w : World) (h1 : IsTexts w a n c (bas L)) (h2 : IsTexts w b m d (bas L)) :
    Calls Tryz.prog 21 #[.slice a n c, .slice b m d] w fun e w' => e = .returned (.bool true) ∧ Below w.heap.size w w' := by
  have hn := h1.len.1
  rw [bas_len] at hn
  have := rsame10_any (by omega) w h1 h2
  rwa [decide_eq_true rfl] at this

set_option maxHeartbeats 8000000 in
set_option maxRecDepth 100000 in
theorem cmdReplies_walk (C : CmdC) (code : Int) (a : Option Addr) (len cap : Nat) (L : List (List UInt8)) (W : World) (hTb : Tb W) (ht : IsTexts W a len cap (bas L)) :
    Calls Tryz.prog 5 #[.int .i64 code, .slice a len cap] W fun e w' => e = .returned (.bool true) ∧ Below W.heap.size W w' := by
  have HA := Lib.hid (C.awake W hTb)
  have HTb := Lib.hid hTb
  clear hTb
  have HT := Lib.hid ht
  have hlen := ht.len.1
  rw [bas_len] at hlen
  have hMn := fun w h => many10_any a len cap (bas L) w h
  cases hm : manyS (bas L) with
  | true =>
    rw [hm] at hMn
    have HMn := Lib.hid hMn
    clear hMn hm hlen ht
    go_enter Tryz.func5, Tryz.ntmps5
    go_wp2_with (first
      | (go_at_call 9; (with_reducible refine HA.out.mono ?_); rintro e w1 ⟨rfl, hb1⟩)
      | (go_at_call 16; (with_reducible refine (HMn.out _ (HT.out.next hb1)).mono ?_); rintro e w2 ⟨rfl, rfl⟩))
    go_ret
    exact ⟨rfl, hb1⟩
  | false =>
    rw [hm] at hMn
    have HMn := Lib.hid hMn
    obtain ⟨hm1, hm2⟩ := manyS_no.1 hm
    rw [bas_len] at hm1
    have hx : ∀ x ∈ L, x.length ≤ 300 := fun x hx => by
      have := hm2 (ba x) (List.mem_map_of_mem hx)
      rwa [ba_size] at this
    have HL1 := Lib.hid (fun w g h => C.lines code a len cap L (by omega) (fun x h => Nat.le_trans (hx x h) (by decide)) w g h)
    have HL2 := Lib.hid (fun w h => rlines_any code a len cap L (by omega) (fun x h => Nat.le_trans (hx x h) (by decide)) w h)
    have HR1 := Lib.hid (fun w g h => C.readReply a len cap L (by omega) (fun x h => Nat.le_trans (hx x h) (by decide)) w g h)
    have HR2 := Lib.hid (fun w h => rreadReply_any a len cap L (by omega) (fun x h => Nat.le_trans (hx x h) (by decide)) w h)
    have HW1 := Lib.hid (fun w h => C.whole a len cap L (by omega) (fun x h => Nat.le_trans (hx x h) (by decide)) w h)
    have HW2 := Lib.hid (fun w h => rwhole_any a len cap L (by omega) (fun x h => Nat.le_trans (hx x h) (by decide)) w h)
    have HC1 := Lib.hid (fun w => C.class' code w)
    have HC2 := Lib.hid (fun w => rclass_any code w)
    have HSL := Lib.hid (fun w {b c : Option Addr} {n i m j : Nat} (h1 : IsTexts w b n i (bas (linO code L))) (h2 : IsTexts w c m j (bas (linO code L))) => same_yes (by have := linO_len code L; omega) w h1 h2)
    have HSR := Lib.hid (fun w {b c : Option Addr} {n i m j : Nat} (h1 : IsTexts w b n i (bas (redT L))) (h2 : IsTexts w c m j (bas (redT L))) => same_yes (by have := redT_len L; omega) w h1 h2)
    generalize linO code L = LO at *
    generalize linE code L = LE at *
    generalize redT L = RT at *
    generalize redN L = RN at *
    generalize redE L = RE at *
    generalize (whoL L 0 : Nat) = WN at *
    generalize clsZ code = CZ at *
    clear hMn hm hm1 hm2 hx hlen ht
    go_enter Tryz.func5, Tryz.ntmps5
    go_wp2_with (first
      | (go_at_call 9; (with_reducible refine HA.out.mono ?_); rintro e w1 ⟨rfl, hb1⟩; have ht1 := HT.out.next hb1)
      | (go_at_call 16; (with_reducible refine (HMn.out _ ht1).mono ?_); rintro e w2 ⟨rfl, rfl⟩)
      | (go_at_call 17; (with_reducible refine (HL1.out _ (HTb.out.next hb1) ht1).mono ?_); rintro e w3 ⟨aL, nL, cL, rfl, hL3, hb3⟩; have ht3 := ht1.next hb3; have hb3' := Below_next hb1 hb3)
      | (go_at_call 18; (with_reducible refine (HL2.out _ ht3).mono ?_); rintro e w4 ⟨aM, nM, cM, rfl, hM4, hb4⟩; have ht4 := ht3.next hb4; have hL4 := hL3.next hb4; have hb4' := Below_next hb3' hb4)
      | (go_at_call 19; (with_reducible refine (HR1.out _ (HTb.out.next hb4') ht4).mono ?_); rintro e w5 ⟨aR, nR, cR, rfl, hR5, hb5⟩; have o5 := below_one w5 (.cells #[.int .i64 RN, .slice aR nR cR] 46); have ht5 := (ht4.next hb5).next o5; have hb5' := Below_next (Below_next hb4' hb5) o5; have k5 := Arr.new w5 #[.int .i64 RN, .slice aR nR cR] 46)
      | (go_at_call 20; (with_reducible refine (HR2.out _ ht5).mono ?_); rintro e w6 ⟨aQ, nQ, cQ, rfl, hQ6, hb6⟩; have o6 := below_one w6 (.cells #[.int .i64 RN, .slice aQ nQ cQ] 48); have hb6' := Below_next (Below_next hb5' hb6) o6;
          have HS := Lib.hid (show RepS a len cap L aL aM aR aQ nL cL nM cM nR cR nQ cQ LO RT w5.heap.size w6.heap.size RN (w6.alloc (.cells #[.int .i64 RN, .slice aQ nQ cQ] 48)) from ⟨(ht5.next hb6).next o6, ((((hL4.next hb5).next o5).next hb6).next o6), ((((hM4.next hb5).next o5).next hb6).next o6), (((hR5.next o5).next hb6).next o6), hQ6.next o6, (k5.next hb6).next o6, Arr.new w6 _ _⟩); have v1 := HS.out.2.1; have v2 := HS.out.2.2.1)
      | (go_at_call 21; (with_reducible refine (HSL.out _ v1 v2).mono ?_); rintro e w7 ⟨rfl, hb7⟩; have HS7 := Lib.hid (HS.out.next hb7); have hb7' := Below_next hb6' hb7; obtain ⟨q0, q1, q2, q3⟩ := HS7.out.cells; have v3 := HS7.out.2.2.2.1; have v4 := HS7.out.2.2.2.2.1)
      | (go_at_call 21; (with_reducible refine (HSR.out _ v3 v4).mono ?_); rintro e w8 ⟨rfl, hb8⟩; have HS8 := Lib.hid (HS7.out.next hb8); have hb8' := Below_next hb7' hb8; have v5 := HS8.out.1)
      | (go_at_call 22; (with_reducible refine (HW1.out _ v5).mono ?_); rintro e w9 ⟨rfl, hb9⟩; have HS9 := Lib.hid (HS8.out.next hb9); have hb9' := Below_next hb8' hb9; have v6 := HS9.out.1)
      | (go_at_call 23; (with_reducible refine (HW2.out _ v6).mono ?_); rintro e wA ⟨rfl, rfl⟩)
      | (go_at_call 24; (with_reducible refine (HC1.out _).mono ?_); rintro e wB ⟨rfl, hbB⟩; have hbB' := Below_next hb9' hbB)
      | (go_at_call 25; (with_reducible refine (HC2.out _).mono ?_); rintro e wC ⟨rfl, rfl⟩))
    go_ret
    exact ⟨rfl, hbB'⟩
end Go.Proofs.YtahbbnimoogapaaGreatDoor
namespace Go.Proofs.YtahbbnimoogapaaGreatDoor
open Go.RowKit

theorem wriV_form (c : CmdA) : ∃ X e, wriV c = .tuple #[.string X, .int .i64 e] := by
  rw [wriV]
  split
  · exact ⟨_, _, rfl⟩
  · cases lineC c with
    | none => exact ⟨_, _, rfl⟩
    | some w => exact ⟨_, _, rfl⟩
theorem str_self (X : ByteArray) : (X.toList == X.toList) = true := by simp

set_option maxHeartbeats 4000000 in
set_option maxRecDepth 100000 in
theorem cmdWrites_walk (C : CmdC) (c : CmdA) (W : World) (ht : Tb W) (hi : I64 c.size) :
    Calls Tryz.prog 4 #[cmdV c] W fun e w' => e = .returned (.bool true) ∧ Below W.heap.size W w' := by
  have hA := Arr.new W (cmdZ c) 26
  have hb := Lib.hid (below_one W (.cells (cmdZ c) 26))
  have hAw := fun w h => C.awake w h
  have HTb := Lib.hid ht
  clear ht
  have HLg := Lib.hid (fun w => large10_any c.verb c.size (ba c.text) (ba c.box.loc) (ba c.box.dom) c.eight w)
  have HO := Lib.hid (fun w => own10_any c.verb c.size (ba c.text) (ba c.box.loc) (ba c.box.dom) c.eight w)
  have hs1 := ba_size c.text
  have hs2 := ba_size c.box.loc
  have hs3 := ba_size c.box.dom
  have HW1 := Lib.hid (fun h1 h2 h3 w h => C.write c h1 h2 h3 hi w h)
  have HW2 := Lib.hid (fun h1 h2 h3 w => rwrite10_any c h1 h2 h3 w)
  obtain ⟨X, er, he⟩ := wriV_form c
  rw [he, cmdV] at HW1 HW2
  rw [cmdV]
  unfold cmdZ at hA hb HW1 HW2 ⊢
  have HA := Lib.hid hA
  have HAw := Lib.hid hAw
  clear hA he hAw hi
  by_cases hlg : 2048 < (ba c.text).size ∨ 2048 < (ba c.box.loc).size ∨ 2048 < (ba c.box.dom).size
  · rw [decide_eq_true hlg] at HLg
    clear hs1 hs2 hs3 hlg HW1 HW2 HO
    generalize ba c.text = T at *
    generalize ba c.box.loc = L at *
    generalize ba c.box.dom = D at *
    generalize c.verb = V at *
    generalize c.size = S at *
    generalize c.eight = E at *
    go_enter Tryz.func4, Tryz.ntmps4
    go_wp2_with (first
      | (go_at_call 9; (with_reducible refine (HAw.out _ (HTb.out.next hb.out)).mono ?_); rintro e w1 ⟨rfl, hb1⟩; have HA1 := Lib.hid (HA.out.next hb1); obtain ⟨b0, b1, b2, b3, b4, b5⟩ := six_cells HA1.out)
      | (go_at_call 13; (with_reducible refine (HLg.out _).mono ?_); rintro e w2 ⟨rfl, hb2⟩))
    go_ret
    exact ⟨rfl, Below_next (Below_next hb.out hb1) hb2⟩
  · rw [decide_eq_false hlg] at HLg
    have HW1 := Lib.hid (HW1.out (by omega) (by omega) (by omega))
    have HW2 := Lib.hid (HW2.out (by omega) (by omega) (by omega))
    have hX := str_self X
    clear hs1 hs2 hs3 hlg
    generalize ba c.text = T at *
    generalize ba c.box.loc = L at *
    generalize ba c.box.dom = D at *
    generalize c.verb = V at *
    generalize c.size = S at *
    generalize c.eight = E at *
    go_enter Tryz.func4, Tryz.ntmps4
    go_wp2_with (first
      | (go_at_call 9; (with_reducible refine (HAw.out _ (HTb.out.next hb.out)).mono ?_); rintro e w1 ⟨rfl, hb1⟩; have HA1 := Lib.hid (HA.out.next hb1); obtain ⟨b0, b1, b2, b3, b4, b5⟩ := six_cells HA1.out)
      | (go_at_call 13; (with_reducible refine (HLg.out _).mono ?_); rintro e w2 ⟨rfl, hb2⟩; have HA2 := Lib.hid (HA1.out.next hb2); obtain ⟨d0, d1, d2, d3, d4, d5⟩ := six_cells HA2.out)
      | (go_at_call 14; (with_reducible refine (HW1.out _ (HTb.out.next (Below_next (Below_next hb.out hb1) hb2))).mono ?_); rintro e w3 ⟨rfl, hb3⟩; have HA3 := Lib.hid (HA2.out.next hb3); obtain ⟨e0, e1, e2, e3, e4, e5⟩ := six_cells HA3.out)
      | (go_at_call 12; (with_reducible refine (HO.out _).mono ?_); rintro e w4 ⟨rfl, hb4⟩)
      | (go_at_call 15; (with_reducible refine (HW2.out _).mono ?_); rintro e w5 ⟨rfl, hb5⟩))
    go_ret
    exact ⟨rfl, Below_next (Below_next (Below_next (Below_next (Below_next hb.out hb1) hb2) hb3) hb4) hb5⟩
end Go.Proofs.YtahbbnimoogapaaGreatDoor
namespace Go.Proofs.YtahbbnimoogapaaGreatDoor
open Go.RowKit

theorem parV_form (l : List UInt8) : ∃ (c : CmdA) (e : Int), parV l = .tuple #[cmdV c, .int .i64 e] := by
  rw [parV]
  split
  · exact ⟨_, _, rfl⟩
  · cases parC l with
    | none => exact ⟨_, _, rfl⟩
    | some c => exact ⟨_, _, rfl⟩
theorem six_new (w : World) (a b c d e f : Value) (t : TypeId) : Arr (w.alloc (.cells #[a, b, c, d, e, f] t)) w.heap.size #[a, b, c, d, e, f] t := Arr.new w _ t
/-- Two blocks of six cells. -/
def TwoS (w : World) (g h : Nat) (a b c d e f : Value) : Prop := Arr w g #[a, b, c, d, e, f] 26 ∧ Arr w h #[a, b, c, d, e, f] 32
theorem TwoS.next {w w' : World} {g h : Nat} {a b c d e f : Value} (H : TwoS w g h a b c d e f) (hb : Below w.heap.size w w') : TwoS w' g h a b c d e f := ⟨H.1.next hb, H.2.next hb⟩
theorem TwoS.cells {w : World} {g h : Nat} {a b c d e f : Value} (H : TwoS w g h a b c d e f) :
    (w.cell? ⟨g, 0, none⟩ = some a ∧ w.cell? ⟨g, 1, none⟩ = some b ∧ w.cell? ⟨g, 2, none⟩ = some c ∧ w.cell? ⟨g, 3, none⟩ = some d ∧ w.cell? ⟨g, 4, none⟩ = some e ∧ w.cell? ⟨g, 5, none⟩ = some f) ∧
    (w.cell? ⟨h, 0, none⟩ = some a ∧ w.cell? ⟨h, 1, none⟩ = some b ∧ w.cell? ⟨h, 2, none⟩ = some c ∧ w.cell? ⟨h, 3, none⟩ = some d ∧ w.cell? ⟨h, 4, none⟩ = some e ∧ w.cell? ⟨h, 5, none⟩ = some f) := ⟨six_cells H.1, six_cells H.2⟩

set_option maxHeartbeats 4000000 in
set_option maxRecDepth 100000 in
theorem cmdReads_walk (C : CmdC) (s : ByteArray) (_h0 : s.size ≤ maxLen) (W : World) (ht : Tb W) :
    Calls Tryz.prog 3 #[.string s] W fun e w' => e = .returned (.bool true) ∧ Below W.heap.size W w' := by
  have HA := Lib.hid (C.awake W ht)
  have HTb := Lib.hid ht
  clear ht
  by_cases h1 : 2048 < s.size
  · have h1i : (2048 : Int) < (s.size : Int) := by omega
    clear h1
    go_enter Tryz.func3, Tryz.ntmps3
    go_wp2_with (first
      | (go_at_call 9; (with_reducible refine HA.out.mono ?_); rintro e w1 ⟨rfl, hb1⟩))
    go_ret
    exact ⟨rfl, hb1⟩
  · have h1i : ¬ (2048 : Int) < (s.size : Int) := by omega
    have HR1 := Lib.hid (fun w h => C.parse s (by omega) w h)
    have hsl : s.data.toList.length ≤ 524288 := by
      have : s.data.toList.length = s.size := by simp
      omega
    have HR2 := Lib.hid (fun w => rparse10_any s.data.toList hsl w)
    rw [ba_of] at HR2
    obtain ⟨c, er, he⟩ := parV_form s.data.toList
    rw [he, cmdV] at HR1 HR2
    unfold cmdZ at HR1 HR2
    have HO := Lib.hid (fun w => own10_any c.verb c.size (ba c.text) (ba c.box.loc) (ba c.box.dom) c.eight w)
    clear he h1 hsl
    generalize ba c.text = T at *
    generalize ba c.box.loc = L at *
    generalize ba c.box.dom = D at *
    generalize c.verb = V at *
    generalize c.size = S at *
    generalize c.eight = E at *
    go_enter Tryz.func3, Tryz.ntmps3
    go_wp2_with (first
      | (go_at_call 9; (with_reducible refine HA.out.mono ?_); rintro e w1 ⟨rfl, hb1⟩)
      | (go_at_call 10; (with_reducible refine (HR1.out _ (HTb.out.next hb1)).mono ?_); rintro e w3 ⟨rfl, hb3⟩; have hb3' := Below_next hb1 hb3; have k3 := six_new w3 (.int .i64 V) (.string T) (.string L) (.string D) (.int .i64 S) (.bool E) 26)
      | (go_at_call 11; (with_reducible refine (HR2.out _).mono ?_); rintro e w4 ⟨rfl, hb4⟩; have hb4' := Below_next (below_new hb3' _) hb4; have HT := Lib.hid (show TwoS (w4.alloc (.cells #[.int .i64 V, .string T, .string L, .string D, .int .i64 S, .bool E] 32)) _ _ _ _ _ _ _ _ from ⟨(k3.next hb4).next (below_one _ _), six_new w4 _ _ _ _ _ _ _⟩)))
    have hbF := below_new hb4' (.cells #[.int .i64 V, .string T, .string L, .string D, .int .i64 S, .bool E] 32)
    clear k3 hb1 hb3 hb3' hb4 hb4'
    generalize w4.alloc (.cells #[.int .i64 V, .string T, .string L, .string D, .int .i64 S, .bool E] 32) = wF at *
    generalize w4.heap.size = g4 at *
    generalize w3.heap.size = g3 at *
    have HTd := Lib.hid (HT.out.next (below_drew wF))
    go_region_held3 (fun w' => (w'.cell? ⟨g3, 0, none⟩ = some (.int .i64 V) ∧ w'.cell? ⟨g3, 1, none⟩ = some (.string T) ∧ w'.cell? ⟨g3, 2, none⟩ = some (.string L) ∧ w'.cell? ⟨g3, 3, none⟩ = some (.string D) ∧ w'.cell? ⟨g3, 4, none⟩ = some (.int .i64 S) ∧ w'.cell? ⟨g3, 5, none⟩ = some (.bool E)) ∧
        (w'.cell? ⟨g4, 0, none⟩ = some (.int .i64 V) ∧ w'.cell? ⟨g4, 1, none⟩ = some (.string T) ∧ w'.cell? ⟨g4, 2, none⟩ = some (.string L) ∧ w'.cell? ⟨g4, 3, none⟩ = some (.string D) ∧ w'.cell? ⟨g4, 4, none⟩ = some (.int .i64 S) ∧ w'.cell? ⟨g4, 5, none⟩ = some (.bool E)))
      (first | with_reducible exact HT.out.cells | with_reducible exact HTd.out.cells | with_reducible exact (HTd.out.next hb5).cells)
      (first
        | (go_at_call 12; (with_reducible refine (HO.out _).mono ?_); rintro e w5 ⟨rfl, hb5⟩))
    go_wp2
    go_ret
    exact ⟨rfl, Below_next hbF.drew hb5⟩
end Go.Proofs.YtahbbnimoogapaaGreatDoor
