/- The document's own layer 9: Read. The document's own layer 9: Read, whole. The document's own layer 9: Parse. -/
import Derived.Test.YtahbbnimoogapaaGreatDoorMG
import Derived.BigRegion
namespace Go.Proofs.YtahbbnimoogapaaGreatDoor
open Go.RowKit

theorem toList_lit (l : List UInt8) (b : Bool) (s : ByteArray) (h : decide (s.data.toList = l) = b) : (s.toList == l) = b := by
  have e : s.toList = s.data.toList := by
    obtain ⟨⟨l⟩⟩ := s
    exact ByteArray.toList_mk l
  rw [e, ← h]
  by_cases h2 : s.data.toList = l
  · rw [h2, beq_self_eq_true, decide_eq_true rfl]
  · rw [decide_eq_false h2]; exact beq_false_of_ne h2
/-- Two bytes at the beginning. -/
theorem two_not {s : ByteArray} (h : ¬ (s.data.toList[0]? = some 60 ∧ s.data.toList[1]? = some 62)) : ((s.extract 0 2).toList == [60, 62]) = false := by
  refine toList_lit _ _ _ (decide_eq_false fun e => h ?_)
  rw [ext_toList, List.drop_zero, Nat.sub_zero] at e
  generalize s.data.toList = l at *
  match l, e with
  | a :: b :: l, e =>
    simp only [List.take_succ_cons, List.take_zero, List.cons.injEq, and_true] at e
    exact ⟨by rw [e.1]; rfl, by rw [e.2]; rfl⟩
/-- The result's cell. -/
def Rb (w : World) (g : Nat) : Prop := Arr w g #[.string ⟨#[]⟩, .string ⟨#[]⟩] 30

set_option maxHeartbeats 2000000 in
set_option maxRecDepth 100000 in
theorem rread_none (s : ByteArray) (h0 : s.data.toList[0]? = some 60) (h1 : s.data.toList[1]? = some 62) (w : World) :
    Calls Tryz.prog 63 #[.string s] w fun e w' => e = .returned (readV (readL s.data.toList)) ∧ Below w.heap.size w w' := by
  have hll : s.data.toList.length = s.size := by simp
  have h2 : 2 ≤ s.size := by
    have := (List.getElem?_eq_some_iff.1 h1).1
    omega
  have h2i : (2 : Int) ≤ (s.size : Int) := by omega
  have HV := Lib.hid (readL_none h0 h1)
  have hsl := slice_to s 2 h2
  have hsf := slice_from s 2 h2
  have hX : s.extract 0 2 = ⟨#[60, 62]⟩ := by
    rw [ext_ba, List.drop_zero, Nat.sub_zero]
    generalize s.data.toList = l at *
    match l, h0, h1 with
    | a :: b :: l, h0, h1 =>
      simp only [List.getElem?_cons_zero, List.getElem?_cons_succ, Option.some.injEq] at h0 h1
      subst h0 h1
      rfl
  rw [hX, show ((2 : Nat) : Int) = 2 from rfl] at hsl
  rw [ext_all, show ((2 : Nat) : Int) = 2 from rfl] at hsf
  have q : ((⟨#[60, 62]⟩ : ByteArray).toList == [60, 62]) = true := toList_lit _ _ _ (decide_eq_true rfl)
  generalize hD : ba (s.data.toList.drop 2) = D at *
  have HD := Lib.hid hD
  clear hD hX h0 h1 hll
  go_enter Tryz.func63, Tryz.ntmps63
  go_wp2
  go_region
  all_goals
    go_wp2
    refine ret_box3 rfl w.heap.size #[.string ⟨#[]⟩, .string ⟨#[]⟩] rfl rfl ((Arr.new w _ _).drew) rfl ?_
    exact ⟨by rw [HV.out]; show _ = Ending.returned (.tuple #[boxV ⟨[], []⟩, .string (ba (s.data.toList.drop 2)), .int .i64 0]); rw [HD.out]; rfl, ((Below.refl _ _).alloc (Nat.le_refl _) _).drew⟩

set_option maxHeartbeats 2000000 in
set_option maxRecDepth 100000 in
theorem rread_no2 (s : ByteArray) (h2 : 2 ≤ s.size) (h0 : s.data.toList[0]? ≠ some 60) (w : World) :
    Calls Tryz.prog 63 #[.string s] w fun e w' => e = .returned (readV (readL s.data.toList)) ∧ Below w.heap.size w w' := by
  have h2i : (2 : Int) ≤ (s.size : Int) := by omega
  have hsl := slice_to s 2 h2
  rw [show ((2 : Nat) : Int) = 2 from rfl] at hsl
  have q := two_not (s := s) (fun h => h0 h.1)
  generalize s.extract 0 2 = X at *
  have HV := Lib.hid (readL_no h0)
  have hI := fun w => ris_any s 0 60 w
  rw [show (((60 : UInt8).toNat : Nat) : Int) = 60 from rfl, show ((0 : Nat) : Int) = 0 from rfl, decide_eq_false h0] at hI
  have HI := Lib.hid hI
  have HA := Lib.hid (Arr.new w #[.string ⟨#[]⟩, .string ⟨#[]⟩] 30)
  have HB := Lib.hid ((Below.refl w.heap.size w).alloc (Nat.le_refl _) (.cells #[.string ⟨#[]⟩, .string ⟨#[]⟩] 30))
  clear hI h0
  go_enter Tryz.func63, Tryz.ntmps63
  go_wp2_with (first
    | (go_at_call 82; (with_reducible refine (HI.out _).mono ?_); rintro e w1 ⟨rfl, rfl⟩))
  refine ret_box3 rfl w.heap.size #[.string ⟨#[]⟩, .string ⟨#[]⟩] rfl rfl HA.out rfl ?_
  exact ⟨by rw [HV.out]; rfl, HB.out⟩

set_option maxHeartbeats 2000000 in
set_option maxRecDepth 100000 in
theorem rread_no1 (s : ByteArray) (h2 : s.size < 2) (h0 : s.data.toList[0]? ≠ some 60) (w : World) :
    Calls Tryz.prog 63 #[.string s] w fun e w' => e = .returned (readV (readL s.data.toList)) ∧ Below w.heap.size w w' := by
  have h2i : ¬ (2 : Int) ≤ (s.size : Int) := by omega
  have HV := Lib.hid (readL_no h0)
  have hI := fun w => ris_any s 0 60 w
  rw [show (((60 : UInt8).toNat : Nat) : Int) = 60 from rfl, show ((0 : Nat) : Int) = 0 from rfl, decide_eq_false h0] at hI
  have HI := Lib.hid hI
  have HA := Lib.hid (Arr.new w #[.string ⟨#[]⟩, .string ⟨#[]⟩] 30)
  have HB := Lib.hid ((Below.refl w.heap.size w).alloc (Nat.le_refl _) (.cells #[.string ⟨#[]⟩, .string ⟨#[]⟩] 30))
  clear hI h0
  go_enter Tryz.func63, Tryz.ntmps63
  go_wp2_with (first
    | (go_at_call 82; (with_reducible refine (HI.out _).mono ?_); rintro e w1 ⟨rfl, rfl⟩))
  refine ret_box3 rfl w.heap.size #[.string ⟨#[]⟩, .string ⟨#[]⟩] rfl rfl HA.out rfl ?_
  exact ⟨by rw [HV.out]; rfl, HB.out⟩

set_option maxHeartbeats 2000000 in
set_option maxRecDepth 100000 in
theorem rread_path2 (s : ByteArray) (hs : s.size ≤ 524288) (h2 : 2 ≤ s.size) (h0 : s.data.toList[0]? = some 60) (h1 : s.data.toList[1]? ≠ some 62) (w : World) :
    Calls Tryz.prog 63 #[.string s] w fun e w' => e = .returned (readV (readL s.data.toList)) ∧ Below w.heap.size w w' := by
  have hll : s.data.toList.length = s.size := by simp
  have h11 : 1 ≤ s.size := by
    have := (List.getElem?_eq_some_iff.1 h0).1
    omega
  have h2i : (2 : Int) ≤ (s.size : Int) := by omega
  have hsl := slice_to s 2 h2
  rw [show ((2 : Nat) : Int) = 2 from rfl] at hsl
  have q := two_not (s := s) (fun h => h1 h.2)
  generalize s.extract 0 2 = X at *
  have hV := readL_path h0 h1
  have hI := fun w => ris_any s 0 60 w
  rw [show (((60 : UInt8).toNat : Nat) : Int) = 60 from rfl, show ((0 : Nat) : Int) = 0 from rfl, decide_eq_true h0] at hI
  have HI := Lib.hid hI
  have hRt := fun w => rrouted_any s hs 1 h11 w
  rw [show ((1 : Nat) : Int) = 1 from rfl] at hRt
  have HL := Lib.hid (fun i (hi : i ≤ s.size) w => rlocalAt_any s hs i hi w)
  have HIs := Lib.hid (fun i c w => ris_any s i c w)
  have HDa := Lib.hid (fun i (hi : i ≤ s.size) w => rdomAt_any s (by omega) i hi w)
  have HX := Lib.hid (fun a b => ext_ba s a b)
  have HXa := Lib.hid (fun a => ext_all s a)
  have HN := Lib.hid (fun i => domN_le s.data.toList i)
  have HNe := Lib.hid (show ∀ i, domN s.data.toList i = ((s.data.toList.drop i).takeWhile dcB).length from fun _ => rfl)
  have hA := Arr.new w #[.string ⟨#[]⟩, .string ⟨#[]⟩] 30
  have hB := (Below.refl w.heap.size w).alloc (Nat.le_refl _) (.cells #[.string ⟨#[]⟩, .string ⟨#[]⟩] 30)
  have HA := Lib.hid hA
  have HB := Lib.hid hB
  clear hI h0 h1 hA hB
  generalize s.data.toList = l at *
  cases hr : routeL (l.drop 1) with
  | none =>
    rw [hr] at hV hRt
    have HV := Lib.hid (show readL l = none from hV)
    have HR := Lib.hid (show ∀ w, Calls Tryz.prog 83 #[.string s, .int .i64 1] w fun e w' => e = .returned (.int .i64 (-1)) ∧ Below w.heap.size w w' from hRt)
    clear hV hRt hr
    go_enter Tryz.func63, Tryz.ntmps63
    go_wp2_with (first
      | (go_at_call 82; (with_reducible refine (HI.out _).mono ?_); rintro e w1 ⟨rfl, rfl⟩)
      | (go_at_call 83; (with_reducible refine (HR.out _).mono ?_); rintro e w2 ⟨rfl, hb2⟩; have HA2 := Lib.hid (HA.out.next hb2); have HB2 := Lib.hid (Below_next HB.out hb2); have c02 : w2.cell? ⟨w.heap.size, 0, none⟩ = some (.string ⟨#[]⟩) := HA2.out.cell rfl; have c12 : w2.cell? ⟨w.heap.size, 1, none⟩ = some (.string ⟨#[]⟩) := HA2.out.cell rfl; have f02 := HA2.out.frozen 0; have f12 := HA2.out.frozen 1))
    refine ret_box3 rfl w.heap.size #[.string ⟨#[]⟩, .string ⟨#[]⟩] rfl rfl (Arr.set (Arr.set HA2.out 0 _) 1 _) rfl ?_
    exact ⟨by rw [HV.out]; rfl, Below.setCell (Below.setCell HB2.out (Nat.le_refl _) _) (Nat.le_refl _) _⟩
  | some m =>
    rw [hr] at hV hRt
    obtain ⟨hml, hmd⟩ := route_drop hr
    have hm := drop_again hmd hml (by omega)
    rw [List.length_drop] at hml
    obtain ⟨i, hi⟩ : ∃ i, i = l.length - m.length := ⟨_, rfl⟩
    have hRt2 : ∀ w, Calls Tryz.prog 83 #[.string s, .int .i64 1] w fun e w' => e = .returned (.int .i64 (i : Int)) ∧ Below w.heap.size w w' := by rw [hi]; exact hRt
    have HR := Lib.hid hRt2
    rw [← hi] at hm
    have his : i ≤ s.size := by omega
    have hi0 : (0 : Int) ≤ (i : Int) := by omega
    have hLc := HL.out i his
    rw [← hm] at hLc
    have hV2 : readL l = folB m := hV
    clear hV hRt hRt2 hr hmd hml hi
    cases hlc : locL m with
    | none =>
      rw [hlc] at hLc
      have HV := Lib.hid (show readL l = none by rw [hV2, folB, hlc])
      have HLc := Lib.hid (show ∀ w, Calls Tryz.prog 84 #[.string s, .int .i64 (i : Int)] w fun e w' => e = .returned (.tuple #[.string ⟨#[]⟩, .int .i64 (-1)]) ∧ Below w.heap.size w w' from hLc)
      clear hLc hlc hV2 hm
      go_enter Tryz.func63, Tryz.ntmps63
      go_wp2_with (first
        | (go_at_call 82; (with_reducible refine (HI.out _).mono ?_); rintro e w1 ⟨rfl, rfl⟩)
        | (go_at_call 83; (with_reducible refine (HR.out _).mono ?_); rintro e w2 ⟨rfl, hb2⟩; have HA2 := Lib.hid (HA.out.next hb2); have HB2 := Lib.hid (Below_next HB.out hb2); have c02 : w2.cell? ⟨w.heap.size, 0, none⟩ = some (.string ⟨#[]⟩) := HA2.out.cell rfl; have c12 : w2.cell? ⟨w.heap.size, 1, none⟩ = some (.string ⟨#[]⟩) := HA2.out.cell rfl; have f02 := HA2.out.frozen 0; have f12 := HA2.out.frozen 1)
        | (go_at_call 84; (with_reducible refine (HLc.out _).mono ?_); rintro e w3 ⟨rfl, hb3⟩; have HA3 := Lib.hid (HA2.out.next hb3); have HB3 := Lib.hid (Below_next HB2.out hb3); have c03 : w3.cell? ⟨w.heap.size, 0, none⟩ = some (.string ⟨#[]⟩) := HA3.out.cell rfl; have c13 : w3.cell? ⟨w.heap.size, 1, none⟩ = some (.string ⟨#[]⟩) := HA3.out.cell rfl; have f03 := HA3.out.frozen 0; have f13 := HA3.out.frozen 1))
      refine ret_box3 rfl w.heap.size #[.string ⟨#[]⟩, .string ⟨#[]⟩] rfl rfl (Arr.set (Arr.set HA3.out 0 _) 1 _) rfl ?_
      exact ⟨by rw [HV.out]; rfl, Below.setCell (Below.setCell HB3.out (Nat.le_refl _) _) (Nat.le_refl _) _⟩
    | some p =>
      obtain ⟨x, m2⟩ := p
      rw [hlc] at hLc
      obtain ⟨hml2, hmd2⟩ := loc_drop hlc
      have hm2 : m2 = l.drop (l.length - m2.length) := by
        rw [hm] at hmd2 hml2
        exact drop_again hmd2 hml2 (by omega)
      rw [hm, List.length_drop] at hml2
      obtain ⟨k, hk⟩ : ∃ k, k = l.length - m2.length := ⟨_, rfl⟩
      have HLc := Lib.hid (show ∀ w, Calls Tryz.prog 84 #[.string s, .int .i64 (i : Int)] w fun e w' => e = .returned (.tuple #[.string (ba x), .int .i64 (k : Int)]) ∧ Below w.heap.size w w' by rw [hk]; exact hLc)
      rw [← hk] at hm2
      have hks : k ≤ s.size := by omega
      have hk0 : (0 : Int) ≤ (k : Int) := by omega
      have hV3 : readL l = folC x m2 := by rw [hV2, folB, hlc]
      have h64e : m2[0]? = l[k]? := by rw [hm2, drop_get]
      clear hLc hlc hV2 hmd2 hml2 hk hm
      have hIk := HIs.out k 64
      rw [show (((64 : UInt8).toNat : Nat) : Int) = 64 from rfl] at hIk
      by_cases h64 : l[k]? = some 64
      · rw [decide_eq_true h64] at hIk
        have HIk := Lib.hid hIk
        have hk1 : k < s.size := by
          have := (List.getElem?_eq_some_iff.1 h64).1
          omega
        have hd1 : m2.drop 1 = l.drop (k + 1) := by rw [hm2, List.drop_drop]
        have hn := HN.out (k + 1)
        have hne := HNe.out (k + 1)
        have hDa := HDa.out (k + 1) (by omega)
        rw [show ((k + 1 : Nat) : Int) = (k : Int) + 1 by omega] at hDa
        obtain ⟨t1, t2⟩ := tw_take dcB (l.drop (k + 1))
        rw [← hne] at t1 t2
        generalize domN l (k + 1) = n at *
        have HDn := Lib.hid hDa
        have hsl2 := slice_str s ((k : Int) + 1) ((k : Int) + 1 + (n : Int)) (k + 1) (k + 1 + n) (by omega) (by omega) (by omega) (by omega)
        rw [HX.out, show k + 1 + n - (k + 1) = n by omega, t1] at hsl2
        have hDo := fun w => rdomain_any (ba ((l.drop (k + 1)).takeWhile dcB)) (by rw [ba_size, ← hne]; omega) w
        rw [ba_list] at hDo
        rw [folC, if_pos (by rw [h64e]; exact h64), hd1] at hV3
        rw [← t2, drop_get, List.getElem?_drop] at hV3
        have hw1 : IntKind.i64.wrap ((k : Int) + 1) = (k : Int) + 1 := by rw [IntKind.wrap_i64]; omega
        have hw2 : IntKind.i64.wrap ((k : Int) + 1 + (n : Int)) = (k : Int) + 1 + (n : Int) := by rw [IntKind.wrap_i64]; omega
        clear hIk hDa hne
        cases hd : domB ((l.drop (k + 1)).takeWhile dcB) with
        | false =>
          rw [domR, if_neg (by rw [hd]; decide)] at hDo
          have HDo := Lib.hid hDo
          have HV := Lib.hid (show readL l = none by rw [hV3, if_neg (by rw [hd]; decide)])
          clear hDo hV3 hd hd1 h64 h64e t1 t2 hm2
          generalize ba ((l.drop (k + 1)).takeWhile dcB) = DM at *
          go_enter Tryz.func63, Tryz.ntmps63
          go_wp2_with (first
            | (go_at_call 82; (with_reducible refine (HI.out _).mono ?_); rintro e w1 ⟨rfl, rfl⟩)
            | (go_at_call 82; (with_reducible refine (HIk.out _).mono ?_); rintro e w1 ⟨rfl, rfl⟩)
            | (go_at_call 83; (with_reducible refine (HR.out _).mono ?_); rintro e w2 ⟨rfl, hb2⟩; have HA2 := Lib.hid (HA.out.next hb2); have HB2 := Lib.hid (Below_next HB.out hb2); have c02 : w2.cell? ⟨w.heap.size, 0, none⟩ = some (.string ⟨#[]⟩) := HA2.out.cell rfl; have c12 : w2.cell? ⟨w.heap.size, 1, none⟩ = some (.string ⟨#[]⟩) := HA2.out.cell rfl; have f02 := HA2.out.frozen 0; have f12 := HA2.out.frozen 1)
            | (go_at_call 84; (with_reducible refine (HLc.out _).mono ?_); rintro e w3 ⟨rfl, hb3⟩; have HA3 := Lib.hid (HA2.out.next hb3); have HB3 := Lib.hid (Below_next HB2.out hb3); have c03 : w3.cell? ⟨w.heap.size, 0, none⟩ = some (.string ⟨#[]⟩) := HA3.out.cell rfl; have c13 : w3.cell? ⟨w.heap.size, 1, none⟩ = some (.string ⟨#[]⟩) := HA3.out.cell rfl; have f03 := HA3.out.frozen 0; have f13 := HA3.out.frozen 1)
            | (go_at_call 85; (with_reducible refine (HDn.out _).mono ?_); rintro e w1 ⟨rfl, rfl⟩)
            | (go_at_call 33; (with_reducible refine (HDo.out _).mono ?_); rintro e w4 ⟨rfl, hb4⟩; have HA4 := Lib.hid (HA3.out.next hb4); have HB4 := Lib.hid (Below_next HB3.out hb4); have c04 : w4.cell? ⟨w.heap.size, 0, none⟩ = some (.string ⟨#[]⟩) := HA4.out.cell rfl; have c14 : w4.cell? ⟨w.heap.size, 1, none⟩ = some (.string ⟨#[]⟩) := HA4.out.cell rfl; have f04 := HA4.out.frozen 0; have f14 := HA4.out.frozen 1))
          refine ret_box3 rfl w.heap.size #[.string ⟨#[]⟩, .string ⟨#[]⟩] rfl rfl (Arr.set (Arr.set HA4.out 0 _) 1 _) rfl ?_
          exact ⟨by rw [HV.out]; rfl, Below.setCell (Below.setCell HB4.out (Nat.le_refl _) _) (Nat.le_refl _) _⟩
        | true =>
          rw [domR, if_pos hd] at hDo
          have HDo := Lib.hid hDo
          rw [if_pos hd] at hV3
          have hIq := HIs.out (k + 1 + n) 62
          rw [show (((62 : UInt8).toNat : Nat) : Int) = 62 from rfl, show ((k + 1 + n : Nat) : Int) = (k : Int) + 1 + (n : Int) by omega] at hIq
          by_cases h62 : l[k + 1 + n]? = some 62
          · rw [decide_eq_true h62] at hIq
            have HIq := Lib.hid hIq
            rw [if_pos (by exact h62), List.drop_drop] at hV3
            have hkn : k + 1 + n < s.size := by
              have := (List.getElem?_eq_some_iff.1 h62).1
              omega
            have hsl3 := slice_from s (k + 2 + n) (by omega)
            rw [HXa.out, show ((k + 2 + n : Nat) : Int) = (k : Int) + 2 + (n : Int) by omega] at hsl3
            have HV := Lib.hid (show readL l = some (⟨x, smL ((l.drop (k + 1)).takeWhile dcB)⟩, l.drop (k + 2 + n)) by rw [hV3, List.drop_drop, show k + 1 + (n + 1) = k + 2 + n by omega])
            have hw3 : IntKind.i64.wrap ((k : Int) + 2) = (k : Int) + 2 := by rw [IntKind.wrap_i64]; omega
            have hw4 : IntKind.i64.wrap ((k : Int) + 2 + (n : Int)) = (k : Int) + 2 + (n : Int) := by rw [IntKind.wrap_i64]; omega
            clear hDo hV3 hd hd1 h64 h64e t1 t2 hm2 hIq h62
            generalize ba ((l.drop (k + 1)).takeWhile dcB) = DM at *
            generalize hDS : ba (smL ((l.drop (k + 1)).takeWhile dcB)) = DS at *
            generalize hXB : ba x = XB at *
            generalize hRS : ba (l.drop (k + 2 + n)) = RS at *
            have HE := Lib.hid (show readV (some (⟨x, smL ((l.drop (k + 1)).takeWhile dcB)⟩, l.drop (k + 2 + n))) = .tuple #[.agg #[.string XB, .string DS], .string RS, .int .i64 0] by rw [readV, boxV, hDS, hXB, hRS])
            clear hDS hXB hRS
            go_enter Tryz.func63, Tryz.ntmps63
            go_wp2_with (first
              | (go_at_call 82; (with_reducible refine (HI.out _).mono ?_); rintro e w1 ⟨rfl, rfl⟩)
              | (go_at_call 82; (with_reducible refine (HIk.out _).mono ?_); rintro e w1 ⟨rfl, rfl⟩)
              | (go_at_call 83; (with_reducible refine (HR.out _).mono ?_); rintro e w2 ⟨rfl, hb2⟩; have HA2 := Lib.hid (HA.out.next hb2); have HB2 := Lib.hid (Below_next HB.out hb2); have c02 : w2.cell? ⟨w.heap.size, 0, none⟩ = some (.string ⟨#[]⟩) := HA2.out.cell rfl; have c12 : w2.cell? ⟨w.heap.size, 1, none⟩ = some (.string ⟨#[]⟩) := HA2.out.cell rfl; have f02 := HA2.out.frozen 0; have f12 := HA2.out.frozen 1)
              | (go_at_call 84; (with_reducible refine (HLc.out _).mono ?_); rintro e w3 ⟨rfl, hb3⟩; have HA3 := Lib.hid (HA2.out.next hb3); have HB3 := Lib.hid (Below_next HB2.out hb3); have c03 : w3.cell? ⟨w.heap.size, 0, none⟩ = some (.string ⟨#[]⟩) := HA3.out.cell rfl; have c13 : w3.cell? ⟨w.heap.size, 1, none⟩ = some (.string ⟨#[]⟩) := HA3.out.cell rfl; have f03 := HA3.out.frozen 0; have f13 := HA3.out.frozen 1)
              | (go_at_call 85; (with_reducible refine (HDn.out _).mono ?_); rintro e w1 ⟨rfl, rfl⟩)
              | (go_at_call 82; (with_reducible refine (HIq.out _).mono ?_); rintro e w1 ⟨rfl, rfl⟩)
              | (go_at_call 33; (with_reducible refine (HDo.out _).mono ?_); rintro e w4 ⟨rfl, hb4⟩; have HA4 := Lib.hid (HA3.out.next hb4); have HB4 := Lib.hid (Below_next HB3.out hb4); have c04 : w4.cell? ⟨w.heap.size, 0, none⟩ = some (.string ⟨#[]⟩) := HA4.out.cell rfl; have c14 : w4.cell? ⟨w.heap.size, 1, none⟩ = some (.string ⟨#[]⟩) := HA4.out.cell rfl; have f04 := HA4.out.frozen 0; have f14 := HA4.out.frozen 1))
            go_region
            all_goals
              go_wp2
              refine ret_box3 rfl w.heap.size #[.string XB, .string DS] rfl rfl ((Arr.set (Arr.set HA4.out 0 _) 1 _).drew) rfl ?_
              exact ⟨by rw [HV.out, HE.out]; rfl, Below.drew (Below.setCell (Below.setCell HB4.out (Nat.le_refl _) _) (Nat.le_refl _) _)⟩
          · rw [decide_eq_false h62] at hIq
            have HIq := Lib.hid hIq
            rw [if_neg (by exact h62)] at hV3
            have HV := Lib.hid (show readL l = none from hV3)
            clear hDo hV3 hd hd1 h64 h64e t1 t2 hm2 hIq h62
            generalize ba ((l.drop (k + 1)).takeWhile dcB) = DM at *
            generalize ba (smL ((l.drop (k + 1)).takeWhile dcB)) = DS at *
            go_enter Tryz.func63, Tryz.ntmps63
            go_wp2_with (first
              | (go_at_call 82; (with_reducible refine (HI.out _).mono ?_); rintro e w1 ⟨rfl, rfl⟩)
              | (go_at_call 82; (with_reducible refine (HIk.out _).mono ?_); rintro e w1 ⟨rfl, rfl⟩)
              | (go_at_call 83; (with_reducible refine (HR.out _).mono ?_); rintro e w2 ⟨rfl, hb2⟩; have HA2 := Lib.hid (HA.out.next hb2); have HB2 := Lib.hid (Below_next HB.out hb2); have c02 : w2.cell? ⟨w.heap.size, 0, none⟩ = some (.string ⟨#[]⟩) := HA2.out.cell rfl; have c12 : w2.cell? ⟨w.heap.size, 1, none⟩ = some (.string ⟨#[]⟩) := HA2.out.cell rfl; have f02 := HA2.out.frozen 0; have f12 := HA2.out.frozen 1)
              | (go_at_call 84; (with_reducible refine (HLc.out _).mono ?_); rintro e w3 ⟨rfl, hb3⟩; have HA3 := Lib.hid (HA2.out.next hb3); have HB3 := Lib.hid (Below_next HB2.out hb3); have c03 : w3.cell? ⟨w.heap.size, 0, none⟩ = some (.string ⟨#[]⟩) := HA3.out.cell rfl; have c13 : w3.cell? ⟨w.heap.size, 1, none⟩ = some (.string ⟨#[]⟩) := HA3.out.cell rfl; have f03 := HA3.out.frozen 0; have f13 := HA3.out.frozen 1)
              | (go_at_call 85; (with_reducible refine (HDn.out _).mono ?_); rintro e w1 ⟨rfl, rfl⟩)
              | (go_at_call 82; (with_reducible refine (HIq.out _).mono ?_); rintro e w1 ⟨rfl, rfl⟩)
              | (go_at_call 33; (with_reducible refine (HDo.out _).mono ?_); rintro e w4 ⟨rfl, hb4⟩; have HA4 := Lib.hid (HA3.out.next hb4); have HB4 := Lib.hid (Below_next HB3.out hb4); have c04 : w4.cell? ⟨w.heap.size, 0, none⟩ = some (.string ⟨#[]⟩) := HA4.out.cell rfl; have c14 : w4.cell? ⟨w.heap.size, 1, none⟩ = some (.string ⟨#[]⟩) := HA4.out.cell rfl; have f04 := HA4.out.frozen 0; have f14 := HA4.out.frozen 1))
            refine ret_box3 rfl w.heap.size #[.string ⟨#[]⟩, .string ⟨#[]⟩] rfl rfl (Arr.set (Arr.set HA4.out 0 _) 1 _) rfl ?_
            exact ⟨by rw [HV.out]; rfl, Below.setCell (Below.setCell HB4.out (Nat.le_refl _) _) (Nat.le_refl _) _⟩
      · rw [decide_eq_false h64] at hIk
        have HIk := Lib.hid hIk
        have HV := Lib.hid (show readL l = none by rw [hV3, folC, if_neg (by rw [h64e]; exact h64)])
        clear hIk h64 h64e hV3 hm2
        go_enter Tryz.func63, Tryz.ntmps63
        go_wp2_with (first
          | (go_at_call 82; (with_reducible refine (HI.out _).mono ?_); rintro e w1 ⟨rfl, rfl⟩)
          | (go_at_call 82; (with_reducible refine (HIk.out _).mono ?_); rintro e w1 ⟨rfl, rfl⟩)
          | (go_at_call 83; (with_reducible refine (HR.out _).mono ?_); rintro e w2 ⟨rfl, hb2⟩; have HA2 := Lib.hid (HA.out.next hb2); have HB2 := Lib.hid (Below_next HB.out hb2); have c02 : w2.cell? ⟨w.heap.size, 0, none⟩ = some (.string ⟨#[]⟩) := HA2.out.cell rfl; have c12 : w2.cell? ⟨w.heap.size, 1, none⟩ = some (.string ⟨#[]⟩) := HA2.out.cell rfl; have f02 := HA2.out.frozen 0; have f12 := HA2.out.frozen 1)
          | (go_at_call 84; (with_reducible refine (HLc.out _).mono ?_); rintro e w3 ⟨rfl, hb3⟩; have HA3 := Lib.hid (HA2.out.next hb3); have HB3 := Lib.hid (Below_next HB2.out hb3); have c03 : w3.cell? ⟨w.heap.size, 0, none⟩ = some (.string ⟨#[]⟩) := HA3.out.cell rfl; have c13 : w3.cell? ⟨w.heap.size, 1, none⟩ = some (.string ⟨#[]⟩) := HA3.out.cell rfl; have f03 := HA3.out.frozen 0; have f13 := HA3.out.frozen 1))
        refine ret_box3 rfl w.heap.size #[.string ⟨#[]⟩, .string ⟨#[]⟩] rfl rfl (Arr.set (Arr.set HA3.out 0 _) 1 _) rfl ?_
        exact ⟨by rw [HV.out]; rfl, Below.setCell (Below.setCell HB3.out (Nat.le_refl _) _) (Nat.le_refl _) _⟩
end Go.Proofs.YtahbbnimoogapaaGreatDoor
namespace Go.Proofs.YtahbbnimoogapaaGreatDoor
open Go.RowKit

set_option maxHeartbeats 2000000 in
set_option maxRecDepth 100000 in
theorem rread_path1 (s : ByteArray) (hs : s.size ≤ 524288) (h2 : s.size < 2) (h0 : s.data.toList[0]? = some 60) (h1 : s.data.toList[1]? ≠ some 62) (w : World) :
    Calls Tryz.prog 63 #[.string s] w fun e w' => e = .returned (readV (readL s.data.toList)) ∧ Below w.heap.size w w' := by
  have hll : s.data.toList.length = s.size := by simp
  have h11 : 1 ≤ s.size := by
    have := (List.getElem?_eq_some_iff.1 h0).1
    omega
  have h2i : ¬ (2 : Int) ≤ (s.size : Int) := by omega
  have hV := readL_path h0 h1
  have hI := fun w => ris_any s 0 60 w
  rw [show (((60 : UInt8).toNat : Nat) : Int) = 60 from rfl, show ((0 : Nat) : Int) = 0 from rfl, decide_eq_true h0] at hI
  have HI := Lib.hid hI
  have hRt := fun w => rrouted_any s hs 1 h11 w
  rw [show ((1 : Nat) : Int) = 1 from rfl] at hRt
  have HL := Lib.hid (fun i (hi : i ≤ s.size) w => rlocalAt_any s hs i hi w)
  have HIs := Lib.hid (fun i c w => ris_any s i c w)
  have HDa := Lib.hid (fun i (hi : i ≤ s.size) w => rdomAt_any s (by omega) i hi w)
  have HX := Lib.hid (fun a b => ext_ba s a b)
  have HXa := Lib.hid (fun a => ext_all s a)
  have HN := Lib.hid (fun i => domN_le s.data.toList i)
  have HNe := Lib.hid (show ∀ i, domN s.data.toList i = ((s.data.toList.drop i).takeWhile dcB).length from fun _ => rfl)
  have hA := Arr.new w #[.string ⟨#[]⟩, .string ⟨#[]⟩] 30
  have hB := (Below.refl w.heap.size w).alloc (Nat.le_refl _) (.cells #[.string ⟨#[]⟩, .string ⟨#[]⟩] 30)
  have HA := Lib.hid hA
  have HB := Lib.hid hB
  clear hI h0 h1 hA hB
  generalize s.data.toList = l at *
  cases hr : routeL (l.drop 1) with
  | none =>
    rw [hr] at hV hRt
    have HV := Lib.hid (show readL l = none from hV)
    have HR := Lib.hid (show ∀ w, Calls Tryz.prog 83 #[.string s, .int .i64 1] w fun e w' => e = .returned (.int .i64 (-1)) ∧ Below w.heap.size w w' from hRt)
    clear hV hRt hr
    go_enter Tryz.func63, Tryz.ntmps63
    go_wp2_with (first
      | (go_at_call 82; (with_reducible refine (HI.out _).mono ?_); rintro e w1 ⟨rfl, rfl⟩)
      | (go_at_call 83; (with_reducible refine (HR.out _).mono ?_); rintro e w2 ⟨rfl, hb2⟩; have HA2 := Lib.hid (HA.out.next hb2); have HB2 := Lib.hid (Below_next HB.out hb2); have c02 : w2.cell? ⟨w.heap.size, 0, none⟩ = some (.string ⟨#[]⟩) := HA2.out.cell rfl; have c12 : w2.cell? ⟨w.heap.size, 1, none⟩ = some (.string ⟨#[]⟩) := HA2.out.cell rfl; have f02 := HA2.out.frozen 0; have f12 := HA2.out.frozen 1))
    refine ret_box3 rfl w.heap.size #[.string ⟨#[]⟩, .string ⟨#[]⟩] rfl rfl (Arr.set (Arr.set HA2.out 0 _) 1 _) rfl ?_
    exact ⟨by rw [HV.out]; rfl, Below.setCell (Below.setCell HB2.out (Nat.le_refl _) _) (Nat.le_refl _) _⟩
  | some m =>
    rw [hr] at hV hRt
    obtain ⟨hml, hmd⟩ := route_drop hr
    have hm := drop_again hmd hml (by omega)
    rw [List.length_drop] at hml
    obtain ⟨i, hi⟩ : ∃ i, i = l.length - m.length := ⟨_, rfl⟩
    have hRt2 : ∀ w, Calls Tryz.prog 83 #[.string s, .int .i64 1] w fun e w' => e = .returned (.int .i64 (i : Int)) ∧ Below w.heap.size w w' := by rw [hi]; exact hRt
    have HR := Lib.hid hRt2
    rw [← hi] at hm
    have his : i ≤ s.size := by omega
    have hi0 : (0 : Int) ≤ (i : Int) := by omega
    have hLc := HL.out i his
    rw [← hm] at hLc
    have hV2 : readL l = folB m := hV
    clear hV hRt hRt2 hr hmd hml hi
    cases hlc : locL m with
    | none =>
      rw [hlc] at hLc
      have HV := Lib.hid (show readL l = none by rw [hV2, folB, hlc])
      have HLc := Lib.hid (show ∀ w, Calls Tryz.prog 84 #[.string s, .int .i64 (i : Int)] w fun e w' => e = .returned (.tuple #[.string ⟨#[]⟩, .int .i64 (-1)]) ∧ Below w.heap.size w w' from hLc)
      clear hLc hlc hV2 hm
      go_enter Tryz.func63, Tryz.ntmps63
      go_wp2_with (first
        | (go_at_call 82; (with_reducible refine (HI.out _).mono ?_); rintro e w1 ⟨rfl, rfl⟩)
        | (go_at_call 83; (with_reducible refine (HR.out _).mono ?_); rintro e w2 ⟨rfl, hb2⟩; have HA2 := Lib.hid (HA.out.next hb2); have HB2 := Lib.hid (Below_next HB.out hb2); have c02 : w2.cell? ⟨w.heap.size, 0, none⟩ = some (.string ⟨#[]⟩) := HA2.out.cell rfl; have c12 : w2.cell? ⟨w.heap.size, 1, none⟩ = some (.string ⟨#[]⟩) := HA2.out.cell rfl; have f02 := HA2.out.frozen 0; have f12 := HA2.out.frozen 1)
        | (go_at_call 84; (with_reducible refine (HLc.out _).mono ?_); rintro e w3 ⟨rfl, hb3⟩; have HA3 := Lib.hid (HA2.out.next hb3); have HB3 := Lib.hid (Below_next HB2.out hb3); have c03 : w3.cell? ⟨w.heap.size, 0, none⟩ = some (.string ⟨#[]⟩) := HA3.out.cell rfl; have c13 : w3.cell? ⟨w.heap.size, 1, none⟩ = some (.string ⟨#[]⟩) := HA3.out.cell rfl; have f03 := HA3.out.frozen 0; have f13 := HA3.out.frozen 1))
      refine ret_box3 rfl w.heap.size #[.string ⟨#[]⟩, .string ⟨#[]⟩] rfl rfl (Arr.set (Arr.set HA3.out 0 _) 1 _) rfl ?_
      exact ⟨by rw [HV.out]; rfl, Below.setCell (Below.setCell HB3.out (Nat.le_refl _) _) (Nat.le_refl _) _⟩
    | some p =>
      obtain ⟨x, m2⟩ := p
      rw [hlc] at hLc
      obtain ⟨hml2, hmd2⟩ := loc_drop hlc
      have hm2 : m2 = l.drop (l.length - m2.length) := by
        rw [hm] at hmd2 hml2
        exact drop_again hmd2 hml2 (by omega)
      rw [hm, List.length_drop] at hml2
      obtain ⟨k, hk⟩ : ∃ k, k = l.length - m2.length := ⟨_, rfl⟩
      have HLc := Lib.hid (show ∀ w, Calls Tryz.prog 84 #[.string s, .int .i64 (i : Int)] w fun e w' => e = .returned (.tuple #[.string (ba x), .int .i64 (k : Int)]) ∧ Below w.heap.size w w' by rw [hk]; exact hLc)
      rw [← hk] at hm2
      have hks : k ≤ s.size := by omega
      have hk0 : (0 : Int) ≤ (k : Int) := by omega
      have hV3 : readL l = folC x m2 := by rw [hV2, folB, hlc]
      have h64e : m2[0]? = l[k]? := by rw [hm2, drop_get]
      clear hLc hlc hV2 hmd2 hml2 hk hm
      have hIk := HIs.out k 64
      rw [show (((64 : UInt8).toNat : Nat) : Int) = 64 from rfl] at hIk
      by_cases h64 : l[k]? = some 64
      · rw [decide_eq_true h64] at hIk
        have HIk := Lib.hid hIk
        have hk1 : k < s.size := by
          have := (List.getElem?_eq_some_iff.1 h64).1
          omega
        have hd1 : m2.drop 1 = l.drop (k + 1) := by rw [hm2, List.drop_drop]
        have hn := HN.out (k + 1)
        have hne := HNe.out (k + 1)
        have hDa := HDa.out (k + 1) (by omega)
        rw [show ((k + 1 : Nat) : Int) = (k : Int) + 1 by omega] at hDa
        obtain ⟨t1, t2⟩ := tw_take dcB (l.drop (k + 1))
        rw [← hne] at t1 t2
        generalize domN l (k + 1) = n at *
        have HDn := Lib.hid hDa
        have hsl2 := slice_str s ((k : Int) + 1) ((k : Int) + 1 + (n : Int)) (k + 1) (k + 1 + n) (by omega) (by omega) (by omega) (by omega)
        rw [HX.out, show k + 1 + n - (k + 1) = n by omega, t1] at hsl2
        have hDo := fun w => rdomain_any (ba ((l.drop (k + 1)).takeWhile dcB)) (by rw [ba_size, ← hne]; omega) w
        rw [ba_list] at hDo
        rw [folC, if_pos (by rw [h64e]; exact h64), hd1] at hV3
        rw [← t2, drop_get, List.getElem?_drop] at hV3
        have hw1 : IntKind.i64.wrap ((k : Int) + 1) = (k : Int) + 1 := by rw [IntKind.wrap_i64]; omega
        have hw2 : IntKind.i64.wrap ((k : Int) + 1 + (n : Int)) = (k : Int) + 1 + (n : Int) := by rw [IntKind.wrap_i64]; omega
        clear hIk hDa hne
        cases hd : domB ((l.drop (k + 1)).takeWhile dcB) with
        | false =>
          rw [domR, if_neg (by rw [hd]; decide)] at hDo
          have HDo := Lib.hid hDo
          have HV := Lib.hid (show readL l = none by rw [hV3, if_neg (by rw [hd]; decide)])
          clear hDo hV3 hd hd1 h64 h64e t1 t2 hm2
          generalize ba ((l.drop (k + 1)).takeWhile dcB) = DM at *
          go_enter Tryz.func63, Tryz.ntmps63
          go_wp2_with (first
            | (go_at_call 82; (with_reducible refine (HI.out _).mono ?_); rintro e w1 ⟨rfl, rfl⟩)
            | (go_at_call 82; (with_reducible refine (HIk.out _).mono ?_); rintro e w1 ⟨rfl, rfl⟩)
            | (go_at_call 83; (with_reducible refine (HR.out _).mono ?_); rintro e w2 ⟨rfl, hb2⟩; have HA2 := Lib.hid (HA.out.next hb2); have HB2 := Lib.hid (Below_next HB.out hb2); have c02 : w2.cell? ⟨w.heap.size, 0, none⟩ = some (.string ⟨#[]⟩) := HA2.out.cell rfl; have c12 : w2.cell? ⟨w.heap.size, 1, none⟩ = some (.string ⟨#[]⟩) := HA2.out.cell rfl; have f02 := HA2.out.frozen 0; have f12 := HA2.out.frozen 1)
            | (go_at_call 84; (with_reducible refine (HLc.out _).mono ?_); rintro e w3 ⟨rfl, hb3⟩; have HA3 := Lib.hid (HA2.out.next hb3); have HB3 := Lib.hid (Below_next HB2.out hb3); have c03 : w3.cell? ⟨w.heap.size, 0, none⟩ = some (.string ⟨#[]⟩) := HA3.out.cell rfl; have c13 : w3.cell? ⟨w.heap.size, 1, none⟩ = some (.string ⟨#[]⟩) := HA3.out.cell rfl; have f03 := HA3.out.frozen 0; have f13 := HA3.out.frozen 1)
            | (go_at_call 85; (with_reducible refine (HDn.out _).mono ?_); rintro e w1 ⟨rfl, rfl⟩)
            | (go_at_call 33; (with_reducible refine (HDo.out _).mono ?_); rintro e w4 ⟨rfl, hb4⟩; have HA4 := Lib.hid (HA3.out.next hb4); have HB4 := Lib.hid (Below_next HB3.out hb4); have c04 : w4.cell? ⟨w.heap.size, 0, none⟩ = some (.string ⟨#[]⟩) := HA4.out.cell rfl; have c14 : w4.cell? ⟨w.heap.size, 1, none⟩ = some (.string ⟨#[]⟩) := HA4.out.cell rfl; have f04 := HA4.out.frozen 0; have f14 := HA4.out.frozen 1))
          refine ret_box3 rfl w.heap.size #[.string ⟨#[]⟩, .string ⟨#[]⟩] rfl rfl (Arr.set (Arr.set HA4.out 0 _) 1 _) rfl ?_
          exact ⟨by rw [HV.out]; rfl, Below.setCell (Below.setCell HB4.out (Nat.le_refl _) _) (Nat.le_refl _) _⟩
        | true =>
          rw [domR, if_pos hd] at hDo
          have HDo := Lib.hid hDo
          rw [if_pos hd] at hV3
          have hIq := HIs.out (k + 1 + n) 62
          rw [show (((62 : UInt8).toNat : Nat) : Int) = 62 from rfl, show ((k + 1 + n : Nat) : Int) = (k : Int) + 1 + (n : Int) by omega] at hIq
          by_cases h62 : l[k + 1 + n]? = some 62
          · rw [decide_eq_true h62] at hIq
            have HIq := Lib.hid hIq
            rw [if_pos (by exact h62), List.drop_drop] at hV3
            have hkn : k + 1 + n < s.size := by
              have := (List.getElem?_eq_some_iff.1 h62).1
              omega
            have hsl3 := slice_from s (k + 2 + n) (by omega)
            rw [HXa.out, show ((k + 2 + n : Nat) : Int) = (k : Int) + 2 + (n : Int) by omega] at hsl3
            have HV := Lib.hid (show readL l = some (⟨x, smL ((l.drop (k + 1)).takeWhile dcB)⟩, l.drop (k + 2 + n)) by rw [hV3, List.drop_drop, show k + 1 + (n + 1) = k + 2 + n by omega])
            have hw3 : IntKind.i64.wrap ((k : Int) + 2) = (k : Int) + 2 := by rw [IntKind.wrap_i64]; omega
            have hw4 : IntKind.i64.wrap ((k : Int) + 2 + (n : Int)) = (k : Int) + 2 + (n : Int) := by rw [IntKind.wrap_i64]; omega
            clear hDo hV3 hd hd1 h64 h64e t1 t2 hm2 hIq h62
            generalize ba ((l.drop (k + 1)).takeWhile dcB) = DM at *
            generalize hDS : ba (smL ((l.drop (k + 1)).takeWhile dcB)) = DS at *
            generalize hXB : ba x = XB at *
            generalize hRS : ba (l.drop (k + 2 + n)) = RS at *
            have HE := Lib.hid (show readV (some (⟨x, smL ((l.drop (k + 1)).takeWhile dcB)⟩, l.drop (k + 2 + n))) = .tuple #[.agg #[.string XB, .string DS], .string RS, .int .i64 0] by rw [readV, boxV, hDS, hXB, hRS])
            clear hDS hXB hRS
            go_enter Tryz.func63, Tryz.ntmps63
            go_wp2_with (first
              | (go_at_call 82; (with_reducible refine (HI.out _).mono ?_); rintro e w1 ⟨rfl, rfl⟩)
              | (go_at_call 82; (with_reducible refine (HIk.out _).mono ?_); rintro e w1 ⟨rfl, rfl⟩)
              | (go_at_call 83; (with_reducible refine (HR.out _).mono ?_); rintro e w2 ⟨rfl, hb2⟩; have HA2 := Lib.hid (HA.out.next hb2); have HB2 := Lib.hid (Below_next HB.out hb2); have c02 : w2.cell? ⟨w.heap.size, 0, none⟩ = some (.string ⟨#[]⟩) := HA2.out.cell rfl; have c12 : w2.cell? ⟨w.heap.size, 1, none⟩ = some (.string ⟨#[]⟩) := HA2.out.cell rfl; have f02 := HA2.out.frozen 0; have f12 := HA2.out.frozen 1)
              | (go_at_call 84; (with_reducible refine (HLc.out _).mono ?_); rintro e w3 ⟨rfl, hb3⟩; have HA3 := Lib.hid (HA2.out.next hb3); have HB3 := Lib.hid (Below_next HB2.out hb3); have c03 : w3.cell? ⟨w.heap.size, 0, none⟩ = some (.string ⟨#[]⟩) := HA3.out.cell rfl; have c13 : w3.cell? ⟨w.heap.size, 1, none⟩ = some (.string ⟨#[]⟩) := HA3.out.cell rfl; have f03 := HA3.out.frozen 0; have f13 := HA3.out.frozen 1)
              | (go_at_call 85; (with_reducible refine (HDn.out _).mono ?_); rintro e w1 ⟨rfl, rfl⟩)
              | (go_at_call 82; (with_reducible refine (HIq.out _).mono ?_); rintro e w1 ⟨rfl, rfl⟩)
              | (go_at_call 33; (with_reducible refine (HDo.out _).mono ?_); rintro e w4 ⟨rfl, hb4⟩; have HA4 := Lib.hid (HA3.out.next hb4); have HB4 := Lib.hid (Below_next HB3.out hb4); have c04 : w4.cell? ⟨w.heap.size, 0, none⟩ = some (.string ⟨#[]⟩) := HA4.out.cell rfl; have c14 : w4.cell? ⟨w.heap.size, 1, none⟩ = some (.string ⟨#[]⟩) := HA4.out.cell rfl; have f04 := HA4.out.frozen 0; have f14 := HA4.out.frozen 1))
            try go_region
            all_goals
              go_wp2
              refine ret_box3 rfl w.heap.size #[.string XB, .string DS] rfl rfl ((Arr.set (Arr.set HA4.out 0 _) 1 _).drew) rfl ?_
              exact ⟨by rw [HV.out, HE.out]; rfl, Below.drew (Below.setCell (Below.setCell HB4.out (Nat.le_refl _) _) (Nat.le_refl _) _)⟩
          · rw [decide_eq_false h62] at hIq
            have HIq := Lib.hid hIq
            rw [if_neg (by exact h62)] at hV3
            have HV := Lib.hid (show readL l = none from hV3)
            clear hDo hV3 hd hd1 h64 h64e t1 t2 hm2 hIq h62
            generalize ba ((l.drop (k + 1)).takeWhile dcB) = DM at *
            generalize ba (smL ((l.drop (k + 1)).takeWhile dcB)) = DS at *
            go_enter Tryz.func63, Tryz.ntmps63
            go_wp2_with (first
              | (go_at_call 82; (with_reducible refine (HI.out _).mono ?_); rintro e w1 ⟨rfl, rfl⟩)
              | (go_at_call 82; (with_reducible refine (HIk.out _).mono ?_); rintro e w1 ⟨rfl, rfl⟩)
              | (go_at_call 83; (with_reducible refine (HR.out _).mono ?_); rintro e w2 ⟨rfl, hb2⟩; have HA2 := Lib.hid (HA.out.next hb2); have HB2 := Lib.hid (Below_next HB.out hb2); have c02 : w2.cell? ⟨w.heap.size, 0, none⟩ = some (.string ⟨#[]⟩) := HA2.out.cell rfl; have c12 : w2.cell? ⟨w.heap.size, 1, none⟩ = some (.string ⟨#[]⟩) := HA2.out.cell rfl; have f02 := HA2.out.frozen 0; have f12 := HA2.out.frozen 1)
              | (go_at_call 84; (with_reducible refine (HLc.out _).mono ?_); rintro e w3 ⟨rfl, hb3⟩; have HA3 := Lib.hid (HA2.out.next hb3); have HB3 := Lib.hid (Below_next HB2.out hb3); have c03 : w3.cell? ⟨w.heap.size, 0, none⟩ = some (.string ⟨#[]⟩) := HA3.out.cell rfl; have c13 : w3.cell? ⟨w.heap.size, 1, none⟩ = some (.string ⟨#[]⟩) := HA3.out.cell rfl; have f03 := HA3.out.frozen 0; have f13 := HA3.out.frozen 1)
              | (go_at_call 85; (with_reducible refine (HDn.out _).mono ?_); rintro e w1 ⟨rfl, rfl⟩)
              | (go_at_call 82; (with_reducible refine (HIq.out _).mono ?_); rintro e w1 ⟨rfl, rfl⟩)
              | (go_at_call 33; (with_reducible refine (HDo.out _).mono ?_); rintro e w4 ⟨rfl, hb4⟩; have HA4 := Lib.hid (HA3.out.next hb4); have HB4 := Lib.hid (Below_next HB3.out hb4); have c04 : w4.cell? ⟨w.heap.size, 0, none⟩ = some (.string ⟨#[]⟩) := HA4.out.cell rfl; have c14 : w4.cell? ⟨w.heap.size, 1, none⟩ = some (.string ⟨#[]⟩) := HA4.out.cell rfl; have f04 := HA4.out.frozen 0; have f14 := HA4.out.frozen 1))
            refine ret_box3 rfl w.heap.size #[.string ⟨#[]⟩, .string ⟨#[]⟩] rfl rfl (Arr.set (Arr.set HA4.out 0 _) 1 _) rfl ?_
            exact ⟨by rw [HV.out]; rfl, Below.setCell (Below.setCell HB4.out (Nat.le_refl _) _) (Nat.le_refl _) _⟩
      · rw [decide_eq_false h64] at hIk
        have HIk := Lib.hid hIk
        have HV := Lib.hid (show readL l = none by rw [hV3, folC, if_neg (by rw [h64e]; exact h64)])
        clear hIk h64 h64e hV3 hm2
        go_enter Tryz.func63, Tryz.ntmps63
        go_wp2_with (first
          | (go_at_call 82; (with_reducible refine (HI.out _).mono ?_); rintro e w1 ⟨rfl, rfl⟩)
          | (go_at_call 82; (with_reducible refine (HIk.out _).mono ?_); rintro e w1 ⟨rfl, rfl⟩)
          | (go_at_call 83; (with_reducible refine (HR.out _).mono ?_); rintro e w2 ⟨rfl, hb2⟩; have HA2 := Lib.hid (HA.out.next hb2); have HB2 := Lib.hid (Below_next HB.out hb2); have c02 : w2.cell? ⟨w.heap.size, 0, none⟩ = some (.string ⟨#[]⟩) := HA2.out.cell rfl; have c12 : w2.cell? ⟨w.heap.size, 1, none⟩ = some (.string ⟨#[]⟩) := HA2.out.cell rfl; have f02 := HA2.out.frozen 0; have f12 := HA2.out.frozen 1)
          | (go_at_call 84; (with_reducible refine (HLc.out _).mono ?_); rintro e w3 ⟨rfl, hb3⟩; have HA3 := Lib.hid (HA2.out.next hb3); have HB3 := Lib.hid (Below_next HB2.out hb3); have c03 : w3.cell? ⟨w.heap.size, 0, none⟩ = some (.string ⟨#[]⟩) := HA3.out.cell rfl; have c13 : w3.cell? ⟨w.heap.size, 1, none⟩ = some (.string ⟨#[]⟩) := HA3.out.cell rfl; have f03 := HA3.out.frozen 0; have f13 := HA3.out.frozen 1))
        refine ret_box3 rfl w.heap.size #[.string ⟨#[]⟩, .string ⟨#[]⟩] rfl rfl (Arr.set (Arr.set HA3.out 0 _) 1 _) rfl ?_
        exact ⟨by rw [HV.out]; rfl, Below.setCell (Below.setCell HB3.out (Nat.le_refl _) _) (Nat.le_refl _) _⟩

theorem rread_any (s : ByteArray) (hs : s.size ≤ 524288) (w : World) :
    Calls Tryz.prog 63 #[.string s] w fun e w' => e = .returned (readV (readL s.data.toList)) ∧ Below w.heap.size w w' := by
  by_cases h0 : s.data.toList[0]? = some 60
  · by_cases h1 : s.data.toList[1]? = some 62
    · exact rread_none s h0 h1 w
    · by_cases h2 : 2 ≤ s.size
      · exact rread_path2 s hs h2 h0 h1 w
      · exact rread_path1 s hs (by omega) h0 h1 w
  · by_cases h2 : 2 ≤ s.size
    · exact rread_no2 s h2 h0 w
    · exact rread_no1 s (by omega) h0 w
end Go.Proofs.YtahbbnimoogapaaGreatDoor
namespace Go.Proofs.YtahbbnimoogapaaGreatDoor
open Go.RowKit

theorem parseL_none {l : List UInt8} (h : readL l = none) : parseL l = none := by rw [parseL, h]
theorem parseL_rest {l r : List UInt8} {b : BoxA} (h : readL l = some (b, r)) : parseL l = if r = [] then some b else none := by
  rw [parseL, h]
  cases r with
  | nil => rfl
  | cons c r => rw [if_neg (by simp)]

end Go.Proofs.YtahbbnimoogapaaGreatDoor
