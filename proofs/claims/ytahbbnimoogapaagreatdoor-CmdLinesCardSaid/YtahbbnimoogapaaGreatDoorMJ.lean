/- addr, landed: what reads ahead, and panics where there is something else: signs, bytes, domains, local parts, routes. addr, landed: routes, local parts in quotes and bare. addr, landed: local parts in quotes and bare. addr, landed: a path at the beginning. addr, landed: Read, that recovers once, and Parse. -/
import Derived.Test.YtahbbnimoogapaaGreatDoorMI
import Derived.Test.YtahbbnimoogapaaGreatDoorMG
import Derived.Test.YtahbbnimoogapaaGreatDoorMH
import Derived.WalkLawsBesides
import Derived.Test.YtahbbnimoogapaaGreatDoorNB
import Derived.Defers
import Derived.Recover
import Derived.BigRegion
namespace Go.Proofs.YtahbbnimoogapaaGreatDoor
open Go.RowKit

/-- The panic of a path that is none. -/
def pvE : PanicEntry := { v := .iface 27 (.int .i64 2), recovered := false }
theorem eat_some {c : UInt8} {l r : List UInt8} (h : eatL c l = some r) : l[0]? = some c ∧ r = l.drop 1 := by
  unfold eatL at h
  split at h
  · rename_i h0
    exact ⟨h0, (Option.some.inj h).symm⟩
  · cases h
theorem eat_none {c : UInt8} {l : List UInt8} (h : eatL c l = none) : l[0]? ≠ some c := by
  unfold eatL at h
  split at h
  · cases h
  · assumption
theorem lsign_ok (c : UInt8) (l r : List UInt8) (h : eatL c l = some r) (w : World) :
    Calls Tryz.prog 150 #[.string (ba l), .string ⟨#[c]⟩] w fun e w' => e = .returned (.string (ba r)) ∧ w = w' := by
  obtain ⟨h0, rfl⟩ := eat_some h
  have hc := lib_cutPrefix (ba l) c w
  rw [ba_list, trim_one, pre_one, if_pos h0, h0, beq_self_eq_true] at hc
  have HC := Lib.hid hc
  clear hc h h0
  generalize ba (l.drop 1) = R at *
  generalize ba l = S at *
  go_enter Tryz.func150, Tryz.ntmps150
  go_wp2_with (first
    | (go_at_call 151; (with_reducible refine HC.out.mono ?_); rintro e w1 ⟨rfl, rfl⟩))
  go_ret
  exact ⟨rfl, rfl⟩
theorem lsign_no (c : UInt8) (l : List UInt8) (h : eatL c l = none) (w : World) :
    Calls Tryz.prog 150 #[.string (ba l), .string ⟨#[c]⟩] w fun e w' => e = .panicked [pvE] ∧ w = w' := by
  have h0 := eat_none h
  have hc := lib_cutPrefix (ba l) c w
  have hf : (l[0]? == some c) = false := beq_false_of_ne h0
  rw [ba_list, trim_one, pre_one, if_neg h0, hf] at hc
  have HC := Lib.hid hc
  clear hc h h0 hf
  generalize ba l = S at *
  go_enter Tryz.func150, Tryz.ntmps150
  go_wp2_with (first
    | (go_at_call 151; (with_reducible refine HC.out.mono ?_); rintro e w1 ⟨rfl, rfl⟩))
  exact ⟨rfl, rfl, rfl⟩
theorem lbyte_ok (c : UInt8) (l : List UInt8) (hl : (c :: l).length ≤ 1048576) (w : World) :
    Calls Tryz.prog 182 #[.string (ba (c :: l))] w fun e w' => e = .returned (.tuple #[.int .u8 (c.toNat : Int), .string (ba l)]) ∧ Below w.heap.size w w' := by
  have hs := ba_size (c :: l)
  have q : ((ba (c :: l)).toList == []) = false := toList_lit _ _ _ (decide_eq_false (by rw [ba_list]; simp))
  have hpos : 0 < (ba (c :: l)).size := by rw [hs]; simp
  have h0 : (ba (c :: l))[0] = c := by
    have := byte_at hpos
    rw [ba_list] at this
    exact (Option.some.inj this).symm
  have hsl := slice_from (ba (c :: l)) 1 (by omega)
  rw [ext_all, ba_list, List.drop_succ_cons, List.drop_zero, show ((1 : Nat) : Int) = 1 from rfl] at hsl
  clear hs hl
  generalize hS : ba (c :: l) = S at *
  generalize hT : ba l = T at *
  go_enter Tryz.func182, Tryz.ntmps182
  go_wp2
  go_quiet (fail)
  go_wp2
  go_ret2
  exact ⟨rfl, Below_drewN (Below.refl _ _) _⟩
theorem lbyte_no (w : World) :
    Calls Tryz.prog 182 #[.string (ba [])] w fun e w' => e = .panicked [pvE] ∧ w = w' := by
  have q : ((ba []).toList == []) = true := toList_lit _ _ _ (decide_eq_true rfl)
  generalize ba [] = S at *
  go_enter Tryz.func182, Tryz.ntmps182
  go_wp2
  exact ⟨rfl, rfl, rfl⟩
theorem tw_len (p : UInt8 → Bool) (l : List UInt8) : (l.takeWhile p).length ≤ l.length ∧ (l.dropWhile p).length ≤ l.length := by
  have h := congrArg List.length (List.takeWhile_append_dropWhile (p := p) (l := l))
  rw [List.length_append] at h
  omega
theorem ldom_ok (l d r : List UInt8) (hl : l.length ≤ 1048576) (h : domL l = some (d, r)) (w : World) :
    Calls Tryz.prog 154 #[.string (ba l)] w fun e w' => e = .returned (.tuple #[.string (ba d), .string (ba r)]) ∧ Below w.heap.size w w' := by
  have hcut := fun w => cut_ofDomain (ba l) (by rw [ba_size]; exact hl) w
  have hdo := fun w => lDomain_any (ba (l.takeWhile dcB)) w
  rw [ba_list] at hcut hdo
  unfold domL at h
  split at h
  case isFalse => cases h
  rename_i hd
  rw [domR, if_pos hd] at hdo
  injection h with h
  injection h with h1 h2
  rw [h1] at hdo
  rw [h2] at hcut
  have HC := Lib.hid hcut
  have HD := Lib.hid hdo
  clear hcut hdo hd h1 h2 hl
  generalize ba (l.takeWhile dcB) = T at *
  generalize ba d = D at *
  generalize ba r = R at *
  generalize ba l = S at *
  go_enter Tryz.func154, Tryz.ntmps154
  go_wp2_with (first
    | (go_at_call 140; (with_reducible refine (HC.out _).mono ?_); rintro e w1 ⟨rfl, hb1⟩)
    | (go_at_call 54; (with_reducible refine (HD.out _).mono ?_); rintro e w2 ⟨rfl, hb2⟩))
  go_ret2
  exact ⟨rfl, Below_next hb1 hb2⟩
theorem ldom_no (l : List UInt8) (hl : l.length ≤ 1048576) (h : domL l = none) (w : World) :
    Calls Tryz.prog 154 #[.string (ba l)] w fun e w' => e = .panicked [pvE] ∧ Below w.heap.size w w' := by
  have hcut := fun w => cut_ofDomain (ba l) (by rw [ba_size]; exact hl) w
  have hdo := fun w => lDomain_any (ba (l.takeWhile dcB)) w
  rw [ba_list] at hcut hdo
  unfold domL at h
  split at h
  case isTrue => cases h
  rename_i hd
  rw [domR, if_neg hd] at hdo
  have HC := Lib.hid hcut
  have HD := Lib.hid hdo
  clear hcut hdo hd hl h
  generalize ba (l.takeWhile dcB) = T at *
  generalize ba (l.dropWhile dcB) = D at *
  generalize ba l = S at *
  go_enter Tryz.func154, Tryz.ntmps154
  go_wp2_with (first
    | (go_at_call 140; (with_reducible refine (HC.out _).mono ?_); rintro e w1 ⟨rfl, hb1⟩)
    | (go_at_call 54; (with_reducible refine (HD.out _).mono ?_); rintro e w2 ⟨rfl, hb2⟩))
  exact ⟨rfl, rfl, Below_next hb1 hb2⟩
end Go.Proofs.YtahbbnimoogapaaGreatDoor
namespace Go.Proofs.YtahbbnimoogapaaGreatDoor
open Go.RowKit

/-- What a reader of a text's rest comes to. -/
def outS : Option (List UInt8) → Ending
  | none => .panicked [pvE]
  | some r => .returned (.string (ba r))
/-- What a reader of two texts comes to. -/
def outP : Option (List UInt8 × List UInt8) → Ending
  | none => .panicked [pvE]
  | some p => .returned (.tuple #[.string (ba p.1), .string (ba p.2)])
theorem routeF_fol {n : Nat} {m : List UInt8} (h : m[0]? = some 64) : routeF (n + 1) m = match domL (m.drop 1) with
    | none => none
    | some p => folR n p.2 := by
  rw [routeF_at h, domL]
  by_cases hd : domB ((m.drop 1).takeWhile dcB) = true
  · rw [if_pos hd, if_pos hd]; rfl
  · rw [if_neg hd, if_neg hd]
theorem fol_comma {n : Nat} {d : List UInt8} (h : d[0]? = some 44) : folR n d = if (d.drop 1)[0]? = some 64 then routeF n (d.drop 1) else none := by
  cases d with
  | nil => cases h
  | cons a r =>
    rw [List.getElem?_cons_zero] at h
    obtain rfl := Option.some.inj h
    rw [List.drop_succ_cons, List.drop_zero]
    cases r with
    | nil => rfl
    | cons c r =>
      by_cases hc : c = 64
      · subst hc; rfl
      · rw [if_neg (by rw [List.getElem?_cons_zero]; exact fun e => hc (Option.some.inj e))]
        unfold folR
        split
        · rename_i e; injection e with e1; cases e1
        · rename_i e; injection e with _ e2; injection e2 with e3; exact absurd e3 hc
        · rfl
theorem fol_other {n : Nat} {d : List UInt8} (h : d[0]? ≠ some 44) : folR n d = eatL 58 d := by
  rw [eatL]
  match d, h with
  | [], _ => rfl
  | c :: r, h =>
    by_cases hc : c = 58
    · subst hc; rfl
    · rw [if_neg (by rw [List.getElem?_cons_zero]; exact fun e => hc (Option.some.inj e))]
      unfold folR
      split
      · rename_i e; injection e with e1; exact absurd e1 hc
      · rename_i e; injection e with e1; exact absurd (by rw [e1]; rfl) h
      · rfl
/-- What is ahead of a round. -/
def rtN (b : Bool) (n : Nat) (m : List UInt8) : Option (List UInt8) := if b = true then (if m[0]? = some 64 then routeF n m else none) else eatL 58 m
/-- A text's size. -/
def sizeOf (v : Value) : Nat := match v with
  | .string s => s.size
  | _ => 0

set_option maxHeartbeats 2000000 in
set_option maxRecDepth 100000 in
theorem lroute_any (l : List UInt8) (hl : l.length ≤ 1048576) (w : World) :
    Calls Tryz.prog 153 #[.string (ba l)] w fun e w' => e = outS (routeL l) ∧ Below w.heap.size w w' := by
  have hp := fun w => lib_hasPrefix (ba l) 64 w
  rw [ba_list, pre_one] at hp
  by_cases h0 : l[0]? = some 64
  case neg =>
    have hf : (l[0]? == some 64) = false := beq_false_of_ne h0
    rw [hf] at hp
    have HP := Lib.hid hp
    have HR := Lib.hid (show outS (routeL l) = .returned (.string (ba l)) by rw [routeL, routeF, if_neg h0]; rfl)
    clear hp h0 hf hl
    generalize outS (routeL l) = R at *
    generalize ba l = S at *
    go_enter Tryz.func153, Tryz.ntmps153
    go_wp2_with (first
      | (go_at_call 108; (with_reducible refine (HP.out _).mono ?_); rintro e w1 ⟨rfl, rfl⟩))
    go_ret
    exact ⟨by rw [HR.out]; rfl, Below.refl _ _⟩
  rw [h0, beq_self_eq_true] at hp
  have HP := Lib.hid hp
  have HSt := Lib.hid (show routeL l = rtN true (l.length + 1) l by rw [rtN, if_pos rfl, if_pos h0]; rfl)
  have hls := ba_size l
  clear hp h0
  generalize routeL l = T at *
  have HO := Lib.hid (show outS T = outS T from rfl)
  generalize hR : outS T = R at HO ⊢
  have HR := Lib.hid hR
  clear HO hR
  have HStart := Lib.hid (show ∃ (m : List UInt8) (b : Bool) (n : Nat), Value.string (ba l) = .string (ba m) ∧ Value.bool true = .bool b ∧ m.length < n ∧ m.length ≤ 1048576 ∧ T = rtN b n m from ⟨l, true, l.length + 1, rfl, rfl, by omega, hl, HSt.out⟩)
  clear HSt hls hl
  generalize ba l = S at *
  go_enter Tryz.func153, Tryz.ntmps153
  go_wp2_with (first
    | (go_at_call 108; (with_reducible refine (HP.out _).mono ?_); rintro e w1 ⟨rfl, rfl⟩))
  go_loopw [0, 3] (fun s mo wr => (∃ (m : List UInt8) (b : Bool) (n : Nat), s = .string (ba m) ∧ mo = .bool b ∧ m.length < n ∧ m.length ≤ 1048576 ∧ T = rtN b n m) ∧ Below w.heap.size w wr) (fun s _ _ => sizeOf s)
  case atStart => exact ⟨HStart.out, Below.refl _ _⟩
  case round =>
    obtain ⟨⟨m, b, n, rfl, rfl, hmn, hml, hT⟩, hbel⟩ := hrel
    cases b with
    | false =>
      rw [rtN, if_neg (by decide)] at hT
      cases he : eatL 58 m with
      | none =>
        have HN := Lib.hid (fun w => lsign_no 58 m he w)
        have HE := Lib.hid (show R = .panicked [pvE] by rw [← HR.out, hT, he]; rfl)
        clear hT he hmn hml
        generalize ba m = M at *
        go_wp2_with (first
          | (go_at_call 150; (with_reducible refine (HN.out _).mono ?_); rintro e w2 ⟨rfl, rfl⟩))
        exact ⟨rfl, by rw [HE.out], hbel⟩
      | some r =>
        have HN := Lib.hid (fun w => lsign_ok 58 m r he w)
        have HE := Lib.hid (show R = .returned (.string (ba r)) by rw [← HR.out, hT, he]; rfl)
        clear hT he hmn hml
        generalize ba r = RR at *
        generalize ba m = M at *
        go_wp2_with (first
          | (go_at_call 150; (with_reducible refine (HN.out _).mono ?_); rintro e w2 ⟨rfl, rfl⟩))
        go_ret
        exact ⟨by rw [HE.out]; rfl, hbel⟩
    | true =>
      rw [rtN, if_pos rfl] at hT
      cases he : eatL 64 m with
      | none =>
        have HN := Lib.hid (fun w => lsign_no 64 m he w)
        have HE := Lib.hid (show R = .panicked [pvE] by rw [← HR.out, hT, if_neg (eat_none he)]; rfl)
        clear hT he hmn hml
        generalize ba m = M at *
        go_wp2_with (first
          | (go_at_call 150; (with_reducible refine (HN.out _).mono ?_); rintro e w2 ⟨rfl, rfl⟩))
        exact ⟨rfl, by rw [HE.out], hbel⟩
      | some m1 =>
        have HN := Lib.hid (fun w => lsign_ok 64 m m1 he w)
        obtain ⟨h0, hm1⟩ := eat_some he
        have hm0 : 0 < m.length := by
          cases m with
          | nil => cases h0
          | cons _ _ => simp
        have hm1l : m1.length = m.length - 1 := by rw [hm1, List.length_drop]
        obtain ⟨n', rfl⟩ : ∃ n', n = n' + 1 := ⟨n - 1, by omega⟩
        rw [if_pos h0, routeF_fol h0, ← hm1] at hT
        cases hd : domL m1 with
        | none =>
          have HD := Lib.hid (fun w => ldom_no m1 (by omega) hd w)
          have HE := Lib.hid (show R = .panicked [pvE] by rw [← HR.out, hT, hd]; rfl)
          clear hT he hmn hml hd h0 hm1 hm0 hm1l
          generalize ba m1 = M1 at *
          generalize ba m = M at *
          go_wp2_with (first
            | (go_at_call 150; (with_reducible refine (HN.out _).mono ?_); rintro e w2 ⟨rfl, rfl⟩)
            | (go_at_call 154; (with_reducible refine (HD.out _).mono ?_); rintro e w3 ⟨rfl, hb3⟩))
          exact ⟨rfl, by rw [HE.out], Below_next hbel hb3⟩
        | some p =>
          obtain ⟨d, r⟩ := p
          have HD := Lib.hid (fun w => ldom_ok m1 d r (by omega) hd w)
          rw [hd] at hT
          have hrl : r.length ≤ m1.length := by
            unfold domL at hd
            split at hd
            · injection hd with hd
              injection hd with _ h2
              rw [← h2]; exact (tw_len dcB m1).2
            · cases hd
          have hcut := fun w => lib_cutPrefix (ba r) 44 w
          rw [ba_list, trim_one, pre_one] at hcut
          have hms := ba_size m
          by_cases hc : r[0]? = some 44
          · rw [if_pos hc, hc, beq_self_eq_true] at hcut
            have hds := ba_size (r.drop 1)
            have hdl : (r.drop 1).length ≤ r.length := by rw [List.length_drop]; omega
            have HCt := Lib.hid hcut
            have HK := Lib.hid (show ∃ (m : List UInt8) (b : Bool) (n : Nat), Value.string (ba (r.drop 1)) = .string (ba m) ∧ Value.bool true = .bool b ∧ m.length < n ∧ m.length ≤ 1048576 ∧ T = rtN b n m from ⟨r.drop 1, true, n', rfl, rfl, by omega, by omega, by rw [hT, rtN, if_pos rfl]; exact fol_comma hc⟩)
            have HM := Lib.hid (show (ba (r.drop 1)).size < (ba m).size by omega)
            clear hT he hmn hml hd h0 hm1 hm0 hm1l hrl hcut hms hc hds hdl
            generalize ba (r.drop 1) = RD at *
            generalize ba r = RR at *
            generalize ba d = DD at *
            generalize ba m1 = M1 at *
            generalize ba m = M at *
            go_wp2_with (first
              | (go_at_call 150; (with_reducible refine (HN.out _).mono ?_); rintro e w2 ⟨rfl, rfl⟩)
              | (go_at_call 154; (with_reducible refine (HD.out _).mono ?_); rintro e w3 ⟨rfl, hb3⟩)
              | (go_at_call 151; (with_reducible refine (HCt.out _).mono ?_); rintro e w4 ⟨rfl, rfl⟩))
            go_roundw
            case rel => exact ⟨HK.out, Below_next hbel hb3⟩
            case measure => exact HM.out
          · have hf : (r[0]? == some 44) = false := beq_false_of_ne hc
            rw [if_neg hc, hf] at hcut
            have hds := ba_size r
            have HCt := Lib.hid hcut
            have HK := Lib.hid (show ∃ (m : List UInt8) (b : Bool) (n : Nat), Value.string (ba r) = .string (ba m) ∧ Value.bool false = .bool b ∧ m.length < n ∧ m.length ≤ 1048576 ∧ T = rtN b n m from ⟨r, false, n', rfl, rfl, by omega, by omega, by rw [hT, rtN, if_neg (by decide)]; exact fol_other hc⟩)
            have HM := Lib.hid (show (ba r).size < (ba m).size by omega)
            clear hT he hmn hml hd h0 hm1 hm0 hm1l hrl hcut hms hc hds hf
            generalize ba r = RR at *
            generalize ba d = DD at *
            generalize ba m1 = M1 at *
            generalize ba m = M at *
            go_wp2_with (first
              | (go_at_call 150; (with_reducible refine (HN.out _).mono ?_); rintro e w2 ⟨rfl, rfl⟩)
              | (go_at_call 154; (with_reducible refine (HD.out _).mono ?_); rintro e w3 ⟨rfl, hb3⟩)
              | (go_at_call 151; (with_reducible refine (HCt.out _).mono ?_); rintro e w4 ⟨rfl, rfl⟩))
            go_roundw
            case rel => exact ⟨HK.out, Below_next hbel hb3⟩
            case measure => exact HM.out
end Go.Proofs.YtahbbnimoogapaaGreatDoor
namespace Go.Proofs.YtahbbnimoogapaaGreatDoor
open Go.RowKit

/-- What stands in quotes. -/
def quR (m : List UInt8) : Option (List UInt8 × List UInt8) := match quoL m with
  | none => none
  | some p => if locB p.1 = true then some p else none
theorem ob_form {w : World} {base : Nat} {v : Value} {l : List UInt8} (h : Ob w base v l) : ∃ a cap, v = .slice a l.length cap := by
  rcases h.2 with ⟨rfl, h0⟩ | ⟨g, cap, cur, rfl, _⟩
  · exact ⟨none, 0, by rw [h0]⟩
  · exact ⟨_, _, rfl⟩
theorem map_map (o : Option (List UInt8 × List UInt8)) (B : List UInt8) (c : UInt8) : (o.map fun p => (c :: p.1, p.2)).map (fun p => (B ++ p.1, p.2)) = o.map fun p => ((B ++ [c]) ++ p.1, p.2) := by
  cases o with
  | none => rfl
  | some p => simp
theorem quo_long {m : List UInt8} {o : Option (List UInt8 × List UInt8)} {B : List UInt8} (h : quoL m = o.map fun p => (B ++ p.1, p.2)) (hB : 64 < B.length) : quR m = none := by
  rw [quR, h]
  cases o with
  | none => rfl
  | some p =>
    show (if locB (B ++ p.1) = true then _ else none) = none
    refine if_neg fun e => ?_
    rw [locB_eq, Bool.and_eq_true] at e
    have := of_decide_eq_true e.2
    rw [List.length_append] at this
    omega

set_option maxHeartbeats 4000000 in
set_option maxRecDepth 100000 in
theorem lreadQuoted_any (m : List UInt8) (hm : m.length ≤ 1048576) (w : World) :
    Calls Tryz.prog 172 #[.string (ba m)] w fun e w' => e = outP (quR m) ∧ Below w.heap.size w w' := by
  have HR := Lib.hid (fun o (h : quR m = o) => show outP (quR m) = outP o by rw [h])
  generalize hR : outP (quR m) = R at *
  have HN0 := Lib.hid (fun w => lbyte_no w)
  cases hm0 : m with
  | nil =>
    have HE := Lib.hid (show R = .panicked [pvE] by rw [HR.out none (by rw [hm0, quR, quoL_nil])]; rfl)
    clear hR hm hm0 HR
    generalize ba [] = S at *
    go_enter Tryz.func172, Tryz.ntmps172
    go_wp2_with (first
      | (go_at_call 182; (with_reducible refine (HN0.out _).mono ?_); rintro e w1 ⟨rfl, rfl⟩))
    exact ⟨rfl, HE.out.symm, Below.refl _ _⟩
  | cons c r =>
    have HB := Lib.hid (fun w => lbyte_ok c r (by rw [← hm0]; exact hm) w)
    have hS0 : quoL m = (quoL (c :: r)).map fun p => ([] ++ p.1, p.2) := by
      rw [hm0]; cases quoL (c :: r) <;> rfl
    have hrl : r.length ≤ 1048576 := by rw [hm0, List.length_cons] at hm; omega
    have HSt := Lib.hid (show ∃ (B : List UInt8) (c' : UInt8) (r' : List UInt8), Value.string (ba r) = .string (ba r') ∧ Value.int .u8 (c.toNat : Int) = .int .u8 (c'.toNat : Int) ∧ B.length ≤ 65 ∧ r'.length ≤ 1048576 ∧ (∀ wr, Ob wr w.heap.size (.slice none 0 0) B) ∧ quoL m = (quoL (c' :: r')).map fun p => (B ++ p.1, p.2) from ⟨[], c, r, rfl, rfl, by decide, hrl, fun wr => Ob.none _ _, hS0⟩)
    clear hR hm hm0 hS0 hrl
    generalize ba (c :: r) = S at *
    generalize ba r = S2 at *
    generalize (c.toNat : Int) = cn at *
    go_enter Tryz.func172, Tryz.ntmps172
    go_wp2_with (first
      | (go_at_call 182; (with_reducible refine (HB.out _).mono ?_); rintro e w1 ⟨rfl, hb1⟩))
    clear HB
    go_loopw [0, 4, 5] (fun s v cv wr => ∃ (B : List UInt8) (c : UInt8) (r : List UInt8), s = .string (ba r) ∧ cv = .int .u8 (c.toNat : Int) ∧ B.length ≤ 65 ∧ r.length ≤ 1048576 ∧ Ob wr w.heap.size v B ∧ quoL m = (quoL (c :: r)).map (fun p => (B ++ p.1, p.2)) ∧ Below w.heap.size w wr) (fun s _ _ _ => sizeOf s)
    case atStart =>
      obtain ⟨B, c', r', h1, h2, h3, h4, h5, h6⟩ := HSt.out
      exact ⟨B, c', r', h1, h2, h3, h4, h5 _, h6, hb1⟩
    case round =>
      clear HSt hb1
      obtain ⟨B, c, r, rfl, rfl, hB, hrl, hown, hq, hbel⟩ := hrel
      obtain ⟨a, cap, rfl⟩ := ob_form hown
      have HOw := Lib.hid hown
      have hB0 : (0 : Int) ≤ (B.length : Int) := by omega
      clear hown
      have q34 : ((c.toNat : Int) == 34) = decide (c = 34) := by rw [show (34 : Int) = ((34 : Nat) : Int) from rfl, byte_is (by decide)]; rfl
      have q92 : ((c.toNat : Int) == 92) = decide (c = 92) := by rw [show (92 : Int) = ((92 : Nat) : Int) from rfl, byte_is (by decide)]; rfl
      have n34 : ((c.toNat : Int) != 34) = !decide (c = 34) := by rw [bne, q34]
      by_cases h34 : c = 34
      · -- the end quote
        rw [h34, quoL_end] at hq
        have hqm : quoL m = some (B, r) := by rw [hq]; simp
        rw [decide_eq_true h34] at n34
        have hlo := fun w => lLocal_any (ba B) (by rw [ba_size]; omega) w
        rw [ba_list] at hlo
        have HBB := Lib.hid (show (⟨B.toArray⟩ : ByteArray) = ba B from rfl)
        cases hl : locB B with
        | false =>
          rw [hl] at hlo
          have HL := Lib.hid hlo
          have HE := Lib.hid (show R = .panicked [pvE] by rw [HR.out none (by rw [quR, hqm]; exact if_neg (by rw [hl]; decide))]; rfl)
          clear hq hqm hlo hl q34 q92 h34 hrl HR
          generalize ba B = BB at *
          generalize ba r = RR at *
          go_wp2_with (first
            | (refine wpList_ob_string wr rfl _ rfl HOw.out rfl ?_; rw [HBB.out])
            | (go_at_call 88; (with_reducible refine (HL.out _).mono ?_); rintro e w2 ⟨rfl, hb2⟩))
          exact ⟨rfl, HE.out.symm, Below_next hbel hb2⟩
        | true =>
          rw [hl] at hlo
          have HL := Lib.hid hlo
          have HE := Lib.hid (show R = .returned (.tuple #[.string (ba B), .string (ba r)]) by rw [HR.out (some (B, r)) (by rw [quR, hqm]; exact if_pos hl)]; rfl)
          clear hq hqm hlo hl q34 q92 h34 hrl HR
          generalize ba B = BB at *
          generalize ba r = RR at *
          go_wp2_with (first
            | (refine wpList_ob_string wr rfl _ rfl HOw.out rfl ?_; rw [HBB.out])
            | (go_at_call 88; (with_reducible refine (HL.out _).mono ?_); rintro e w2 ⟨rfl, hb2⟩; have HOw2 := Lib.hid (obKeep HOw.out hb2))
            | (refine wpList_ob_string w2 rfl _ rfl HOw2.out rfl ?_; rw [HBB.out]))
          go_ret2
          exact ⟨by rw [HE.out]; rfl, Below_next hbel hb2⟩
      · rw [decide_eq_false h34] at n34
        by_cases h64 : B.length ≤ 64
        case neg =>
          have b64 : ¬ (B.length : Int) ≤ 64 := by omega
          have hlf : locB B = false := by
            rw [locB_eq, decide_eq_false h64, Bool.and_false]
          have hlo := fun w => lLocal_any (ba B) (by rw [ba_size]; omega) w
          rw [ba_list, hlf] at hlo
          have HBB := Lib.hid (show (⟨B.toArray⟩ : ByteArray) = ba B from rfl)
          have HL := Lib.hid hlo
          have HE := Lib.hid (show R = .panicked [pvE] by rw [HR.out none (quo_long hq (by omega))]; rfl)
          clear hq hlo hlf q34 q92 h34 hrl HR h64
          generalize ba B = BB at *
          generalize ba r = RR at *
          go_wp2_with (first
            | (refine wpList_ob_string wr rfl _ rfl HOw.out rfl ?_; rw [HBB.out])
            | (go_at_call 88; (with_reducible refine (HL.out _).mono ?_); rintro e w2 ⟨rfl, hb2⟩))
          exact ⟨rfl, HE.out.symm, Below_next hbel hb2⟩
        case pos =>
          have b64 : (B.length : Int) ≤ 64 := by omega
          by_cases h92 : c = 92
          · rw [decide_eq_true h92] at q92
            rw [h92] at hq
            cases hr : r with
            | nil =>
              rw [hr, quoL_92] at hq
              have HE := Lib.hid (show R = .panicked [pvE] by rw [HR.out none (by rw [quR, hq]; rfl)]; rfl)
              clear hq h92 h34 hrl HR h64 q34 hr
              generalize ba [] = RR at *
              go_wp2_with (first
                | (go_at_call 182; (with_reducible refine (HN0.out _).mono ?_); rintro e w2 ⟨rfl, rfl⟩))
              exact ⟨rfl, HE.out.symm, hbel⟩
            | cons d t =>
              rw [hr, quoL_sign, map_map] at hq
              rw [hr, List.length_cons] at hrl
              have HBy := Lib.hid (fun w => lbyte_ok d t (by rw [List.length_cons]; exact hrl) w)
              cases ht : t with
              | nil =>
                rw [ht, quoL_nil] at hq
                rw [ht] at HBy
                have HE := Lib.hid (show R = .panicked [pvE] by rw [HR.out none (by rw [quR, hq]; rfl)]; rfl)
                clear hq h92 h34 hrl HR h64 q34 hr ht
                generalize ba [d] = RR at *
                generalize ba [] = TT at *
                go_wp2_with (first
                  | (at_builtin; refine wpList_push2 w2 HOw2.out rfl _ _ rfl rfl rfl d rfl (by omega) hbel2.size ?_; intro v5 w5 h5 hb5; have hbel5 := hbel2.trans hb5)
                  | (go_at_call 182; (with_reducible refine (HBy.out _).mono ?_); rintro e w2 ⟨rfl, hb2⟩; have HOw2 := Lib.hid (obKeep HOw.out hb2); have hbel2 := Below_next hbel hb2)
                  | (go_at_call 182; (with_reducible refine (HN0.out _).mono ?_); rintro e w6 ⟨rfl, rfl⟩))
                exact ⟨rfl, HE.out.symm, hbel5⟩
              | cons f u =>
                rw [ht] at hq HBy
                rw [ht, List.length_cons] at hrl
                have HBz := Lib.hid (fun w => lbyte_ok f u (by rw [List.length_cons]; omega) w)
                have HQ := Lib.hid hq
                have z1 := ba_size u
                have z2 := ba_size (d :: f :: u)
                rw [List.length_cons, List.length_cons] at z2
                have HM := Lib.hid (show (ba u).size < (ba (d :: f :: u)).size by omega)
                have HBl := Lib.hid (show (B ++ [d]).length ≤ 65 by rw [List.length_append, List.length_singleton]; omega)
                have HUl := Lib.hid (show u.length ≤ 1048576 by omega)
                clear hq h92 h34 hrl HR q34 hr ht z1 z2
                generalize hUU : ba u = UU at *
                have HUU := Lib.hid hUU
                clear hUU
                generalize ba (d :: f :: u) = RR at *
                generalize ba (f :: u) = TT at *
                go_wp2_with (first
                  | (at_builtin; refine wpList_push2 w2 HOw2.out rfl _ _ rfl rfl rfl d rfl (by omega) hbel2.size ?_; intro v5 w5 h5 hb5; have HO5 := Lib.hid h5; have hbel5 := hbel2.trans hb5; clear h5)
                  | (go_at_call 182; (with_reducible refine (HBy.out _).mono ?_); rintro e w2 ⟨rfl, hb2⟩; have HOw2 := Lib.hid (obKeep HOw.out hb2); have hbel2 := Below_next hbel hb2)
                  | (go_at_call 182; (with_reducible refine (HBz.out _).mono ?_); rintro e w6 ⟨rfl, hb6⟩; have HO6 := Lib.hid (obKeep HO5.out hb6); have hbel6 := Below_next hbel5 hb6))
                go_roundw
                case rel => exact ⟨B ++ [d], f, u, by rw [HUU.out], rfl, HBl.out, HUl.out, HO6.out, HQ.out, hbel6⟩
                case measure => exact HM.out
          · rw [decide_eq_false h92] at q92
            rw [quoL_other h34 h92, map_map] at hq
            cases hr : r with
            | nil =>
              rw [hr, quoL_nil] at hq
              have HE := Lib.hid (show R = .panicked [pvE] by rw [HR.out none (by rw [quR, hq]; rfl)]; rfl)
              clear hq h92 h34 hrl HR h64 q34 hr
              generalize ba [] = RR at *
              go_wp2_with (first
                | (at_builtin; refine wpList_push2 wr HOw.out rfl _ _ rfl rfl rfl c rfl (by omega) hbel.size ?_; intro v5 w5 h5 hb5; have hbel5 := hbel.trans hb5)
                | (go_at_call 182; (with_reducible refine (HN0.out _).mono ?_); rintro e w6 ⟨rfl, rfl⟩))
              exact ⟨rfl, HE.out.symm, hbel5⟩
            | cons f u =>
              rw [hr] at hq
              rw [hr, List.length_cons] at hrl
              have HBz := Lib.hid (fun w => lbyte_ok f u (by rw [List.length_cons]; omega) w)
              have HQ := Lib.hid hq
              have z1 := ba_size u
              have z2 := ba_size (f :: u)
              rw [List.length_cons] at z2
              have HM := Lib.hid (show (ba u).size < (ba (f :: u)).size by omega)
              have HBl := Lib.hid (show (B ++ [c]).length ≤ 65 by rw [List.length_append, List.length_singleton]; omega)
              have HUl := Lib.hid (show u.length ≤ 1048576 by omega)
              clear hq h92 h34 hrl HR q34 hr z1 z2
              generalize hUU : ba u = UU at *
              have HUU := Lib.hid hUU
              clear hUU
              generalize ba (f :: u) = TT at *
              go_wp2_with (first
                | (at_builtin; refine wpList_push2 wr HOw.out rfl _ _ rfl rfl rfl c rfl (by omega) hbel.size ?_; intro v5 w5 h5 hb5; have HO5 := Lib.hid h5; have hbel5 := hbel.trans hb5; clear h5)
                | (go_at_call 182; (with_reducible refine (HBz.out _).mono ?_); rintro e w6 ⟨rfl, hb6⟩; have HO6 := Lib.hid (obKeep HO5.out hb6); have hbel6 := Below_next hbel5 hb6))
              go_roundw
              case rel => exact ⟨B ++ [c], f, u, by rw [HUU.out], rfl, HBl.out, HUl.out, HO6.out, HQ.out, hbel6⟩
              case measure => exact HM.out

set_option maxHeartbeats 2000000 in
set_option maxRecDepth 100000 in
theorem lreadLocal_any (l : List UInt8) (hl : l.length ≤ 1048576) (w : World) :
    Calls Tryz.prog 152 #[.string (ba l)] w fun e w' => e = outP (locL l) ∧ Below w.heap.size w w' := by
  by_cases h34 : l[0]? = some 34
  · cases hl0 : l with
    | nil => rw [hl0] at h34; cases h34
    | cons c m =>
      rw [hl0, List.getElem?_cons_zero] at h34
      obtain rfl := Option.some.inj h34
      have hq : locL (34 :: m) = quR m := by rw [locL_quo (by rfl)]; rfl
      rw [hq]
      have HQ := Lib.hid (fun w => lreadQuoted_any m (by rw [hl0, List.length_cons] at hl; omega) w)
      have hs := ba_size (34 :: m)
      have q : ((ba (34 :: m)).toList == []) = false := toList_lit _ _ _ (decide_eq_false (by rw [ba_list]; simp))
      have qn : ((ba (34 :: m)).toList != []) = true := by rw [bne, q]; rfl
      have hpos : 0 < (ba (34 :: m)).size := by rw [hs]; simp
      have h0 : (ba (34 :: m))[0] = 34 := by
        have := byte_at hpos
        rw [ba_list] at this
        exact (Option.some.inj this).symm
      have hb : (((ba (34 :: m))[0].toNat : Int) == 34) = true := by rw [h0]; rfl
      have hsl := slice_from (ba (34 :: m)) 1 (by omega)
      rw [ext_all, ba_list, List.drop_succ_cons, List.drop_zero, show ((1 : Nat) : Int) = 1 from rfl] at hsl
      clear hs hl hl0 h34 h0 hq
      generalize ba m = M at *
      generalize ba (34 :: m) = S at *
      cases ho : quR m with
      | none =>
        rw [ho, outP] at HQ
        rw [outP]
        clear ho
        go_enter Tryz.func152, Tryz.ntmps152
        go_wp2_with (first
          | (go_at_call 172; (with_reducible refine (HQ.out _).mono ?_); rintro e w2 ⟨rfl, hb2⟩))
        exact ⟨rfl, rfl, hb2⟩
      | some p =>
        rw [ho, outP] at HQ
        rw [outP]
        clear ho
        generalize ba p.1 = P1 at *
        generalize ba p.2 = P2 at *
        go_enter Tryz.func152, Tryz.ntmps152
        go_wp2_with (first
          | (go_at_call 172; (with_reducible refine (HQ.out _).mono ?_); rintro e w2 ⟨rfl, hb2⟩))
        go_ret2
        exact ⟨rfl, hb2⟩
  · rw [locL_bare h34]
    have hcut := fun w => cut_ofPlain (ba l) (by rw [ba_size]; exact hl) w
    have hpl := fun w => lPlain_any (ba (l.takeWhile pcB)) (by rw [ba_size]; have := (tw_len pcB l).1; omega) w
    rw [ba_list] at hcut hpl
    have hgo : (ba l).toList.isEmpty = true ∨ ((ba l).toList.isEmpty = false ∧ ∃ h : 0 < (ba l).size, (((ba l)[0].toNat : Int) == 34) = false) := by
      cases hl0 : l with
      | nil => exact .inl (by rw [Lib.toList_data, ba_list]; rfl)
      | cons c m =>
        have hpos : 0 < (ba (c :: m)).size := by rw [ba_size]; simp
        refine .inr ⟨by rw [Lib.toList_data, ba_list]; rfl, hpos, ?_⟩
        have h0 : (ba (c :: m))[0] = c := by
          have := byte_at hpos
          rw [ba_list] at this
          exact (Option.some.inj this).symm
        rw [h0, show (34 : Int) = ((34 : Nat) : Int) from rfl, byte_is (by decide)]
        refine decide_eq_false fun e => h34 ?_
        rw [hl0, e]; rfl
    cases hp : plaB (l.takeWhile pcB) with
    | true =>
      rw [hp] at hpl
      rw [if_pos rfl, outP]
      have HC := Lib.hid hcut
      have HPl := Lib.hid hpl
      clear hcut hpl hp h34 hl
      generalize ba (l.takeWhile pcB) = T at *
      generalize ba (l.dropWhile pcB) = D at *
      generalize ba l = S at *
      rcases hgo with q | ⟨q, hpos, q2⟩
      all_goals
        go_enter Tryz.func152, Tryz.ntmps152
        go_wp2_with (first
          | (go_at_call 140; (with_reducible refine (HC.out _).mono ?_); rintro e w1 ⟨rfl, hb1⟩)
          | (go_at_call 121; (with_reducible refine (HPl.out _).mono ?_); rintro e w2 ⟨rfl, hb2⟩))
        go_ret2
        exact ⟨rfl, Below_next hb1 hb2⟩
    | false =>
      rw [hp] at hpl
      rw [if_neg (by decide), outP]
      have HC := Lib.hid hcut
      have HPl := Lib.hid hpl
      clear hcut hpl hp h34 hl
      generalize ba (l.takeWhile pcB) = T at *
      generalize ba (l.dropWhile pcB) = D at *
      generalize ba l = S at *
      rcases hgo with q | ⟨q, hpos, q2⟩
      all_goals
        go_enter Tryz.func152, Tryz.ntmps152
        go_wp2_with (first
          | (go_at_call 140; (with_reducible refine (HC.out _).mono ?_); rintro e w1 ⟨rfl, hb1⟩)
          | (go_at_call 121; (with_reducible refine (HPl.out _).mono ?_); rintro e w2 ⟨rfl, hb2⟩))
        exact ⟨rfl, rfl, Below_next hb1 hb2⟩
end Go.Proofs.YtahbbnimoogapaaGreatDoor
namespace Go.Proofs.YtahbbnimoogapaaGreatDoor
open Go.RowKit

theorem results_abox3 {fn : Func} {p t u : Tmp} (h : fn.results = #[.cell p 24, .tmp t, .tmp u]) (tmps : Array Value) (w : World) (g : Nat) (cs : Array Value) (hs : cs.size = 2) (hp : tmps.getD p undef = .pointer (some ⟨g, 0, none⟩)) (hg : Arr w g cs 24) :
    (results fn tmps).run Tryz.prog w = .ok (.tuple #[.agg cs, tmps.getD t undef, tmps.getD u undef]) w := by
  have hp' : tmps[p]?.getD undef = .pointer (some ⟨g, 0, none⟩) := by simpa using hp
  simp [results, h, hp', asAddr, run_loadVar_row w g 24 24 cs (0, 0) _ hg Tryz.underlying24 rfl (by rw [hs]; exact info_abox)]
theorem results_abox2 {fn : Func} {p t : Tmp} (h : fn.results = #[.cell p 24, .tmp t]) (tmps : Array Value) (w : World) (g : Nat) (cs : Array Value) (hs : cs.size = 2) (hp : tmps.getD p undef = .pointer (some ⟨g, 0, none⟩)) (hg : Arr w g cs 24) :
    (results fn tmps).run Tryz.prog w = .ok (.tuple #[.agg cs, tmps.getD t undef]) w := by
  have hp' : tmps[p]?.getD undef = .pointer (some ⟨g, 0, none⟩) := by simpa using hp
  simp [results, h, hp', asAddr, run_loadVar_row w g 24 24 cs (0, 0) _ hg Tryz.underlying24 rfl (by rw [hs]; exact info_abox)]
/-- What readPath comes to. -/
def outB : Option (BoxA × List UInt8) → Ending
  | none => .panicked [pvE]
  | some p => .returned (.tuple #[boxV p.1, .string (ba p.2)])
theorem folC_eat (x m : List UInt8) : folC x m = match eatL 64 m with
    | none => none
    | some m4 => match domL m4 with
      | none => none
      | some p => match eatL 62 p.2 with
        | none => none
        | some m6 => some (⟨x, p.1⟩, m6) := by
  unfold folC eatL domL
  by_cases h0 : m[0]? = some 64
  · rw [if_pos h0, if_pos h0]
    by_cases h1 : domB ((m.drop 1).takeWhile dcB) = true
    · rw [if_pos h1]
      show _ = match (if domB ((m.drop 1).takeWhile dcB) = true then some (smL ((m.drop 1).takeWhile dcB), (m.drop 1).dropWhile dcB) else none) with
        | none => none
        | some p => _
      rw [if_pos h1]
      by_cases h2 : ((m.drop 1).dropWhile dcB)[0]? = some 62
      · rw [if_pos h2]
        show _ = match (if ((m.drop 1).dropWhile dcB)[0]? = some 62 then some (((m.drop 1).dropWhile dcB).drop 1) else none) with
          | none => none
          | some p => _
        rw [if_pos h2]
      · rw [if_neg h2]
        show _ = match (if ((m.drop 1).dropWhile dcB)[0]? = some 62 then some (((m.drop 1).dropWhile dcB).drop 1) else none) with
          | none => none
          | some p => _
        rw [if_neg h2]
    · rw [if_neg h1]
      show _ = match (if domB ((m.drop 1).takeWhile dcB) = true then some (smL ((m.drop 1).takeWhile dcB), (m.drop 1).dropWhile dcB) else none) with
        | none => none
        | some p => _
      rw [if_neg h1]
  · rw [if_neg h0, if_neg h0]
theorem eat_len {c : UInt8} {l r : List UInt8} (h : eatL c l = some r) : r.length ≤ l.length := by
  rw [(eat_some h).2, List.length_drop]; omega
theorem domL_len {l d r : List UInt8} (h : domL l = some (d, r)) : r.length ≤ l.length := by
  unfold domL at h
  split at h
  · injection h with h
    injection h with _ h2
    rw [← h2]; exact (tw_len dcB l).2
  · cases h

set_option maxHeartbeats 2000000 in
set_option maxRecDepth 100000 in
theorem lreadPath_any (l : List UInt8) (hl : l.length ≤ 524288) (w : World) :
    Calls Tryz.prog 117 #[.string (ba l)] w fun e w' => e = outB (readL l) ∧ Below w.heap.size w w' := by
  have HR := Lib.hid (fun o (h : readL l = o) => show outB (readL l) = outB o by rw [h])
  generalize hR : outB (readL l) = R at *
  clear hR
  have HA := Lib.hid (Arr.new w #[.string ⟨#[]⟩, .string ⟨#[]⟩] 24)
  have HB := Lib.hid (below_one w (.cells #[.string ⟨#[]⟩, .string ⟨#[]⟩] 24))
  cases h1 : eatL 60 l with
  | none =>
    have H1 := Lib.hid (fun w => lsign_no 60 l h1 w)
    have HE := Lib.hid (show R = .panicked [pvE] by rw [HR.out none (readL_no (eat_none h1))]; rfl)
    clear HR h1 hl
    generalize ba l = S at *
    go_enter Tryz.func117, Tryz.ntmps117
    go_wp2_with (first
      | (go_at_call 150; (with_reducible refine (H1.out _).mono ?_); rintro e w1 ⟨rfl, rfl⟩))
    exact ⟨rfl, HE.out.symm, HB.out⟩
  | some m =>
    have H1 := Lib.hid (fun w => lsign_ok 60 l m h1 w)
    have hml := eat_len h1
    obtain ⟨h0, hm⟩ := eat_some h1
    have hm0 : m[0]? = l[1]? := by rw [hm, List.getElem?_drop]
    have hcut := fun w => lib_cutPrefix (ba m) 62 w
    rw [ba_list, trim_one, pre_one] at hcut
    by_cases h62 : m[0]? = some 62
    · rw [if_pos h62, h62, beq_self_eq_true] at hcut
      have HC := Lib.hid hcut
      have HE := Lib.hid (show R = .returned (.tuple #[.agg #[.string ⟨#[]⟩, .string ⟨#[]⟩], .string (ba (m.drop 1))]) by rw [HR.out _ (readL_none h0 (by rw [← hm0]; exact h62)), hm, List.drop_drop]; rfl)
      clear HR h1 hl hml h0 hm hm0 hcut h62
      generalize ba (m.drop 1) = M1 at *
      generalize ba m = M at *
      generalize ba l = S at *
      have hgl := HA.out.lt
      have c0 : (w.alloc (.cells #[.string ⟨#[]⟩, .string ⟨#[]⟩] 24)).cell? ⟨w.heap.size, 0, none⟩ = some (.string ⟨#[]⟩) := HA.out.cell rfl
      have c1 : (w.alloc (.cells #[.string ⟨#[]⟩, .string ⟨#[]⟩] 24)).cell? ⟨w.heap.size, 1, none⟩ = some (.string ⟨#[]⟩) := HA.out.cell rfl
      have f0 := HA.out.frozen 0
      have f1 := HA.out.frozen 1
      go_enter Tryz.func117, Tryz.ntmps117
      go_wp2_with (first
        | (go_at_call 150; (with_reducible refine (H1.out _).mono ?_); rintro e w1 ⟨rfl, rfl⟩)
        | (go_at_call 151; (with_reducible refine (HC.out _).mono ?_); rintro e w2 ⟨rfl, rfl⟩))
      refine bodyPost_ret (results_abox2 rfl _ _ w.heap.size #[.string ⟨#[]⟩, .string ⟨#[]⟩] rfl rfl HA.out) rfl ?_
      exact ⟨by rw [HE.out]; rfl, HB.out⟩
    · have hf : (m[0]? == some 62) = false := beq_false_of_ne h62
      rw [if_neg h62, hf] at hcut
      have HC := Lib.hid hcut
      have hrd := readL_path h0 (by rw [← hm0]; exact h62)
      rw [← hm] at hrd
      clear hcut hf h62 hm0 h0 hm h1
      have hro := fun w => lroute_any m (by omega) w
      cases h3 : routeL m with
      | none =>
        rw [h3] at hrd hro
        have H3 := Lib.hid hro
        have HE := Lib.hid (show R = .panicked [pvE] by rw [HR.out none hrd]; rfl)
        clear HR hrd hro hl hml h3
        rw [outS] at H3
        generalize ba m = M at *
        generalize ba l = S at *
        go_enter Tryz.func117, Tryz.ntmps117
        go_wp2_with (first
          | (go_at_call 150; (with_reducible refine (H1.out _).mono ?_); rintro e w1 ⟨rfl, rfl⟩)
          | (go_at_call 151; (with_reducible refine (HC.out _).mono ?_); rintro e w2 ⟨rfl, rfl⟩)
          | (go_at_call 153; (with_reducible refine (H3.out _).mono ?_); rintro e w3 ⟨rfl, hb3⟩))
        exact ⟨rfl, HE.out.symm, Below_next HB.out hb3⟩
      | some m2 =>
        rw [h3] at hrd hro
        have H3 := Lib.hid hro
        rw [outS] at H3
        have hm2 := (route_drop h3).1
        have hlo := fun w => lreadLocal_any m2 (by omega) w
        change readL l = folB m2 at hrd
        rw [folB] at hrd
        cases h4 : locL m2 with
        | none =>
          rw [h4] at hrd hlo
          have H4 := Lib.hid hlo
          have HE := Lib.hid (show R = .panicked [pvE] by rw [HR.out none hrd]; rfl)
          clear HR hrd hro hl hml h3 h4 hlo hm2
          rw [outP] at H4
          generalize ba m2 = M2 at *
          generalize ba m = M at *
          generalize ba l = S at *
          go_enter Tryz.func117, Tryz.ntmps117
          go_wp2_with (first
            | (go_at_call 150; (with_reducible refine (H1.out _).mono ?_); rintro e w1 ⟨rfl, rfl⟩)
            | (go_at_call 151; (with_reducible refine (HC.out _).mono ?_); rintro e w2 ⟨rfl, rfl⟩)
            | (go_at_call 153; (with_reducible refine (H3.out _).mono ?_); rintro e w3 ⟨rfl, hb3⟩)
            | (go_at_call 152; (with_reducible refine (H4.out _).mono ?_); rintro e w4 ⟨rfl, hb4⟩))
          exact ⟨rfl, HE.out.symm, Below_next (Below_next HB.out hb3) hb4⟩
        | some p =>
          obtain ⟨x, m3⟩ := p
          rw [h4] at hrd hlo
          have H4 := Lib.hid hlo
          rw [outP] at H4
          have hm3 := (loc_drop h4).1
          change readL l = folC x m3 at hrd
          rw [folC_eat] at hrd
          cases h5 : eatL 64 m3 with
          | none =>
            rw [h5] at hrd
            have H5 := Lib.hid (fun w => lsign_no 64 m3 h5 w)
            have HE := Lib.hid (show R = .panicked [pvE] by rw [HR.out none hrd]; rfl)
            clear HR hrd hro hl hml h3 h4 hlo hm2 hm3 h5
            generalize ba m3 = M3 at *
            generalize ba x = X at *
            generalize ba m2 = M2 at *
            generalize ba m = M at *
            generalize ba l = S at *
            go_enter Tryz.func117, Tryz.ntmps117
            go_wp2_with (first
              | (go_at_call 150; (with_reducible refine (H1.out _).mono ?_); rintro e w1 ⟨rfl, rfl⟩)
              | (go_at_call 151; (with_reducible refine (HC.out _).mono ?_); rintro e w2 ⟨rfl, rfl⟩)
              | (go_at_call 153; (with_reducible refine (H3.out _).mono ?_); rintro e w3 ⟨rfl, hb3⟩)
              | (go_at_call 152; (with_reducible refine (H4.out _).mono ?_); rintro e w4 ⟨rfl, hb4⟩)
              | (go_at_call 150; (with_reducible refine (H5.out _).mono ?_); rintro e w5 ⟨rfl, rfl⟩))
            exact ⟨rfl, HE.out.symm, Below_next (Below_next HB.out hb3) hb4⟩
          | some m4 =>
            rw [h5] at hrd
            have H5 := Lib.hid (fun w => lsign_ok 64 m3 m4 h5 w)
            have hm4 := eat_len h5
            cases h6 : domL m4 with
            | none =>
              have hrd2 : readL l = none := by rw [hrd]; show (match domL m4 with | none => none | some p => _) = _; rw [h6]
              have H6 := Lib.hid (fun w => ldom_no m4 (by omega) h6 w)
              have HE := Lib.hid (show R = .panicked [pvE] by rw [HR.out none hrd2]; rfl)
              clear HR hrd hrd2 hro hl hml h3 h4 hlo hm2 hm3 h5 h6 hm4
              generalize ba m4 = M4 at *
              generalize ba m3 = M3 at *
              generalize ba x = X at *
              generalize ba m2 = M2 at *
              generalize ba m = M at *
              generalize ba l = S at *
              go_enter Tryz.func117, Tryz.ntmps117
              go_wp2_with (first
                | (go_at_call 150; (with_reducible refine (H1.out _).mono ?_); rintro e w1 ⟨rfl, rfl⟩)
                | (go_at_call 151; (with_reducible refine (HC.out _).mono ?_); rintro e w2 ⟨rfl, rfl⟩)
                | (go_at_call 153; (with_reducible refine (H3.out _).mono ?_); rintro e w3 ⟨rfl, hb3⟩)
                | (go_at_call 152; (with_reducible refine (H4.out _).mono ?_); rintro e w4 ⟨rfl, hb4⟩)
                | (go_at_call 150; (with_reducible refine (H5.out _).mono ?_); rintro e w5 ⟨rfl, rfl⟩)
                | (go_at_call 154; (with_reducible refine (H6.out _).mono ?_); rintro e w6 ⟨rfl, hb6⟩))
              exact ⟨rfl, HE.out.symm, Below_next (Below_next (Below_next HB.out hb3) hb4) hb6⟩
            | some q =>
              obtain ⟨d, m5⟩ := q
              have hrd2 : readL l = match eatL 62 m5 with
                | none => none
                | some m6 => some (⟨x, d⟩, m6) := by rw [hrd]; show (match domL m4 with | none => none | some p => _) = _; rw [h6]
              have H6 := Lib.hid (fun w => ldom_ok m4 d m5 (by omega) h6 w)
              cases h7 : eatL 62 m5 with
              | none =>
                rw [h7] at hrd2
                have H7 := Lib.hid (fun w => lsign_no 62 m5 h7 w)
                have HE := Lib.hid (show R = .panicked [pvE] by rw [HR.out none hrd2]; rfl)
                clear HR hrd hrd2 hro hl hml h3 h4 hlo hm2 hm3 h5 h6 hm4 h7
                generalize ba m5 = M5 at *
                generalize ba d = D at *
                generalize ba m4 = M4 at *
                generalize ba m3 = M3 at *
                generalize ba x = X at *
                generalize ba m2 = M2 at *
                generalize ba m = M at *
                generalize ba l = S at *
                go_enter Tryz.func117, Tryz.ntmps117
                go_wp2_with (first
                  | (go_at_call 150; (with_reducible refine (H1.out _).mono ?_); rintro e w1 ⟨rfl, rfl⟩)
                  | (go_at_call 151; (with_reducible refine (HC.out _).mono ?_); rintro e w2 ⟨rfl, rfl⟩)
                  | (go_at_call 153; (with_reducible refine (H3.out _).mono ?_); rintro e w3 ⟨rfl, hb3⟩)
                  | (go_at_call 152; (with_reducible refine (H4.out _).mono ?_); rintro e w4 ⟨rfl, hb4⟩)
                  | (go_at_call 150; (with_reducible refine (H5.out _).mono ?_); rintro e w5 ⟨rfl, rfl⟩)
                  | (go_at_call 154; (with_reducible refine (H6.out _).mono ?_); rintro e w6 ⟨rfl, hb6⟩)
                  | (go_at_call 150; (with_reducible refine (H7.out _).mono ?_); rintro e w7 ⟨rfl, rfl⟩))
                exact ⟨rfl, HE.out.symm, Below_next (Below_next (Below_next HB.out hb3) hb4) hb6⟩
              | some m6 =>
                rw [h7] at hrd2
                have H7 := Lib.hid (fun w => lsign_ok 62 m5 m6 h7 w)
                have HE := Lib.hid (show R = .returned (.tuple #[.agg #[.string (ba x), .string (ba d)], .string (ba m6)]) by rw [HR.out _ hrd2]; rfl)
                clear HR hrd hrd2 hro hl hml h3 h4 hlo hm2 hm3 h5 h6 hm4 h7
                generalize ba m6 = M6 at *
                generalize ba m5 = M5 at *
                generalize ba d = D at *
                generalize ba m4 = M4 at *
                generalize ba m3 = M3 at *
                generalize ba x = X at *
                generalize ba m2 = M2 at *
                generalize ba m = M at *
                generalize ba l = S at *
                go_enter Tryz.func117, Tryz.ntmps117
                go_wp2_with (first
                  | (go_at_call 150; (with_reducible refine (H1.out _).mono ?_); rintro e w1 ⟨rfl, rfl⟩)
                  | (go_at_call 151; (with_reducible refine (HC.out _).mono ?_); rintro e w2 ⟨rfl, rfl⟩)
                  | (go_at_call 153; (with_reducible refine (H3.out _).mono ?_); rintro e w3 ⟨rfl, hb3⟩)
                  | (go_at_call 152; (with_reducible refine (H4.out _).mono ?_); rintro e w4 ⟨rfl, hb4⟩)
                  | (go_at_call 150; (with_reducible refine (H5.out _).mono ?_); rintro e w5 ⟨rfl, rfl⟩)
                  | (go_at_call 154; (with_reducible refine (H6.out _).mono ?_); rintro e w6 ⟨rfl, hb6⟩; have hA6 := ((HA.out.next hb3).next hb4).next hb6; have hB6 := Below_next (Below_next (Below_next HB.out hb3) hb4) hb6; have hgl := hA6.lt; have c0 : w6.cell? ⟨w.heap.size, 0, none⟩ = some (.string ⟨#[]⟩) := hA6.cell rfl; have c1 : w6.cell? ⟨w.heap.size, 1, none⟩ = some (.string ⟨#[]⟩) := hA6.cell rfl; have f0 := hA6.frozen 0; have f1 := hA6.frozen 1)
                  | (go_at_call 150; (with_reducible refine (H7.out _).mono ?_); rintro e w7 ⟨rfl, rfl⟩))
                refine bodyPost_ret (results_abox2 rfl _ _ w.heap.size #[.string X, .string D] rfl rfl (Arr.set (Arr.set hA6 0 _) 1 _)) rfl ?_
                exact ⟨by rw [HE.out]; rfl, Below.setCell (Below.setCell hB6 (Nat.le_refl _) _) (Nat.le_refl _) _⟩
end Go.Proofs.YtahbbnimoogapaaGreatDoor
namespace Go.Proofs.YtahbbnimoogapaaGreatDoor
open Go.RowKit

/-- What the deferred function leaves where there was a panic. -/
def caughtW (w : World) (g2 g3 g4 : Nat) : World := (((w.setCell ⟨g2, 0, none⟩ (.string ⟨#[]⟩)).setCell ⟨g2, 1, none⟩ (.string ⟨#[]⟩)).setCell ⟨g3, 0, none⟩ (.string ⟨#[]⟩)).setCell ⟨g4, 0, none⟩ (.int .i64 2)
theorem caught_2 {w : World} {g : Nat} {a b : ByteArray} {t : TypeId} (h : Arr w g #[.string a, .string b] t) : Arr (caughtW w g (g + 1) (g + 1 + 1)) g #[.string ⟨#[]⟩, .string ⟨#[]⟩] t :=
  Arr.other (Arr.other (Arr.set (Arr.set h 0 _) 1 _) _ _ (Nat.ne_of_lt (Nat.lt_succ_self _))) _ _ (Nat.ne_of_lt (Nat.lt_succ_of_lt (Nat.lt_succ_self _)))
theorem caught_3 {w : World} {g : Nat} {a : ByteArray} {t : TypeId} (h : Arr w (g + 1) #[.string a] t) : Arr (caughtW w g (g + 1) (g + 1 + 1)) (g + 1) #[.string ⟨#[]⟩] t :=
  Arr.other (Arr.set (Arr.other (Arr.other h _ _ (Nat.succ_ne_self _)) _ _ (Nat.succ_ne_self _)) 0 _) _ _ (Nat.ne_of_lt (Nat.lt_succ_self _))
theorem caught_4 {w : World} {g : Nat} {k : Int} {t : TypeId} (h : Arr w (g + 1 + 1) #[.int .i64 k] t) : Arr (caughtW w g (g + 1) (g + 1 + 1)) (g + 1 + 1) #[.int .i64 2] t :=
  Arr.set (Arr.other (Arr.other (Arr.other h _ _ (by show g + 1 + 1 ≠ g; omega)) _ _ (by show g + 1 + 1 ≠ g; omega)) _ _ (Nat.succ_ne_self _)) 0 _
theorem caught_below {w0 w : World} (h : Below w0.heap.size w0 w) : Below w0.heap.size w0 (caughtW w w0.heap.size (w0.heap.size + 1) (w0.heap.size + 1 + 1)) :=
  (((h.setCell (Nat.le_refl _) _).setCell (Nat.le_refl _) _).setCell (Nat.le_succ _) _).setCell (Nat.le_succ_of_le (Nat.le_succ _)) _
theorem catch_panicking (g2 g3 g4 : Nat) (a b c : ByteArray) (k : Int) (u : TypeId) (pv : Value) (older : List PanicEntry) (w : World) (h2 : Arr w g2 #[.string a, .string b] 24) (h3 : Arr w g3 #[.string c] 9) (h4 : Arr w g4 #[.int .i64 k] 27) (n23 : g3 ≠ g2) (n24 : g4 ≠ g2) (n34 : g4 ≠ g3) :
    CallsD Tryz.prog 116 #[.pointer (some ⟨g2, 0, none⟩), .pointer (some ⟨g3, 0, none⟩), .pointer (some ⟨g4, 0, none⟩)] (.panicking ({ v := .iface u pv, recovered := false } :: older)) w fun e u' w' =>
      e = .returned (.tuple #[]) ∧ u' = .panicking ({ v := .iface u pv, recovered := true } :: older) ∧ w' = caughtW w g2 g3 g4 := by
  have c20 := h2.cell (j := 0) rfl
  have c21 := h2.cell (j := 1) rfl
  have c3 := h3.cell (j := 0) rfl
  have c4 := h4.cell (j := 0) rfl
  have f20 := h2.frozen 0
  have f21 := h2.frozen 1
  have f3 := h3.frozen 0
  have f4 := h4.frozen 0
  refine callsD_of_wpS Tryz.func116 rfl fun c₀ cs hu => ?_
  apply wpS_seq
  apply wpS_region
  simp [wpOpsS, go_sem, recoverD, hu, Tryz.ntmps116, Exit.thenS]
  refine wpS_cond (t := true) (by simp [Act.eval, Array.replicate]) ?_
  simp only [if_true]
  refine wpS_of_wp ?_
  have d20 : w.cell? ⟨g2, 0, none⟩ = some (.string a) := c20
  have d21 : w.cell? ⟨g2, 1, none⟩ = some (.string b) := c21
  have d3 : w.cell? ⟨g3, 0, none⟩ = some (.string c) := c3
  have d4 : w.cell? ⟨g4, 0, none⟩ = some (.int .i64 k) := c4
  clear c20 c21 c3 c4 h2 h3 h4
  go_wp2
  simp [bodyPostS, results, Tryz.results116, caughtW]
theorem catch_idle (g2 g3 g4 : Nat) (w : World) :
    CallsD Tryz.prog 116 #[.pointer (some ⟨g2, 0, none⟩), .pointer (some ⟨g3, 0, none⟩), .pointer (some ⟨g4, 0, none⟩)] .returning w fun e u' w' => e = .returned (.tuple #[]) ∧ u' = .returning ∧ w' = w := by
  refine callsD_of_wpS Tryz.func116 rfl fun c₀ cs hu => ?_
  apply wpS_seq
  apply wpS_region
  simp [wpOpsS, go_sem, recoverD, hu, Tryz.ntmps116, Exit.thenS]
  refine wpS_cond (t := false) (by simp [Act.eval, Array.replicate]) ?_
  simp only [Bool.false_eq_true, if_false]
  refine wpS_of_wp (wp_skip ?_)
  cases c₀
  simp_all [bodyPostS, results, Tryz.results116]


/-- The world at the begin of Read: three results. -/
def begW (w : World) : World := ((w.alloc (.cells #[.string ⟨#[]⟩, .string ⟨#[]⟩] 24)).alloc (.cells #[.string ⟨#[]⟩] 9)).alloc (.cells #[.int .i64 0] 27)
theorem begW_is (w : World) : Arr (begW w) w.heap.size #[.string ⟨#[]⟩, .string ⟨#[]⟩] 24 ∧ Arr (begW w) (w.heap.size + 1) #[.string ⟨#[]⟩] 9 ∧ Arr (begW w) (w.heap.size + 1 + 1) #[.int .i64 0] 27 ∧ Below w.heap.size w (begW w) := by
  have z1 : (w.alloc (.cells #[.string ⟨#[]⟩, .string ⟨#[]⟩] 24)).heap.size = w.heap.size + 1 := by show (w.heap.push _).size = _; simp
  have z2 : ((w.alloc (.cells #[.string ⟨#[]⟩, .string ⟨#[]⟩] 24)).alloc (.cells #[.string ⟨#[]⟩] 9)).heap.size = w.heap.size + 1 + 1 := by rw [← z1]; show (Array.push _ _).size = _; simp
  exact ⟨((Arr.new w _ _).alloc _).alloc _, (Arr.newAt _ _ _ z1.symm).alloc _, Arr.newAt _ _ _ z2.symm, below_new (below_new (below_one w _) _) _⟩

set_option maxHeartbeats 2000000 in
set_option maxRecDepth 100000 in
theorem lread_bad (s : ByteArray) (w : World) (hP : ∀ w, Calls Tryz.prog 117 #[.string s] w fun e w' => e = .panicked [pvE] ∧ Below w.heap.size w w') :
    Calls Tryz.prog 80 #[.string s] w fun e w' => e = .returned (.tuple #[.agg #[.string ⟨#[]⟩, .string ⟨#[]⟩], .string ⟨#[]⟩, .int .i64 2]) ∧ Below w.heap.size w w' := by
  have hmf : ∀ (fn : Fn) (first cap : Array Value) (w : World), (Instr.makeFunc fn first cap).run Tryz.prog w = .ok (.func fn first cap) w := fun _ _ _ _ => rfl
  obtain ⟨a2, a3, a4, hb⟩ := begW_is w
  have HP := Lib.hid (hP (begW w))
  have HA := Lib.hid (And.intro a2 (And.intro a3 a4))
  have HB := Lib.hid hb
  clear hP a2 a3 a4 hb
  unfold begW at HP HA HB
  go_enter_defers Tryz.func80, Tryz.ntmps80
  go_wp2_with (first
    | (go_at_call 117; (with_reducible refine HP.out.mono ?_); rintro e w5 ⟨rfl, hf5⟩))
  refine leaves_cons (f := 116) (args := #[.pointer (some ⟨w.heap.size, 0, none⟩), .pointer (some ⟨w.heap.size + 1, 0, none⟩), .pointer (some ⟨w.heap.size + 1 + 1, 0, none⟩)]) (by simp) (by simp [go_sem]) ?_
  have b2 : Arr w5 w.heap.size #[.string ⟨#[]⟩, .string ⟨#[]⟩] 24 := HA.out.1.next hf5
  have b3 : Arr w5 (w.heap.size + 1) #[.string ⟨#[]⟩] 9 := HA.out.2.1.next hf5
  have b4 : Arr w5 (w.heap.size + 1 + 1) #[.int .i64 0] 27 := HA.out.2.2.next hf5
  refine (catch_panicking _ _ _ _ _ _ _ _ _ _ _ b2 b3 b4 (by omega) (by omega) (by omega)).mono ?_
  rintro e u' w'' ⟨rfl, rfl, rfl⟩
  have r20 : (caughtW w5 w.heap.size (w.heap.size + 1) (w.heap.size + 1 + 1)).cell? ⟨w.heap.size, 0, none⟩ = some (.string ⟨#[]⟩) := (caught_2 b2).cell rfl
  have r21 : (caughtW w5 w.heap.size (w.heap.size + 1) (w.heap.size + 1 + 1)).cell? ⟨w.heap.size, 1, none⟩ = some (.string ⟨#[]⟩) := (caught_2 b2).cell rfl
  have r3 : (caughtW w5 w.heap.size (w.heap.size + 1) (w.heap.size + 1 + 1)).cell? ⟨w.heap.size + 1, 0, none⟩ = some (.string ⟨#[]⟩) := (caught_3 b3).cell rfl
  have r4 : (caughtW w5 w.heap.size (w.heap.size + 1) (w.heap.size + 1 + 1)).cell? ⟨w.heap.size + 1 + 1, 0, none⟩ = some (.int .i64 2) := (caught_4 b4).cell rfl
  have hb : Below w.heap.size w (caughtW w5 w.heap.size (w.heap.size + 1) (w.heap.size + 1 + 1)) := caught_below (Below_next HB.out hf5)
  clear b2 b3 b4 HA HB HP
  generalize caughtW w5 w.heap.size (w.heap.size + 1) (w.heap.size + 1 + 1) = wC at *
  simp [Leaves, settle, results, Tryz.results80, go_sem, r20, r21, r3, r4]
  exact hb

/-- What is told where there was none. -/
def toldW (w : World) (g : Nat) (L D R : ByteArray) : World := (((((((w.setCell ⟨g, 0, none⟩ (.string L)).setCell ⟨g, 1, none⟩ (.string D)).setCell ⟨g + 1, 0, none⟩ (.string R)).setCell ⟨g, 0, none⟩ (.string L)).setCell ⟨g, 1, none⟩ (.string D)).setCell ⟨g + 1, 0, none⟩ (.string R)).setCell ⟨g + 1 + 1, 0, none⟩ (.int .i64 0)).drew
theorem told_2 {w : World} {g : Nat} {a b L D R : ByteArray} {t : TypeId} (h : Arr w g #[.string a, .string b] t) : Arr (toldW w g L D R) g #[.string L, .string D] t :=
  have n1 : g ≠ g + 1 := by omega
  have n2 : g ≠ g + 1 + 1 := by omega
  (Arr.other (Arr.other (Arr.set (Arr.set (Arr.other (Arr.set (Arr.set h 0 _) 1 _) _ _ n1) 0 _) 1 _) _ _ n1) _ _ n2).drew
theorem told_3 {w : World} {g : Nat} {a L D R : ByteArray} {t : TypeId} (h : Arr w (g + 1) #[.string a] t) : Arr (toldW w g L D R) (g + 1) #[.string R] t :=
  have n1 : g + 1 ≠ g := by omega
  have n2 : g + 1 ≠ g + 1 + 1 := by omega
  (Arr.other (Arr.set (Arr.other (Arr.other (Arr.set (Arr.other (Arr.other h _ _ n1) _ _ n1) 0 _) _ _ n1) _ _ n1) 0 _) _ _ n2).drew
theorem told_4 {w : World} {g : Nat} {k : Int} {L D R : ByteArray} {t : TypeId} (h : Arr w (g + 1 + 1) #[.int .i64 k] t) : Arr (toldW w g L D R) (g + 1 + 1) #[.int .i64 0] t :=
  have n1 : g + 1 + 1 ≠ g := by omega
  have n2 : g + 1 + 1 ≠ g + 1 := by omega
  (Arr.set (Arr.other (Arr.other (Arr.other (Arr.other (Arr.other (Arr.other h _ _ n1) _ _ n1) _ _ n2) _ _ n1) _ _ n1) _ _ n2) 0 _).drew
theorem told_below {w0 w : World} {L D R : ByteArray} (h : Below w0.heap.size w0 w) : Below w0.heap.size w0 (toldW w w0.heap.size L D R) :=
  (((((((h.setCell (Nat.le_refl _) _).setCell (Nat.le_refl _) _).setCell (Nat.le_succ _) _).setCell (Nat.le_refl _) _).setCell (Nat.le_refl _) _).setCell (Nat.le_succ _) _).setCell (Nat.le_succ_of_le (Nat.le_succ _)) _).drew

set_option maxHeartbeats 2000000 in
set_option maxRecDepth 100000 in
theorem lread_ok (s : ByteArray) (L D R : ByteArray) (w : World) (hP : ∀ w, Calls Tryz.prog 117 #[.string s] w fun e w' => e = .returned (.tuple #[.agg #[.string L, .string D], .string R]) ∧ Below w.heap.size w w') :
    Calls Tryz.prog 80 #[.string s] w fun e w' => e = .returned (.tuple #[.agg #[.string L, .string D], .string R, .int .i64 0]) ∧ Below w.heap.size w w' := by
  have hmf : ∀ (fn : Fn) (first cap : Array Value) (w : World), (Instr.makeFunc fn first cap).run Tryz.prog w = .ok (.func fn first cap) w := fun _ _ _ _ => rfl
  obtain ⟨a2, a3, a4, hb⟩ := begW_is w
  have HP := Lib.hid (hP (begW w))
  have HA := Lib.hid (And.intro a2 (And.intro a3 a4))
  have HB := Lib.hid hb
  clear hP a2 a3 a4 hb
  unfold begW at HP HA HB
  go_enter_defers Tryz.func80, Tryz.ntmps80
  go_wp2_with (first
    | (go_at_call 117; (with_reducible refine HP.out.mono ?_); rintro e w5 ⟨rfl, hf5⟩; have b2 : Arr w5 w.heap.size #[.string ⟨#[]⟩, .string ⟨#[]⟩] 24 := HA.out.1.next hf5; have b3 : Arr w5 (w.heap.size + 1) #[.string ⟨#[]⟩] 9 := HA.out.2.1.next hf5; have b4 : Arr w5 (w.heap.size + 1 + 1) #[.int .i64 0] 27 := HA.out.2.2.next hf5; have c20 : w5.cell? ⟨w.heap.size, 0, none⟩ = some (.string ⟨#[]⟩) := b2.cell rfl; have c21 : w5.cell? ⟨w.heap.size, 1, none⟩ = some (.string ⟨#[]⟩) := b2.cell rfl; have c3 : w5.cell? ⟨w.heap.size + 1, 0, none⟩ = some (.string ⟨#[]⟩) := b3.cell rfl; have c4 : w5.cell? ⟨w.heap.size + 1 + 1, 0, none⟩ = some (.int .i64 0) := b4.cell rfl; have f20 := b2.frozen 0; have f21 := b2.frozen 1; have f3 := b3.frozen 0; have f4 := b4.frozen 0))
  go_region
  go_wp2
  refine leaves_cons (f := 116) (args := #[.pointer (some ⟨w.heap.size, 0, none⟩), .pointer (some ⟨w.heap.size + 1, 0, none⟩), .pointer (some ⟨w.heap.size + 1 + 1, 0, none⟩)]) (by simp) (by simp [go_sem]) ?_
  refine (catch_idle _ _ _ _).mono ?_
  rintro e u' wC ⟨rfl, rfl, hw⟩
  have e2 : Arr wC w.heap.size #[.string L, .string D] 24 := hw ▸ told_2 (L := L) (D := D) (R := R) b2
  have e3 : Arr wC (w.heap.size + 1) #[.string R] 9 := hw ▸ told_3 (L := L) (D := D) (R := R) b3
  have e4 : Arr wC (w.heap.size + 1 + 1) #[.int .i64 0] 27 := hw ▸ told_4 (L := L) (D := D) (R := R) b4
  have hb : Below w.heap.size w wC := hw ▸ told_below (L := L) (D := D) (R := R) (Below_next HB.out hf5)
  have r20 : wC.cell? ⟨w.heap.size, 0, none⟩ = some (.string L) := e2.cell rfl
  have r21 : wC.cell? ⟨w.heap.size, 1, none⟩ = some (.string D) := e2.cell rfl
  have r3 : wC.cell? ⟨w.heap.size + 1, 0, none⟩ = some (.string R) := e3.cell rfl
  have r4 : wC.cell? ⟨w.heap.size + 1 + 1, 0, none⟩ = some (.int .i64 0) := e4.cell rfl
  clear e2 e3 e4 hw b2 b3 b4 c20 c21 c3 c4 f20 f21 f3 f4 HA HB HP
  simp [Leaves, settle, results, Tryz.results80, go_sem, r20, r21, r3, r4]
  exact hb
theorem lread_any (s : ByteArray) (hs : s.size ≤ 65536) (w : World) : Calls Tryz.prog 80 #[.string s] w fun e w' => e = .returned (readV (readL s.data.toList)) ∧ Below w.heap.size w w' := by
  have hll : s.data.toList.length = s.size := by simp
  have hP := fun w => lreadPath_any s.data.toList (by omega) w
  rw [ba_of] at hP
  cases hr : readL s.data.toList with
  | none =>
    rw [hr] at hP
    exact lread_bad s w hP
  | some p =>
    rw [hr] at hP
    exact lread_ok s (ba p.1.loc) (ba p.1.dom) (ba p.2) w hP

end Go.Proofs.YtahbbnimoogapaaGreatDoor
