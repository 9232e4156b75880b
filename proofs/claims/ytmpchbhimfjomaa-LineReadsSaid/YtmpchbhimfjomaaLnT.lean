/- LineTells: its walk over the record. -/
import Derived.Test.YtmpchbhimfjomaaLnL
import Derived.OwnWalk
namespace Go.Proofs.Ytmpchbhimfjomaa
open Go.RowKit

theorem unG_len : ∀ (L : List (List UInt8)) (p : List (List UInt8) × Nat), unstuffG L = some p → p.1.length ≤ L.length
  | [], p, h => by cases h
  | x :: L, p, h => by
    rw [unstuffG] at h
    split at h
    · cases h; exact Nat.zero_le _
    · cases hg : unstuffG L with
      | none => rw [hg] at h; cases h
      | some q =>
        rw [hg] at h
        cases h
        have := unG_len L q hg
        show q.1.length + 1 ≤ L.length + 1
        omega
theorem unL_len (l : List UInt8) : (unstuffL l).1.length ≤ (linesL l).1.length := by
  unfold unstuffL
  split
  · exact Nat.zero_le _
  · rename_i p hp
    exact unG_len _ p hp

section
variable {Rd : World → (Nat → Prop) → Value → Nat → List UInt8 → Prop}
set_option maxHeartbeats 2000000 in
set_option maxRecDepth 100000 in
theorem lineTells_walk (C : LineC Rd) (s : ByteArray) (a : Option Addr) (len cap : Nat) (ss : List ByteArray) (W : World) (_ : s.size ≤ maxLen) (hl : IsTexts W a len cap ss) :
    Calls Try.prog 3 #[.string s, .slice a len cap] W fun e w' => e = .returned (.bool true) ∧ Below W.heap.size W w' := by
  have HA := Lib.hid (C.awake W)
  have HT := Lib.hid hl
  have HLg := Lib.hid (fun w h => large8_any a len cap ss w h)
  by_cases h1 : s.size ≤ 4096
  · have hi : ¬ (4096 : Int) < (s.size : Int) := by omega
    cases hlg : largeL ss with
    | true =>
      rw [hlg] at HLg
      clear hl h1 hlg
      go_enter Try.func3, Try.ntmps3
      go_wp2_with (first
        | (go_at_call 9; (with_reducible refine HA.out.mono ?_); rintro e w1 ⟨rfl, hb1⟩)
        | (go_at_call 10; (with_reducible refine (HLg.out _ (HT.out.next hb1)).mono ?_); rintro e w2 ⟨rfl, rfl⟩))
      go_ret
      exact ⟨rfl, hb1⟩
    | false =>
      obtain ⟨hn, hz⟩ := largeL_no hlg
      rw [hlg] at HLg
      have HS1 := Lib.hid (fun w => C.split s (by omega) w)
      have HS2 := Lib.hid (fun w => rsplit8_any s (by omega) w)
      have HU1 := Lib.hid (fun w => C.unstuffed s (by omega) w)
      have HU2 := Lib.hid (fun w => runstuffed8_any s (by omega) w)
      have HV1 := Lib.hid (fun w => C.unstuff s (by omega) w)
      have HV2 := Lib.hid (fun w => runstuff8_any s (by omega) w)
      have HJ1 := Lib.hid (fun w h => C.join a len cap ss (by omega) (by omega) w h)
      have HJ2 := Lib.hid (fun w h => rjoin8_any a len cap ss (by omega) (by omega) w h)
      have HF1 := Lib.hid (fun w h => C.stuff a len cap ss (by omega) (by omega) w h)
      have HF2 := Lib.hid (fun w h => rstuff8_any a len cap ss (by omega) (by omega) w h)
      have hc1 := lines_total s.data.toList
      have e0 : s.data.toList.length = s.size := by simp
      have hc2 : (unstuffL s.data.toList).1.length ≤ 4096 := by have := unL_len s.data.toList; omega
      have hc3 : (linesL s.data.toList).1.length ≤ 4096 := by omega
      clear e0
      have HC2 := Lib.hid hc2
      have HC3 := Lib.hid hc3
      generalize linesL s.data.toList = LL at *
      generalize unstuffL s.data.toList = UU at *
      generalize undotL s.data.toList = VV at *
      generalize ba (joinL (lsB ss)) = JJ at *
      generalize ba (stuffL (lsB ss)) = FF at *
      clear hl h1 hlg hn hz hc1 hc2 hc3
      go_enter Try.func3, Try.ntmps3
      go_wp2_with (first
        | (go_at_call 9; (with_reducible refine HA.out.mono ?_); rintro e w1 ⟨rfl, hb1⟩)
        | (go_at_call 10; (with_reducible refine (HLg.out _ (HT.out.next hb1)).mono ?_); rintro e w2 ⟨rfl, rfl⟩)
        | (go_at_call 11; (with_reducible refine (HS1.out _).mono ?_); rintro e w3 ⟨a3, n3, c3, rfl, ht3, hb3⟩; have HT3 := Lib.hid ht3; clear ht3)
        | (go_at_call 12; (with_reducible refine (HS2.out _).mono ?_); rintro e w4 ⟨a4, n4, c4, rfl, ht4, hb4, _⟩; have HT4 := Lib.hid ht4; clear ht4)
        | (go_at_call 13; (with_reducible refine (HU1.out _).mono ?_); rintro e w5 ⟨a5, n5, c5, rfl, ht5, hb5⟩; have HT5 := Lib.hid ht5; clear ht5)
        | (go_at_call 14; (with_reducible refine (HU2.out _).mono ?_); rintro e w6 ⟨a6, n6, c6, rfl, ht6, hb6⟩; have HT6 := Lib.hid ht6; clear ht6)
        | (go_at_call 15; (with_reducible refine (HV1.out _).mono ?_); rintro e w7 ⟨rfl, hb7⟩)
        | (go_at_call 16; (with_reducible refine (HV2.out _).mono ?_); rintro e w8 ⟨rfl, rfl⟩; have T3 := (((HT3.out.next hb4).next hb5).next hb6).next hb7; have T4 := ((HT4.out.next hb5).next hb6).next hb7; have hs1 := rsame8_any (by have := T3.len.1; rw [bas_len] at this; have := HC3.out; omega) _ T3 T4; rw [decide_eq_true rfl] at hs1)
        | (go_at_call 17; (with_reducible refine hs1.mono ?_); rintro e w9 ⟨rfl, hb9⟩; have T5 := ((HT5.out.next hb6).next hb7).next hb9; have T6 := (HT6.out.next hb7).next hb9; have hs2 := rsame8_any (by have := T5.len.1; rw [bas_len] at this; have := HC2.out; omega) _ T5 T6; rw [decide_eq_true rfl] at hs2)
        | (go_at_call 17; (with_reducible refine hs2.mono ?_); rintro e wA ⟨rfl, hbA⟩; have hbb := Below_next (Below_next (Below_next (Below_next (Below_next (Below_next (Below_next hb1 hb3) hb4) hb5) hb6) hb7) hb9) hbA; have T1 := HT.out.next hbb)
        | (go_at_call 18; (with_reducible refine (HJ1.out _ T1).mono ?_); rintro e wB ⟨rfl, hbB⟩; have T2 := T1.next hbB)
        | (go_at_call 19; (with_reducible refine (HJ2.out _ T2).mono ?_); rintro e wC ⟨rfl, rfl⟩)
        | (go_at_call 20; (with_reducible refine (HF1.out _ T2).mono ?_); rintro e wD ⟨rfl, hbD⟩; have T2D := T2.next hbD)
        | (go_at_call 21; (with_reducible refine (HF2.out _ T2D).mono ?_); rintro e wE ⟨rfl, hbE⟩))
      go_ret
      exact ⟨rfl, Below_next (Below_next (Below_next hbb hbB) hbD) hbE⟩
  · have hi : (4096 : Int) < (s.size : Int) := by omega
    clear hl h1
    go_enter Try.func3, Try.ntmps3
    go_wp2_with (first
      | (go_at_call 9; (with_reducible refine HA.out.mono ?_); rintro e w1 ⟨rfl, hb1⟩))
    go_ret
    exact ⟨rfl, hb1⟩
end
end Go.Proofs.Ytmpchbhimfjomaa
