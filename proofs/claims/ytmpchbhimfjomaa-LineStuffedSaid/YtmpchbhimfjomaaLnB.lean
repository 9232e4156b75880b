/- LineBack: its walk over the record. -/
import Derived.Test.YtmpchbhimfjomaaLnO
import Derived.OwnWalk
namespace Go.Proofs.Ytmpchbhimfjomaa
open Go.RowKit

section
variable {Rd : World → (Nat → Prop) → Value → Nat → List UInt8 → Prop}
set_option maxHeartbeats 2000000 in
set_option maxRecDepth 100000 in
theorem lineBack_walk (C : LineC Rd) (s : ByteArray) (a : Option Addr) (len cap : Nat) (ss : List ByteArray) (rest : ByteArray) (W : World) (hl : IsTexts W a len cap ss) :
    Calls Try.prog 6 #[.string s, .slice a len cap, .string rest] W fun e w' => e = .returned (.bool true) ∧ Below W.heap.size W w' := by
  have HA := Lib.hid (C.awake W)
  have HT0 := Lib.hid hl
  have HLg := Lib.hid (fun w h => large8_any a len cap ss w h)
  have hlen := hl.len.1
  by_cases h0 : s.size ≤ 4096
  · have hi0 : ¬ (4096 : Int) < (s.size : Int) := by omega
    cases hlg : largeL ss with
    | true =>
      rw [hlg] at HLg
      clear hl hlg hlen h0
      go_enter Try.func6, Try.ntmps6
      go_wp2_with (first
        | (go_at_call 9; (with_reducible refine HA.out.mono ?_); rintro e w1 ⟨rfl, hb1⟩)
        | (go_at_call 10; (with_reducible refine (HLg.out _ (HT0.out.next hb1)).mono ?_); rintro e w2 ⟨rfl, rfl⟩))
      go_ret
      exact ⟨rfl, hb1⟩
    | false =>
    obtain ⟨hn100, hz⟩ := largeL_no hlg
    rw [hlg] at HLg
    by_cases h1 : rest.size ≤ 4096
    · have hi : ¬ (4096 : Int) < (rest.size : Int) := by omega
      have HS1 := Lib.hid (fun w => C.split s (by omega) w)
      have hlt0 := lines_total s.data.toList
      have hjl := join_lines s.data.toList.length s.data.toList (Nat.le_refl _)
      have hsl0 : s.data.toList.length = s.size := by simp
      have HJ1 := Lib.hid (fun w a len cap h => C.join a len cap (bas (linesL s.data.toList).1) (by omega) (by rw [bas_len]; omega) w h)
      rw [lsB_bas] at HJ1
      have hcat1 := cat_run (ba (joinL (linesL s.data.toList).1)) (ba (linesL s.data.toList).2) (by rw [← ByteArray.size_append, ba_append, hjl, ba_size]; omega)
      rw [ba_append, hjl, ba_of] at hcat1
      generalize linesL s.data.toList = L1 at *
      generalize ba (joinL L1.1) = J1 at *
      generalize ba L1.2 = R1 at *
      clear hl hlg hlt0 hjl hsl0
      go_enter Try.func6, Try.ntmps6
      go_wp2_with (first
        | (go_at_call 9; (with_reducible refine HA.out.mono ?_); rintro e w1 ⟨rfl, hb1⟩)
        | (go_at_call 10; (with_reducible refine (HLg.out _ (HT0.out.next hb1)).mono ?_); rintro e w2 ⟨rfl, rfl⟩)
        | (go_at_call 11; (with_reducible refine (HS1.out _).mono ?_); rintro e w3 ⟨a3, n3, c3, rfl, ht3, hb3⟩)
        | (go_at_call 18; (with_reducible refine (HJ1.out _ _ _ _ ht3).mono ?_); rintro e w4 ⟨rfl, hb4⟩))
      have HB4 := Lib.hid (Below_next (Below_next hb1 hb3) hb4)
      have HT := Lib.hid (HT0.out.next HB4.out)
      clear HLg HA HT0 ht3 hb1 hb3 hb4 hcat1 HS1 HJ1
      go_loopw [43] (fun i wr => ∃ k : Nat, i = .int .i64 (k : Int) ∧ k ≤ ss.length ∧ OneTo ss k ∧ Below w4.heap.size w4 wr) (fun i _ => 101 - (intOf i).toNat)
      case atStart => exact ⟨0, rfl, Nat.zero_le _, fun j hj => absurd hj (by omega), Below.refl _ _⟩
      case round =>
        obtain ⟨k, rfl, hk, hone, hbel⟩ := hrel
        have HOne := Lib.hid hone
        clear hone
        by_cases hlt : k < ss.length
        · have hli : (k : Int) < (len : Int) := by omega
          have hk0 : (0 : Int) ≤ (k : Int) := by omega
          obtain ⟨x, rfl, c1, _⟩ := (HT.out.next hbel).at (i := k) (by omega)
          have hx := sizeB_at hlt
          have HSt := Lib.hid (fun h => HOne.out.step h)
          generalize ss.getD k ByteArray.empty = X at *
          have HSp := Lib.hid (fun w => C.split (X ++ crlf) (by rw [crlf_size]; omega) w)
          have hcat := cat_run X crlf (by rw [← ByteArray.size_append, crlf_size]; omega)
          rw [crlf_list] at HSp
          have HO := Lib.hid (fun h1 h2 => OneL.of_lines (x := X.data.toList) (L := (linesL (X.data.toList ++ [13, 10])).1) (r := (linesL (X.data.toList ++ [13, 10])).2) rfl h1 h2)
          generalize linesL (X.data.toList ++ [13, 10]) = LL at *
          rw [show crlf = ⟨#[13, 10]⟩ from rfl] at hcat HSp
          generalize X ++ (⟨#[13, 10]⟩ : ByteArray) = T at *
          have HC1 := Lib.hid c1
          clear hx
          by_cases hn : LL.1.length = 1
          · obtain ⟨y, hy⟩ : ∃ y, LL.1 = [y] := by
              cases hL : LL.1 with
              | nil => rw [hL] at hn; cases hn
              | cons y L => rw [hL] at hn; exact ⟨y, by cases L with | nil => rfl | cons z L => simp at hn⟩
            have hyl : LL.1[0]? = some y := by rw [hy]; rfl
            have HO2 := Lib.hid (HO.out hn)
            rw [hyl] at HO2
            rw [hy] at HSp
            by_cases he : y = X.data.toList
            · have HS2 := Lib.hid (HSt.out (HO2.out (by rw [he])))
              have hyX : ba y = X := by rw [he, ba_of]
              have HSq := Lib.hid (fun w => (HSp.out w).mono (R' := fun e w' => ∃ (x5 : Addr) (c5 : Nat) (R : ByteArray), e = .returned (.tuple #[.slice (some x5) 1 c5, .string R]) ∧ w'.cell? x5 = some (.string X) ∧ Below w.heap.size w w') fun e w' ⟨a5, n5, c5, h1, h2, h3⟩ => by
                have hl5 := h2.len.1
                rw [bas_len] at hl5
                obtain rfl : n5 = 1 := hl5.symm
                obtain ⟨x5, rfl, cx, _⟩ := h2.at (i := 0) (by omega)
                rw [addr_zero, show (bas [y]).getD 0 ByteArray.empty = ba y from rfl, hyX] at cx
                exact ⟨x5, c5, _, h1, cx, h3⟩)
              clear hn hyl he hyX hy HSp HO HO2
              go_wp2_with (first
                | (go_at_call 11; (with_reducible refine (HSq.out _).mono ?_); rintro e w5 ⟨x5, c5, R, rfl, cx, hb5⟩; have c15 : w5.cell? (x.add k) = some (.string X) := (hb5.cell (World.block_lt_of_cell? _ _ HC1.out)).trans HC1.out))
              go_quiet (fail)
              go_wp2
              go_roundw
              case rel => exact ⟨k + 1, by go_num, by omega, HS2.out, Below_drewN (Below_next hbel hb5) _⟩
              case measure => simp only [intOf]; omega
            · have q : ((ba y).toList == X.toList) = false := by rw [tl8]; exact decide_eq_false fun e => he (by rw [← e, ba_list])
              have HSq := Lib.hid (fun w => (HSp.out w).mono (R' := fun e w' => ∃ (x5 : Addr) (c5 : Nat) (R : ByteArray), e = .returned (.tuple #[.slice (some x5) 1 c5, .string R]) ∧ w'.cell? x5 = some (.string (ba y)) ∧ Below w.heap.size w w') fun e w' ⟨a5, n5, c5, h1, h2, h3⟩ => by
                have hl5 := h2.len.1
                rw [bas_len] at hl5
                obtain rfl : n5 = 1 := hl5.symm
                obtain ⟨x5, rfl, cx, _⟩ := h2.at (i := 0) (by omega)
                rw [addr_zero, show (bas [y]).getD 0 ByteArray.empty = ba y from rfl] at cx
                exact ⟨x5, c5, _, h1, cx, h3⟩)
              generalize ba y = Y at *
              clear hn hyl he hy HSp HO HO2 HSt
              go_wp2_with (first
                | (go_at_call 11; (with_reducible refine (HSq.out _).mono ?_); rintro e w5 ⟨x5, c5, R, rfl, cx, hb5⟩; have c15 : w5.cell? (x.add k) = some (.string X) := (hb5.cell (World.block_lt_of_cell? _ _ HC1.out)).trans HC1.out))
              go_quiet (fail)
              go_wp2
              go_ret
              exact ⟨rfl, Below_next HB4.out (Below_drewN (Below_next hbel hb5) _)⟩
          · have HSq := Lib.hid (fun w => (HSp.out w).mono (R' := fun e w' => ∃ (a5 : Option Addr) (n5 c5 : Nat) (R : ByteArray), e = .returned (.tuple #[.slice a5 n5 c5, .string R]) ∧ ((n5 : Int) != 1) = true ∧ Below w.heap.size w w') fun e w' ⟨a5, n5, c5, h1, h2, h3⟩ => by
              have hl5 := h2.len.1
              rw [bas_len] at hl5
              exact ⟨a5, n5, c5, _, h1, bne_iff_ne.2 (by omega), h3⟩)
            clear hn HSp HO HSt
            go_wp2_with (first
              | (go_at_call 11; (with_reducible refine (HSq.out _).mono ?_); rintro e w5 ⟨a5, n5, c5, R, rfl, hq5, hb5⟩))
            go_quiet (fail)
            go_wp2
            go_ret
            exact ⟨rfl, Below_next HB4.out (Below_drewN (Below_next hbel hb5) _)⟩
        · have hli : ¬ (k : Int) < (len : Int) := by omega
          obtain rfl : k = ss.length := by omega
          have hall := HOne.out.all
          have HS2 := Lib.hid (fun w => C.split rest (by omega) w)
          cases hfe : firstE rest.data.toList with
          | some i =>
            rw [linesL_some hfe] at HS2
            have HS3 := Lib.hid (fun w => (HS2.out w).mono (R' := fun e w' => ∃ (a5 : Option Addr) (n5 c5 : Nat) (R : ByteArray), e = .returned (.tuple #[.slice a5 n5 c5, .string R]) ∧ (0 : Int) < (n5 : Int) ∧ Below w.heap.size w w') fun e w' ⟨a5, n5, c5, h1, h2, h3⟩ => by
              have hl5 := h2.len.1
              rw [bas_len, List.length_cons] at hl5
              exact ⟨a5, n5, c5, _, h1, by omega, h3⟩)
            clear hall hfe HS2
            go_wp2_with (first
              | (go_at_call 11; (with_reducible refine (HS3.out _).mono ?_); rintro e w5 ⟨a5, n5, c5, R5, rfl, hq5, hb5⟩))
            go_ret
            exact ⟨rfl, Below_next HB4.out (Below_next hbel hb5)⟩
          | none =>
            rw [linesL_none hfe] at HS2
            have HS3 := Lib.hid (fun w => (HS2.out w).mono (R' := fun e w' => ∃ (a5 : Option Addr) (n5 c5 : Nat) (R : ByteArray), e = .returned (.tuple #[.slice a5 n5 c5, .string R]) ∧ ¬ (0 : Int) < (n5 : Int) ∧ Below w.heap.size w w') fun e w' ⟨a5, n5, c5, h1, h2, h3⟩ => by
              have hl5 : n5 = 0 := h2.len.1.symm
              exact ⟨a5, n5, c5, _, h1, by omega, h3⟩)
            have hjs : (ba (joinL (lsB ss))).size = sizeB ss + 2 * ss.length := by rw [ba_size, joinL_len, lsB_size, lsB_len]
            have HJ := Lib.hid (fun w h => C.join a len cap ss (by omega) (by omega) w h)
            have hcat := cat_run (ba (joinL (lsB ss))) rest (by omega)
            have HU := Lib.hid (fun w => C.split (ba (joinL (lsB ss)) ++ rest) (by rw [ByteArray.size_append]; omega) w)
            rw [show (ba (joinL (lsB ss)) ++ rest).data.toList = joinL (lsB ss) ++ rest.data.toList by simp [ba], lines_joined hall hfe] at HU
            have HU' := Lib.hid (fun w => show Calls Try.prog 11 #[.string (ba (joinL (lsB ss)) ++ rest)] w fun e w' => ∃ a len cap, e = .returned (.tuple #[.slice a len cap, .string (ba rest.data.toList)]) ∧ IsTexts w' a len cap (bas (lsB ss)) ∧ Below w.heap.size w w' from HU.out w)
            rw [bas_lsB, ba_of] at HU'
            generalize ba (joinL (lsB ss)) ++ rest = T2 at *
            generalize ba (joinL (lsB ss)) = J2 at *
            have hss : ss.length ≤ 1048576 := by omega
            clear hall hfe HS2 hjs HU
            go_wp2_with (first
              | (go_at_call 11; (with_reducible refine (HS3.out _).mono ?_); rintro e w5 ⟨a5, n5, c5, R5, rfl, hq5, hb5⟩; have hbb5 := Below_next hbel hb5)
              | (go_at_call 18; (with_reducible refine (HJ.out _ (HT.out.next hbb5)).mono ?_); rintro e w6 ⟨rfl, hb6⟩)
              | (go_at_call 11; (with_reducible refine (HU'.out _).mono ?_); rintro e w7 ⟨a7, n7, c7, rfl, ht7, hb7⟩; have hbb7 := Below_next (Below_next hbb5 hb6) hb7; have hT7 := HT.out.next hbb7; have hs1 := rsame8_any (by have := ht7.len.1; omega) _ ht7 hT7; rw [decide_eq_true rfl] at hs1; clear ht7)
              | (go_at_call 17; (with_reducible refine hs1.mono ?_); rintro e w8 ⟨rfl, hb8⟩))
            go_ret
            exact ⟨rfl, Below_next HB4.out (Below_next hbb7 hb8)⟩
    · have hi : (4096 : Int) < (rest.size : Int) := by omega
      clear hl hlg h1 hlen h0
      go_enter Try.func6, Try.ntmps6
      go_wp2_with (first
        | (go_at_call 9; (with_reducible refine HA.out.mono ?_); rintro e w1 ⟨rfl, hb1⟩)
        | (go_at_call 10; (with_reducible refine (HLg.out _ (HT0.out.next hb1)).mono ?_); rintro e w2 ⟨rfl, rfl⟩))
      go_ret
      exact ⟨rfl, hb1⟩
  · have hi0 : (4096 : Int) < (s.size : Int) := by omega
    clear hl hlen h0
    go_enter Try.func6, Try.ntmps6
    go_wp2_with (first
      | (go_at_call 9; (with_reducible refine HA.out.mono ?_); rintro e w1 ⟨rfl, hb1⟩))
    go_ret
    exact ⟨rfl, hb1⟩
end
end Go.Proofs.Ytmpchbhimfjomaa
