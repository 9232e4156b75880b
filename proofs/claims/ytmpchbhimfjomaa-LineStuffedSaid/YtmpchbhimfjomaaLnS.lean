/- LineStuffed: its walk over the record. -/
import Derived.Test.YtmpchbhimfjomaaLnO
import Derived.OwnWalk
namespace Go.Proofs.Ytmpchbhimfjomaa
open Go.RowKit

section
variable {Rd : World → (Nat → Prop) → Value → Nat → List UInt8 → Prop}
set_option maxHeartbeats 2000000 in
set_option maxRecDepth 100000 in
theorem lineStuffed_walk (C : LineC Rd) (a : Option Addr) (len cap : Nat) (ss : List ByteArray) (behind : ByteArray) (W : World) (hl : IsTexts W a len cap ss) :
    Calls Try.prog 7 #[.slice a len cap, .string behind] W fun e w' => e = .returned (.bool true) ∧ Below W.heap.size W w' := by
  have HA := Lib.hid (C.awake W)
  have HT0 := Lib.hid hl
  have HLg := Lib.hid (fun w h => large8_any a len cap ss w h)
  have hlen := hl.len.1
  cases hlg : largeL ss with
  | true =>
    rw [hlg] at HLg
    clear hl hlg hlen
    go_enter Try.func7, Try.ntmps7
    go_wp2_with (first
      | (go_at_call 9; (with_reducible refine HA.out.mono ?_); rintro e w1 ⟨rfl, hb1⟩)
      | (go_at_call 10; (with_reducible refine (HLg.out _ (HT0.out.next hb1)).mono ?_); rintro e w2 ⟨rfl, rfl⟩))
    go_ret
    exact ⟨rfl, hb1⟩
  | false =>
  obtain ⟨hn100, hz⟩ := largeL_no hlg
  rw [hlg] at HLg
  by_cases h1 : behind.size ≤ 4096
  · have hi : ¬ (4096 : Int) < (behind.size : Int) := by omega
    clear hl hlg
    go_enter Try.func7, Try.ntmps7
    go_wp2_with (first
      | (go_at_call 9; (with_reducible refine HA.out.mono ?_); rintro e w1 ⟨rfl, hb1⟩)
      | (go_at_call 10; (with_reducible refine (HLg.out _ (HT0.out.next hb1)).mono ?_); rintro e w2 ⟨rfl, rfl⟩))
    have HT := Lib.hid (HT0.out.next hb1)
    clear HLg HA HT0
    go_loopw [25] (fun i wr => ∃ k : Nat, i = .int .i64 (k : Int) ∧ k ≤ ss.length ∧ OneTo ss k ∧ Below w1.heap.size w1 wr) (fun i _ => 101 - (intOf i).toNat)
    case atStart => exact ⟨0, rfl, Nat.zero_le _, fun j hj => absurd hj (by omega), Below.refl _ _⟩
    case round =>
      obtain ⟨k, rfl, hk, hone, hbel⟩ := hrel
      have HOne := Lib.hid hone
      clear hone
      by_cases hlt : k < ss.length
      · have hli : (k : Int) < (len : Int) := by omega
        have hk0 : (0 : Int) ≤ (k : Int) := by omega
        obtain ⟨x, rfl, c1, _⟩ := (HT.out.next hbel).at (i := k) (by omega)
        have hx := sizeB_at hlt
        have HSt := Lib.hid (fun h => HOne.out.step h)
        generalize ss.getD k ByteArray.empty = X at *
        have HSp := Lib.hid (fun w => C.split (X ++ crlf) (by rw [crlf_size]; omega) w)
        have hcat := cat_run X crlf (by rw [← ByteArray.size_append, crlf_size]; omega)
        rw [crlf_list] at HSp
        have HO := Lib.hid (fun h1 h2 => OneL.of_lines (x := X.data.toList) (L := (linesL (X.data.toList ++ [13, 10])).1) (r := (linesL (X.data.toList ++ [13, 10])).2) rfl h1 h2)
        generalize linesL (X.data.toList ++ [13, 10]) = LL at *
        rw [show crlf = ⟨#[13, 10]⟩ from rfl] at hcat HSp
        generalize X ++ (⟨#[13, 10]⟩ : ByteArray) = T at *
        have HC1 := Lib.hid c1
        clear hx
        by_cases hn : LL.1.length = 1
        · obtain ⟨y, hy⟩ : ∃ y, LL.1 = [y] := by
            cases hL : LL.1 with
            | nil => rw [hL] at hn; cases hn
            | cons y L => rw [hL] at hn; exact ⟨y, by cases L with | nil => rfl | cons z L => simp at hn⟩
          have hyl : LL.1[0]? = some y := by rw [hy]; rfl
          have HO2 := Lib.hid (HO.out hn)
          rw [hyl] at HO2
          rw [hy] at HSp
          by_cases he : y = X.data.toList
          · have HS2 := Lib.hid (HSt.out (HO2.out (by rw [he])))
            have hyX : ba y = X := by rw [he, ba_of]
            have HSq := Lib.hid (fun w => (HSp.out w).mono (R' := fun e w' => ∃ (x5 : Addr) (c5 : Nat) (R : ByteArray), e = .returned (.tuple #[.slice (some x5) 1 c5, .string R]) ∧ w'.cell? x5 = some (.string X) ∧ Below w.heap.size w w') fun e w' ⟨a5, n5, c5, h1, h2, h3⟩ => by
              have hl5 := h2.len.1
              rw [bas_len] at hl5
              obtain rfl : n5 = 1 := hl5.symm
              obtain ⟨x5, rfl, cx, _⟩ := h2.at (i := 0) (by omega)
              rw [addr_zero, show (bas [y]).getD 0 ByteArray.empty = ba y from rfl, hyX] at cx
              exact ⟨x5, c5, _, h1, cx, h3⟩)
            clear hn hyl he hyX hy HSp HO HO2
            go_wp2_with (first
              | (go_at_call 11; (with_reducible refine (HSq.out _).mono ?_); rintro e w5 ⟨x5, c5, R, rfl, cx, hb5⟩; have c15 : w5.cell? (x.add k) = some (.string X) := (hb5.cell (World.block_lt_of_cell? _ _ HC1.out)).trans HC1.out))
            go_quiet (fail)
            go_wp2
            go_roundw
            case rel => exact ⟨k + 1, by go_num, by omega, HS2.out, Below_drewN (Below_next hbel hb5) _⟩
            case measure => simp only [intOf]; omega
          · have q : ((ba y).toList == X.toList) = false := by rw [tl8]; exact decide_eq_false fun e => he (by rw [← e, ba_list])
            have HSq := Lib.hid (fun w => (HSp.out w).mono (R' := fun e w' => ∃ (x5 : Addr) (c5 : Nat) (R : ByteArray), e = .returned (.tuple #[.slice (some x5) 1 c5, .string R]) ∧ w'.cell? x5 = some (.string (ba y)) ∧ Below w.heap.size w w') fun e w' ⟨a5, n5, c5, h1, h2, h3⟩ => by
              have hl5 := h2.len.1
              rw [bas_len] at hl5
              obtain rfl : n5 = 1 := hl5.symm
              obtain ⟨x5, rfl, cx, _⟩ := h2.at (i := 0) (by omega)
              rw [addr_zero, show (bas [y]).getD 0 ByteArray.empty = ba y from rfl] at cx
              exact ⟨x5, c5, _, h1, cx, h3⟩)
            generalize ba y = Y at *
            clear hn hyl he hy HSp HO HO2 HSt
            go_wp2_with (first
              | (go_at_call 11; (with_reducible refine (HSq.out _).mono ?_); rintro e w5 ⟨x5, c5, R, rfl, cx, hb5⟩; have c15 : w5.cell? (x.add k) = some (.string X) := (hb5.cell (World.block_lt_of_cell? _ _ HC1.out)).trans HC1.out))
            go_quiet (fail)
            go_wp2
            go_ret
            exact ⟨rfl, Below_next hb1 (Below_drewN (Below_next hbel hb5) _)⟩
        · have HSq := Lib.hid (fun w => (HSp.out w).mono (R' := fun e w' => ∃ (a5 : Option Addr) (n5 c5 : Nat) (R : ByteArray), e = .returned (.tuple #[.slice a5 n5 c5, .string R]) ∧ ((n5 : Int) != 1) = true ∧ Below w.heap.size w w') fun e w' ⟨a5, n5, c5, h1, h2, h3⟩ => by
            have hl5 := h2.len.1
            rw [bas_len] at hl5
            exact ⟨a5, n5, c5, _, h1, bne_iff_ne.2 (by omega), h3⟩)
          clear hn HSp HO HSt
          go_wp2_with (first
            | (go_at_call 11; (with_reducible refine (HSq.out _).mono ?_); rintro e w5 ⟨a5, n5, c5, R, rfl, hq5, hb5⟩))
          go_quiet (fail)
          go_wp2
          go_ret
          exact ⟨rfl, Below_next hb1 (Below_drewN (Below_next hbel hb5) _)⟩
      · have hli : ¬ (k : Int) < (len : Int) := by omega
        obtain rfl : k = ss.length := by omega
        have hall := HOne.out.all
        have hst := stuffL_len ss
        have hun := unstuff_stuff hall behind.data.toList
        have hea := early hall
        have HF := Lib.hid (fun w h => C.stuff a len cap ss (by omega) (by omega) w h)
        obtain ⟨F, hF⟩ : ∃ F, F = ba (stuffL (lsB ss)) := ⟨_, rfl⟩
        have hFl : F.data.toList = stuffL (lsB ss) := by rw [hF, ba_list]
        have hFs : F.size = (stuffL (lsB ss)).length := by rw [hF, ba_size]
        rw [← hF] at HF
        have HU1 := Lib.hid (fun w => C.unstuffed (F ++ behind) (by rw [ByteArray.size_append]; omega) w)
        rw [show (F ++ behind).data.toList = stuffL (lsB ss) ++ behind.data.toList by rw [← hFl]; simp, hun] at HU1
        have HU1' := Lib.hid (fun w => show Calls Try.prog 13 #[.string (F ++ behind)] w fun e w' => ∃ a len cap, e = .returned (.tuple #[.slice a len cap, .string (ba behind.data.toList), .bool true]) ∧ IsTexts w' a len cap (bas (lsB ss)) ∧ Below w.heap.size w w' from HU1.out w)
        rw [bas_lsB, ba_of] at HU1'
        have HU2 := Lib.hid (fun w => C.unstuffed (F.extract 0 (F.size - 1)) (by rw [ext_size _ _ _ (by omega)]; omega) w)
        rw [cut_last, hFl, hea] at HU2
        have hcat := cat_run F behind (by omega)
        have hsl := slice_to F (F.size - 1) (by omega)
        rw [show ((F.size - 1 : Nat) : Int) = (F.size : Int) - 1 by omega] at hsl
        have hw : wrap64 ((F.size : Int) - 1) = (F.size : Int) - 1 := by unfold wrap64; omega
        have hF1 : (1 : Int) ≤ (F.size : Int) := by omega
        have hF2 : (F.size : Int) ≤ 5000 := by omega
        have hss : ss.length ≤ 1048576 := by omega
        generalize F ++ behind = FB at *
        generalize F.extract 0 (F.size - 1) = FC at *
        generalize unstuffL (stuffL (lsB ss)).dropLast = UE at *
        clear hall hst hun hea hF hFl hFs HU1
        go_wp2_with (first
          | (go_at_call 20; (with_reducible refine (HF.out _ (HT.out.next hbel)).mono ?_); rintro e w3 ⟨rfl, hb3⟩)
          | (go_at_call 13; (with_reducible refine (HU1'.out _).mono ?_); rintro e w4 ⟨a4, n4, c4, rfl, ht4, hb4⟩; have hT4 := HT.out.next (Below_next (Below_next hbel hb3) hb4); have hs1 := rsame8_any (by have := ht4.len.1; omega) _ ht4 hT4; rw [decide_eq_true rfl] at hs1; clear ht4)
          | (go_at_call 17; (with_reducible refine hs1.mono ?_); rintro e w5 ⟨rfl, hb5⟩; have hT5 := hT4.next hb5)
          | (go_at_call 20; (with_reducible refine (HF.out _ hT5).mono ?_); rintro e w6 ⟨rfl, hb6⟩; have hT6 := hT5.next hb6)
          | (go_at_call 20; (with_reducible refine (HF.out _ hT6).mono ?_); rintro e w7 ⟨rfl, hb7⟩)
          | (go_at_call 13; (with_reducible refine (HU2.out _).mono ?_); rintro e w8 ⟨a8, n8, c8, rfl, ht8, hb8⟩; clear ht8))
        go_ret
        exact ⟨rfl, Below_next hb1 (Below_next (Below_next (Below_next (Below_next (Below_next (Below_next hbel hb3) hb4) hb5) hb6) hb7) hb8)⟩
  · have hi : (4096 : Int) < (behind.size : Int) := by omega
    clear hl hlg h1 hlen
    go_enter Try.func7, Try.ntmps7
    go_wp2_with (first
      | (go_at_call 9; (with_reducible refine HA.out.mono ?_); rintro e w1 ⟨rfl, hb1⟩)
      | (go_at_call 10; (with_reducible refine (HLg.out _ (HT0.out.next hb1)).mono ?_); rintro e w2 ⟨rfl, rfl⟩))
    go_ret
    exact ⟨rfl, hb1⟩
end
end Go.Proofs.Ytmpchbhimfjomaa
