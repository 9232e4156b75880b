/- The document's own layer 8: Same, Split. -/
import Derived.Test.YtmpchbhimfjomaaR8A
import Derived.Deep.RegionHeld3
namespace Go.Proofs.Ytmpchbhimfjomaa
open Go.RowKit

set_option maxHeartbeats 1000000 in
theorem rsame8_any {a b : Option Addr} {len cap len2 cap2 : Nat} {ss tt : List ByteArray} (hl : len ≤ 1048576) (w : World) (h1 : IsTexts w a len cap ss) (h2 : IsTexts w b len2 cap2 tt) :
    Calls Try.prog 17 #[.slice a len cap, .slice b len2 cap2] w fun e w' => e = .returned (.bool (decide (ss = tt))) ∧ Below w.heap.size w w' := by
  obtain ⟨e1, hc1, hm1⟩ := h1.len
  obtain ⟨e2, hc2, hm2⟩ := h2.len
  have H1 := Lib.hid h1
  have H2 := Lib.hid h2
  by_cases hne : len = len2
  · subst hne
    clear hm1 hm2 h1 h2
    go_enter Try.func17, Try.ntmps17
    go_wp2
    go_loopw [5] (fun i wr => ∃ k : Nat, i = .int .i64 (k : Int) ∧ k ≤ len ∧ (∀ j, j < k → ss.getD j ByteArray.empty = tt.getD j ByteArray.empty) ∧ Below w.heap.size w wr) (fun i _ => 1048577 - (intOf i).toNat)
    case atStart => exact ⟨0, rfl, Nat.zero_le _, fun j hj => absurd hj (by omega), Below.refl _ _⟩
    case round =>
      obtain ⟨k, rfl, hk, hno, hbel⟩ := hrel
      have HNO := Lib.hid hno
      clear hno
      by_cases hlt : k < len
      · have hli : (k : Int) < (len : Int) := by omega
        have hk0 : (0 : Int) ≤ (k : Int) := by omega
        obtain ⟨x, rfl, c1, _⟩ := (H1.out.next hbel).at hlt
        obtain ⟨y, rfl, c2, _⟩ := (H2.out.next hbel).at hlt
        by_cases e : ss.getD k ByteArray.empty = tt.getD k ByteArray.empty
        · have q : ((ss.getD k ByteArray.empty).toList == (tt.getD k ByteArray.empty).toList) = true := by rw [tl8]; exact decide_eq_true e
          have HN2 := Lib.hid (show ∀ j, j < k + 1 → ss.getD j ByteArray.empty = tt.getD j ByteArray.empty from fun j hj => by
            by_cases hjk : j = k
            · subst hjk; exact e
            · exact HNO.out j (by omega))
          clear e HNO
          generalize ss.getD k ByteArray.empty = X at *
          generalize tt.getD k ByteArray.empty = Y at *
          go_wp2
          go_quiet (fail)
          go_wp2
          go_roundw
          case rel => exact ⟨k + 1, by go_num, by omega, HN2.out, Below_drewN hbel _⟩
          case measure => simp only [intOf]; omega
        · have q : ((ss.getD k ByteArray.empty).toList == (tt.getD k ByteArray.empty).toList) = false := by rw [tl8]; exact decide_eq_false e
          have HX := Lib.hid (show decide (ss = tt) = false from decide_eq_false (fun h => e (by rw [h])))
          clear e HNO
          generalize ss.getD k ByteArray.empty = X at *
          generalize tt.getD k ByteArray.empty = Y at *
          go_wp2
          go_quiet (fail)
          go_wp2
          go_ret
          exact ⟨by rw [HX.out]; rfl, Below_drewN hbel _⟩
      · have hli : ¬ (k : Int) < (len : Int) := by omega
        have HX := Lib.hid (show decide (ss = tt) = true from decide_eq_true (getD_ext (by rw [e1, e2]) fun i hi => HNO.out i (by omega)))
        clear HNO
        go_wp2
        go_ret
        exact ⟨by rw [HX.out]; rfl, hbel⟩
  · have hni : ¬ (len : Int) = (len2 : Int) := by omega
    rw [decide_eq_false (fun h => hne (by rw [← e1, ← e2, h]))]
    clear hm1 hm2 h1 h2
    go_enter Try.func17, Try.ntmps17
    go_wp2
    go_ret
    exact ⟨rfl, Below.refl _ _⟩

set_option maxHeartbeats 1000000 in
theorem rsplit8_any (s : ByteArray) (hs : s.size ≤ 1048576) (w : World) :
    Calls Try.prog 12 #[.string s] w fun e w' => ∃ (a : Option Addr) (len cap : Nat), e = .returned (.tuple #[.slice a len cap, .string (ba (linesL s.data.toList).2)]) ∧ IsTexts w' a len cap (bas (linesL s.data.toList).1) ∧ Below w.heap.size w w' ∧ ∀ x, a = some x → w.heap.size ≤ x.block := by
  have HE := Lib.hid (fun (i : Nat) (hi : i ≤ s.size) w => rends_any s (by omega) i hi w)
  have HX := Lib.hid (fun a b => ext_ba s a b)
  have HY := Lib.hid (fun a => ext_all s a)
  have hlen : s.data.toList.length = s.size := by simp
  have hS0 := Lib.hid (show linesL s.data.toList = ([] ++ (linesL (s.data.toList.drop 0)).1, (linesL (s.data.toList.drop 0)).2) by rw [List.drop_zero]; rfl)
  generalize s.data.toList = l at *
  have h0 := (Below.refl w.heap.size w).alloc (Nat.le_refl _) (.cells #[] 9)
  go_enter Try.func12, Try.ntmps12
  go_wp2
  go_loopw [4, 5, 6] (fun o f i wr => ∃ (k fr : Nat) (L : List (List UInt8)), i = .int .i64 (k : Int) ∧ f = .int .i64 (fr : Int) ∧ k ≤ s.size ∧ fr ≤ s.size ∧ fr ≤ k + 1 ∧ L.length ≤ k ∧ (∀ x ∈ L, x.length ≤ 1048576) ∧ OwS wr w.heap.size o (bas L) ∧ Below w.heap.size w wr ∧
    linesL l = (L ++ (linesL (l.drop fr)).1, (linesL (l.drop fr)).2) ∧ (∀ j, fr ≤ j → j < k → ¬ endAt l j)) (fun _ _ i _ => 1048577 - (intOf i).toNat)
  case atStart => exact ⟨0, 0, [], rfl, rfl, by omega, by omega, by omega, Nat.le_refl _, fun _ h => (by cases h), OwS.start w _ (Nat.le_refl _), h0, hS0.out, fun j hj h => absurd h (by omega)⟩
  case round =>
    obtain ⟨k, fr, L, rfl, rfl, hk, hfr, hfk, hLk, hLs, hown, hbel, hln, hno⟩ := hrel
    have HLn := Lib.hid hln
    have HNo := Lib.hid hno
    have HOw := Lib.hid hown
    have HLs := Lib.hid hLs
    have hk0 : (0 : Int) ≤ (k : Int) := by omega
    have hf0 : (0 : Int) ≤ (fr : Int) := by omega
    clear hln hno hLs
    by_cases hlt : k < s.size
    · have hli : (k : Int) < (s.size : Int) := by omega
      by_cases hfle : fr ≤ k
      · have hfi : (fr : Int) ≤ (k : Int) := by omega
        by_cases he : endAt l k
        · have hlt2 := endAt_lt he
          have hsl := slice_str s (fr : Int) (k : Int) fr k rfl rfl hfle (by omega)
          have hE := HE.out k (by omega)
          rw [decide_eq_true he] at hE
          have HC := Lib.hid hE
          have HR := Lib.hid (show linesL l = ((L ++ [(l.drop fr).take (k - fr)]) ++ (linesL (l.drop (k + 2))).1, (linesL (l.drop (k + 2))).2) by rw [HLn.out, split_step hfle he HNo.out]; simp)
          have HM := Lib.hid (show ∀ x ∈ L ++ [(l.drop fr).take (k - fr)], x.length ≤ 1048576 from fun x hx => by
            rcases List.mem_append.1 hx with hx | hx
            · exact HLs.out x hx
            · rw [List.mem_singleton.1 hx, List.length_take]; omega)
          have hx := HX.out fr k
          have HB := Lib.hid (bas_snoc L ((l.drop fr).take (k - fr)))
          generalize (l.drop fr).take (k - fr) = X at *
          rw [hx] at hsl
          clear hE he hx
          go_wp2_with (first
            | (go_at_call 28; (with_reducible refine (HC.out _).mono ?_); rintro e w1 ⟨rfl, rfl⟩)
            | (at_builtin; refine wpList_pushs wr HOw.out rfl _ _ rfl rfl rfl (ba X) (by rw [bas_len]; omega) hbel.size ?_; intro v' w5 h5 hb5; rw [← HB.out] at h5))
          go_roundw
          case rel => exact ⟨k + 1, k + 2, L ++ [X], by go_num, by go_num, by omega, by omega, by omega, by rw [List.length_append]; show _ + 1 ≤ _; omega, HM.out, h5, hbel.trans hb5, HR.out, fun j hj h => absurd h (by omega)⟩
          case measure => simp only [intOf]; omega
        · have hE := HE.out k (by omega)
          rw [decide_eq_false he] at hE
          have HC := Lib.hid hE
          have HN2 := Lib.hid (show ∀ j, fr ≤ j → j < k + 1 → ¬ endAt l j from fun j h1 h2 => by
            by_cases hjk : j = k
            · subst hjk; exact he
            · exact HNo.out j h1 (by omega))
          clear hE he HNo
          go_wp2_with (first
            | (go_at_call 28; (with_reducible refine (HC.out _).mono ?_); rintro e w1 ⟨rfl, rfl⟩))
          go_roundw
          case rel => exact ⟨k + 1, fr, L, by go_num, rfl, by omega, hfr, by omega, by omega, HLs.out, HOw.out, hbel, HLn.out, HN2.out⟩
          case measure => simp only [intOf]; omega
      · have hfi : ¬ (fr : Int) ≤ (k : Int) := by omega
        have HN2 := Lib.hid (show ∀ j, fr ≤ j → j < k + 1 → ¬ endAt l j from fun j h1 h2 => absurd h2 (by omega))
        clear HNo
        go_wp2
        go_roundw
        case rel => exact ⟨k + 1, fr, L, by go_num, rfl, by omega, hfr, by omega, by omega, HLs.out, HOw.out, hbel, HLn.out, HN2.out⟩
        case measure => simp only [intOf]; omega
    · have hli : ¬ (k : Int) < (s.size : Int) := by omega
      have hsl := slice_from s fr hfr
      rw [HY.out fr] at hsl
      have hse := split_end (l := l) (f := fr) (fun j h1 h2 => HNo.out j h1 (by omega))
      have HF := Lib.hid HLn.out
      rw [hse, List.append_nil] at HF
      obtain ⟨a, cap, rfl, htx⟩ := HOw.out.texts (mem_bas (by decide) HLs.out)
      have HT := Lib.hid htx
      clear htx hse HLn
      go_wp2
      go_region_held3 (fun _ => True) (first | exact trivial) (fail)
      all_goals
        go_wp2
        go_ret2
        exact ⟨_, _, _, by rw [HF.out]; rfl, by rw [HF.out]; exact HT.out, hbel.drew, HOw.out.fresh⟩
end Go.Proofs.Ytmpchbhimfjomaa
