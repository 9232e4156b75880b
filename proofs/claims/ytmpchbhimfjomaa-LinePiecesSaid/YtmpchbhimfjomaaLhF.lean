/- line, the landed code : Join, Stuff. -/
import Derived.Test.YtmpchbhimfjomaaLhD
namespace Go.Proofs.Ytmpchbhimfjomaa
open Go.RowKit

theorem joinL_step {ss : List ByteArray} {k : Nat} (hk : k < ss.length) : joinL (lsB (ss.take (k + 1))) = joinL (lsB (ss.take k)) ++ (ss.getD k ByteArray.empty).data.toList ++ [13, 10] := by
  rw [lsB_take hk, joinL_append]
  simp [joinL]
def dotsL (ss : List ByteArray) : List UInt8 := joinL ((lsB ss).map dotL)
theorem dotsL_step {ss : List ByteArray} {k : Nat} (hk : k < ss.length) : dotsL (ss.take (k + 1)) = dotsL (ss.take k) ++ dotL (ss.getD k ByteArray.empty).data.toList ++ [13, 10] := by
  rw [dotsL, dotsL, lsB_take hk, List.map_append, joinL_append]
  simp [joinL]
theorem dotsL_len (ss : List ByteArray) : (dotsL ss).length ≤ sizeB ss + 3 * ss.length := by
  have h : dotsL ss = joinL (lsB (dotsB ss)) := by rw [dotsL]; congr 1; simp [lsB, dotsB, dotB, ba_list]
  rw [h, joinL_len, lsB_size, lsB_len, dotsB_len]
  have := dotsB_size ss
  omega
theorem stuffL_dots (ss : List ByteArray) : stuffL (lsB ss) = dotsL ss ++ [46, 13, 10] := by
  rw [stuffL, joinL_append, dotsL]; rfl
theorem has_dot (x : List UInt8) : Lib.hasPrefix x [46] = decide (x[0]? = some 46) := by
  cases x with
  | nil => rfl
  | cons b l =>
    by_cases hb : b = 46
    · subst hb; simp [Lib.hasPrefix, List.isPrefixOf]
    · simp [Lib.hasPrefix, List.isPrefixOf, hb, Ne.symm hb]

set_option maxHeartbeats 1000000 in
set_option maxRecDepth 100000 in
theorem ljoin_any (a : Option Addr) (len cap : Nat) (ss : List ByteArray) (hsz : sizeB ss ≤ 1048576) (hn : ss.length ≤ 1048576) (w : World) (h : IsTexts w a len cap ss) :
    Calls Try.prog 18 #[.slice a len cap] w fun e w' => e = .returned (.string (ba (joinL (lsB ss)))) ∧ Below w.heap.size w w' := by
  have H1 := Lib.hid h
  have hlen := h.len.1
  have hB0 := Lib.hid (Bld.new w w.heap.size (Nat.le_refl _))
  have hb0 := Lib.hid ((Below.refl w.heap.size w).alloc (Nat.le_refl _) (.cells #[.pointer none, .slice none 0 0] 58))
  clear h
  go_enter Try.func18, Try.ntmps18
  go_wp2
  go_loopw [8] (fun i wr => ∃ k : Nat, i = .int .i64 (k : Int) ∧ k ≤ ss.length ∧ Bld wr w.heap.size w.heap.size (joinL (lsB (ss.take k))) ∧ Below w.heap.size w wr) (fun i _ => 1048577 - (intOf i).toNat)
  case atStart => exact ⟨0, rfl, Nat.zero_le _, hB0.out, hb0.out⟩
  case round =>
    clear hB0 hb0
    obtain ⟨k, rfl, hk, hbl, hbel⟩ := hrel
    by_cases hlt : k < ss.length
    · have hli : (k : Int) < (len : Int) := by omega
      have hk0 : (0 : Int) ≤ (k : Int) := by omega
      obtain ⟨x, rfl, c1, _⟩ := (H1.out.next hbel).at (i := k) (by omega)
      have hj := joinL_step hlt
      have hj2 := congrArg List.length hj
      rw [joinL_len, lsB_size, lsB_len, List.length_take] at hj2
      have hs2 := sizeB_take_le ss (k + 1)
      generalize ss.getD k ByteArray.empty = X at *
      have hXl : X.data.toList.length = X.size := by simp
      simp only [List.length_append, List.length_cons, List.length_nil] at hj2
      have HJ := Lib.hid hj
      have hW1 := Lib.hid (writeString_any w.heap.size w.heap.size _ X wr hbl (by omega) hbel.size)
      have hl3 : (joinL (lsB (ss.take k)) ++ X.data.toList).length + 2 ≤ 140737488355328 := by rw [List.length_append]; omega
      have HL3 := Lib.hid hl3
      clear hbl hj hj2 hXl hl3
      go_wp2_with (first
        | (go_at_call 30; (with_reducible refine hW1.out.mono ?_); rintro e w1 ⟨rfl, hbl1, hb1⟩; have hbel1 := hbel.trans hb1; have hW2 := writeString_any w.heap.size w.heap.size _ ⟨#[13, 10]⟩ w1 hbl1 HL3.out hbel1.size; clear hbl1)
        | (go_at_call 30; (with_reducible refine hW2.mono ?_); rintro e w2 ⟨rfl, hbl2, hb2⟩))
      go_roundw
      case rel => exact ⟨k + 1, by go_num, by omega, by rw [HJ.out]; exact hbl2, hbel1.trans hb2⟩
      case measure => simp only [intOf]; omega
    · have hli : ¬ (k : Int) < (len : Int) := by omega
      rw [List.take_of_length_le (by omega)] at hbl
      have hW := Lib.hid (bldString_any w.heap.size w.heap.size _ wr hbl hbel.size)
      clear hbl
      go_wp2_with (first
        | (go_at_call 31; (with_reducible refine hW.out.mono ?_); rintro e w1 ⟨rfl, hb1⟩))
      go_ret
      exact ⟨rfl, hbel.trans hb1⟩


/-- 'make([]string, 0, n)': a row of the call's own. -/
theorem make_strs (n : Nat) (hn : n ≤ 1048577) (w : World) : ∃ cur, (Instr.makeSlice 22 (.int .i64 0) (.int .i64 (n : Int))).run Try.prog w = .ok (.slice (some ⟨w.heap.size, 0, none⟩) 0 n) (w.alloc (.cells cur 9)) ∧
    OwS (w.alloc (.cells cur 9)) w.heap.size (.slice (some ⟨w.heap.size, 0, none⟩) 0 n) [] := by
  obtain ⟨i0, hi, hz0, hz1, hz2⟩ := info_parts Try.infoStr
  have h := run_make (P := Try.prog) w 22 9 i0 (.string ⟨#[]⟩) Try.underlying22 hi hz0 .i64 .i64 0 (n : Int) (Int.le_refl _) (by omega) (by rw [hz2]; omega) (by omega)
  have hs := size_madeCells (Value.cells (.string ⟨#[]⟩)) (n * i0.size)
  rw [Int.toNat_natCast] at h
  generalize madeCells (Value.cells (.string ⟨#[]⟩)) (n * i0.size) = cur at *
  refine ⟨cur, h, rfl, .inr ⟨w.heap.size, n, cur, rfl, Nat.le_refl _, Arr.new w _ _, Nat.zero_le _, by unfold maxLen; omega, by rw [hs, hz1], by simp [strV]⟩⟩

set_option maxHeartbeats 1000000 in
set_option maxRecDepth 100000 in
theorem lstuff_any (a : Option Addr) (len cap : Nat) (ss : List ByteArray) (hsz : sizeB ss ≤ 400000) (hn : ss.length ≤ 400000) (w : World) (h : IsTexts w a len cap ss) :
    Calls Try.prog 20 #[.slice a len cap] w fun e w' => e = .returned (.string (ba (stuffL (lsB ss)))) ∧ Below w.heap.size w w' := by
  have H1 := Lib.hid h
  have hlen := h.len.1
  have HJ := Lib.hid (fun a len cap w h => ljoin_any a len cap (dotsB ss ++ [⟨#[46]⟩]) (by rw [sizeB_snoc]; have := dotsB_size ss; have e2 : (⟨#[46]⟩ : ByteArray).size = 1 := rfl; omega) (by rw [List.length_append, dotsB_len]; show _ + 1 ≤ _; omega) w h)
  rw [stuff_eq] at HJ
  have HM := Lib.hid (show ∀ s ∈ dotsB ss ++ [⟨#[46]⟩], s.size ≤ 140737488355328 from fun s hs => by
    rcases List.mem_append.1 hs with hs | hs
    · exact Nat.le_trans (dotsB_mem hsz s hs) (by decide)
    · rw [List.mem_singleton.1 hs]; decide)
  obtain ⟨cur, hmk, hO0⟩ := make_strs (len + 1) (by omega) w
  rw [show ((len + 1 : Nat) : Int) = (len : Int) + 1 by omega] at hmk
  have HO0 := Lib.hid hO0
  have hb0 := Lib.hid ((Below.refl w.heap.size w).alloc (Nat.le_refl _) (.cells cur 9))
  clear h hO0
  go_enter Try.func20, Try.ntmps20
  go_wp2
  go_loopw [3, 12] (fun o i wr => ∃ k : Nat, i = .int .i64 (k : Int) ∧ k ≤ ss.length ∧ OwS wr w.heap.size o (dotsB (ss.take k)) ∧ Below w.heap.size w wr) (fun _ i _ => 1048577 - (intOf i).toNat)
  case atStart => exact ⟨0, rfl, Nat.zero_le _, HO0.out, hb0.out⟩
  case round =>
    clear HO0 hb0 hmk
    obtain ⟨k, rfl, hk, hown, hbel⟩ := hrel
    have HOw := Lib.hid hown
    by_cases hlt : k < ss.length
    · have hli : (k : Int) < (len : Int) := by omega
      have hk0 : (0 : Int) ≤ (k : Int) := by omega
      obtain ⟨x, rfl, c1, _⟩ := (H1.out.next hbel).at (i := k) (by omega)
      have hx := sizeB_at hlt
      have hD := dotsB_take hlt
      have hdlen : (dotsB (ss.take k)).length ≤ 400000 := by rw [dotsB_len, List.length_take]; omega
      have HL := Lib.hid hdlen
      clear hdlen hown
      generalize ss.getD k ByteArray.empty = X at *
      have HP := Lib.hid (fun w => Try.strings_HasPrefix X ⟨#[46]⟩ w)
      rw [show (⟨#[46]⟩ : ByteArray).data.toList = [46] from rfl, has_dot] at HP
      by_cases h46 : X.data.toList[0]? = some 46
      · rw [decide_eq_true h46] at HP
        obtain ⟨h0x, hx0⟩ := byte0.1 h46
        rw [dotB_yes h0x hx0] at hD
        have s1 := cat_run ⟨#[46]⟩ X (by have e2 : (⟨#[46]⟩ : ByteArray).size = 1 := rfl; omega)
        have HD := Lib.hid hD
        generalize (⟨#[46]⟩ ++ X : ByteArray) = Y at *
        clear hD h46 hx0
        go_wp2_with (first
          | (go_at_call 32; (with_reducible refine (HP.out _).mono ?_); rintro e w0 ⟨rfl, rfl⟩)
          | (at_builtin; refine wpList_pushs _ HOw.out rfl _ _ rfl rfl rfl Y (by have := HL.out; omega) hbel.size ?_; intro v' w5 h5 hb5; rw [← HD.out] at h5))
        go_roundw
        case rel => exact ⟨k + 1, by go_num, by omega, h5, hbel.trans hb5⟩
        case measure => simp only [intOf]; omega
      · rw [decide_eq_false h46] at HP
        rw [dotB_no (fun h => h46 (byte0.2 h))] at hD
        have HD := Lib.hid hD
        clear hD h46
        go_wp2_with (first
          | (go_at_call 32; (with_reducible refine (HP.out _).mono ?_); rintro e w0 ⟨rfl, rfl⟩)
          | (at_builtin; refine wpList_pushs _ HOw.out rfl _ _ rfl rfl rfl X (by have := HL.out; omega) hbel.size ?_; intro v' w5 h5 hb5; rw [← HD.out] at h5))
        go_roundw
        case rel => exact ⟨k + 1, by go_num, by omega, h5, hbel.trans hb5⟩
        case measure => simp only [intOf]; omega
    · have hli : ¬ (k : Int) < (len : Int) := by omega
      have HO2 := Lib.hid (show OwS wr w.heap.size _ (dotsB ss) from by have := HOw.out; rwa [List.take_of_length_le (by omega)] at this)
      clear HOw hown
      go_wp2_with (first
        | (at_builtin; refine wpList_pushs wr HO2.out rfl _ _ rfl rfl rfl ⟨#[46]⟩ (by rw [dotsB_len]; omega) hbel.size ?_; intro v' w5 h5 hb5; obtain ⟨a5, n5, cap5, rfl, ht5⟩ := OwS.some h5 HM.out)
        | (go_at_call 18; (with_reducible refine (HJ.out _ _ _ _ ht5).mono ?_); rintro e w6 ⟨rfl, hb6⟩))
      go_ret
      exact ⟨rfl, Below_next (hbel.trans hb5) hb6⟩
end Go.Proofs.Ytmpchbhimfjomaa
