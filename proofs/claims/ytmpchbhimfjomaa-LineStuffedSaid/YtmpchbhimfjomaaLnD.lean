/- LineDots: its walk over the record. -/
import Derived.Test.YtmpchbhimfjomaaLnL
import Derived.OwnWalk
namespace Go.Proofs.Ytmpchbhimfjomaa
open Go.RowKit

def tailB : ByteArray := ⟨#[13, 10, 46, 13, 10]⟩
theorem stuff_one (s : ByteArray) : ba (stuffL (lsB [s])) = dotB s ++ tailB := by
  rw [show lsB [s] = [s.data.toList] from rfl]
  apply ByteArray.ext
  apply Array.toList_inj.1
  simp [stuffL, joinL, dotB, ba, tailB]
theorem tailB_size : tailB.size = 5 := rfl
theorem undotL_dotB (s : ByteArray) : undotL (dotB s).data.toList = (s.data.toList, false) := by rw [dotB, ba_list, undot_dot]
theorem one_texts (w : World) (s : ByteArray) (hs : s.size ≤ 140737488355328) : IsTexts (w.alloc (.cells #[.string s] 9)) (some ⟨w.heap.size, 0, none⟩) 1 1 [s] := by
  refine .inr ⟨_, rfl, Nat.le_refl _, by decide, rfl, fun i hi => ?_, fun x hx => by rw [List.mem_singleton.1 hx]; exact hs⟩
  obtain rfl : i = 0 := by omega
  exact (Arr.new w #[.string s] 9).cell rfl

section
variable {Rd : World → (Nat → Prop) → Value → Nat → List UInt8 → Prop}

set_option maxHeartbeats 2000000 in
set_option maxRecDepth 100000 in
theorem dots_dot (C : LineC Rd) (s : ByteArray) (W : World) (h1 : s.size ≤ 4096) (hd : s = ⟨#[46]⟩) :
    Calls Try.prog 8 #[.string s] W fun e w' => e = .returned (.bool true) ∧ Below W.heap.size W w' := by
  have HA := Lib.hid (C.awake W)
  have hi : ¬ (4096 : Int) < (s.size : Int) := by omega
  have HV1 := Lib.hid (fun w => C.unstuff s (by omega) w)
  rw [show undotL s.data.toList = ([], true) by rw [hd]; rfl] at HV1
  have q : (s.toList == [46]) = true := by rw [dot_eq]; exact decide_eq_true hd
  have q0 : (ba []).toList.isEmpty = true := by rw [show (ba []).toList = [] from ByteArray.toList_mk []]; rfl
  clear hd h1
  go_enter Try.func8, Try.ntmps8
  go_wp2_with (first
    | (go_at_call 9; (with_reducible refine HA.out.mono ?_); rintro e w1 ⟨rfl, hb1⟩)
    | (go_at_call 15; (with_reducible refine (HV1.out _).mono ?_); rintro e w2 ⟨rfl, hb2⟩))
  go_ret
  exact ⟨rfl, Below_next hb1 hb2⟩

set_option maxHeartbeats 2000000 in
set_option maxRecDepth 100000 in
theorem dots_one (C : LineC Rd) (s : ByteArray) (W : World) (h1 : s.size ≤ 4096) (hd : ¬ s = ⟨#[46]⟩) (h0 : 0 < s.size) (h46 : s[0] = 46) :
    Calls Try.prog 8 #[.string s] W fun e w' => e = .returned (.bool true) ∧ Below W.heap.size W w' := by
  have HA := Lib.hid (C.awake W)
  have hi : ¬ (4096 : Int) < (s.size : Int) := by omega
  have HV1 := Lib.hid (fun w => C.unstuff s (by omega) w)
  have hd2 : ¬ s.data.toList = [46] := fun h => hd (dot_is.2 h)
  rw [show undotL s.data.toList = (s.data.toList.drop 1, false) by rw [undotL, if_neg hd2, if_pos (byte0.2 ⟨h0, h46⟩)]] at HV1
  rw [← ext_all s 1] at HV1
  have b1 : ((s[0].toNat : Int) == 46) = true := by rw [h46]; rfl
  have hi0 : (0 : Int) < (s.size : Int) := by omega
  have hx := ext_all s 1
  have hxs : (s.extract 1 s.size).size = s.size - 1 := ext_size _ _ _ (Nat.le_refl _)
  have hxe : (⟨#[46]⟩ : ByteArray) ++ s.extract 1 s.size = s := by
    have hh : s.data.toList = 46 :: s.data.toList.drop 1 := by
      have := byte0.2 ⟨h0, h46⟩
      cases hl : s.data.toList with
      | nil => rw [hl] at this; cases this
      | cons a l => rw [hl] at this; simp only [List.getElem?_cons_zero, Option.some.injEq] at this; rw [this]; rfl
    rw [hx]
    apply ByteArray.ext
    apply Array.toList_inj.1
    conv => rhs; rw [hh]
    simp [ba]
  have hne : ¬ s.extract 1 s.size = s := fun e => by have := congrArg ByteArray.size e; omega
  have q1 : ((s.extract 1 s.size).toList == s.toList) = false := by rw [tl8]; exact decide_eq_false hne
  have hcat := cat_run ⟨#[46]⟩ (s.extract 1 s.size) (by have e2 : (⟨#[46]⟩ : ByteArray).size = 1 := rfl; omega)
  rw [hxe] at hcat
  generalize s.extract 1 s.size = XX at *
  have HF := Lib.hid (fun w => C.stuff (some ⟨w.heap.size, 0, none⟩) 1 1 [s] (by rw [sizeB_cons]; show s.size + 0 ≤ _; omega) (show 1 ≤ 10000 by decide) (w.alloc (.cells #[.string s] 9)) (one_texts w s (by omega)))
  rw [stuff_one] at HF
  have HV2 := Lib.hid (fun w => C.unstuff (dotB s) (by have := dotB_size s; omega) w)
  rw [undotL_dotB, ba_of] at HV2
  have hn1 : (dotB s).size ≤ s.size + 1 := dotB_size s
  have hn0 : s.size ≤ (dotB s).size := by rw [dotB_yes h0 h46, ByteArray.size_append]; omega
  have hA : (dotB s ++ tailB).size = (dotB s).size + 5 := by rw [ByteArray.size_append, tailB_size]
  have hsl1 := slice_to (dotB s ++ tailB) (dotB s).size (by omega)
  rw [ext_left _ _ _ rfl] at hsl1
  have hsl2 := slice_from (dotB s ++ tailB) (dotB s).size (by omega)
  rw [ext_right _ _ _ _ rfl (by rw [ByteArray.size_append])] at hsl2
  have q5 : (tailB.toList == [13, 10, 46, 13, 10]) = true := by rw [tailB, ByteArray.toList_mk]; rfl
  generalize dotB s ++ tailB = AA at *
  generalize tailB = TT at *
  generalize dotB s = DD at *
  have hAi : (AA.size : Int) = (DD.size : Int) + 5 := by omega
  have g1 : ¬ (AA.size : Int) < (s.size : Int) + 5 := by omega
  have g2 : ¬ (s.size : Int) + 6 < (AA.size : Int) := by omega
  have g3 : IntKind.i64.wrap ((AA.size : Int) - 5) = (DD.size : Int) := by rw [IntKind.wrap_i64]; omega
  have g4 : (AA.size : Int) - 5 = (DD.size : Int) := by omega
  have hD6 : DD.size ≤ 5000 := by omega
  clear hd hd2 h46 hx hxs hxe hne hA hn0 hn1 h1 hAi
  go_enter Try.func8, Try.ntmps8
  go_wp2_with (first
    | (go_at_call 9; (with_reducible refine HA.out.mono ?_); rintro e w1 ⟨rfl, hb1⟩)
    | (go_at_call 15; (with_reducible refine (HV1.out _).mono ?_); rintro e w2 ⟨rfl, hb2⟩)
    | (go_at_call 20; (with_reducible refine (HF.out _).mono ?_); rintro e w3 ⟨rfl, hb3⟩; have hb4 := Below_next hb1 hb2; have hb5 := (hb4.alloc hb4.size (.cells #[.string s] 9)); have hb6 := Below_next hb5 hb3)
    | (go_at_call 15; (with_reducible refine (HV2.out _).mono ?_); rintro e w7 ⟨rfl, hb7⟩))
  go_ret
  exact ⟨rfl, Below_next hb6 hb7⟩

set_option maxHeartbeats 2000000 in
set_option maxRecDepth 100000 in
theorem dots_none (C : LineC Rd) (s : ByteArray) (W : World) (h1 : s.size ≤ 4096) (hd : ¬ s = ⟨#[46]⟩) (h0 : 0 < s.size) (h46 : ¬ s[0] = 46) :
    Calls Try.prog 8 #[.string s] W fun e w' => e = .returned (.bool true) ∧ Below W.heap.size W w' := by
  have HA := Lib.hid (C.awake W)
  have hi : ¬ (4096 : Int) < (s.size : Int) := by omega
  have HV1 := Lib.hid (fun w => C.unstuff s (by omega) w)
  have hd2 : ¬ s.data.toList = [46] := fun h => hd (dot_is.2 h)
  rw [show undotL s.data.toList = (s.data.toList, false) by rw [undotL, if_neg hd2, if_neg (fun h => h46 (byte0.1 h).2)]] at HV1
  rw [ba_of] at HV1
  have b1 : ((s[0].toNat : Int) == 46) = false := by rw [show (46 : Int) = ((46 : Nat) : Int) from rfl, byte_is (by decide)]; exact decide_eq_false h46
  have hi0 : (0 : Int) < (s.size : Int) := by omega
  have HF := Lib.hid (fun w => C.stuff (some ⟨w.heap.size, 0, none⟩) 1 1 [s] (by rw [sizeB_cons]; show s.size + 0 ≤ _; omega) (show 1 ≤ 10000 by decide) (w.alloc (.cells #[.string s] 9)) (one_texts w s (by omega)))
  rw [stuff_one] at HF
  have HV2 := Lib.hid (fun w => C.unstuff (dotB s) (by have := dotB_size s; omega) w)
  rw [undotL_dotB, ba_of] at HV2
  have hn1 : (dotB s).size ≤ s.size + 1 := dotB_size s
  have hn0 : s.size ≤ (dotB s).size := by rw [dotB_no (fun ⟨_, h⟩ => h46 h)]; exact Nat.le_refl _
  have hA : (dotB s ++ tailB).size = (dotB s).size + 5 := by rw [ByteArray.size_append, tailB_size]
  have hsl1 := slice_to (dotB s ++ tailB) (dotB s).size (by omega)
  rw [ext_left _ _ _ rfl] at hsl1
  have hsl2 := slice_from (dotB s ++ tailB) (dotB s).size (by omega)
  rw [ext_right _ _ _ _ rfl (by rw [ByteArray.size_append])] at hsl2
  have q5 : (tailB.toList == [13, 10, 46, 13, 10]) = true := by rw [tailB, ByteArray.toList_mk]; rfl
  generalize dotB s ++ tailB = AA at *
  generalize tailB = TT at *
  generalize dotB s = DD at *
  have hAi : (AA.size : Int) = (DD.size : Int) + 5 := by omega
  have g1 : ¬ (AA.size : Int) < (s.size : Int) + 5 := by omega
  have g2 : ¬ (s.size : Int) + 6 < (AA.size : Int) := by omega
  have g3 : IntKind.i64.wrap ((AA.size : Int) - 5) = (DD.size : Int) := by rw [IntKind.wrap_i64]; omega
  have g4 : (AA.size : Int) - 5 = (DD.size : Int) := by omega
  have hD6 : DD.size ≤ 5000 := by omega
  clear hd hd2 h46 hA hn0 hn1 h1 hAi
  go_enter Try.func8, Try.ntmps8
  go_wp2_with (first
    | (go_at_call 9; (with_reducible refine HA.out.mono ?_); rintro e w1 ⟨rfl, hb1⟩)
    | (go_at_call 15; (with_reducible refine (HV1.out _).mono ?_); rintro e w2 ⟨rfl, hb2⟩)
    | (go_at_call 20; (with_reducible refine (HF.out _).mono ?_); rintro e w3 ⟨rfl, hb3⟩; have hb4 := Below_next hb1 hb2; have hb5 := (hb4.alloc hb4.size (.cells #[.string s] 9)); have hb6 := Below_next hb5 hb3)
    | (go_at_call 15; (with_reducible refine (HV2.out _).mono ?_); rintro e w7 ⟨rfl, hb7⟩))
  go_ret
  exact ⟨rfl, Below_next hb6 hb7⟩

set_option maxHeartbeats 2000000 in
set_option maxRecDepth 100000 in
theorem dots_nil (C : LineC Rd) (s : ByteArray) (W : World) (h1 : s.size ≤ 4096) (h0 : ¬ 0 < s.size) :
    Calls Try.prog 8 #[.string s] W fun e w' => e = .returned (.bool true) ∧ Below W.heap.size W w' := by
  have HA := Lib.hid (C.awake W)
  have hi : ¬ (4096 : Int) < (s.size : Int) := by omega
  have HV1 := Lib.hid (fun w => C.unstuff s (by omega) w)
  have hd2 : ¬ s.data.toList = [46] := fun h => by
    have := congrArg List.length h
    simp at this
    omega
  rw [show undotL s.data.toList = (s.data.toList, false) by rw [undotL, if_neg hd2, if_neg (fun h => h0 (byte0.1 h).1)]] at HV1
  rw [ba_of] at HV1
  have hi0 : ¬ (0 : Int) < (s.size : Int) := by omega
  have HF := Lib.hid (fun w => C.stuff (some ⟨w.heap.size, 0, none⟩) 1 1 [s] (by rw [sizeB_cons]; show s.size + 0 ≤ _; omega) (show 1 ≤ 10000 by decide) (w.alloc (.cells #[.string s] 9)) (one_texts w s (by omega)))
  rw [stuff_one] at HF
  have HV2 := Lib.hid (fun w => C.unstuff (dotB s) (by have := dotB_size s; omega) w)
  rw [undotL_dotB, ba_of] at HV2
  have hn1 : (dotB s).size ≤ s.size + 1 := dotB_size s
  have hn0 : s.size ≤ (dotB s).size := by omega
  have hA : (dotB s ++ tailB).size = (dotB s).size + 5 := by rw [ByteArray.size_append, tailB_size]
  have hsl1 := slice_to (dotB s ++ tailB) (dotB s).size (by omega)
  rw [ext_left _ _ _ rfl] at hsl1
  have hsl2 := slice_from (dotB s ++ tailB) (dotB s).size (by omega)
  rw [ext_right _ _ _ _ rfl (by rw [ByteArray.size_append])] at hsl2
  have q5 : (tailB.toList == [13, 10, 46, 13, 10]) = true := by rw [tailB, ByteArray.toList_mk]; rfl
  generalize dotB s ++ tailB = AA at *
  generalize tailB = TT at *
  generalize dotB s = DD at *
  have hAi : (AA.size : Int) = (DD.size : Int) + 5 := by omega
  have g1 : ¬ (AA.size : Int) < (s.size : Int) + 5 := by omega
  have g2 : ¬ (s.size : Int) + 6 < (AA.size : Int) := by omega
  have g3 : IntKind.i64.wrap ((AA.size : Int) - 5) = (DD.size : Int) := by rw [IntKind.wrap_i64]; omega
  have g4 : (AA.size : Int) - 5 = (DD.size : Int) := by omega
  have hD6 : DD.size ≤ 5000 := by omega
  clear hd2 h0 hA hn0 hn1 h1 hAi
  go_enter Try.func8, Try.ntmps8
  go_wp2_with (first
    | (go_at_call 9; (with_reducible refine HA.out.mono ?_); rintro e w1 ⟨rfl, hb1⟩)
    | (go_at_call 15; (with_reducible refine (HV1.out _).mono ?_); rintro e w2 ⟨rfl, hb2⟩)
    | (go_at_call 20; (with_reducible refine (HF.out _).mono ?_); rintro e w3 ⟨rfl, hb3⟩; have hb4 := Below_next hb1 hb2; have hb5 := (hb4.alloc hb4.size (.cells #[.string s] 9)); have hb6 := Below_next hb5 hb3)
    | (go_at_call 15; (with_reducible refine (HV2.out _).mono ?_); rintro e w7 ⟨rfl, hb7⟩))
  go_ret
  exact ⟨rfl, Below_next hb6 hb7⟩

theorem lineDots_walk (C : LineC Rd) (s : ByteArray) (W : World) :
    Calls Try.prog 8 #[.string s] W fun e w' => e = .returned (.bool true) ∧ Below W.heap.size W w' := by
  by_cases h1 : s.size ≤ 4096
  · by_cases hd : s = ⟨#[46]⟩
    · exact dots_dot C s W h1 hd
    · by_cases h0 : 0 < s.size
      · by_cases h46 : s[0] = 46
        · exact dots_one C s W h1 hd h0 h46
        · exact dots_none C s W h1 hd h0 h46
      · exact dots_nil C s W h1 h0
  · have HA := Lib.hid (C.awake W)
    have hi : (4096 : Int) < (s.size : Int) := by omega
    clear h1
    go_enter Try.func8, Try.ntmps8
    go_wp2_with (first
      | (go_at_call 9; (with_reducible refine HA.out.mono ?_); rintro e w1 ⟨rfl, hb1⟩))
    go_ret
    exact ⟨rfl, hb1⟩
end
end Go.Proofs.Ytmpchbhimfjomaa
