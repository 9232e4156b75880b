/- The document's own layer 8: Unstuff, Join, Stuff. -/
import Derived.Test.YtmpchbhimfjomaaR8B
namespace Go.Proofs.Ytmpchbhimfjomaa
open Go.RowKit

theorem byte0 {s : ByteArray} : s.data.toList[0]? = some 46 ↔ ∃ h : 0 < s.size, s[0] = 46 := by
  constructor
  · intro h
    have h1 : 0 < s.size := by
      have := (List.getElem?_eq_some_iff.1 h).1
      simpa using this
    refine ⟨h1, ?_⟩
    rw [byte_at h1] at h
    exact Option.some.inj h
  · rintro ⟨h1, h2⟩
    rw [byte_at h1, h2]
theorem dot_is {s : ByteArray} : s = ⟨#[46]⟩ ↔ s.data.toList = [46] := by
  constructor
  · rintro rfl; rfl
  · intro h
    apply ByteArray.ext
    apply Array.toList_inj.1
    exact h

theorem dot_eq (s : ByteArray) : (s.toList == [46]) = decide (s = ⟨#[46]⟩) := by
  rw [← tl8, show (⟨#[46]⟩ : ByteArray).toList = [46] from ByteArray.toList_mk _]

set_option maxRecDepth 100000 in
theorem runstuff8_any (s : ByteArray) (hs : s.size ≤ 1048576) (w : World) :
    Calls Try.prog 16 #[.string s] w fun e w' => e = .returned (.tuple #[.string (ba (undotL s.data.toList).1), .bool (undotL s.data.toList).2]) ∧ w = w' := by
  by_cases hd : s = ⟨#[46]⟩
  · have q : (s.toList == [46]) = true := by rw [dot_eq]; exact decide_eq_true hd
    have e1 : undotL s.data.toList = ([], true) := by rw [undotL, if_pos (dot_is.1 hd)]
    rw [e1]
    clear hd e1
    go_enter Try.func16, Try.ntmps16
    go_wp2
    go_ret2
    exact ⟨rfl, rfl⟩
  · have q : (s.toList == [46]) = false := by rw [dot_eq]; exact decide_eq_false hd
    have hd2 : ¬ s.data.toList = [46] := fun h => hd (dot_is.2 h)
    by_cases h0 : 0 < s.size
    · have hi : (0 : Int) < (s.size : Int) := by omega
      by_cases h46 : s[0] = 46
      · have b1 : ((s[0].toNat : Int) == 46) = true := by rw [h46]; rfl
        have e1 : undotL s.data.toList = (s.data.toList.drop 1, false) := by rw [undotL, if_neg hd2, if_pos (byte0.2 ⟨h0, h46⟩)]
        rw [e1]
        show Calls _ _ _ _ fun e w' => e = .returned (.tuple #[.string (ba (s.data.toList.drop 1)), .bool false]) ∧ _
        rw [← ext_all s 1]
        clear hd hd2 e1 h46
        go_enter Try.func16, Try.ntmps16
        go_wp2
        go_ret2
        exact ⟨rfl, rfl⟩
      · have b1 : ((s[0].toNat : Int) == 46) = false := by rw [show (46 : Int) = ((46 : Nat) : Int) from rfl, byte_is (by decide)]; exact decide_eq_false h46
        have e1 : undotL s.data.toList = (s.data.toList, false) := by rw [undotL, if_neg hd2, if_neg (fun h => h46 (byte0.1 h).2)]
        rw [e1]
        show Calls _ _ _ _ fun e w' => e = .returned (.tuple #[.string (ba s.data.toList), .bool false]) ∧ _
        rw [ba_of]
        clear hd hd2 e1 h46
        go_enter Try.func16, Try.ntmps16
        go_wp2
        go_ret2
        exact ⟨rfl, rfl⟩
    · have hi : ¬ (0 : Int) < (s.size : Int) := by omega
      have e1 : undotL s.data.toList = (s.data.toList, false) := by rw [undotL, if_neg hd2, if_neg (fun h => h0 (byte0.1 h).1)]
      rw [e1]
      show Calls _ _ _ _ fun e w' => e = .returned (.tuple #[.string (ba s.data.toList), .bool false]) ∧ _
      rw [ba_of]
      clear hd hd2 e1 h0
      go_enter Try.func16, Try.ntmps16
      go_wp2
      go_ret2
      exact ⟨rfl, rfl⟩

theorem joinL_len (L : List (List UInt8)) : (joinL L).length = (L.map List.length).sum + 2 * L.length := by
  induction L with
  | nil => rfl
  | cons x L ih => rw [joinL, List.length_append, List.length_cons, List.length_cons, ih, List.map_cons, List.sum_cons, List.length_cons]; omega
theorem lsB_size (ss : List ByteArray) : ((lsB ss).map List.length).sum = sizeB ss := by
  induction ss with
  | nil => rfl
  | cons s ss ih => rw [sizeB_cons, ← ih]; simp [lsB]
theorem lsB_len (ss : List ByteArray) : (lsB ss).length = ss.length := by simp [lsB]
theorem sizeB_take {ss : List ByteArray} {k : Nat} (hk : k < ss.length) : sizeB (ss.take (k + 1)) = sizeB (ss.take k) + (ss.getD k ByteArray.empty).size := by
  rw [List.getD_eq_getElem?_getD, List.getElem?_eq_getElem hk, sizeB, List.take_add_one, List.getElem?_eq_getElem hk, List.map_append, List.sum_append]
  simp only [sizeB, Option.toList_some, List.map_cons, List.map_nil, List.sum_cons, List.sum_nil, Option.getD_some, Nat.add_zero]
theorem sizeB_take_le (ss : List ByteArray) (k : Nat) : sizeB (ss.take k) ≤ sizeB ss := by
  induction ss generalizing k with
  | nil => simp [sizeB]
  | cons s ss ih =>
    cases k with
    | zero => simp [sizeB]
    | succ k => rw [List.take_succ_cons, sizeB_cons, sizeB_cons]; have := ih k; omega
theorem sizeB_at {ss : List ByteArray} {k : Nat} (hk : k < ss.length) : (ss.getD k ByteArray.empty).size ≤ sizeB ss := by
  have h1 := sizeB_take hk
  have h2 := sizeB_take_le ss (k + 1)
  omega
theorem lsB_take {ss : List ByteArray} {k : Nat} (hk : k < ss.length) : lsB (ss.take (k + 1)) = lsB (ss.take k) ++ [(ss.getD k ByteArray.empty).data.toList] := by
  rw [List.getD_eq_getElem?_getD, List.getElem?_eq_getElem hk, List.take_add_one, List.getElem?_eq_getElem hk, lsB, List.map_append]
  rfl
theorem joinL_take {ss : List ByteArray} {k : Nat} (hk : k < ss.length) : ba (joinL (lsB (ss.take (k + 1)))) = ba (joinL (lsB (ss.take k))) ++ ((ss.getD k ByteArray.empty) ++ ⟨#[13, 10]⟩) := by
  rw [lsB_take hk, joinL_append, ← ba_append]
  congr 1

set_option maxHeartbeats 1000000 in
theorem rjoin8_any (a : Option Addr) (len cap : Nat) (ss : List ByteArray) (hsz : sizeB ss ≤ 1048576) (hn : ss.length ≤ 1048576) (w : World) (h : IsTexts w a len cap ss) :
    Calls Try.prog 19 #[.slice a len cap] w fun e w' => e = .returned (.string (ba (joinL (lsB ss)))) ∧ w = w' := by
  obtain ⟨e1, hc1, hm1⟩ := h.len
  have H1 := Lib.hid h
  have HZ := Lib.hid (fun k => joinL_len (lsB (ss.take k)))
  subst e1
  clear hm1 h
  go_enter Try.func19, Try.ntmps19
  go_wp2
  go_loopw [3, 4] (fun o i wr => ∃ (k : Nat) (O : ByteArray), i = .int .i64 (k : Int) ∧ o = .string O ∧ k ≤ ss.length ∧ O = ba (joinL (lsB (ss.take k))) ∧ O.size ≤ 4194304 ∧ w = wr) (fun _ i _ => 1048577 - (intOf i).toNat)
  case atStart => exact ⟨0, ⟨#[]⟩, rfl, rfl, Nat.zero_le _, rfl, by decide, rfl⟩
  case round =>
    obtain ⟨k, O, rfl, rfl, hk, hO, hOs, rfl⟩ := hrel
    by_cases hlt : k < ss.length
    · have hli : (k : Int) < (ss.length : Int) := by omega
      have hk0 : (0 : Int) ≤ (k : Int) := by omega
      obtain ⟨x, rfl, c1, _⟩ := H1.out.at hlt
      have hx := sizeB_at hlt
      have hO2 := joinL_take hlt
      rw [← hO] at hO2
      have hsum : O.size + ((ss.getD k ByteArray.empty).size + 2) ≤ 4194304 := by
        have hz := HZ.out (k + 1)
        rw [lsB_size, lsB_len, List.length_take] at hz
        have h2 := sizeB_take_le ss (k + 1)
        have := congrArg ByteArray.size hO2
        rw [ba_size, hz, ByteArray.size_append, ByteArray.size_append] at this
        have e2 : (⟨#[13, 10]⟩ : ByteArray).size = 2 := rfl
        omega
      have HO2 := Lib.hid hO2
      have s1 := cat_run (ss.getD k ByteArray.empty) ⟨#[13, 10]⟩ (by have e2 : (⟨#[13, 10]⟩ : ByteArray).size = 2 := rfl; omega)
      have s2 := cat_run O ((ss.getD k ByteArray.empty) ++ ⟨#[13, 10]⟩) (by rw [ByteArray.size_append]; have e2 : (⟨#[13, 10]⟩ : ByteArray).size = 2 := rfl; omega)
      have hU : (O ++ ((ss.getD k ByteArray.empty) ++ ⟨#[13, 10]⟩)).size ≤ 4194304 := by rw [ByteArray.size_append, ByteArray.size_append]; have e2 : (⟨#[13, 10]⟩ : ByteArray).size = 2 := rfl; omega
      clear hO2 hsum hO hx
      generalize ss.getD k ByteArray.empty = X at *
      generalize hUe : O ++ (X ++ ⟨#[13, 10]⟩) = U at *
      generalize X ++ ⟨#[13, 10]⟩ = V at *
      go_wp2
      go_roundw
      case rel => exact ⟨k + 1, U, by go_num, rfl, by omega, HO2.out.symm, hU, trivial⟩
      case measure => simp only [intOf]; omega
    · have hli : ¬ (k : Int) < (ss.length : Int) := by omega
      have HO := Lib.hid hO
      clear hO
      go_wp2
      go_ret
      exact ⟨by rw [show ba (joinL (lsB ss)) = O by rw [HO.out, List.take_of_length_le (by omega)]]; rfl, rfl⟩
end Go.Proofs.Ytmpchbhimfjomaa
