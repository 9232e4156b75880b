/- The document's own layer 8: Stuff, Unstuffed. -/
import Derived.Test.YtmpchbhimfjomaaR8C
namespace Go.Proofs.Ytmpchbhimfjomaa
open Go.RowKit

theorem lsB_snoc (L : List ByteArray) (x : ByteArray) : lsB (L ++ [x]) = lsB L ++ [x.data.toList] := by simp [lsB]
/-- Texts with dots ahead. -/
def dotB (s : ByteArray) : ByteArray := ba (dotL s.data.toList)
theorem dotB_yes {s : ByteArray} (h0 : 0 < s.size) (h : s[0] = 46) : dotB s = ⟨#[46]⟩ ++ s := by
  rw [dotB, dotL, if_pos (byte0.2 ⟨h0, h⟩)]
  apply ByteArray.ext
  simp [ba]
theorem dotB_no {s : ByteArray} (h : ¬ ∃ h0 : 0 < s.size, s[0] = 46) : dotB s = s := by
  rw [dotB, dotL, if_neg (fun e => h (byte0.1 e)), ba_of]
theorem dotL_len (x : List UInt8) : (dotL x).length ≤ x.length + 1 := by unfold dotL; split <;> simp
theorem dotB_size (s : ByteArray) : (dotB s).size ≤ s.size + 1 := by
  rw [dotB, ba_size]
  have := dotL_len s.data.toList
  simpa using this
def dotsB (ss : List ByteArray) : List ByteArray := ss.map dotB
theorem dotsB_take {ss : List ByteArray} {k : Nat} (hk : k < ss.length) : dotsB (ss.take (k + 1)) = dotsB (ss.take k) ++ [dotB (ss.getD k ByteArray.empty)] := by
  rw [List.getD_eq_getElem?_getD, List.getElem?_eq_getElem hk, List.take_add_one, List.getElem?_eq_getElem hk, dotsB, List.map_append]
  rfl
theorem dotsB_len (ss : List ByteArray) : (dotsB ss).length = ss.length := by simp [dotsB]
theorem dotsB_size (ss : List ByteArray) : sizeB (dotsB ss) ≤ sizeB ss + ss.length := by
  induction ss with
  | nil => exact Nat.le_refl _
  | cons s ss ih =>
    show sizeB (dotB s :: dotsB ss) ≤ _
    rw [sizeB_cons, sizeB_cons, List.length_cons]
    have := dotB_size s
    omega
theorem dotsB_mem {ss : List ByteArray} {n : Nat} (h : sizeB ss ≤ n) : ∀ s ∈ dotsB ss, s.size ≤ n + 1 := fun s hs => by
  obtain ⟨x, hx, rfl⟩ := List.mem_map.1 hs
  have h1 := dotB_size x
  have h2 : x.size ≤ sizeB ss := by
    obtain ⟨i, hi, rfl⟩ := List.getElem_of_mem hx
    have := sizeB_at hi
    rwa [List.getD_eq_getElem?_getD, List.getElem?_eq_getElem hi] at this
  omega
theorem stuff_eq (ss : List ByteArray) : joinL (lsB (dotsB ss ++ [⟨#[46]⟩])) = stuffL (lsB ss) := by
  rw [stuffL]
  congr 1
  simp [lsB, dotsB, dotB, ba_list]
theorem sizeB_snoc (ss : List ByteArray) (s : ByteArray) : sizeB (ss ++ [s]) = sizeB ss + s.size := by simp [sizeB]

set_option maxHeartbeats 1000000 in
theorem rstuff8_any (a : Option Addr) (len cap : Nat) (ss : List ByteArray) (hsz : sizeB ss ≤ 400000) (hn : ss.length ≤ 400000) (w : World) (h : IsTexts w a len cap ss) :
    Calls Try.prog 21 #[.slice a len cap] w fun e w' => e = .returned (.string (ba (stuffL (lsB ss)))) ∧ Below w.heap.size w w' := by
  obtain ⟨e1, hc1, hm1⟩ := h.len
  have H1 := Lib.hid h
  have HJ := Lib.hid (fun a len cap w h => rjoin8_any a len cap (dotsB ss ++ [⟨#[46]⟩]) (by rw [sizeB_snoc]; have := dotsB_size ss; have e2 : (⟨#[46]⟩ : ByteArray).size = 1 := rfl; omega) (by rw [List.length_append, dotsB_len]; show _ + 1 ≤ _; omega) w h)
  rw [stuff_eq] at HJ
  have HM := Lib.hid (show ∀ s ∈ dotsB ss ++ [⟨#[46]⟩], s.size ≤ 140737488355328 from fun s hs => by
    rcases List.mem_append.1 hs with hs | hs
    · exact Nat.le_trans (dotsB_mem hsz s hs) (by decide)
    · rw [List.mem_singleton.1 hs]; decide)
  have h0 := (Below.refl w.heap.size w).alloc (Nat.le_refl _) (.cells #[] 9)
  subst e1
  clear hm1 h
  go_enter Try.func21, Try.ntmps21
  go_wp2
  go_loopw [3, 4] (fun o i wr => ∃ k : Nat, i = .int .i64 (k : Int) ∧ k ≤ ss.length ∧ OwS wr w.heap.size o (dotsB (ss.take k)) ∧ Below w.heap.size w wr) (fun _ i _ => 1048577 - (intOf i).toNat)
  case atStart => exact ⟨0, rfl, Nat.zero_le _, OwS.start w _ (Nat.le_refl _), h0⟩
  case round =>
    obtain ⟨k, rfl, hk, hown, hbel⟩ := hrel
    have HOw := Lib.hid hown
    by_cases hlt : k < ss.length
    · have hli : (k : Int) < (ss.length : Int) := by omega
      have hk0 : (0 : Int) ≤ (k : Int) := by omega
      obtain ⟨x, rfl, c1, _⟩ := (H1.out.next hbel).at hlt
      have hx := sizeB_at hlt
      have hD := dotsB_take hlt
      have hlen : (dotsB (ss.take k)).length ≤ 400000 := by rw [dotsB_len, List.length_take]; omega
      have HL := Lib.hid hlen
      clear hlen
      generalize ss.getD k ByteArray.empty = X at *
      by_cases h0x : 0 < X.size
      · have hxi : (0 : Int) < (X.size : Int) := by omega
        by_cases h46 : X[0] = 46
        · have b1 : ((X[0].toNat : Int) == 46) = true := by rw [h46]; rfl
          rw [dotB_yes h0x h46] at hD
          have s1 := cat_run ⟨#[46]⟩ X (by have e2 : (⟨#[46]⟩ : ByteArray).size = 1 := rfl; omega)
          have HD := Lib.hid hD
          generalize (⟨#[46]⟩ ++ X : ByteArray) = Y at *
          clear hD h46
          go_wp2_with (first
            | (at_builtin; refine wpList_pushs wr HOw.out rfl _ _ rfl rfl rfl Y (by have := HL.out; omega) hbel.size ?_; intro v' w5 h5 hb5; rw [← HD.out] at h5))
          go_roundw
          case rel => exact ⟨k + 1, by go_num, by omega, h5, hbel.trans hb5⟩
          case measure => simp only [intOf]; omega
        · have b1 : ((X[0].toNat : Int) == 46) = false := by rw [show (46 : Int) = ((46 : Nat) : Int) from rfl, byte_is (by decide)]; exact decide_eq_false h46
          rw [dotB_no (fun ⟨_, h⟩ => h46 h)] at hD
          have HD := Lib.hid hD
          clear hD h46
          go_wp2_with (first
            | (at_builtin; refine wpList_pushs wr HOw.out rfl _ _ rfl rfl rfl X (by have := HL.out; omega) hbel.size ?_; intro v' w5 h5 hb5; rw [← HD.out] at h5))
          go_roundw
          case rel => exact ⟨k + 1, by go_num, by omega, h5, hbel.trans hb5⟩
          case measure => simp only [intOf]; omega
      · have hxi : ¬ (0 : Int) < (X.size : Int) := by omega
        rw [dotB_no (fun ⟨h, _⟩ => h0x h)] at hD
        have HD := Lib.hid hD
        clear hD h0x
        go_wp2_with (first
          | (at_builtin; refine wpList_pushs wr HOw.out rfl _ _ rfl rfl rfl X (by have := HL.out; omega) hbel.size ?_; intro v' w5 h5 hb5; rw [← HD.out] at h5))
        go_roundw
        case rel => exact ⟨k + 1, by go_num, by omega, h5, hbel.trans hb5⟩
        case measure => simp only [intOf]; omega
    · have hli : ¬ (k : Int) < (ss.length : Int) := by omega
      have HO2 := Lib.hid (show OwS wr w.heap.size _ (dotsB ss) from by have := HOw.out; rwa [List.take_of_length_le (by omega)] at this)
      clear HOw hown
      go_wp2_with (first
        | (at_builtin; refine wpList_pushs wr HO2.out rfl _ _ rfl rfl rfl ⟨#[46]⟩ (by rw [dotsB_len]; omega) hbel.size ?_; intro v' w5 h5 hb5; obtain ⟨a5, n5, cap5, rfl, ht5⟩ := OwS.some h5 HM.out)
        | (go_at_call 19; (with_reducible refine (HJ.out _ _ _ _ ht5).mono ?_); rintro e w6 ⟨rfl, rfl⟩))
      go_ret
      exact ⟨rfl, hbel.trans hb5⟩
end Go.Proofs.Ytmpchbhimfjomaa
