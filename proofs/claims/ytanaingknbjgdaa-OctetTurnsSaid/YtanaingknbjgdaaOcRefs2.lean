/- Contracts of the reference's functions of layer 1, continued. -/
import Derived.Test.YtanaingknbjgdaaOcRefs
namespace Go.Proofs.Ytanaingknbjgdaa
open Go.RowKit

theorem take_rev_step (l : List UInt8) (k : Nat) (h : k < l.length) : l.reverse.take (k + 1) = l.reverse.take k ++ [l[l.length - 1 - k]] := by
  rw [List.take_succ_eq_append_getElem (by simpa using h)]
  simp [List.getElem_reverse]

set_option maxHeartbeats 400000 in
theorem turned_any (s : ByteArray) (hs : s.size ≤ 1099511627776) (w : World) :
    Calls Try.prog 27 #[.string s] w fun e w' => e = .returned (.string ⟨s.data.toList.reverse.toArray⟩) ∧ Below w.heap.size w w' := by
  go_enter Try.func27, Try.ntmps27
  go_wp2_with fail
  have hst := Ob.start w w.heap.size (Nat.le_refl _)
  have hbe := (Below.refl w.heap.size w).alloc (Nat.le_refl _) (.cells #[] 5)
  go_loopw [3, 4] (fun v i wr => ∃ k : Nat, k ≤ s.size ∧ i = .int .i64 k ∧ Ob wr w.heap.size v (s.data.toList.reverse.take k) ∧ Below w.heap.size w wr) (fun _ i _ => s.size - (intOf i).toNat)
  case atStart => exact ⟨0, Nat.zero_le _, rfl, hst, hbe⟩
  case round =>
    clear hst hbe
    obtain ⟨k, hk, rfl, hown, hbel⟩ := hrel
    have hlen : s.data.toList.length = s.size := by simp
    by_cases hlt : k < s.size
    · obtain ⟨j, hj⟩ : ∃ j, j = s.size - 1 - k := ⟨_, rfl⟩
      have hjs : j < s.size := by omega
      have e1 : (s.size : Int) - 1 - (k : Int) = (j : Int) := by omega
      have e2 : s.data.toList.reverse.take (k + 1) = s.data.toList.reverse.take k ++ [s[j]] := by
        rw [take_rev_step _ _ (by omega)]
        have : s.data.toList[s.data.toList.length - 1 - k]'(by omega) = s[j] := by
          subst hj
          simp [ByteArray.getElem_eq_getElem_data]
        rw [this]
      have HE := Lib.hid e2
      have HJ := Lib.hid hj
      have HL : Hid ((s.data.toList.reverse.take k).length ≤ 1099511627776) := by
        show (s.data.toList.reverse.take k).length ≤ 1099511627776
        rw [List.length_take, List.length_reverse]; omega
      clear e2 hlen hj
      go_wp2_with (at_builtin; refine wpList_push wr rfl _ _ rfl w.heap.size _ (s.data.toList.reverse.take k) rfl rfl hown (s[j]) rfl HL.out hbel.size ?_)
      intro v' w1 hown' hb1
      clear e1
      go_wp2
      go_roundw
      case rel => exact ⟨k + 1, by omega, by go_num, by rw [HE.out]; exact hown', hbel.trans hb1⟩
      case measure => simp [intOf]; omega
    · obtain rfl : k = s.size := by omega
      rw [List.take_of_length_le (by rw [List.length_reverse]; omega)] at hown
      clear hlen
      go_wp2_with (with_reducible refine wpList_ob_string _ rfl _ rfl hown rfl ?_)
      go_ret
      exact ⟨rfl, hbel⟩

theorem rhigh_any (x : Nat) (hx : x < 18446744073709551616) (n : Int) (w : World) :
    Calls Try.prog 21 #[.int .u64 x, .int .i64 n] w fun e w' => e = .returned (.string ⟨(lowL x (toldN n)).reverse.toArray⟩) ∧ Below w.heap.size w w' := by
  have hbel := Below.refl w.heap.size w
  have HX := Lib.hid (rlow_any x hx n)
  have HT := Lib.hid (turned_any ⟨(lowL x (toldN n)).toArray⟩ (by show (lowL x (toldN n)).toArray.size ≤ _; have := toldN_le n; simp [lowL_len]; omega))
  clear hx
  go_enter Try.func21, Try.ntmps21
  go_wp2_with (first
    | (go_at_call 19; ((with_reducible refine (HX.out _).mono ?_); rintro e w' ⟨rfl, hb⟩; replace hbel := Below_next hbel hb; clear hb))
    | (go_at_call 27; ((with_reducible refine (HT.out _).mono ?_); rintro e w' ⟨rfl, hb⟩; replace hbel := Below_next hbel hb; clear hb)))
  go_ret
  exact ⟨rfl, hbel⟩

theorem rhigh_step (s : ByteArray) (k : Nat) (hk : k < s.size) (h8 : s.size ≤ 8) :
    IntKind.u64.wrap (IntKind.u64.wrap (((numHigh (s.data.toList.take k) : Nat) : Int) * 256) + IntKind.u64.wrap (s[k].toNat : Int)) = ((numHigh (s.data.toList.take (k + 1)) : Nat) : Int) := by
  have hlen := take_len s k (by omega)
  have hlt := numHigh_lt (s.data.toList.take k)
  rw [hlen] at hlt
  have hb := s[k].toNat_lt
  have hp : 256 ^ (k + 1) ≤ 18446744073709551616 := p256_le (m := 8) (by omega)
  rw [Nat.pow_succ] at hp
  rw [wrap64_byte, IntKind.wrap_u64, IntKind.wrap_u64, take_snoc s k hk, numHigh_snoc]
  omega

set_option maxHeartbeats 400000 in
theorem rfromHigh_any (s : ByteArray) (hs : s.size ≤ 1099511627776) (w : World) :
    Calls Try.prog 13 #[.string s] w fun e w' => e = .returned (.tuple #[.int .u64 (fitNum s.size (numHigh s.data.toList) : Nat), .int .i64 (fitErr s.size)]) ∧ w = w' := by
  by_cases h8 : s.size ≤ 8
  · go_enter Try.func13, Try.ntmps13
    go_wp2
    go_loop [4, 5] (fun x i => ∃ k : Nat, k ≤ s.size ∧ i = .int .i64 k ∧ x = .int .u64 (numHigh (s.data.toList.take k) : Nat)) (fun _ i => s.size - (intOf i).toNat)
    case atStart => exact ⟨0, Nat.zero_le _, rfl, rfl⟩
    case round =>
      obtain ⟨k, hk, rfl, rfl⟩ := hrel
      by_cases hlt : k < s.size
      · have H := Lib.hid (rhigh_step s k hlt h8)
        go_wp2
        go_round
        case rel => exact ⟨k + 1, by omega, by go_num, congrArg _ H.out⟩
        case measure => simp [intOf]; omega
      · go_wp2
        go_ret2
        have : k = s.size := by omega
        subst this
        exact ⟨ret_pair (by rw [take_all, fitNum, if_pos h8]) (by rw [fitErr, if_pos h8]), rfl⟩
  · go_enter Try.func13, Try.ntmps13
    go_wp2
    go_ret2
    exact ⟨ret_pair (by rw [fitNum, if_neg h8]; rfl) (by rw [fitErr, if_neg h8]), rfl⟩

theorem rfromLow_any (s : ByteArray) (hs : s.size ≤ 1099511627776) (w : World) :
    Calls Try.prog 11 #[.string s] w fun e w' => e = .returned (.tuple #[.int .u64 (fitNum s.size (numLow s.data.toList) : Nat), .int .i64 (fitErr s.size)]) ∧ Below w.heap.size w w' := by
  have hbel := Below.refl w.heap.size w
  have HT := Lib.hid (turned_any s hs)
  have hz : (ByteArray.mk s.data.toList.reverse.toArray).size = s.size := by show s.data.toList.reverse.toArray.size = _; simp
  have hF := rfromHigh_any ⟨s.data.toList.reverse.toArray⟩ (by omega)
  rw [hz, show (ByteArray.mk s.data.toList.reverse.toArray).data.toList = s.data.toList.reverse from rfl, numHigh_reverse] at hF
  have HF := Lib.hid hF
  clear hF hz
  go_enter Try.func11, Try.ntmps11
  go_wp2_with (first
    | (go_at_call 13; ((with_reducible refine (HF.out _).mono ?_); rintro e w' ⟨rfl, rfl⟩))
    | (go_at_call 27; ((with_reducible refine (HT.out _).mono ?_); rintro e w' ⟨rfl, hb⟩; replace hbel := Below_next hbel hb; clear hb)))
  go_ret2
  exact ⟨rfl, hbel⟩
end Go.Proofs.Ytanaingknbjgdaa
