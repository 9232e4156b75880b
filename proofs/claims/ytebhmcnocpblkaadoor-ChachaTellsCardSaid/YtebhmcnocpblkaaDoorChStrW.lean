/- ChachaStreams: the law's walk. -/
import Derived.Test.YtebhmcnocpblkaaDoorChT
namespace Go.Proofs.YtebhmcnocpblkaaDoor
open Go.RowKit

theorem blkR_form (key : ByteArray) (c : Nat) (nonce : ByteArray) : ∃ (S : ByteArray) (E : Int), blkR key c nonce = .tuple #[.string S, .int .i64 E] := by
  unfold blkR; split <;> exact ⟨_, _, rfl⟩
theorem strR_form (key : ByteArray) (c : Nat) (nonce : ByteArray) (n : Int) : ∃ (S : ByteArray) (E : Int), strR key c nonce n = .tuple #[.string S, .int .i64 E] := by
  unfold strR; split <;> exact ⟨_, _, rfl⟩
theorem turnR_form (key : ByteArray) (c : Nat) (nonce t : ByteArray) : ∃ (S : ByteArray) (E : Int), turnR key c nonce t = .tuple #[.string S, .int .i64 E] := by
  unfold turnR; split <;> exact ⟨_, _, rfl⟩

set_option maxHeartbeats 1000000 in
set_option maxRecDepth 100000 in
theorem chachaStreams_walk (key : ByteArray) (c : Int) (nonce t : ByteArray) (n : Int) (_ : key.size ≤ maxLen) (hc : (Lit.int .u32 c).wf = true) (_ : nonce.size ≤ maxLen) (_ : t.size ≤ maxLen) (_ : (Lit.int .i64 n).wf = true) (W : World) (hp : Pl W) :
    Calls Tryd.prog 4 #[.string key, .int .u32 c, .string nonce, .string t, .int .i64 n] W fun e w' => e = .returned (.bool true) ∧ Below W.heap.size W w' := by
  obtain ⟨hc0, hc1⟩ := wf_u32 hc
  obtain ⟨C, rfl⟩ : ∃ C : Nat, c = (C : Int) := ⟨c.toNat, by omega⟩
  have hC : C < 4294967296 := by omega
  clear hc0 hc1 hc
  have HA := Lib.hid (awake4_any W hp)
  have HP := Lib.hid hp
  clear hp
  have HL := Lib.hid (fun w => lg4_3 w key nonce t)
  generalize largeB [key, nonce, t] = L at *
  cases L
  · by_cases hbig : 2048 < n ∧ n ≤ 65536
    · obtain ⟨hb1, hb2⟩ := hbig
      clear hC
      go_enter Tryd.func4, Tryd.ntmps4
      go_wp2_with (first
        | (go_at_call 9; (with_reducible refine HA.out.mono ?_); rintro e w1 ⟨rfl, hb1⟩)
        | (go_at_call 10; (with_reducible refine (HL.out _).mono ?_); rintro e w2 ⟨rfl, rfl⟩))
      go_ret
      exact ⟨rfl, hb1.alloc hb1.size _⟩
    · have hsm : ¬ 2048 < n ∨ 65536 < n := by omega
      have hS1 := fun w hp => stream_any key nonce C hC n w hp
      have hS2 := fun w => rstream_any key nonce C n w
      have hT1 := fun w hp => turn_any key nonce C hC t w hp
      have hT2 := fun w => rturn_any key nonce C t w
      obtain ⟨S, E, hse⟩ := strR_form key C nonce n
      obtain ⟨T, F, htf⟩ := turnR_form key C nonce t
      rw [hse] at hS1 hS2
      rw [htf] at hT1 hT2
      have HS1 := Lib.hid hS1
      have HS2 := Lib.hid hS2
      have HT1 := Lib.hid hT1
      have HT2 := Lib.hid hT2
      clear hbig hC hS1 hS2 hT1 hT2 hse htf
      rcases hsm with hsm | hsm
      all_goals
        go_enter Tryd.func4, Tryd.ntmps4
        go_wp2_with (first
          | (go_at_call 9; (with_reducible refine HA.out.mono ?_); rintro e w1 ⟨rfl, hb1⟩)
          | (go_at_call 10; (with_reducible refine (HL.out _).mono ?_); rintro e w2 ⟨rfl, rfl⟩))
        have HP2 := Lib.hid ((HP.out.next hb1).alloc (.cells #[.string key, .string nonce, .string t] 9))
        have HB2 := Lib.hid (hb1.alloc hb1.size (.cells #[.string key, .string nonce, .string t] 9))
        generalize w1.alloc (.cells #[.string key, .string nonce, .string t] 9) = w2 at *
        clear hb1
        refine (HS1.out _ HP2.out).mono ?_
        rintro e w3 ⟨rfl, hb⟩
        have HP3 := Lib.hid (HP2.out.next hb)
        have HB3 := Lib.hid (HB2.out.trans (hb.mono HB2.out.size))
        clear hb
        go_wp2_with fail
        refine (HS2.out _).mono ?_
        rintro e w4 ⟨rfl, hb⟩
        have HP4 := Lib.hid (HP3.out.next hb)
        have HB4 := Lib.hid (HB3.out.trans (hb.mono HB3.out.size))
        clear hb
        go_wp2_with fail
        refine (HT1.out _ HP4.out).mono ?_
        rintro e w5 ⟨rfl, hb⟩
        have HB5 := Lib.hid (HB4.out.trans (hb.mono HB4.out.size))
        clear hb
        go_wp2_with fail
        refine (HT2.out _).mono ?_
        rintro e w6 ⟨rfl, hb⟩
        have HB6 := Lib.hid (HB5.out.trans (hb.mono HB5.out.size))
        clear hb
        go_wp2_with fail
        go_ret
        exact ⟨rfl, HB6.out⟩
  · clear hC
    go_enter Tryd.func4, Tryd.ntmps4
    go_wp2_with (first
      | (go_at_call 9; (with_reducible refine HA.out.mono ?_); rintro e w1 ⟨rfl, hb1⟩)
      | (go_at_call 10; (with_reducible refine (HL.out _).mono ?_); rintro e w2 ⟨rfl, rfl⟩))
    go_ret
    exact ⟨rfl, hb1.alloc hb1.size _⟩
end Go.Proofs.YtebhmcnocpblkaaDoor
