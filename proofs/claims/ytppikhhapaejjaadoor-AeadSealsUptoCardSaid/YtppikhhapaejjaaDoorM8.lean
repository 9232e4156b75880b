/- Layer 6's laws over the contracts' record. AeadTurned over the contracts' record. awake of layer 6's laws, over the record's contracts. Layer 6's laws over the landed code's contracts. -/
import Derived.Test.YtppikhhapaejjaaDoorM7
import Derived.Test.YtppikhhapaejjaaDoorM5
import Derived.Test.YtppikhhapaejjaaDoorM1
namespace Go.Proofs.YtppikhhapaejjaaDoor
open Go.RowKit

set_option maxHeartbeats 1000000 in
set_option maxRecDepth 100000 in
theorem aeadSeals_walk {P : World → Prop} (C : AeadC P) (key nonce data text : ByteArray) (hd : data.size ≤ 1048576) (ht : text.size ≤ 1048576) (W : World) (hp : P W) :
    Calls Tryd.prog 3 #[.string key, .string nonce, .string data, .string text] W fun e W' => e = .returned (.bool true) ∧ Below W.heap.size W W' := by
  have HA := Lib.hid (C.awake W hp)
  have HL := Lib.hid (fun w => lg6 w key nonce data text)
  have HP := Lib.hid hp
  have HC := Lib.hid C
  have HS := Lib.hid (C.seal' key nonce data text (small_max hd (by decide)) (small_max ht (by decide)))
  have HRs := Lib.hid (rseal_any key nonce data text)
  have HO := Lib.hid (C.once key nonce)
  have HRo := Lib.hid (ronce_any key nonce)
  have HV := Lib.hid (C.cov data text hd ht)
  have HRv := Lib.hid (rcov_any data text hd ht)
  obtain ⟨os, of, hR⟩ : ∃ s f, onceR key nonce = .tuple #[.string s, .int .i64 f] := by
    unfold onceR; split <;> exact ⟨_, _, rfl⟩
  rw [hR] at HO HRo
  rw [sealR] at HS HRs
  generalize sealS key nonce data text = SS at *
  generalize sealE key nonce data text = SE at *
  generalize covB data text = CV at *
  generalize large6B [key, nonce, data, text] = L at *
  clear hp C hR hd ht
  cases L
  · skip
    go_enter Tryd.func3, Tryd.ntmps3
    go_wp2_with (first
      | (go_at_call 9; (with_reducible refine HA.out.mono ?_); rintro e w1 ⟨rfl, hb1⟩; have HP1 := Lib.hid (HC.out.alloc (.cells #[.string key, .string nonce, .string data, .string text] 9) (HC.out.next HP.out hb1)); have HB1 := Lib.hid (hb1.alloc hb1.size (.cells #[.string key, .string nonce, .string data, .string text] 9)))
      | (go_at_call 10; (with_reducible refine (HL.out _).mono ?_); rintro e wl ⟨rfl, rfl⟩)
      | (go_at_call 11; (with_reducible refine (HS.out _ HP1.out).mono ?_); rintro e w2 ⟨rfl, hb2⟩; have HP2 := Lib.hid (HC.out.next HP1.out hb2); have HB2 := Lib.hid (HB1.out.trans (hb2.mono HB1.out.size)); clear hb2)
      | (go_at_call 12; (with_reducible refine (HRs.out _).mono ?_); rintro e w3 ⟨rfl, hb3⟩; have HP3 := Lib.hid (HC.out.next HP2.out hb3); have HB3 := Lib.hid (HB2.out.trans (hb3.mono HB2.out.size)); clear hb3)
      | (go_at_call 13; (with_reducible refine (HO.out _ HP3.out).mono ?_); rintro e w4 ⟨rfl, hb4⟩; have HP4 := Lib.hid (HC.out.next HP3.out hb4); have HB4 := Lib.hid (HB3.out.trans (hb4.mono HB3.out.size)); clear hb4)
      | (go_at_call 14; (with_reducible refine (HRo.out _).mono ?_); rintro e w5 ⟨rfl, hb5⟩; have HP5 := Lib.hid (HC.out.next HP4.out hb5); have HB5 := Lib.hid (HB4.out.trans (hb5.mono HB4.out.size)); clear hb5)
      | (go_at_call 15; (with_reducible refine (HV.out _ HP5.out).mono ?_); rintro e w6 ⟨rfl, hb6⟩; have HP6 := Lib.hid (HC.out.next HP5.out hb6); have HB6 := Lib.hid (HB5.out.trans (hb6.mono HB5.out.size)); clear hb6)
      | (go_at_call 16; (with_reducible refine (HRv.out _).mono ?_); rintro e w7 ⟨rfl, hb7⟩; have HP7 := Lib.hid (HC.out.next HP6.out hb7); have HB7 := Lib.hid (HB6.out.trans (hb7.mono HB6.out.size)); clear hb7))
    go_ret
    exact ⟨rfl, HB7.out⟩
  · skip
    go_enter Tryd.func3, Tryd.ntmps3
    go_wp2_with (first
      | (go_at_call 9; (with_reducible refine HA.out.mono ?_); rintro e w1 ⟨rfl, hb1⟩; have HP1 := Lib.hid (HC.out.alloc (.cells #[.string key, .string nonce, .string data, .string text] 9) (HC.out.next HP.out hb1)); have HB1 := Lib.hid (hb1.alloc hb1.size (.cells #[.string key, .string nonce, .string data, .string text] 9)))
      | (go_at_call 10; (with_reducible refine (HL.out _).mono ?_); rintro e wl ⟨rfl, rfl⟩))
    go_ret
    exact ⟨rfl, HB1.out⟩

set_option maxHeartbeats 1000000 in
set_option maxRecDepth 100000 in
theorem aeadOpens_walk {P : World → Prop} (C : AeadC P) (key nonce data sealed : ByteArray) (hd : data.size ≤ maxLen) (hs : sealed.size ≤ maxLen) (W : World) (hp : P W) :
    Calls Tryd.prog 4 #[.string key, .string nonce, .string data, .string sealed] W fun e W' => e = .returned (.bool true) ∧ Below W.heap.size W W' := by
  have HA := Lib.hid (C.awake W hp)
  have HL := Lib.hid (fun w => lg6 w key nonce data sealed)
  have HP := Lib.hid hp
  have HC := Lib.hid C
  have HS := Lib.hid (C.open' key nonce data sealed hd hs)
  have HRs := Lib.hid (ropen_any key nonce data sealed (maxLen47 hs))
  rw [openR] at HS HRs
  generalize openS key nonce data sealed = SS at *
  generalize openE key nonce data sealed = SE at *
  generalize large6B [key, nonce, data, sealed] = L at *
  clear hp C hd hs
  cases L
  · skip
    go_enter Tryd.func4, Tryd.ntmps4
    go_wp2_with (first
      | (go_at_call 9; (with_reducible refine HA.out.mono ?_); rintro e w1 ⟨rfl, hb1⟩; have HP1 := Lib.hid (HC.out.alloc (.cells #[.string key, .string nonce, .string data, .string sealed] 9) (HC.out.next HP.out hb1)); have HB1 := Lib.hid (hb1.alloc hb1.size (.cells #[.string key, .string nonce, .string data, .string sealed] 9)))
      | (go_at_call 10; (with_reducible refine (HL.out _).mono ?_); rintro e wl ⟨rfl, rfl⟩)
      | (go_at_call 17; (with_reducible refine (HS.out _ HP1.out).mono ?_); rintro e w2 ⟨rfl, hb2⟩; have HP2 := Lib.hid (HC.out.next HP1.out hb2); have HB2 := Lib.hid (HB1.out.trans (hb2.mono HB1.out.size)); clear hb2)
      | (go_at_call 18; (with_reducible refine (HRs.out _).mono ?_); rintro e w3 ⟨rfl, hb3⟩; have HP3 := Lib.hid (HC.out.next HP2.out hb3); have HB3 := Lib.hid (HB2.out.trans (hb3.mono HB2.out.size)); clear hb3))
    go_ret
    exact ⟨rfl, HB3.out⟩
  · skip
    go_enter Tryd.func4, Tryd.ntmps4
    go_wp2_with (first
      | (go_at_call 9; (with_reducible refine HA.out.mono ?_); rintro e w1 ⟨rfl, hb1⟩; have HP1 := Lib.hid (HC.out.alloc (.cells #[.string key, .string nonce, .string data, .string sealed] 9) (HC.out.next HP.out hb1)); have HB1 := Lib.hid (hb1.alloc hb1.size (.cells #[.string key, .string nonce, .string data, .string sealed] 9)))
      | (go_at_call 10; (with_reducible refine (HL.out _).mono ?_); rintro e wl ⟨rfl, rfl⟩))
    go_ret
    exact ⟨rfl, HB1.out⟩

set_option maxHeartbeats 1000000 in
set_option maxRecDepth 100000 in
theorem aeadCovers_walk {P : World → Prop} (C : AeadC P) (data sealed other more : ByteArray) (W : World) (hp : P W) :
    Calls Tryd.prog 7 #[.string data, .string sealed, .string other, .string more] W fun e W' => e = .returned (.bool true) ∧ Below W.heap.size W W' := by
  have HA := Lib.hid (C.awake W hp)
  have HP := Lib.hid hp
  have HC := Lib.hid C
  by_cases hsz : 512 < data.size ∨ 512 < sealed.size ∨ 512 < other.size ∨ 512 < more.size
  · clear C hp
    rcases (show 512 < data.size ∨ (data.size ≤ 512 ∧ 512 < sealed.size) ∨ (data.size ≤ 512 ∧ sealed.size ≤ 512 ∧ 512 < other.size) ∨ (data.size ≤ 512 ∧ sealed.size ≤ 512 ∧ other.size ≤ 512 ∧ 512 < more.size) by omega) with h | ⟨h1, h⟩ | ⟨h1, h2, h⟩ | ⟨h1, h2, h3, h⟩
    · have b1 : decide (512 < (data.size : Int)) = true := decide_eq_true (by omega)
      clear hsz h
      go_enter Tryd.func7, Tryd.ntmps7
      go_wp2_with (first
        | (go_at_call 9; (with_reducible refine HA.out.mono ?_); rintro e w1 ⟨rfl, hb1⟩; have HP1 := Lib.hid (HC.out.next HP.out hb1); have HB1 := Lib.hid hb1))
      go_ret
      exact ⟨rfl, HB1.out⟩
    · have b1 : decide (512 < (data.size : Int)) = false := decide_eq_false (by omega)
      have b2 : decide (512 < (sealed.size : Int)) = true := decide_eq_true (by omega)
      clear hsz h h1
      go_enter Tryd.func7, Tryd.ntmps7
      go_wp2_with (first
        | (go_at_call 9; (with_reducible refine HA.out.mono ?_); rintro e w1 ⟨rfl, hb1⟩; have HP1 := Lib.hid (HC.out.next HP.out hb1); have HB1 := Lib.hid hb1))
      go_ret
      exact ⟨rfl, HB1.out⟩
    · have b1 : decide (512 < (data.size : Int)) = false := decide_eq_false (by omega)
      have b2 : decide (512 < (sealed.size : Int)) = false := decide_eq_false (by omega)
      have b3 : decide (512 < (other.size : Int)) = true := decide_eq_true (by omega)
      clear hsz h h1 h2
      go_enter Tryd.func7, Tryd.ntmps7
      go_wp2_with (first
        | (go_at_call 9; (with_reducible refine HA.out.mono ?_); rintro e w1 ⟨rfl, hb1⟩; have HP1 := Lib.hid (HC.out.next HP.out hb1); have HB1 := Lib.hid hb1))
      go_ret
      exact ⟨rfl, HB1.out⟩
    · have b1 : decide (512 < (data.size : Int)) = false := decide_eq_false (by omega)
      have b2 : decide (512 < (sealed.size : Int)) = false := decide_eq_false (by omega)
      have b3 : decide (512 < (other.size : Int)) = false := decide_eq_false (by omega)
      have b4 : decide (512 < (more.size : Int)) = true := decide_eq_true (by omega)
      clear hsz h h1 h2 h3
      go_enter Tryd.func7, Tryd.ntmps7
      go_wp2_with (first
        | (go_at_call 9; (with_reducible refine HA.out.mono ?_); rintro e w1 ⟨rfl, hb1⟩; have HP1 := Lib.hid (HC.out.next HP.out hb1); have HB1 := Lib.hid hb1))
      go_ret
      exact ⟨rfl, HB1.out⟩
  have b1 : decide (512 < (data.size : Int)) = false := decide_eq_false (by omega)
  have b2 : decide (512 < (sealed.size : Int)) = false := decide_eq_false (by omega)
  have b3 : decide (512 < (other.size : Int)) = false := decide_eq_false (by omega)
  have b4 : decide (512 < (more.size : Int)) = false := decide_eq_false (by omega)
  have HV := Lib.hid (C.cov data sealed (by omega) (by omega))
  have HX := Lib.hid (C.cov other more (by omega) (by omega))
  have i1 : (data.size : Int) ≤ 512 := by omega
  have i2 : (sealed.size : Int) ≤ 512 := by omega
  have hcs := covB_size data sealed
  have em : ((covB data sealed).size : Int) % 16 = 0 := by omega
  have l1 : 16 + (data.size : Int) + (sealed.size : Int) ≤ ((covB data sealed).size : Int) := by omega
  have l2 : ((covB data sealed).size : Int) ≤ 46 + (data.size : Int) + (sealed.size : Int) := by omega
  by_cases h1 : data = other ∧ sealed = more
  · obtain ⟨rfl, rfl⟩ := h1
    generalize covB data sealed = CV at *
    clear hsz hp C hcs HX
    go_enter Tryd.func7, Tryd.ntmps7
    go_wp2_with (first
      | (go_at_call 9; (with_reducible refine HA.out.mono ?_); rintro e w1 ⟨rfl, hb1⟩; have HP1 := Lib.hid (HC.out.next HP.out hb1); have HB1 := Lib.hid hb1)
      | (go_at_call 15; (with_reducible refine (HV.out _ HP1.out).mono ?_); rintro e w2 ⟨rfl, hb2⟩; have HP2 := Lib.hid (HC.out.next HP1.out hb2); have HB2 := Lib.hid (HB1.out.trans (hb2.mono HB1.out.size)); clear hb2)
      | (go_at_call 15; (with_reducible refine (HV.out _ HP2.out).mono ?_); rintro e w3 ⟨rfl, hb3⟩; have HP3 := Lib.hid (HC.out.next HP2.out hb3); have HB3 := Lib.hid (HB2.out.trans (hb3.mono HB2.out.size)); clear hb3))
    go_ret
    exact ⟨rfl, HB3.out⟩
  · have hne : ¬ covB data sealed = covB other more := fun e => h1 (covB_inj (by omega) (by omega) (by omega) (by omega) e)
    have n1 := tlB_ne hne
    by_cases h2 : data = other
    · have h3 : ¬ sealed = more := fun e => h1 ⟨h2, e⟩
      have n2 := tlB_ne h3
      subst h2
      generalize covB data sealed = CV at *
      generalize covB data more = CX at *
      clear hsz hp C hcs h1 hne h3
      go_enter Tryd.func7, Tryd.ntmps7
      go_wp2_with (first
        | (go_at_call 9; (with_reducible refine HA.out.mono ?_); rintro e w1 ⟨rfl, hb1⟩; have HP1 := Lib.hid (HC.out.next HP.out hb1); have HB1 := Lib.hid hb1)
        | (go_at_call 15; (with_reducible refine (HV.out _ HP1.out).mono ?_); rintro e w2 ⟨rfl, hb2⟩; have HP2 := Lib.hid (HC.out.next HP1.out hb2); have HB2 := Lib.hid (HB1.out.trans (hb2.mono HB1.out.size)); clear hb2)
        | (go_at_call 15; (with_reducible refine (HX.out _ HP2.out).mono ?_); rintro e w3 ⟨rfl, hb3⟩; have HP3 := Lib.hid (HC.out.next HP2.out hb3); have HB3 := Lib.hid (HB2.out.trans (hb3.mono HB2.out.size)); clear hb3))
      go_ret
      exact ⟨rfl, HB3.out⟩
    · have n2 := tlB_ne h2
      generalize covB data sealed = CV at *
      generalize covB other more = CX at *
      clear hsz hp C hcs h1 hne h2
      go_enter Tryd.func7, Tryd.ntmps7
      go_wp2_with (first
        | (go_at_call 9; (with_reducible refine HA.out.mono ?_); rintro e w1 ⟨rfl, hb1⟩; have HP1 := Lib.hid (HC.out.next HP.out hb1); have HB1 := Lib.hid hb1)
        | (go_at_call 15; (with_reducible refine (HV.out _ HP1.out).mono ?_); rintro e w2 ⟨rfl, hb2⟩; have HP2 := Lib.hid (HC.out.next HP1.out hb2); have HB2 := Lib.hid (HB1.out.trans (hb2.mono HB1.out.size)); clear hb2)
        | (go_at_call 15; (with_reducible refine (HX.out _ HP2.out).mono ?_); rintro e w3 ⟨rfl, hb3⟩; have HP3 := Lib.hid (HC.out.next HP2.out hb3); have HB3 := Lib.hid (HB2.out.trans (hb3.mono HB2.out.size)); clear hb3))
      go_ret
      exact ⟨rfl, HB3.out⟩

set_option maxHeartbeats 1000000 in
set_option maxRecDepth 100000 in
theorem aeadSizes_walk {P : World → Prop} (C : AeadC P) (key nonce data text : ByteArray) (hd : data.size ≤ maxLen) (ht : text.size ≤ maxLen) (W : World) (hp : P W) :
    Calls Tryd.prog 8 #[.string key, .string nonce, .string data, .string text] W fun e W' => e = .returned (.bool true) ∧ Below W.heap.size W W' := by
  have HA := Lib.hid (C.awake W hp)
  have HL := Lib.hid (fun w => lg6 w key nonce data text)
  have HP := Lib.hid hp
  have HC := Lib.hid C
  have HS := Lib.hid (C.seal' key nonce data text hd ht)
  have HO := Lib.hid (C.open' key nonce data text hd ht)
  have hsm := fun h => (smalls (a := key) (b := nonce) (c := data) (d := text) h).2.2.2
  generalize large6B [key, nonce, data, text] = L at *
  clear hp C hd ht
  cases L
  · have hsm := hsm rfl
    by_cases h1 : szB key nonce = true
    · obtain ⟨hk, hn⟩ := szB_yes h1
      have bk : ((key.size : Int) == 32) = true := by rw [hk]; rfl
      have bn : ((nonce.size : Int) == 12) = true := by rw [hn]; rfl
      by_cases h2 : data.size ≤ 4096
      · have bd : decide ((data.size : Int) ≤ 4096) = true := decide_eq_true (by omega)
        rcases (show text.size < 16 ∨ (16 ≤ text.size ∧ text.size ≤ 512) ∨ 16400 < text.size by omega) with h | ⟨h, h'⟩ | h
        · rw [sealR_ok ⟨h1, h2, by omega⟩] at HS
          rw [openR_no (fun h9 => by have := h9.2.2.1; omega)] at HO
          have t1 : decide (16384 < (text.size : Int)) = false := decide_eq_false (by omega)
          have t2 : decide ((16 : Int) ≤ (text.size : Int)) = false := decide_eq_false (by omega)
          generalize sealB key nonce data text = SS at *
          clear h1 hk hn h2 h hsm
          go_enter Tryd.func8, Tryd.ntmps8
          go_wp2_with (first
            | (go_at_call 9; (with_reducible refine HA.out.mono ?_); rintro e w1 ⟨rfl, hb1⟩; have HP1 := Lib.hid (HC.out.alloc (.cells #[.string key, .string nonce, .string data, .string text] 9) (HC.out.next HP.out hb1)); have HB1 := Lib.hid (hb1.alloc hb1.size (.cells #[.string key, .string nonce, .string data, .string text] 9)))
            | (go_at_call 10; (with_reducible refine (HL.out _).mono ?_); rintro e wl ⟨rfl, rfl⟩)
            | (go_at_call 11; (with_reducible refine (HS.out _ HP1.out).mono ?_); rintro e w2 ⟨rfl, hb2⟩; have HP2 := Lib.hid (HC.out.next HP1.out hb2); have HB2 := Lib.hid (HB1.out.trans (hb2.mono HB1.out.size)); clear hb2)
            | (go_at_call 17; (with_reducible refine (HO.out _ HP2.out).mono ?_); rintro e w3 ⟨rfl, hb3⟩; have HP3 := Lib.hid (HC.out.next HP2.out hb3); have HB3 := Lib.hid (HB2.out.trans (hb3.mono HB2.out.size)); clear hb3))
          go_ret
          exact ⟨rfl, HB3.out⟩
        · rw [sealR_ok ⟨h1, h2, by omega⟩] at HS
          have t1 : decide (16384 < (text.size : Int)) = false := decide_eq_false (by omega)
          have t2 : decide ((16 : Int) ≤ (text.size : Int)) = true := decide_eq_true (by omega)
          have t3 : decide ((text.size : Int) ≤ 16400) = true := decide_eq_true (by omega)
          have hok : openOk key nonce data text := ⟨h1, h2, h, by omega⟩
          by_cases htg : tagOk key nonce data text
          · rw [openR_ok hok htg] at HO
            generalize sealB key nonce data text = SS at *
            generalize turnB key nonce (bodyB text) = TT at *
            clear h1 hk hn h2 h h' hsm hok htg
            go_enter Tryd.func8, Tryd.ntmps8
            go_wp2_with (first
              | (go_at_call 9; (with_reducible refine HA.out.mono ?_); rintro e w1 ⟨rfl, hb1⟩; have HP1 := Lib.hid (HC.out.alloc (.cells #[.string key, .string nonce, .string data, .string text] 9) (HC.out.next HP.out hb1)); have HB1 := Lib.hid (hb1.alloc hb1.size (.cells #[.string key, .string nonce, .string data, .string text] 9)))
              | (go_at_call 10; (with_reducible refine (HL.out _).mono ?_); rintro e wl ⟨rfl, rfl⟩)
              | (go_at_call 11; (with_reducible refine (HS.out _ HP1.out).mono ?_); rintro e w2 ⟨rfl, hb2⟩; have HP2 := Lib.hid (HC.out.next HP1.out hb2); have HB2 := Lib.hid (HB1.out.trans (hb2.mono HB1.out.size)); clear hb2)
              | (go_at_call 17; (with_reducible refine (HO.out _ HP2.out).mono ?_); rintro e w3 ⟨rfl, hb3⟩; have HP3 := Lib.hid (HC.out.next HP2.out hb3); have HB3 := Lib.hid (HB2.out.trans (hb3.mono HB2.out.size)); clear hb3))
            go_ret
            exact ⟨rfl, HB3.out⟩
          · rw [openR_tag hok htg] at HO
            generalize sealB key nonce data text = SS at *
            clear h1 hk hn h2 h h' hsm hok htg
            go_enter Tryd.func8, Tryd.ntmps8
            go_wp2_with (first
              | (go_at_call 9; (with_reducible refine HA.out.mono ?_); rintro e w1 ⟨rfl, hb1⟩; have HP1 := Lib.hid (HC.out.alloc (.cells #[.string key, .string nonce, .string data, .string text] 9) (HC.out.next HP.out hb1)); have HB1 := Lib.hid (hb1.alloc hb1.size (.cells #[.string key, .string nonce, .string data, .string text] 9)))
              | (go_at_call 10; (with_reducible refine (HL.out _).mono ?_); rintro e wl ⟨rfl, rfl⟩)
              | (go_at_call 11; (with_reducible refine (HS.out _ HP1.out).mono ?_); rintro e w2 ⟨rfl, hb2⟩; have HP2 := Lib.hid (HC.out.next HP1.out hb2); have HB2 := Lib.hid (HB1.out.trans (hb2.mono HB1.out.size)); clear hb2)
              | (go_at_call 17; (with_reducible refine (HO.out _ HP2.out).mono ?_); rintro e w3 ⟨rfl, hb3⟩; have HP3 := Lib.hid (HC.out.next HP2.out hb3); have HB3 := Lib.hid (HB2.out.trans (hb3.mono HB2.out.size)); clear hb3))
            go_ret
            exact ⟨rfl, HB3.out⟩
        · rw [sealR_no (fun h9 => by have := h9.2.2; omega)] at HS
          rw [openR_no (fun h9 => by have := h9.2.2.2; omega)] at HO
          have t1 : decide (16384 < (text.size : Int)) = true := decide_eq_true (by omega)
          have t2 : decide ((16 : Int) ≤ (text.size : Int)) = true := decide_eq_true (by omega)
          have t3 : decide ((text.size : Int) ≤ 16400) = false := decide_eq_false (by omega)
          clear h1 hk hn h2 h hsm
          go_enter Tryd.func8, Tryd.ntmps8
          go_wp2_with (first
            | (go_at_call 9; (with_reducible refine HA.out.mono ?_); rintro e w1 ⟨rfl, hb1⟩; have HP1 := Lib.hid (HC.out.alloc (.cells #[.string key, .string nonce, .string data, .string text] 9) (HC.out.next HP.out hb1)); have HB1 := Lib.hid (hb1.alloc hb1.size (.cells #[.string key, .string nonce, .string data, .string text] 9)))
            | (go_at_call 10; (with_reducible refine (HL.out _).mono ?_); rintro e wl ⟨rfl, rfl⟩)
            | (go_at_call 11; (with_reducible refine (HS.out _ HP1.out).mono ?_); rintro e w2 ⟨rfl, hb2⟩; have HP2 := Lib.hid (HC.out.next HP1.out hb2); have HB2 := Lib.hid (HB1.out.trans (hb2.mono HB1.out.size)); clear hb2)
            | (go_at_call 17; (with_reducible refine (HO.out _ HP2.out).mono ?_); rintro e w3 ⟨rfl, hb3⟩; have HP3 := Lib.hid (HC.out.next HP2.out hb3); have HB3 := Lib.hid (HB2.out.trans (hb3.mono HB2.out.size)); clear hb3))
          go_ret
          exact ⟨rfl, HB3.out⟩
      · rw [sealR_no (fun h9 => h2 h9.2.1)] at HS
        rw [openR_no (fun h9 => h2 h9.2.1)] at HO
        have bd : decide ((data.size : Int) ≤ 4096) = false := decide_eq_false (by omega)
        clear h1 hk hn h2 hsm
        go_enter Tryd.func8, Tryd.ntmps8
        go_wp2_with (first
          | (go_at_call 9; (with_reducible refine HA.out.mono ?_); rintro e w1 ⟨rfl, hb1⟩; have HP1 := Lib.hid (HC.out.alloc (.cells #[.string key, .string nonce, .string data, .string text] 9) (HC.out.next HP.out hb1)); have HB1 := Lib.hid (hb1.alloc hb1.size (.cells #[.string key, .string nonce, .string data, .string text] 9)))
          | (go_at_call 10; (with_reducible refine (HL.out _).mono ?_); rintro e wl ⟨rfl, rfl⟩)
          | (go_at_call 11; (with_reducible refine (HS.out _ HP1.out).mono ?_); rintro e w2 ⟨rfl, hb2⟩; have HP2 := Lib.hid (HC.out.next HP1.out hb2); have HB2 := Lib.hid (HB1.out.trans (hb2.mono HB1.out.size)); clear hb2)
          | (go_at_call 17; (with_reducible refine (HO.out _ HP2.out).mono ?_); rintro e w3 ⟨rfl, hb3⟩; have HP3 := Lib.hid (HC.out.next HP2.out hb3); have HB3 := Lib.hid (HB2.out.trans (hb3.mono HB2.out.size)); clear hb3))
        go_ret
        exact ⟨rfl, HB3.out⟩
    · rw [sealR_no (fun h9 => h1 h9.1)] at HS
      rw [openR_no (fun h9 => h1 h9.1)] at HO
      by_cases hk : key.size = 32
      · have hn : ¬ nonce.size = 12 := fun h2 => h1 (szB_mk hk h2)
        have bk : ((key.size : Int) == 32) = true := by rw [hk]; rfl
        have bn : ((nonce.size : Int) == 12) = false := by simp; omega
        clear h1 hk hn hsm
        go_enter Tryd.func8, Tryd.ntmps8
        go_wp2_with (first
          | (go_at_call 9; (with_reducible refine HA.out.mono ?_); rintro e w1 ⟨rfl, hb1⟩; have HP1 := Lib.hid (HC.out.alloc (.cells #[.string key, .string nonce, .string data, .string text] 9) (HC.out.next HP.out hb1)); have HB1 := Lib.hid (hb1.alloc hb1.size (.cells #[.string key, .string nonce, .string data, .string text] 9)))
          | (go_at_call 10; (with_reducible refine (HL.out _).mono ?_); rintro e wl ⟨rfl, rfl⟩)
          | (go_at_call 11; (with_reducible refine (HS.out _ HP1.out).mono ?_); rintro e w2 ⟨rfl, hb2⟩; have HP2 := Lib.hid (HC.out.next HP1.out hb2); have HB2 := Lib.hid (HB1.out.trans (hb2.mono HB1.out.size)); clear hb2)
          | (go_at_call 17; (with_reducible refine (HO.out _ HP2.out).mono ?_); rintro e w3 ⟨rfl, hb3⟩; have HP3 := Lib.hid (HC.out.next HP2.out hb3); have HB3 := Lib.hid (HB2.out.trans (hb3.mono HB2.out.size)); clear hb3))
        go_ret
        exact ⟨rfl, HB3.out⟩
      · have bk : ((key.size : Int) == 32) = false := by simp; omega
        clear h1 hk hsm
        go_enter Tryd.func8, Tryd.ntmps8
        go_wp2_with (first
          | (go_at_call 9; (with_reducible refine HA.out.mono ?_); rintro e w1 ⟨rfl, hb1⟩; have HP1 := Lib.hid (HC.out.alloc (.cells #[.string key, .string nonce, .string data, .string text] 9) (HC.out.next HP.out hb1)); have HB1 := Lib.hid (hb1.alloc hb1.size (.cells #[.string key, .string nonce, .string data, .string text] 9)))
          | (go_at_call 10; (with_reducible refine (HL.out _).mono ?_); rintro e wl ⟨rfl, rfl⟩)
          | (go_at_call 11; (with_reducible refine (HS.out _ HP1.out).mono ?_); rintro e w2 ⟨rfl, hb2⟩; have HP2 := Lib.hid (HC.out.next HP1.out hb2); have HB2 := Lib.hid (HB1.out.trans (hb2.mono HB1.out.size)); clear hb2)
          | (go_at_call 17; (with_reducible refine (HO.out _ HP2.out).mono ?_); rintro e w3 ⟨rfl, hb3⟩; have HP3 := Lib.hid (HC.out.next HP2.out hb3); have HB3 := Lib.hid (HB2.out.trans (hb3.mono HB2.out.size)); clear hb3))
        go_ret
        exact ⟨rfl, HB3.out⟩
  · skip
    go_enter Tryd.func8, Tryd.ntmps8
    go_wp2_with (first
      | (go_at_call 9; (with_reducible refine HA.out.mono ?_); rintro e w1 ⟨rfl, hb1⟩; have HP1 := Lib.hid (HC.out.alloc (.cells #[.string key, .string nonce, .string data, .string text] 9) (HC.out.next HP.out hb1)); have HB1 := Lib.hid (hb1.alloc hb1.size (.cells #[.string key, .string nonce, .string data, .string text] 9)))
      | (go_at_call 10; (with_reducible refine (HL.out _).mono ?_); rintro e wl ⟨rfl, rfl⟩))
    go_ret
    exact ⟨rfl, HB1.out⟩

theorem arrOf12 : Tryd.prog.underlying 31 = some (.array (Tryd.prog.arrayLen 31) (Tryd.prog.elem 31)) := by kernel_rfl
theorem arrLen12 : Tryd.prog.arrayLen 31 = 12 := by kernel_rfl
theorem arrElem12 : Tryd.prog.elem 31 = 5 := by kernel_rfl
theorem arr12_all (g o : Nat) (w : World) :
    (Instr.sliceAt 31 (.pointer (some ⟨g, o, none⟩)) none none none).run Tryd.prog w = .ok (.slice (some ⟨g, o, none⟩) 12 12) w := by
  rw [run_sliceAt_array_all w 31 _ arrOf12, arrElem12, Tryd.sizeOf5, arrLen12]
  simp only [Result.andThen, slicedAt]
  rw [if_neg (by omega), Nat.zero_mul, addr_add]
  rfl

set_option maxHeartbeats 1000000 in
set_option maxRecDepth 100000 in
theorem aeadBack_walk {P : World → Prop} (C : AeadC P) (zk zn : List Int) (data text sealed : ByteArray) (n0 : zk.length = 32) (w0 : ∀ z ∈ zk, (Lit.int .u8 z).wf = true) (n1 : zn.length = 12) (w1 : ∀ z ∈ zn, (Lit.int .u8 z).wf = true) (W : World) (hp : P W) :
    Calls Tryd.prog 5 #[.agg (zk.map (Value.int .u8)).toArray, .agg (zn.map (Value.int .u8)).toArray, .string data, .string text, .string sealed] W fun e W' => e = .returned (.bool true) ∧ Below W.heap.size W W' := by
  obtain ⟨kb, hkb, hkl⟩ := u8_of zk w0
  obtain ⟨nb, hnb, hnl⟩ := u8_of zn w1
  rw [hkb, hnb, show (u8s kb).toArray = rowB kb from rfl, show (u8s nb).toArray = rowB nb from rfl]
  rw [n0] at hkl
  rw [n1] at hnl
  clear hkb hnb w0 w1 n0 n1 zk zn
  obtain ⟨KR, hKR⟩ : ∃ KR, KR = rowB kb := ⟨_, rfl⟩
  obtain ⟨NR, hNR⟩ : ∃ NR, NR = rowB nb := ⟨_, rfl⟩
  rw [← hKR, ← hNR]
  obtain ⟨K, hK⟩ : ∃ K : ByteArray, K = ⟨kb.toArray⟩ := ⟨_, rfl⟩
  obtain ⟨N, hN⟩ : ∃ N : ByteArray, N = ⟨nb.toArray⟩ := ⟨_, rfl⟩
  have hKs : K.size = 32 := by rw [hK]; show kb.toArray.size = 32; rw [List.size_toArray, hkl]
  have hNs : N.size = 12 := by rw [hN]; show nb.toArray.size = 12; rw [List.size_toArray, hnl]
  have hz := szB_mk hKs hNs
  have HCK : Hid (∀ {w : World} {g : Nat}, Arr w g KR 30 → (convert 32 9 (.slice (some ⟨g, 0, none⟩) 32 32)).run Tryd.prog w = .ok (.string K) w) := by
    intro w g h; rw [hKR] at h; rw [hK]; exact conv_rowB h hkl
  have HCN : Hid (∀ {w : World} {g : Nat}, Arr w g NR 31 → (convert 32 9 (.slice (some ⟨g, 0, none⟩) 12 12)).run Tryd.prog w = .ok (.string N) w) := by
    intro w g h; rw [hNR] at h; rw [hN]; exact conv_rowB h hnl
  obtain ⟨W0, hW0⟩ : ∃ W0, W0 = (W.alloc (.cells KR 30)).alloc (.cells NR 31) := ⟨_, rfl⟩
  have hB0 : Below W.heap.size W W0 := by rw [hW0]; exact ((Below.refl W.heap.size W).alloc (Nat.le_refl _) _).alloc (by simp) _
  have hP0 : P W0 := by rw [hW0]; exact C.alloc _ (C.alloc _ hp)
  have hAK : Arr W0 W.heap.size KR 30 := by rw [hW0]; exact (Arr.new W KR _).alloc _
  have hAN : Arr W0 (W.heap.size + 1) NR 31 := by rw [hW0]; exact Arr.newAt (W.alloc (.cells KR 30)) NR _ (by simp)
  have HA := Lib.hid (C.awake W0 hP0)
  have HP := Lib.hid hP0
  have HB0 := Lib.hid hB0
  have HC := Lib.hid C
  have HK0 := Lib.hid hAK
  have HN0 := Lib.hid hAN
  have a32 := arr32_all
  have a12 := arr12_all
  clear hp C hB0 hP0 hAK hAN hK hN hKR hNR hkl hnl hKs hNs
  have hWs : W0.heap.size = W.heap.size + 1 + 1 := by rw [hW0]; simp
  by_cases hsz : 512 < data.size ∨ 512 < text.size ∨ 512 < sealed.size
  · rcases (show 512 < data.size ∨ (data.size ≤ 512 ∧ 512 < text.size) ∨ (data.size ≤ 512 ∧ text.size ≤ 512 ∧ 512 < sealed.size) by omega) with h | ⟨h1, h⟩ | ⟨h1, h2, h⟩
    · have b1 : decide (512 < (data.size : Int)) = true := decide_eq_true (by omega)
      clear hsz h hz
      go_enter Tryd.func5, Tryd.ntmps5
      go_wp2_with fail
      rw [← hW0]
      refine HA.out.mono ?_
      rintro e w1 ⟨rfl, hb1⟩
      have HP1 := Lib.hid (HC.out.next HP.out hb1)
      have HB1 := Lib.hid (HB0.out.trans (hb1.mono HB0.out.size))
      have HK1 := Lib.hid (HK0.out.next hb1)
      have HN1 := Lib.hid (HN0.out.next hb1)
      clear hb1 hW0
      go_wp2
      go_ret
      exact ⟨rfl, HB1.out⟩
    · have b1 : decide (512 < (data.size : Int)) = false := decide_eq_false (by omega)
      have b2 : decide (512 < (text.size : Int)) = true := decide_eq_true (by omega)
      clear hsz h h1 hz
      go_enter Tryd.func5, Tryd.ntmps5
      go_wp2_with fail
      rw [← hW0]
      refine HA.out.mono ?_
      rintro e w1 ⟨rfl, hb1⟩
      have HP1 := Lib.hid (HC.out.next HP.out hb1)
      have HB1 := Lib.hid (HB0.out.trans (hb1.mono HB0.out.size))
      have HK1 := Lib.hid (HK0.out.next hb1)
      have HN1 := Lib.hid (HN0.out.next hb1)
      clear hb1 hW0
      go_wp2
      go_ret
      exact ⟨rfl, HB1.out⟩
    · have b1 : decide (512 < (data.size : Int)) = false := decide_eq_false (by omega)
      have b2 : decide (512 < (text.size : Int)) = false := decide_eq_false (by omega)
      have b3 : decide (512 < (sealed.size : Int)) = true := decide_eq_true (by omega)
      clear hsz h h1 h2 hz
      go_enter Tryd.func5, Tryd.ntmps5
      go_wp2_with fail
      rw [← hW0]
      refine HA.out.mono ?_
      rintro e w1 ⟨rfl, hb1⟩
      have HP1 := Lib.hid (HC.out.next HP.out hb1)
      have HB1 := Lib.hid (HB0.out.trans (hb1.mono HB0.out.size))
      have HK1 := Lib.hid (HK0.out.next hb1)
      have HN1 := Lib.hid (HN0.out.next hb1)
      clear hb1 hW0
      go_wp2
      go_ret
      exact ⟨rfl, HB1.out⟩
  have b1 : decide (512 < (data.size : Int)) = false := decide_eq_false (by omega)
  have b2 : decide (512 < (text.size : Int)) = false := decide_eq_false (by omega)
  have b3 : decide (512 < (sealed.size : Int)) = false := decide_eq_false (by omega)
  have hso : sealOk K N data text := ⟨hz, by omega, by omega⟩
  have hss := sealB_size K N data text
  have h1 := HC.out.seal' K N data text (small_max (m := 512) (by omega) (by decide)) (small_max (m := 512) (by omega) (by decide))
  have h2 := HC.out.open' K N data (sealB K N data text) (small_max (m := 512) (by omega) (by decide)) (small_max (m := 528) (by omega) (by decide))
  have h3 := HC.out.open' K N data sealed (small_max (m := 512) (by omega) (by decide)) (small_max (m := 512) (by omega) (by decide))
  rw [sealR_ok hso] at h1
  rw [open_seal hso] at h2
  have e16 : (text.size : Int) ≤ 512 := by omega
  have els : ((sealB K N data text).size : Int) = (text.size : Int) + 16 := by omega
  have H1 := Lib.hid h1
  have H2 := Lib.hid h2
  by_cases h16 : sealed.size < 16
  · rw [openR_no (fun h9 => by have := h9.2.2.1; omega)] at h3
    have t2 : decide ((16 : Int) ≤ (sealed.size : Int)) = false := decide_eq_false (by omega)
    have H3 := Lib.hid h3
    generalize sealB K N data text = SS at *
    clear hsz h1 h2 h3 hso hss hz h16
    go_enter Tryd.func5, Tryd.ntmps5
    go_wp2_with fail
    rw [← hW0]
    refine HA.out.mono ?_
    rintro e w1 ⟨rfl, hb1⟩
    have HP1 := Lib.hid (HC.out.next HP.out hb1)
    have HB1 := Lib.hid (HB0.out.trans (hb1.mono HB0.out.size))
    have HK1 := Lib.hid (HK0.out.next hb1)
    have HN1 := Lib.hid (HN0.out.next hb1)
    clear hb1 hW0
    have ck := HCK.out HK1.out.drew
    have cn := HCN.out HN1.out.drew
    go_wp2_with fail
    go_region
    all_goals
      have HPd : Hid (P w1.drew) := HC.out.next HP1.out ((Below.refl w1.heap.size w1).drew)
      have HBd := Lib.hid (HB1.out.drew)
      generalize w1.drew = wd at *
      rename Hid (P wd) => HP2
      rename Hid (Below W.heap.size W wd) => HB2
      go_wp2_with (first
        | (go_at_call 11; (with_reducible refine (H1.out _ HP2.out).mono ?_); rintro e w3 ⟨rfl, hb3⟩; have HP3 := Lib.hid (HC.out.next HP2.out hb3); have HB3 := Lib.hid (HB2.out.trans (hb3.mono HB2.out.size)); clear hb3)
        | (go_at_call 17; (with_reducible refine (H2.out _ HP3.out).mono ?_); rintro e w4 ⟨rfl, hb4⟩; have HP4 := Lib.hid (HC.out.next HP3.out hb4); have HB4 := Lib.hid (HB3.out.trans (hb4.mono HB3.out.size)); clear hb4)
        | (go_at_call 17; (with_reducible refine (H3.out _ HP4.out).mono ?_); rintro e w5 ⟨rfl, hb5⟩; have HP5 := Lib.hid (HC.out.next HP4.out hb5); have HB5 := Lib.hid (HB4.out.trans (hb5.mono HB4.out.size)); clear hb5))
      go_ret
      exact ⟨rfl, HB5.out⟩
  · have t2 : decide ((16 : Int) ≤ (sealed.size : Int)) = true := decide_eq_true (by omega)
    have hok : openOk K N data sealed := ⟨hz, by omega, by omega, by omega⟩
    by_cases htg : tagOk K N data sealed
    · rw [openR_ok hok htg] at h3
      have hbs := bodyB_size sealed
      have h4 := HC.out.seal' K N data (turnB K N (bodyB sealed)) (small_max (m := 512) (by omega) (by decide)) (small_max (m := 512) (by rw [turnB_size]; omega) (by decide))
      rw [sealR_ok ⟨hz, by omega, by rw [turnB_size]; omega⟩, (seal_iff K N data sealed).2 htg] at h4
      have H3 := Lib.hid h3
      have H4 := Lib.hid h4
      generalize sealB K N data text = SS at *
      generalize turnB K N (bodyB sealed) = TT at *
      clear hsz h1 h2 h3 h4 hso hss hz h16 hok htg hbs
      go_enter Tryd.func5, Tryd.ntmps5
      go_wp2_with fail
      rw [← hW0]
      refine HA.out.mono ?_
      rintro e w1 ⟨rfl, hb1⟩
      have HP1 := Lib.hid (HC.out.next HP.out hb1)
      have HB1 := Lib.hid (HB0.out.trans (hb1.mono HB0.out.size))
      have HK1 := Lib.hid (HK0.out.next hb1)
      have HN1 := Lib.hid (HN0.out.next hb1)
      clear hb1 hW0
      have ck := HCK.out HK1.out.drew
      have cn := HCN.out HN1.out.drew
      go_wp2_with fail
      go_region
      all_goals
        have HPd : Hid (P w1.drew) := HC.out.next HP1.out ((Below.refl w1.heap.size w1).drew)
        have HBd := Lib.hid (HB1.out.drew)
        generalize w1.drew = wd at *
        rename Hid (P wd) => HP2
        rename Hid (Below W.heap.size W wd) => HB2
        go_wp2_with (first
          | (go_at_call 11; (with_reducible refine (H1.out _ HP2.out).mono ?_); rintro e w3 ⟨rfl, hb3⟩; have HP3 := Lib.hid (HC.out.next HP2.out hb3); have HB3 := Lib.hid (HB2.out.trans (hb3.mono HB2.out.size)); clear hb3)
          | (go_at_call 17; (with_reducible refine (H2.out _ HP3.out).mono ?_); rintro e w4 ⟨rfl, hb4⟩; have HP4 := Lib.hid (HC.out.next HP3.out hb4); have HB4 := Lib.hid (HB3.out.trans (hb4.mono HB3.out.size)); clear hb4)
          | (go_at_call 17; (with_reducible refine (H3.out _ HP4.out).mono ?_); rintro e w5 ⟨rfl, hb5⟩; have HP5 := Lib.hid (HC.out.next HP4.out hb5); have HB5 := Lib.hid (HB4.out.trans (hb5.mono HB4.out.size)); clear hb5)
          | (go_at_call 11; (with_reducible refine (H4.out _ HP5.out).mono ?_); rintro e w6 ⟨rfl, hb6⟩; have HP6 := Lib.hid (HC.out.next HP5.out hb6); have HB6 := Lib.hid (HB5.out.trans (hb6.mono HB5.out.size)); clear hb6))
        go_ret
        exact ⟨rfl, HB6.out⟩
    · rw [openR_tag hok htg] at h3
      have H3 := Lib.hid h3
      generalize sealB K N data text = SS at *
      clear hsz h1 h2 h3 hso hss hz h16 hok htg
      go_enter Tryd.func5, Tryd.ntmps5
      go_wp2_with fail
      rw [← hW0]
      refine HA.out.mono ?_
      rintro e w1 ⟨rfl, hb1⟩
      have HP1 := Lib.hid (HC.out.next HP.out hb1)
      have HB1 := Lib.hid (HB0.out.trans (hb1.mono HB0.out.size))
      have HK1 := Lib.hid (HK0.out.next hb1)
      have HN1 := Lib.hid (HN0.out.next hb1)
      clear hb1 hW0
      have ck := HCK.out HK1.out.drew
      have cn := HCN.out HN1.out.drew
      go_wp2_with fail
      go_region
      all_goals
        have HPd : Hid (P w1.drew) := HC.out.next HP1.out ((Below.refl w1.heap.size w1).drew)
        have HBd := Lib.hid (HB1.out.drew)
        generalize w1.drew = wd at *
        rename Hid (P wd) => HP2
        rename Hid (Below W.heap.size W wd) => HB2
        go_wp2_with (first
          | (go_at_call 11; (with_reducible refine (H1.out _ HP2.out).mono ?_); rintro e w3 ⟨rfl, hb3⟩; have HP3 := Lib.hid (HC.out.next HP2.out hb3); have HB3 := Lib.hid (HB2.out.trans (hb3.mono HB2.out.size)); clear hb3)
          | (go_at_call 17; (with_reducible refine (H2.out _ HP3.out).mono ?_); rintro e w4 ⟨rfl, hb4⟩; have HP4 := Lib.hid (HC.out.next HP3.out hb4); have HB4 := Lib.hid (HB3.out.trans (hb4.mono HB3.out.size)); clear hb4)
          | (go_at_call 17; (with_reducible refine (H3.out _ HP4.out).mono ?_); rintro e w5 ⟨rfl, hb5⟩; have HP5 := Lib.hid (HC.out.next HP4.out hb5); have HB5 := Lib.hid (HB4.out.trans (hb5.mono HB4.out.size)); clear hb5))
        go_ret
        exact ⟨rfl, HB5.out⟩
end Go.Proofs.YtppikhhapaejjaaDoor
namespace Go.Proofs.YtppikhhapaejjaaDoor
open Go.RowKit

def turnAt (l : List UInt8) (j : Nat) (c : UInt8) (h : j < l.length) : List UInt8 := l.set j (l[j] ^^^ c)
theorem xor_ne (b c : UInt8) (h : c ≠ 0) : b ^^^ c ≠ b := by
  intro e
  have h3 : b ^^^ (b ^^^ c) = b ^^^ b := by rw [e]
  rw [← UInt8.xor_assoc, UInt8.xor_self, UInt8.zero_xor] at h3
  exact h h3
theorem turnAt_tag (k n d s : ByteArray) (j : Nat) (h : j < s.data.toList.length) (hj : s.size - 16 ≤ j) (c : UInt8) (hc : c ≠ 0) (ht : tagOk k n d s) (S : ByteArray) (hS : S = ⟨(turnAt s.data.toList j c h).toArray⟩) : ¬ tagOk k n d S ∧ S.size = s.size := by
  have hl : S.data.toList = turnAt s.data.toList j c h := by rw [hS]
  have hsz : S.size = s.size := by rw [← ba_sz, hl, turnAt, List.length_set, ba_sz]
  refine ⟨fun h2 => ?_, hsz⟩
  have hb : bodyB S = bodyB s := by
    apply ba_ext
    rw [bodyB, bodyB, ext_toList, ext_toList, hl, hsz, turnAt, List.drop_zero, List.drop_zero, Nat.sub_zero, List.take_set_of_le (by omega)]
  rw [tagOk, hb, ← ht] at h2
  have he : S = s := by rw [← parts_B S, ← parts_B s, hb, h2]
  have h3 := congrArg (fun b : ByteArray => b.data.toList[j]?) he
  simp only [hl, turnAt] at h3
  rw [List.getElem?_set, if_pos rfl, if_pos h, List.getElem?_eq_getElem h] at h3
  exact xor_ne _ c hc (Option.some.inj h3)

set_option maxHeartbeats 1000000 in
set_option maxRecDepth 100000 in
theorem aeadTurned_walk {P : World → Prop} (C : AeadC P) (zk zn : List Int) (data text : ByteArray) (at' b5 : Int) (n0 : zk.length = 32) (w0 : ∀ z ∈ zk, (Lit.int .u8 z).wf = true) (n1 : zn.length = 12) (w1 : ∀ z ∈ zn, (Lit.int .u8 z).wf = true) (wa : (Lit.int .u8 at').wf = true) (wb : (Lit.int .u8 b5).wf = true) (W : World) (hp : P W) :
    Calls Tryd.prog 6 #[.agg (zk.map (Value.int .u8)).toArray, .agg (zn.map (Value.int .u8)).toArray, .string data, .string text, .int .u8 at', .int .u8 b5] W fun e W' => e = .returned (.bool true) ∧ Below W.heap.size W W' := by
  obtain ⟨kb, hkb, hkl⟩ := u8_of zk w0
  obtain ⟨nb, hnb, hnl⟩ := u8_of zn w1
  rw [hkb, hnb, show (u8s kb).toArray = rowB kb from rfl, show (u8s nb).toArray = rowB nb from rfl]
  rw [n0] at hkl
  rw [n1] at hnl
  clear hkb hnb w0 w1 n0 n1 zk zn
  obtain ⟨KR, hKR⟩ : ∃ KR, KR = rowB kb := ⟨_, rfl⟩
  obtain ⟨NR, hNR⟩ : ∃ NR, NR = rowB nb := ⟨_, rfl⟩
  rw [← hKR, ← hNR]
  obtain ⟨K, hK⟩ : ∃ K : ByteArray, K = ⟨kb.toArray⟩ := ⟨_, rfl⟩
  obtain ⟨N, hN⟩ : ∃ N : ByteArray, N = ⟨nb.toArray⟩ := ⟨_, rfl⟩
  have hKs : K.size = 32 := by rw [hK]; show kb.toArray.size = 32; rw [List.size_toArray, hkl]
  have hNs : N.size = 12 := by rw [hN]; show nb.toArray.size = 12; rw [List.size_toArray, hnl]
  have hz := szB_mk hKs hNs
  have HCK : Hid (∀ {w : World} {g : Nat}, Arr w g KR 30 → (convert 32 9 (.slice (some ⟨g, 0, none⟩) 32 32)).run Tryd.prog w = .ok (.string K) w) := by
    intro w g h; rw [hKR] at h; rw [hK]; exact conv_rowB h hkl
  have HCN : Hid (∀ {w : World} {g : Nat}, Arr w g NR 31 → (convert 32 9 (.slice (some ⟨g, 0, none⟩) 12 12)).run Tryd.prog w = .ok (.string N) w) := by
    intro w g h; rw [hNR] at h; rw [hN]; exact conv_rowB h hnl
  obtain ⟨W0, hW0⟩ : ∃ W0, W0 = (W.alloc (.cells KR 30)).alloc (.cells NR 31) := ⟨_, rfl⟩
  have hB0 : Below W.heap.size W W0 := by rw [hW0]; exact ((Below.refl W.heap.size W).alloc (Nat.le_refl _) _).alloc (by simp) _
  have hP0 : P W0 := by rw [hW0]; exact C.alloc _ (C.alloc _ hp)
  have hAK : Arr W0 W.heap.size KR 30 := by rw [hW0]; exact (Arr.new W KR _).alloc _
  have hAN : Arr W0 (W.heap.size + 1) NR 31 := by rw [hW0]; exact Arr.newAt (W.alloc (.cells KR 30)) NR _ (by simp)
  have HA := Lib.hid (C.awake W0 hP0)
  have HP := Lib.hid hP0
  have HB0 := Lib.hid hB0
  have HC := Lib.hid C
  have HK0 := Lib.hid hAK
  have HN0 := Lib.hid hAN
  have a32 := arr32_all
  have a12 := arr12_all
  clear hp C hB0 hP0 hAK hAN hK hN hKR hNR hkl hnl hKs hNs
  have hWs : W0.heap.size = W.heap.size + 1 + 1 := by rw [hW0]; simp
  obtain ⟨a0, a1⟩ := wf_u8 wa
  obtain ⟨b0, b1'⟩ := wf_u8 wb
  obtain ⟨c, hcb⟩ : ∃ c : UInt8, b5 = (c.toNat : Int) := ⟨UInt8.ofNat b5.toNat, by rw [UInt8.toNat_ofNat']; omega⟩
  subst hcb
  obtain ⟨r, hr⟩ : ∃ r : Nat, at' % 16 = (r : Int) := Int.eq_ofNat_of_zero_le (by omega)
  have hr16 : r < 16 := by omega
  clear wa wb b0 b1'
  by_cases hsz : 512 < data.size ∨ 512 < text.size ∨ c = 0
  · rcases (show 512 < data.size ∨ (data.size ≤ 512 ∧ 512 < text.size) ∨ (data.size ≤ 512 ∧ text.size ≤ 512 ∧ c = 0) by
      rcases hsz with h | h | h
      · exact Or.inl h
      · by_cases h' : 512 < data.size
        · exact Or.inl h'
        · exact Or.inr (Or.inl ⟨by omega, h⟩)
      · by_cases h' : 512 < data.size
        · exact Or.inl h'
        · by_cases h'' : 512 < text.size
          · exact Or.inr (Or.inl ⟨by omega, h''⟩)
          · exact Or.inr (Or.inr ⟨by omega, by omega, h⟩)) with h | ⟨h1, h⟩ | ⟨h1, h2, h⟩
    · have b1 : decide (512 < (data.size : Int)) = true := decide_eq_true (by omega)
      clear hsz h hz
      go_enter Tryd.func6, Tryd.ntmps6
      go_wp2_with fail
      rw [← hW0]
      refine HA.out.mono ?_
      rintro e w1 ⟨rfl, hb1⟩
      have HP1 := Lib.hid (HC.out.next HP.out hb1)
      have HB1 := Lib.hid (HB0.out.trans (hb1.mono HB0.out.size))
      have HK1 := Lib.hid (HK0.out.next hb1)
      have HN1 := Lib.hid (HN0.out.next hb1)
      clear hb1 hW0
      go_wp2
      go_ret
      exact ⟨rfl, HB1.out⟩
    · have b1 : decide (512 < (data.size : Int)) = false := decide_eq_false (by omega)
      have b2 : decide (512 < (text.size : Int)) = true := decide_eq_true (by omega)
      clear hsz h h1 hz
      go_enter Tryd.func6, Tryd.ntmps6
      go_wp2_with fail
      rw [← hW0]
      refine HA.out.mono ?_
      rintro e w1 ⟨rfl, hb1⟩
      have HP1 := Lib.hid (HC.out.next HP.out hb1)
      have HB1 := Lib.hid (HB0.out.trans (hb1.mono HB0.out.size))
      have HK1 := Lib.hid (HK0.out.next hb1)
      have HN1 := Lib.hid (HN0.out.next hb1)
      clear hb1 hW0
      go_wp2
      go_ret
      exact ⟨rfl, HB1.out⟩
    · have b1 : decide (512 < (data.size : Int)) = false := decide_eq_false (by omega)
      have b2 : decide (512 < (text.size : Int)) = false := decide_eq_false (by omega)
      have b3 : ((c.toNat : Int) == 0) = true := by rw [h]; rfl
      clear hsz h h1 h2 hz
      go_enter Tryd.func6, Tryd.ntmps6
      go_wp2_with fail
      rw [← hW0]
      refine HA.out.mono ?_
      rintro e w1 ⟨rfl, hb1⟩
      have HP1 := Lib.hid (HC.out.next HP.out hb1)
      have HB1 := Lib.hid (HB0.out.trans (hb1.mono HB0.out.size))
      have HK1 := Lib.hid (HK0.out.next hb1)
      have HN1 := Lib.hid (HN0.out.next hb1)
      clear hb1 hW0
      go_wp2
      go_ret
      exact ⟨rfl, HB1.out⟩
  have b1 : decide (512 < (data.size : Int)) = false := decide_eq_false (by omega)
  have b2 : decide (512 < (text.size : Int)) = false := decide_eq_false (by omega)
  have hc0 : c ≠ 0 := fun h => hsz (Or.inr (Or.inr h))
  have b3 : ((c.toNat : Int) == 0) = false := by
    rw [beq_eq_false_iff_ne]
    intro e
    exact hc0 (UInt8.toNat_inj.1 (by simpa using e))
  have hso : sealOk K N data text := ⟨hz, by omega, by omega⟩
  have hss := sealB_size K N data text
  have h1 := HC.out.seal' K N data text (small_max (m := 512) (by omega) (by decide)) (small_max (m := 512) (by omega) (by decide))
  rw [sealR_ok hso] at h1
  have htg := tag_seal K N data text
  generalize sealB K N data text = SS at *
  have hS16 : (SS.size : Int) ≤ 528 := by omega
  have hS16' : (16 : Int) ≤ (SS.size : Int) := by omega
  obtain ⟨J, hJ⟩ : ∃ J, J = SS.size - 1 - r := ⟨_, rfl⟩
  have hJl : J < SS.data.toList.length := by rw [ba_sz]; omega
  obtain ⟨S2, hS2⟩ : ∃ S2 : ByteArray, S2 = ⟨(turnAt SS.data.toList J c hJl).toArray⟩ := ⟨_, rfl⟩
  obtain ⟨hnt, hs2⟩ := turnAt_tag K N data SS J hJl (by omega) c hc0 htg S2 hS2
  have h2 := HC.out.open' K N data S2 (small_max (m := 512) (by omega) (by decide)) (small_max (m := 528) (by omega) (by decide))
  rw [openR_tag ⟨hz, by omega, by omega, by omega⟩ hnt] at h2
  have H1 := Lib.hid h1
  have H2 := Lib.hid h2
  have HS2 := Lib.hid hS2
  have eJ : (SS.size : Int) - 1 - (r : Int) = (J : Int) := by omega
  have J0 : (0 : Int) ≤ (J : Int) := by omega
  have Jl : (J : Int) < (SS.size : Int) := by omega
  have r16 : (r : Int) ≤ 15 := by omega
  have HJ := Lib.hid hJl
  clear hsz h1 h2 hso hz htg hnt hs2 hS2 hJ hss
  go_enter Tryd.func6, Tryd.ntmps6
  go_wp2_with fail
  rw [← hW0]
  refine HA.out.mono ?_
  rintro e w1 ⟨rfl, hb1⟩
  have HP1 := Lib.hid (HC.out.next HP.out hb1)
  have HB1 := Lib.hid (HB0.out.trans (hb1.mono HB0.out.size))
  have HK1 := Lib.hid (HK0.out.next hb1)
  have HN1 := Lib.hid (HN0.out.next hb1)
  clear hb1 hW0
  have ck := HCK.out HK1.out.drew
  have cn := HCN.out HN1.out.drew
  go_wp2_with fail
  go_region
  have HP2 : Hid (P w1.drew) := HC.out.next HP1.out ((Below.refl w1.heap.size w1).drew)
  have HB2 := Lib.hid (HB1.out.drew)
  clear ck cn
  generalize w1.drew = wd at *
  go_wp2_with (first
    | (go_at_call 11; (with_reducible refine (H1.out _ HP2.out).mono ?_); rintro e w3 ⟨rfl, hb3⟩; have HP3 := Lib.hid (HC.out.next HP2.out hb3); have HB3 := Lib.hid (HB2.out.trans (hb3.mono HB2.out.size)); clear hb3)
    | (with_reducible refine wpList_conv_str _ (o := ⟨some 54, _, _, _, _, _⟩) rfl _ rfl _ rfl ?_))
  intro cap w4 hB hb4 hsz4
  have hlow := HB3.out.size
  have HB4 := Lib.hid (HB3.out.trans (hb4.mono HB3.out.size))
  have HP4 := Lib.hid (HC.out.next HP3.out hb4)
  have hcell := (hB J hJl).1
  have hfree := (hB J hJl).2
  have hB5 := hB.set J hJl (SS.data.toList[J] ^^^ c)
  have hx : bits .xor .u8 (((SS.data.toList[J]).toNat : Nat) : Int) (c.toNat : Int) = (((SS.data.toList[J] ^^^ c).toNat : Nat) : Int) := xor_num _ _
  have hS3 : S2 = ⟨(SS.data.toList.set J (SS.data.toList[J] ^^^ c)).toArray⟩ := HS2.out
  clear HS2
  generalize SS.data.toList[J] = b0 at *
  generalize b0 ^^^ c = b9 at *
  have cv := hB5.conv cap
  rw [← hS3, List.length_set, ba_sz] at cv
  have HP5 : Hid (P (w4.setCell ⟨w3.heap.size, J, none⟩ (.int .u8 (b9.toNat : Int)))) := HC.out.next HP3.out (hb4.setCell (p := ⟨w3.heap.size, J, none⟩) (Nat.le_refl _) _)
  have HB5 := Lib.hid (HB4.out.setCell (p := ⟨w3.heap.size, J, none⟩) hlow (.int .u8 (b9.toNat : Int)))
  clear hB hb4 hB5 hS3
  go_wp2_with (first
    | (go_at_call 17; (with_reducible refine (H2.out _ HP5.out).mono ?_); rintro e w6 ⟨rfl, hb6⟩))
  go_ret
  exact ⟨rfl, HB5.out.trans (hb6.mono HB5.out.size)⟩
end Go.Proofs.YtppikhhapaejjaaDoor
namespace Go.Proofs.YtppikhhapaejjaaDoor
open Go.RowKit

def qL (k : Nat) : List UInt8 := (List.range k).map fun i => UInt8.ofNat (128 + i)
theorem qL_len (k : Nat) : (qL k).length = k := by simp [qL]
theorem qL_succ (k : Nat) : qL (k + 1) = qL k ++ [UInt8.ofNat (128 + k)] := by simp [qL, List.range_succ]
theorem ex_once : strmL (List.replicate 32 0) 0 (List.replicate 12 0) 32 = [118, 184, 224, 173, 160, 241, 61, 144, 64, 93, 106, 229, 83, 134, 189, 40, 189, 210, 25, 184, 160, 141, 237, 26, 168, 54, 239, 204, 139, 119, 13, 199] := by decide +kernel
theorem ex_str : xorL [116, 101, 120, 116] (strmL (List.replicate 32 0) 1 (List.replicate 12 0) 4) = [235, 98, 159, 202] := by decide +kernel
theorem ex_lad : xorL [76, 97, 100, 105, 101, 115] (strmL (qL 32) 1 [7, 0, 0, 0, 64, 65, 66, 67, 68, 69, 70, 71] 6) = [211, 26, 141, 52, 100, 142] := by decide +kernel
theorem ex_tags : ¬ tagL [118, 184, 224, 173, 160, 241, 61, 144, 64, 93, 106, 229, 83, 134, 189, 40, 189, 210, 25, 184, 160, 141, 237, 26, 168, 54, 239, 204, 139, 119, 13, 199] ([100, 0, 0, 0, 0, 0, 0, 0, 0, 0, 0, 0, 0, 0, 0, 0, 235, 98, 159, 202, 0, 0, 0, 0, 0, 0, 0, 0, 0, 0, 0, 0, 1, 0, 0, 0, 0, 0, 0, 0, 4, 0, 0, 0, 0, 0, 0, 0]) = tagL [118, 184, 224, 173, 160, 241, 61, 144, 64, 93, 106, 229, 83, 134, 189, 40, 189, 210, 25, 184, 160, 141, 237, 26, 168, 54, 239, 204, 139, 119, 13, 199] ([120, 0, 0, 0, 0, 0, 0, 0, 0, 0, 0, 0, 0, 0, 0, 0, 235, 98, 159, 202, 0, 0, 0, 0, 0, 0, 0, 0, 0, 0, 0, 0, 1, 0, 0, 0, 0, 0, 0, 0, 4, 0, 0, 0, 0, 0, 0, 0]) := by decide +kernel
theorem zB_list (n : Nat) : (zeros n).data.toList = List.replicate n 0 := by simp [zeros]
theorem szB_zero : szB (zeros 32) (zeros 12) = true := szB_mk (zeros_size 32) (zeros_size 12)
theorem once_list : (onceB (zeros 32) (zeros 12)).data.toList = [118, 184, 224, 173, 160, 241, 61, 144, 64, 93, 106, 229, 83, 134, 189, 40, 189, 210, 25, 184, 160, 141, 237, 26, 168, 54, 239, 204, 139, 119, 13, 199] := by rw [onceB, strmB_list, zB_list, zB_list, ex_once]
theorem turnB_list (k n t : ByteArray) : (turnB k n t).data.toList = xorL t.data.toList (strmL k.data.toList 1 n.data.toList t.size) := by rw [turnB]
theorem turn_text : (turnB (zeros 32) (zeros 12) (ByteArray.mk #[116, 101, 120, 116])).data.toList = [235, 98, 159, 202] := by
  rw [turnB_list, zB_list, zB_list]; exact ex_str
theorem cov_d (c : UInt8) (X : ByteArray) (hX : X.data.toList = [235, 98, 159, 202]) : (covB (ByteArray.mk #[c]) X).data.toList = [c, 0, 0, 0, 0, 0, 0, 0, 0, 0, 0, 0, 0, 0, 0, 0, 235, 98, 159, 202, 0, 0, 0, 0, 0, 0, 0, 0, 0, 0, 0, 0, 1, 0, 0, 0, 0, 0, 0, 0, 4, 0, 0, 0, 0, 0, 0, 0] := by
  have hs : X.size = 4 := by rw [← ba_sz, hX]; rfl
  have h1 : fillMore 1 16 = 15 := by decide
  have h2 : fillMore 4 16 = 12 := by decide
  have h3 : (lenB 1).data.toList = [1, 0, 0, 0, 0, 0, 0, 0] := by rw [lenB, ba_list]; decide
  have h4 : (lenB 4).data.toList = [4, 0, 0, 0, 0, 0, 0, 0] := by rw [lenB, ba_list]; decide
  have h5 : (ByteArray.mk #[c]).size = 1 := rfl
  simp only [covB, ba_app, fillB_list, hX, hs, h1, h2, h3, h4, h5]
  rfl
theorem not_tag : ¬ tagOk (zeros 32) (zeros 12) (ByteArray.mk #[120]) (sealB (zeros 32) (zeros 12) (ByteArray.mk #[100]) (ByteArray.mk #[116, 101, 120, 116])) := by
  rw [tagOk, tail_seal, body_seal, tag6, tag6]
  intro h
  have h2 := congrArg (fun b : ByteArray => b.data.toList) h
  simp only [tagB, once_list, cov_d _ _ turn_text] at h2
  exact ex_tags h2
theorem lad_six (Q : ByteArray) (hQ : Q.data.toList = qL 32) : (sealB Q ⟨#[7, 0, 0, 0, 64, 65, 66, 67, 68, 69, 70, 71]⟩ ⟨#[]⟩ ⟨#[76, 97, 100, 105, 101, 115]⟩).extract 0 6 = ⟨#[211, 26, 141, 52, 100, 142]⟩ := by
  rw [sealB, ext_left _ _ 6 (turnB_size _ _ _)]
  apply ba_ext
  rw [turnB_list, hQ]; exact ex_lad
theorem once_four : (onceB (zeros 32) (zeros 12)).extract 0 4 = ⟨#[118, 184, 224, 173]⟩ := by
  apply ba_ext
  rw [ext_toList, once_list]; rfl

theorem ex_calls {P : World → Prop} (C : AeadB P) (Q : ByteArray) (hQ : Q.data.toList = qL 32) : ∃ s1 t1 o1 c1 : ByteArray,
    s1.size = 22 ∧ s1.extract 0 6 = ⟨#[211, 26, 141, 52, 100, 142]⟩ ∧ t1.size = 20 ∧ o1.size = 32 ∧ o1.extract 0 4 = ⟨#[118, 184, 224, 173]⟩ ∧ c1.size = 32
    ∧ (∀ w, P w → Calls Tryd.prog 11 #[.string Q, .string ⟨#[7, 0, 0, 0, 64, 65, 66, 67, 68, 69, 70, 71]⟩, .string ⟨#[]⟩, .string ⟨#[76, 97, 100, 105, 101, 115]⟩] w fun e w' => e = .returned (.tuple #[.string s1, .int .i64 0]) ∧ Below w.heap.size w w')
    ∧ (∀ w, P w → Calls Tryd.prog 11 #[.string (zeros 32), .string (zeros 12), .string ⟨#[100]⟩, .string ⟨#[116, 101, 120, 116]⟩] w fun e w' => e = .returned (.tuple #[.string t1, .int .i64 0]) ∧ Below w.heap.size w w')
    ∧ (∀ w, P w → Calls Tryd.prog 17 #[.string (zeros 32), .string (zeros 12), .string ⟨#[100]⟩, .string t1] w fun e w' => e = .returned (.tuple #[.string ⟨#[116, 101, 120, 116]⟩, .int .i64 0]) ∧ Below w.heap.size w w')
    ∧ (∀ w, P w → Calls Tryd.prog 17 #[.string (zeros 32), .string (zeros 12), .string ⟨#[120]⟩, .string t1] w fun e w' => e = .returned (.tuple #[.string ByteArray.empty, .int .i64 20]) ∧ Below w.heap.size w w')
    ∧ (∀ w, P w → Calls Tryd.prog 11 #[.string ⟨#[]⟩, .string (zeros 12), .string ⟨#[]⟩, .string ⟨#[]⟩] w fun e w' => e = .returned (.tuple #[.string ByteArray.empty, .int .i64 5]) ∧ Below w.heap.size w w')
    ∧ (∀ w, P w → Calls Tryd.prog 17 #[.string (zeros 32), .string (zeros 12), .string ⟨#[]⟩, .string ⟨#[115, 104, 111, 114, 116]⟩] w fun e w' => e = .returned (.tuple #[.string ByteArray.empty, .int .i64 5]) ∧ Below w.heap.size w w')
    ∧ (∀ w, P w → Calls Tryd.prog 13 #[.string (zeros 32), .string (zeros 12)] w fun e w' => e = .returned (.tuple #[.string o1, .int .i64 0]) ∧ Below w.heap.size w w')
    ∧ (∀ w, P w → Calls Tryd.prog 15 #[.string ⟨#[97]⟩, .string ⟨#[]⟩] w fun e w' => e = .returned (.string c1) ∧ Below w.heap.size w w') := by
  have hq : Q.size = 32 := by rw [← ba_sz, hQ]; exact qL_len 32
  have ok1 : sealOk Q ⟨#[7, 0, 0, 0, 64, 65, 66, 67, 68, 69, 70, 71]⟩ ⟨#[]⟩ ⟨#[76, 97, 100, 105, 101, 115]⟩ := ⟨szB_mk hq rfl, by decide, by decide⟩
  have ok2 : sealOk (zeros 32) (zeros 12) ⟨#[100]⟩ ⟨#[116, 101, 120, 116]⟩ := ⟨szB_zero, by decide, by decide⟩
  have sz2 : (sealB (zeros 32) (zeros 12) ⟨#[100]⟩ ⟨#[116, 101, 120, 116]⟩).size = 20 := sealB_size _ _ _ _
  have ok3 : openOk (zeros 32) (zeros 12) ⟨#[120]⟩ (sealB (zeros 32) (zeros 12) ⟨#[100]⟩ ⟨#[116, 101, 120, 116]⟩) := ⟨szB_zero, by decide, by rw [sz2]; decide, by rw [sz2]; decide⟩
  have no4 : ¬ sealOk ⟨#[]⟩ (zeros 12) ⟨#[]⟩ ⟨#[]⟩ := fun h => by have := h.1; revert this; decide
  have no5 : ¬ openOk (zeros 32) (zeros 12) ⟨#[]⟩ ⟨#[115, 104, 111, 114, 116]⟩ := fun h => absurd h.2.2.1 (by decide)
  refine ⟨sealB Q ⟨#[7, 0, 0, 0, 64, 65, 66, 67, 68, 69, 70, 71]⟩ ⟨#[]⟩ ⟨#[76, 97, 100, 105, 101, 115]⟩, sealB (zeros 32) (zeros 12) ⟨#[100]⟩ ⟨#[116, 101, 120, 116]⟩, onceB (zeros 32) (zeros 12), covB ⟨#[97]⟩ ⟨#[]⟩, sealB_size _ _ _ _, lad_six Q hQ, sz2, onceB_size _ _, once_four, covB_size _ _, ?_, ?_, ?_, ?_, ?_, ?_, ?_, ?_⟩
  · intro w hw; have := C.seal' Q ⟨#[7, 0, 0, 0, 64, 65, 66, 67, 68, 69, 70, 71]⟩ ⟨#[]⟩ ⟨#[76, 97, 100, 105, 101, 115]⟩ (by decide) (by decide) w hw; rwa [sealR_ok ok1] at this
  · intro w hw; have := C.seal' (zeros 32) (zeros 12) ⟨#[100]⟩ ⟨#[116, 101, 120, 116]⟩ (by decide) (by decide) w hw; rwa [sealR_ok ok2] at this
  · intro w hw; have := C.open' (zeros 32) (zeros 12) ⟨#[100]⟩ (sealB (zeros 32) (zeros 12) ⟨#[100]⟩ ⟨#[116, 101, 120, 116]⟩) (by decide) (by rw [sz2]; decide) w hw; rwa [open_seal ok2] at this
  · intro w hw; have := C.open' (zeros 32) (zeros 12) ⟨#[120]⟩ (sealB (zeros 32) (zeros 12) ⟨#[100]⟩ ⟨#[116, 101, 120, 116]⟩) (by decide) (by rw [sz2]; decide) w hw; rwa [openR_tag ok3 not_tag] at this
  · intro w hw; have := C.seal' ⟨#[]⟩ (zeros 12) ⟨#[]⟩ ⟨#[]⟩ (by decide) (by decide) w hw; rwa [sealR_no no4] at this
  · intro w hw; have := C.open' (zeros 32) (zeros 12) ⟨#[]⟩ ⟨#[115, 104, 111, 114, 116]⟩ (by decide) (by decide) w hw; rwa [openR_no no5] at this
  · intro w hw; have := C.once (zeros 32) (zeros 12) w hw; rwa [onceR, if_pos szB_zero] at this
  · intro w hw; exact C.cov ⟨#[97]⟩ ⟨#[]⟩ (by decide) (by decide) w hw

theorem byte_128 {k : Nat} (h : k < 32) : 128 + (k : Int) = ((UInt8.ofNat (128 + k)).toNat : Int) := by
  rw [UInt8.toNat_ofNat', Nat.mod_eq_of_lt (by omega)]
  omega
set_option maxHeartbeats 4000000 in
set_option maxRecDepth 100000 in
theorem awake6_walk {P : World → Prop} (C : AeadB P) (W : World) (hp : P W) :
    Calls Tryd.prog 9 #[] W fun e w' => e = .returned (.bool true) ∧ Below W.heap.size W w' := by
  have HP := Lib.hid hp
  have HC := Lib.hid C
  have mk32 := makeZ 32 (by decide)
  have mk12 := makeZ 12 (by decide)
  rw [show ((32 : Nat) : Int) = 32 from rfl] at mk32
  rw [show ((12 : Nat) : Int) = 12 from rfl] at mk12
  have cvg : ∀ (n : Nat) {w : World} {g : Nat}, Arr w g (zrow n) 5 → (convert 32 9 (.slice (some ⟨g, 0, none⟩) n n)).run Tryd.prog w = .ok (.string (zeros n)) w := by
    intro n w g h
    have := conv_cells w ⟨g, 0, none⟩ (List.replicate n 0) n (fun j v hv => by
      rw [addr_add, Nat.zero_add]; exact h.cell (by rw [zrow, List.getElem?_toArray]; exact hv))
    rw [List.length_replicate] at this
    rw [this, zeros]; simp
  have sz1 : ∀ o, W.heap.size + 1 = (W.alloc o).heap.size := fun o => by show _ = (W.heap.push _).size; simp
  have q1 := cvg 32 (Arr.new W (zrow 32) 5)
  have q2 := cvg 32 (Arr.new W (zrow 32) 5).drew
  have q3 := cvg 32 ((Arr.new W (zrow 32) 5).alloc (.cells (zrow 12) 5))
  have q4 := cvg 32 ((Arr.new W (zrow 32) 5).alloc (.cells (zrow 12) 5)).drew
  have q5 := cvg 32 ((Arr.new W (zrow 32) 5).drew.alloc (.cells (zrow 12) 5))
  have q6 := cvg 32 (Arr.newAt (W.alloc (.cells (zrow 12) 5)) (zrow 32) 5 (sz1 _))
  have q7 := cvg 32 (Arr.newAt (W.alloc (.cells (zrow 12) 5)) (zrow 32) 5 (sz1 _)).drew
  have q8 := cvg 32 (Arr.newAt (W.alloc (.cells (zrow 12) 5)).drew (zrow 32) 5 (sz1 _))
  have q9 := cvg 32 (Arr.newAt (W.alloc (.cells (zrow 12) 5)).drew (zrow 32) 5 (sz1 _)).drew
  have q10 := cvg 12 (Arr.new W (zrow 12) 5)
  have q11 := cvg 12 (Arr.new W (zrow 12) 5).drew
  have q12 := cvg 12 ((Arr.new W (zrow 12) 5).alloc (.cells (zrow 32) 5))
  have q13 := cvg 12 ((Arr.new W (zrow 12) 5).alloc (.cells (zrow 32) 5)).drew
  have q14 := cvg 12 ((Arr.new W (zrow 12) 5).drew.alloc (.cells (zrow 32) 5))
  have q15 := cvg 12 (Arr.newAt (W.alloc (.cells (zrow 32) 5)) (zrow 12) 5 (sz1 _))
  have q16 := cvg 12 (Arr.newAt (W.alloc (.cells (zrow 32) 5)) (zrow 12) 5 (sz1 _)).drew
  have q17 := cvg 12 (Arr.newAt (W.alloc (.cells (zrow 32) 5)).drew (zrow 12) 5 (sz1 _))
  have q18 := cvg 12 (Arr.newAt (W.alloc (.cells (zrow 32) 5)).drew (zrow 12) 5 (sz1 _)).drew
  clear hp C cvg sz1
  go_enter Tryd.func9, Tryd.ntmps9
  go_wp2_with fail
  go_region
  · clear mk32 mk12 q1 q2 q3 q4 q5 q6 q7 q8 q9 q10 q11 q12 q13 q14 q15 q16 q17 q18
    have HB0 := Lib.hid (((Below.refl W.heap.size W).alloc (Nat.le_refl _) (.cells (zrow 32) 5)).alloc (by show _ ≤ (W.heap.push _).size; simp) (.cells (zrow 12) 5)).drew
    have HP0 := Lib.hid (HC.out.next (HC.out.alloc (.cells (zrow 12) 5) (HC.out.alloc (.cells (zrow 32) 5) HP.out)) (Below.refl _ _).drew)
    generalize ((W.alloc (.cells (zrow 32) 5)).alloc (.cells (zrow 12) 5)).drew = w0 at HB0 HP0 ⊢
    have hsz0 := HB0.out.size
    have hst := Lib.hid (Ob.start w0 W.heap.size hsz0)
    have hbe := Lib.hid (HB0.out.alloc hsz0 (.cells #[] 5))
    go_wp2_with fail
    go_loopw [3, 4] (fun v i wr => ∃ k : Nat, k ≤ 32 ∧ i = .int .i64 k ∧ Ob wr W.heap.size v (qL k) ∧ Below W.heap.size W wr) (fun _ i _ => 32 - (intOf i).toNat)
    case atStart => exact ⟨0, by omega, rfl, hst.out, hbe.out⟩
    case round =>
      clear hst hbe HB0 HP0
      obtain ⟨k, hk, rfl, hown, hbel⟩ := hrel
      have HQ := Lib.hid (qL_succ k)
      have HL := Lib.hid (qL_len k)
      by_cases hlt : k < 32
      · have d1 : (k : Int) < 32 := by omega
        obtain ⟨c, hc⟩ : ∃ c, c = UInt8.ofNat (128 + k) := ⟨_, rfl⟩
        rw [← hc] at HQ
        have HBv : Hid (128 + (k : Int) = (c.toNat : Int)) := hc ▸ byte_128 hlt
        clear hc
        go_wp2_with (at_builtin; refine wpList_push wr rfl _ _ rfl W.heap.size _ (qL k) rfl rfl hown c HBv.out (by rw [HL.out]; omega) hbel.size ?_)
        intro v' w1 hown' hb1
        go_wp2
        go_roundw
        case rel => exact ⟨k + 1, by omega, by go_num, by rw [HQ.out]; exact hown', hbel.trans hb1⟩
        case measure => simp [intOf]; omega
      · obtain rfl : k = 32 := by omega
        have hq : (⟨(qL 32).toArray⟩ : ByteArray).data.toList = qL 32 := ba_list _
        generalize hQ : (⟨(qL 32).toArray⟩ : ByteArray) = Q at hq
        have d1 : ¬ (((32 : Nat) : Int) < 32) := by omega
        clear hlt hk HQ HL
        obtain ⟨s1, t1, o1, c1, g1, g2, g3, g4, g5, g6, h1, h2, h3, h4, h5, h6, h7, h8⟩ := ex_calls HC.out Q hq
        have H1 := Lib.hid h1
        have H2 := Lib.hid h2
        have H3 := Lib.hid h3
        have H4 := Lib.hid h4
        have H5 := Lib.hid h5
        have H6 := Lib.hid h6
        have H7 := Lib.hid h7
        have H8 := Lib.hid h8
        have hp1 := Lib.hid (HC.out.next HP.out hbel)
        have k1 : (s1.size : Int) = 22 := by omega
        have k2 : (t1.size : Int) = 20 := by omega
        have k3 : (o1.size : Int) = 32 := by omega
        have k4 : (c1.size : Int) = 32 := by omega
        have hcat : Below W.heap.size W wr := hbel
        have HW := Lib.hid hbel
        clear h1 h2 h3 h4 h5 h6 h7 h8 hq hcat
        go_wp2_with (first
          | with_reducible refine wpList_ob_string _ rfl _ rfl hown rfl ?_
          | (go_at_call 11; (with_reducible refine (H1.out _ hp1.out).mono ?_); rintro e w2 ⟨rfl, hb2⟩; have hp2 := Lib.hid (HC.out.next hp1.out hb2))
          | (go_at_call 11; (with_reducible refine (H2.out _ hp2.out).mono ?_); rintro e w3 ⟨rfl, hb3⟩; have hp3 := Lib.hid (HC.out.next hp2.out hb3))
          | (go_at_call 17; (with_reducible refine (H3.out _ hp3.out).mono ?_); rintro e w4 ⟨rfl, hb4⟩; have hp4 := Lib.hid (HC.out.next hp3.out hb4))
          | (go_at_call 17; (with_reducible refine (H4.out _ hp4.out).mono ?_); rintro e w5 ⟨rfl, hb5⟩; have hp5 := Lib.hid (HC.out.next hp4.out hb5))
          | (go_at_call 11; (with_reducible refine (H5.out _ hp5.out).mono ?_); rintro e w6 ⟨rfl, hb6⟩; have hp6 := Lib.hid (HC.out.next hp5.out hb6))
          | (go_at_call 17; (with_reducible refine (H6.out _ hp6.out).mono ?_); rintro e w7 ⟨rfl, hb7⟩; have hp7 := Lib.hid (HC.out.next hp6.out hb7))
          | (go_at_call 13; (with_reducible refine (H7.out _ hp7.out).mono ?_); rintro e w8 ⟨rfl, hb8⟩; have hp8 := Lib.hid (HC.out.next hp7.out hb8))
          | (go_at_call 15; (with_reducible refine (H8.out _ hp8.out).mono ?_); rintro e w9 ⟨rfl, hb9⟩; have hp9 := Lib.hid (HC.out.next hp8.out hb9)))
        go_ret
        refine ⟨rfl, ?_⟩
        have z1 := HW.out
        have z2 := z1.trans (hb2.mono z1.size)
        have z3 := z2.trans (hb3.mono z2.size)
        have z4 := z3.trans (hb4.mono z3.size)
        have z5 := z4.trans (hb5.mono z4.size)
        have z6 := z5.trans (hb6.mono z5.size)
        have z7 := z6.trans (hb7.mono z6.size)
        have z8 := z7.trans (hb8.mono z7.size)
        exact z8.trans (hb9.mono z8.size)
  · clear mk32 mk12 q1 q2 q3 q4 q5 q6 q7 q8 q9 q10 q11 q12 q13 q14 q15 q16 q17 q18
    have HB0 := Lib.hid (((Below.refl W.heap.size W).alloc (Nat.le_refl _) (.cells (zrow 12) 5)).alloc (by show _ ≤ (W.heap.push _).size; simp) (.cells (zrow 32) 5)).drew
    have HP0 := Lib.hid (HC.out.next (HC.out.alloc (.cells (zrow 32) 5) (HC.out.alloc (.cells (zrow 12) 5) HP.out)) (Below.refl _ _).drew)
    generalize ((W.alloc (.cells (zrow 12) 5)).alloc (.cells (zrow 32) 5)).drew = w0 at HB0 HP0 ⊢
    have hsz0 := HB0.out.size
    have hst := Lib.hid (Ob.start w0 W.heap.size hsz0)
    have hbe := Lib.hid (HB0.out.alloc hsz0 (.cells #[] 5))
    go_wp2_with fail
    go_loopw [3, 4] (fun v i wr => ∃ k : Nat, k ≤ 32 ∧ i = .int .i64 k ∧ Ob wr W.heap.size v (qL k) ∧ Below W.heap.size W wr) (fun _ i _ => 32 - (intOf i).toNat)
    case atStart => exact ⟨0, by omega, rfl, hst.out, hbe.out⟩
    case round =>
      clear hst hbe HB0 HP0
      obtain ⟨k, hk, rfl, hown, hbel⟩ := hrel
      have HQ := Lib.hid (qL_succ k)
      have HL := Lib.hid (qL_len k)
      by_cases hlt : k < 32
      · have d1 : (k : Int) < 32 := by omega
        obtain ⟨c, hc⟩ : ∃ c, c = UInt8.ofNat (128 + k) := ⟨_, rfl⟩
        rw [← hc] at HQ
        have HBv : Hid (128 + (k : Int) = (c.toNat : Int)) := hc ▸ byte_128 hlt
        clear hc
        go_wp2_with (at_builtin; refine wpList_push wr rfl _ _ rfl W.heap.size _ (qL k) rfl rfl hown c HBv.out (by rw [HL.out]; omega) hbel.size ?_)
        intro v' w1 hown' hb1
        go_wp2
        go_roundw
        case rel => exact ⟨k + 1, by omega, by go_num, by rw [HQ.out]; exact hown', hbel.trans hb1⟩
        case measure => simp [intOf]; omega
      · obtain rfl : k = 32 := by omega
        have hq : (⟨(qL 32).toArray⟩ : ByteArray).data.toList = qL 32 := ba_list _
        generalize hQ : (⟨(qL 32).toArray⟩ : ByteArray) = Q at hq
        have d1 : ¬ (((32 : Nat) : Int) < 32) := by omega
        clear hlt hk HQ HL
        obtain ⟨s1, t1, o1, c1, g1, g2, g3, g4, g5, g6, h1, h2, h3, h4, h5, h6, h7, h8⟩ := ex_calls HC.out Q hq
        have H1 := Lib.hid h1
        have H2 := Lib.hid h2
        have H3 := Lib.hid h3
        have H4 := Lib.hid h4
        have H5 := Lib.hid h5
        have H6 := Lib.hid h6
        have H7 := Lib.hid h7
        have H8 := Lib.hid h8
        have hp1 := Lib.hid (HC.out.next HP.out hbel)
        have k1 : (s1.size : Int) = 22 := by omega
        have k2 : (t1.size : Int) = 20 := by omega
        have k3 : (o1.size : Int) = 32 := by omega
        have k4 : (c1.size : Int) = 32 := by omega
        have hcat : Below W.heap.size W wr := hbel
        have HW := Lib.hid hbel
        clear h1 h2 h3 h4 h5 h6 h7 h8 hq hcat
        go_wp2_with (first
          | with_reducible refine wpList_ob_string _ rfl _ rfl hown rfl ?_
          | (go_at_call 11; (with_reducible refine (H1.out _ hp1.out).mono ?_); rintro e w2 ⟨rfl, hb2⟩; have hp2 := Lib.hid (HC.out.next hp1.out hb2))
          | (go_at_call 11; (with_reducible refine (H2.out _ hp2.out).mono ?_); rintro e w3 ⟨rfl, hb3⟩; have hp3 := Lib.hid (HC.out.next hp2.out hb3))
          | (go_at_call 17; (with_reducible refine (H3.out _ hp3.out).mono ?_); rintro e w4 ⟨rfl, hb4⟩; have hp4 := Lib.hid (HC.out.next hp3.out hb4))
          | (go_at_call 17; (with_reducible refine (H4.out _ hp4.out).mono ?_); rintro e w5 ⟨rfl, hb5⟩; have hp5 := Lib.hid (HC.out.next hp4.out hb5))
          | (go_at_call 11; (with_reducible refine (H5.out _ hp5.out).mono ?_); rintro e w6 ⟨rfl, hb6⟩; have hp6 := Lib.hid (HC.out.next hp5.out hb6))
          | (go_at_call 17; (with_reducible refine (H6.out _ hp6.out).mono ?_); rintro e w7 ⟨rfl, hb7⟩; have hp7 := Lib.hid (HC.out.next hp6.out hb7))
          | (go_at_call 13; (with_reducible refine (H7.out _ hp7.out).mono ?_); rintro e w8 ⟨rfl, hb8⟩; have hp8 := Lib.hid (HC.out.next hp7.out hb8))
          | (go_at_call 15; (with_reducible refine (H8.out _ hp8.out).mono ?_); rintro e w9 ⟨rfl, hb9⟩; have hp9 := Lib.hid (HC.out.next hp8.out hb9)))
        go_ret
        refine ⟨rfl, ?_⟩
        have z1 := HW.out
        have z2 := z1.trans (hb2.mono z1.size)
        have z3 := z2.trans (hb3.mono z2.size)
        have z4 := z3.trans (hb4.mono z3.size)
        have z5 := z4.trans (hb5.mono z4.size)
        have z6 := z5.trans (hb6.mono z5.size)
        have z7 := z6.trans (hb7.mono z6.size)
        have z8 := z7.trans (hb8.mono z7.size)
        exact z8.trans (hb9.mono z8.size)
end Go.Proofs.YtppikhhapaejjaaDoor
namespace Go.Proofs.YtppikhhapaejjaaDoor
open Go.RowKit

theorem aeadB : AeadB PK where
  next := fun h hb => h.next hb
  alloc := fun o h => h.alloc o
  once := fun k n w h => once_any k n w h
  cov := fun d s hd hs w _ => cov_any d s hd hs w
  seal' := fun k n d t _ _ w h => seal_any k n d t w h
  open' := fun k n d s _ hs w h => open_any k n d s (maxLen47 hs) w h
theorem aeadC : AeadC PK := { aeadB with awake := fun w h => awake6_walk aeadB w h }

theorem aeadOpens_walkK (key nonce data sealed : ByteArray) (_ : key.size ≤ maxLen) (_ : nonce.size ≤ maxLen) (hd : data.size ≤ maxLen) (hs : sealed.size ≤ maxLen) (W : World) (hp : PK W) :
    Calls Tryd.prog 4 #[.string key, .string nonce, .string data, .string sealed] W fun e w' => e = .returned (.bool true) ∧ Below W.heap.size W w' := aeadOpens_walk aeadC key nonce data sealed hd hs W hp
theorem aeadSizes_walkK (key nonce data text : ByteArray) (_ : key.size ≤ maxLen) (_ : nonce.size ≤ maxLen) (hd : data.size ≤ maxLen) (ht : text.size ≤ maxLen) (W : World) (hp : PK W) :
    Calls Tryd.prog 8 #[.string key, .string nonce, .string data, .string text] W fun e w' => e = .returned (.bool true) ∧ Below W.heap.size W w' := aeadSizes_walk aeadC key nonce data text hd ht W hp
theorem aeadCovers_walkK (data sealed other more : ByteArray) (_ : data.size ≤ maxLen) (_ : sealed.size ≤ maxLen) (_ : other.size ≤ maxLen) (_ : more.size ≤ maxLen) (W : World) (hp : PK W) :
    Calls Tryd.prog 7 #[.string data, .string sealed, .string other, .string more] W fun e w' => e = .returned (.bool true) ∧ Below W.heap.size W w' := aeadCovers_walk aeadC data sealed other more W hp
theorem aeadBack_walkK (zk zn : List Int) (data text sealed : ByteArray) (n0 : zk.length = 32) (w0 : ∀ z ∈ zk, (Lit.int .u8 z).wf = true) (n1 : zn.length = 12) (w1 : ∀ z ∈ zn, (Lit.int .u8 z).wf = true) (_ : data.size ≤ maxLen) (_ : text.size ≤ maxLen) (_ : sealed.size ≤ maxLen) (W : World) (hp : PK W) :
    Calls Tryd.prog 5 #[.agg (zk.map (Value.int .u8)).toArray, .agg (zn.map (Value.int .u8)).toArray, .string data, .string text, .string sealed] W fun e w' => e = .returned (.bool true) ∧ Below W.heap.size W w' := aeadBack_walk aeadC zk zn data text sealed n0 w0 n1 w1 W hp
theorem aeadTurned_walkK (zk zn : List Int) (data text : ByteArray) (at' b5 : Int) (n0 : zk.length = 32) (w0 : ∀ z ∈ zk, (Lit.int .u8 z).wf = true) (n1 : zn.length = 12) (w1 : ∀ z ∈ zn, (Lit.int .u8 z).wf = true) (_ : data.size ≤ maxLen) (_ : text.size ≤ maxLen) (wa : (Lit.int .u8 at').wf = true) (wb : (Lit.int .u8 b5).wf = true) (W : World) (hp : PK W) :
    Calls Tryd.prog 6 #[.agg (zk.map (Value.int .u8)).toArray, .agg (zn.map (Value.int .u8)).toArray, .string data, .string text, .int .u8 at', .int .u8 b5] W fun e w' => e = .returned (.bool true) ∧ Below W.heap.size W w' := aeadTurned_walk aeadC zk zn data text at' b5 n0 w0 n1 w1 wa wb W hp
theorem aeadSeals_walkK (key nonce data text : ByteArray) (hd : data.size ≤ 1048576) (ht : text.size ≤ 1048576) (W : World) (hp : PK W) :
    Calls Tryd.prog 3 #[.string key, .string nonce, .string data, .string text] W fun e w' => e = .returned (.bool true) ∧ Below W.heap.size W w' := aeadSeals_walk aeadC key nonce data text hd ht W hp
end Go.Proofs.YtppikhhapaejjaaDoor
