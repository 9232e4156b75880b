/- The document's own Sum and Tag of layer 5. -/
import Derived.Test.YtjbhmdlgokoepaaDoorPr6
namespace Go.Proofs.YtjbhmdlgokoepaaDoor
open Go.RowKit

theorem rclamp_no (s : ByteArray) (hs : s.size ≠ 16) (w : World) :
    Calls Tryd.prog 13 #[.string s] w fun e w' => e = .returned (.tuple #[.string ByteArray.empty, .int .i64 5]) ∧ w = w' := by
  have e1 : ((s.size : Int) != 16) = true := by simp; omega
  clear hs
  go_enter Tryd.func13, Tryd.ntmps13
  go_wp2
  go_ret2
  exact ⟨rfl, rfl⟩
theorem digit_byte {d : List Nat} (h : ∀ x ∈ d, x < 256) (k : Nat) : d.getD k 0 = (byteAt (numD d) k).toNat := by
  rw [← numD_getD d h k, byteAt, ← p256]
  simp
theorem byte_wrap (b : UInt8) : IntKind.u8.wrap (b.toNat : Int) = (b.toNat : Int) := by
  have := b.toNat_lt
  rw [IntKind.wrap_u8]; omega

set_option maxHeartbeats 1000000 in
theorem rsum5_any (a b : ByteArray) (ha : a.size ≤ 300) (hb : b.size ≤ 300) (w : World) :
    Calls Tryd.prog 18 #[.string a, .string b] w fun e w' => e = .returned (.string ⟨(lowL (numLow a.data.toList + numLow b.data.toList) 16).toArray⟩) ∧ Below w.heap.size w w' := by
  have HR : Hid (∀ k, k = 16 → (⟨(lowL (numLow a.data.toList + numLow b.data.toList) k).toArray⟩ : ByteArray) = ⟨(lowL (numLow a.data.toList + numLow b.data.toList) 16).toArray⟩) := fun k h => by rw [h]
  obtain ⟨R, hR⟩ : ∃ R : ByteArray, R = ⟨(lowL (numLow a.data.toList + numLow b.data.toList) 16).toArray⟩ := ⟨_, rfl⟩
  rw [← hR] at HR ⊢
  have HDa := Lib.hid (digits_any a (by omega))
  have HDb := Lib.hid (digits_any b (by omega))
  have HLa := Lib.hid (show (natL a.data.toList).length ≤ 300 by rw [natL_len]; simpa using ha)
  have HLb := Lib.hid (show (natL b.data.toList).length ≤ 300 by rw [natL_len]; simpa using hb)
  have HTa := Lib.hid (natL_lt a.data.toList)
  have HTb := Lib.hid (natL_lt b.data.toList)
  have hn : numLow a.data.toList + numLow b.data.toList = numD (natL a.data.toList) + numD (natL b.data.toList) := by rw [natL_num, natL_num]
  rw [hn] at HR
  clear hR ha hb hn
  generalize natL a.data.toList = A at *
  generalize natL b.data.toList = B at *
  go_enter Tryd.func18, Tryd.ntmps18
  go_wp2_with fail
  refine (HDa.out _).mono ?_
  rintro e w1 ⟨⟨va, rfl, hva⟩, hb⟩
  have HVa := Lib.hid hva
  have HB1 := Lib.hid hb
  clear hva hb
  go_wp2_with fail
  refine (HDb.out _).mono ?_
  rintro e w2 ⟨⟨vb, rfl, hvb⟩, hb⟩
  have HVa2 := Lib.hid (HVa.out.next hb)
  have HVb := Lib.hid hvb
  have HB2 := Lib.hid (HB1.out.trans (hb.mono HB1.out.size))
  clear hvb hb
  go_wp2_with fail
  refine (plus_any va vb A B HTa.out HTb.out (by have := HLa.out; omega) (by have := HLb.out; omega) w2 HVa2.out HVb.out).mono ?_
  rintro e w3 ⟨⟨vc, c, rfl, hvc, hd, hn, hl⟩, hb⟩
  rw [← hn] at HR
  have HVc := Lib.hid hvc
  have HD := Lib.hid hd
  have HB3 := Lib.hid (HB2.out.trans (hb.mono HB2.out.size))
  clear hvc hd hn hl hb
  go_wp2_with fail
  have HO := Lib.hid (Ob.start w3 w3.heap.size (Nat.le_refl _))
  have HB4 := Lib.hid ((Below.refl w3.heap.size w3).alloc (Nat.le_refl _) (.cells #[] 5))
  go_loopw [6, 7] (fun o i wr => ∃ k : Nat, k ≤ 16 ∧ i = .int .i64 (k : Int) ∧ Ob wr w3.heap.size o (lowL (numD c) k) ∧ Below w3.heap.size w3 wr) (fun _ i _ => 16 - (intOf i).toNat)
  case atStart => exact ⟨0, by omega, rfl, HO.out, HB4.out⟩
  case round =>
    clear HO HB4
    obtain ⟨k, hk, rfl, hown, hbel⟩ := hrel
    by_cases hlt : k < 16
    · have hdg := digit_any vc c k wr (HVc.out.next hbel)
      rw [digit_byte HD.out k] at hdg
      have HDg := Lib.hid hdg
      have HS := Lib.hid (lowL_succ (numD c) k)
      have HL := Lib.hid (show (lowL (numD c) k).length ≤ 1099511627776 by rw [lowL_len]; omega)
      have HOw := Lib.hid hown
      have HBel := Lib.hid hbel
      clear hdg hown hbel
      generalize byteAt (numD c) k = bt at *
      have e1 := byte_wrap bt
      have e2 : (bt.toNat : Int) % 256 = (bt.toNat : Int) := by have := bt.toNat_lt; omega
      go_wp2_with (first
        | (go_at_call 23; ((with_reducible refine HDg.out.mono ?_); rintro e w' ⟨rfl, rfl⟩))
        | (at_builtin; refine wpList_push wr rfl _ _ rfl w3.heap.size _ (lowL (numD c) k) rfl rfl HOw.out bt rfl HL.out HBel.out.size ?_; intro v' w1 hown' hb1))
      go_roundw
      case rel => exact ⟨k + 1, by omega, by go_num, by rw [HS.out]; exact hown', HBel.out.trans hb1⟩
      case measure => simp [intOf]; omega
    · obtain rfl : k = 16 := by omega
      have hcv := conv_Ob hown
      rw [HR.out 16 rfl] at hcv
      go_wp2
      go_ret
      exact ⟨rfl, HB3.out.trans (hbel.mono HB3.out.size)⟩

/-- The sum of a text's first m parts. -/
def partL (t : List UInt8) (m : Nat) : List UInt8 := (t.drop (16 * m)).take 16
def accN (r : Nat) (t : List UInt8) : Nat → Nat
  | 0 => 0
  | m + 1 => (accN r t m + (numLow (partL t m) + 256 ^ (partL t m).length)) * r % PP
def keyR (key : List UInt8) : Nat := numLow (clampL (key.take 16))
def keyS (key : List UInt8) : Nat := numLow (key.drop 16)
/-- A text's tag. -/
def tagL (key text : List UInt8) : List UInt8 := lowL (accN (keyR key) text ((text.length + 15) / 16) + keyS key) 16
def tagB (key text : ByteArray) : ByteArray := ⟨(tagL key.data.toList text.data.toList).toArray⟩
theorem tagB_size (key text : ByteArray) : (tagB key text).size = 16 := by
  show (tagL key.data.toList text.data.toList).toArray.size = 16; rw [List.size_toArray, tagL, lowL_len]
theorem numLow_one (l : List UInt8) : numLow (l ++ [1]) = numLow l + 256 ^ l.length := by rw [numLow_append]; simp [numLow]

set_option maxHeartbeats 4000000 in
set_option maxRecDepth 100000 in
theorem rtag_ok (key text : ByteArray) (hk : key.size = 32) (ht : text.size ≤ 1000000) (w : World) :
    Calls Tryd.prog 11 #[.string key, .string text] w fun e w' => e = .returned (.tuple #[.string (tagB key text), .int .i64 0]) ∧ Below w.heap.size w w' := by
  have e1 : ((key.size : Int) != 32) = false := by rw [hk]; rfl
  have hs1 := slice_to key 16 (by omega)
  have hs2 := slice_from key 16 (by omega)
  rw [show ((16 : Nat) : Int) = 16 from rfl] at hs1 hs2
  obtain ⟨K1, hK1⟩ : ∃ K1, K1 = key.extract 0 16 := ⟨_, rfl⟩
  obtain ⟨K2, hK2⟩ : ∃ K2, K2 = key.extract 16 key.size := ⟨_, rfl⟩
  have hK1s : K1.size = 16 := by rw [hK1, ext_size _ _ _ (by omega)]
  have hK2s : K2.size = 16 := by rw [hK2, ext_size _ _ _ (Nat.le_refl _)]; omega
  have hK1l : K1.data.toList = key.data.toList.take 16 := by rw [hK1, ext_toList, List.drop_zero, Nat.sub_zero]
  have hK2l : K2.data.toList = key.data.toList.drop 16 := by rw [hK2, ext_toList, List.take_of_length_le (by simp)]
  rw [← hK1] at hs1
  rw [← hK2] at hs2
  have hcl := rclamp_ok K1 hK1s
  obtain ⟨CL, hCL⟩ : ∃ CL : ByteArray, CL = ⟨(clampL K1.data.toList).toArray⟩ := ⟨_, rfl⟩
  have hCLs : CL.size = 16 := by rw [hCL]; show (clampL K1.data.toList).toArray.size = 16; rw [List.size_toArray, clampL_len]
  have hCLl : CL.data.toList = clampL (key.data.toList.take 16) := by rw [hCL, ← hK1l]
  rw [← hCL] at hcl
  have HCl := Lib.hid hcl
  have HDr := Lib.hid (digits_any CL (by omega))
  have HDs := Lib.hid (digits_any K2 (by omega))
  have hrn : numD (natL CL.data.toList) = keyR key.data.toList := by rw [natL_num, hCLl]; rfl
  have hsn : numD (natL K2.data.toList) = keyS key.data.toList := by rw [natL_num, hK2l]; rfl
  have HRn := Lib.hid hrn
  have HSn := Lib.hid hsn
  have HRl := Lib.hid (show (natL CL.data.toList).length = 16 by rw [natL_len]; simpa using hCLs)
  have HSl := Lib.hid (show (natL K2.data.toList).length = 16 by rw [natL_len]; simpa using hK2s)
  have HRt := Lib.hid (natL_lt CL.data.toList)
  have HSt := Lib.hid (natL_lt K2.data.toList)
  have HT := Lib.hid ht
  have HTg : Hid (∀ n, n = (text.data.toList.length + 15) / 16 → lowL (accN (keyR key.data.toList) text.data.toList n + keyS key.data.toList) 16 = tagL key.data.toList text.data.toList) := fun n h => by rw [h]; rfl
  obtain ⟨TB', hTB⟩ : ∃ TB', TB' = tagB key text := ⟨_, rfl⟩
  rw [← hTB]
  have HTB := Lib.hid hTB
  clear hK1 hK2 hK1s hK2s hK1l hK2l hcl hCL hCLs hCLl hrn hsn hk ht hTB
  generalize natL CL.data.toList = RD at *
  generalize natL K2.data.toList = SD at *
  generalize keyR key.data.toList = r at *
  generalize keyS key.data.toList = sk at *
  go_enter Tryd.func11, Tryd.ntmps11
  go_wp2_with fail
  refine (HCl.out _).mono ?_
  rintro e w1 ⟨rfl, hb⟩
  have HB1 := Lib.hid hb
  clear hb e1 hs1
  go_wp2_with fail
  refine (HDr.out _).mono ?_
  rintro e w2 ⟨⟨vr, rfl, hvr⟩, hb⟩
  have HVr := Lib.hid hvr
  have HB2 := Lib.hid (HB1.out.trans (hb.mono HB1.out.size))
  clear hvr hb
  go_wp2_with fail
  have HV0 : Hid (DV (w2.alloc (.cells #[.int .i64 0] 3)) (.slice (some ⟨w2.heap.size, 0, none⟩) 1 1) [0]) := ⟨w2.heap.size, _, 1, rfl, RowI.ofArr (Arr.new w2 (i64s [0]).toArray 3), fun _ => ⟨rfl, by simp⟩⟩
  have HVr0 := Lib.hid (HVr.out.alloc (.cells #[.int .i64 0] 3))
  have HB0 := Lib.hid (HB2.out.alloc HB2.out.size (.cells #[.int .i64 0] 3))
  generalize w2.alloc (.cells #[.int .i64 0] 3) = w3 at *
  generalize w2.heap.size = g0 at *
  clear HVr HB2 HB1
  go_loopw [9, 10] (fun va i wr => ∃ (m : Nat) (c : List Nat), i = .int .i64 (16 * (m : Int)) ∧ 16 * m < text.size + 16 ∧ DV wr va c ∧ (∀ x ∈ c, x < 256) ∧ c.length ≤ 17 ∧ numD c = accN r text.data.toList m ∧ DV wr vr RD ∧ Below w.heap.size w wr) (fun _ i _ => text.size + 16 - (intOf i).toNat)
  case atStart => exact ⟨0, [0], rfl, by omega, HV0.out, by simp, by simp, rfl, HVr0.out, HB0.out⟩
  case round =>
    clear HV0 HVr0 HB0
    obtain ⟨m, c, rfl, hm, hva, hd, hl, hn, hvr, hbel⟩ := hrel
    have htl : text.data.toList.length = text.size := by simp
    have HVa := Lib.hid hva
    have HVr := Lib.hid hvr
    have HD := Lib.hid hd
    have HLc := Lib.hid hl
    have HBel := Lib.hid hbel
    have hT := HT.out
    clear hva hvr hd hl hbel
    by_cases hlt : 16 * m < text.size
    · obtain ⟨e, he⟩ : ∃ e, e = min (16 * m + 16) text.size := ⟨_, rfl⟩
      obtain ⟨X, hX⟩ : ∃ X, X = text.extract (16 * m) e := ⟨_, rfl⟩
      have hXs : X.size = e - 16 * m := by rw [hX, ext_size _ _ _ (by omega)]
      have hXl : X.data.toList = partL text.data.toList m := by
        rw [hX, ext_toList, partL]
        rcases (show e = 16 * m + 16 ∨ (e = text.size ∧ text.size < 16 * m + 16) by omega) with h | ⟨h, h2⟩
        · rw [h, show 16 * m + 16 - 16 * m = 16 by omega]
        · rw [h, List.take_of_length_le (by rw [List.length_drop, htl]; exact Nat.le_refl _), List.take_of_length_le (by rw [List.length_drop, htl]; omega)]
      have hr1 : ∀ w : World, (Op.stringOp .add X ⟨#[1]⟩).run Tryd.prog w = .ok (.string (X ++ ⟨#[1]⟩)) w := fun w => cat_run X _ (by show X.size + 1 ≤ _; omega) w
      obtain ⟨Y, hY⟩ : ∃ Y : ByteArray, Y = X ++ ⟨#[1]⟩ := ⟨_, rfl⟩
      rw [← hY] at hr1
      have hYs : Y.size = X.size + 1 := by rw [hY, ByteArray.size_append]; rfl
      have hYl : Y.data.toList = partL text.data.toList m ++ [1] := by rw [hY, ← hXl]; simp
      have HDy := Lib.hid (digits_any Y (by omega))
      have HYn := Lib.hid (show numD (natL Y.data.toList) = numLow (partL text.data.toList m) + 256 ^ (partL text.data.toList m).length by rw [natL_num, hYl, numLow_one])
      have HYl := Lib.hid (show (natL Y.data.toList).length ≤ 17 by rw [natL_len]; simp; omega)
      have HYt := Lib.hid (natL_lt Y.data.toList)
      have HAcc := Lib.hid (show accN r text.data.toList (m + 1) = (numD c + numD (natL Y.data.toList)) * r % PP by rw [accN, hn, HYn.out])
      have hsl := fun w => slice_str text (16 * (m : Int)) (e : Int) (16 * m) e (by omega) rfl (by omega) (by omega) w
      rw [← hX] at hsl
      clear hX hXs hXl hY hYs hYl hn htl HYn
      generalize natL Y.data.toList = YD at *
      have hlti : 16 * (m : Int) < (text.size : Int) := by omega
      rcases (show 16 * m + 16 ≤ text.size ∨ text.size < 16 * m + 16 by omega) with hc | hc
      all_goals
        have hei : (e : Int) = 16 * (m : Int) + 16 ∨ (e : Int) = (text.size : Int) := by omega
        have hci : 16 * (m : Int) + 16 ≤ (text.size : Int) ∨ (text.size : Int) < 16 * (m : Int) + 16 := by omega
        first
          | (have hce : (e : Int) = 16 * (m : Int) + 16 := by omega
             rw [hce] at hsl
             have hcn : ¬ (text.size : Int) < 16 * (m : Int) + 16 := by omega
             clear hce)
          | (have hce : (e : Int) = (text.size : Int) := by omega
             rw [hce] at hsl
             have hcn : (text.size : Int) < 16 * (m : Int) + 16 := by omega
             clear hce)
        clear hei hci he
        go_wp2_with fail
        refine (HDy.out _).mono ?_
        rintro e w4 ⟨⟨vy, rfl, hvy⟩, hb⟩
        have HVy := Lib.hid hvy
        have HVa4 := Lib.hid (HVa.out.next hb)
        have HVr4 := Lib.hid (HVr.out.next hb)
        have HB4 := Lib.hid (HBel.out.trans (hb.mono HBel.out.size))
        clear hvy hb
        go_wp2_with fail
        refine (plus_any _ vy c YD HD.out HYt.out (by have := HLc.out; omega) (by have := HYl.out; omega) w4 HVa4.out HVy.out).mono ?_
        rintro e w5 ⟨⟨v5, c5, rfl, hv5, hd5, hn5, hl5⟩, hb⟩
        have HV5 := Lib.hid hv5
        have HD5 := Lib.hid hd5
        have HN5 := Lib.hid hn5
        have HL5 := Lib.hid (show c5.length ≤ 23 by have := HLc.out; have := HYl.out; omega)
        have HVr5 := Lib.hid (HVr4.out.next hb)
        have HB5 := Lib.hid (HB4.out.trans (hb.mono HB4.out.size))
        clear hv5 hd5 hn5 hl5 hb
        go_wp2_with fail
        refine (times_any v5 vr c5 RD HD5.out HRt.out (by have := HL5.out; omega) (by have := HRl.out; omega) w5 HV5.out HVr5.out).mono ?_
        rintro e w6 ⟨⟨v6, c6, rfl, hv6, hd6, hn6, hl6⟩, hb⟩
        have HV6 := Lib.hid hv6
        have HD6 := Lib.hid hd6
        have HN6 := Lib.hid hn6
        have HL6 := Lib.hid (show c6.length ≤ 60 by have := HL5.out; have := HRl.out; omega)
        have HVr6 := Lib.hid (HVr5.out.next hb)
        have HB6 := Lib.hid (HB5.out.trans (hb.mono HB5.out.size))
        clear hv6 hd6 hn6 hl6 hb
        go_wp2_with fail
        refine (modulo_any v6 c6 HD6.out HL6.out w6 HV6.out).mono ?_
        rintro e w7 ⟨⟨v7, c7, rfl, hv7, hd7, hn7, hl7⟩, hb⟩
        have HV7 := Lib.hid hv7
        have HD7 := Lib.hid hd7
        have HN7 := Lib.hid (show numD c7 = accN r text.data.toList (m + 1) by rw [hn7, HN6.out, HN5.out, HRn.out, HAcc.out])
        have HL7 := Lib.hid hl7
        have HVr7 := Lib.hid (HVr6.out.next hb)
        have HB7 := Lib.hid (HB6.out.trans (hb.mono HB6.out.size))
        clear hv7 hd7 hn7 hl7 hb
        go_wp2_with fail
        go_roundw
        case rel => exact ⟨m + 1, c7, by first | go_num | (congr 1; omega), by omega, HV7.out, HD7.out, by rw [HL7.out]; exact Nat.le_refl _, HN7.out, HVr7.out, HB7.out⟩
        case measure => simp [intOf]; omega
    · have hmm : m = (text.data.toList.length + 15) / 16 := by omega
      have HR1 : Hid (∀ k, k = 16 → (⟨(lowL (numD c + numD SD) k).toArray⟩ : ByteArray) = TB') := fun k h => by
        rw [h, hn, HSn.out, HTg.out m hmm, HTB.out]; rfl
      have hge : ¬ 16 * (m : Int) < (text.size : Int) := by omega
      clear hmm hn htl hlt hm
      go_wp2_with fail
      refine (HDs.out _).mono ?_
      rintro e w4 ⟨⟨vs, rfl, hvs⟩, hb⟩
      have HVs := Lib.hid hvs
      have HVa4 := Lib.hid (HVa.out.next hb)
      have HB1 := Lib.hid (HBel.out.trans (hb.mono HBel.out.size))
      clear hvs hb
      go_wp2_with fail
      refine (plus_any _ vs c SD HD.out HSt.out (by have := HLc.out; omega) (by have := HSl.out; omega) w4 HVa4.out HVs.out).mono ?_
      rintro e w3 ⟨⟨vc, d, rfl, hvc, hd, hn, hl⟩, hb⟩
      have HR : Hid (∀ k, k = 16 → (⟨(lowL (numD d) k).toArray⟩ : ByteArray) = TB') := fun k h => by rw [hn]; exact HR1.out k h
      have HVc := Lib.hid hvc
      have HDd := Lib.hid hd
      have HB3 := Lib.hid (HB1.out.trans (hb.mono HB1.out.size))
      clear hvc hd hn hl hb HR1 HVa HVr HLc HBel HVs HVa4 HB1
      go_wp2_with fail
      have HO := Lib.hid (Ob.start w3 w3.heap.size (Nat.le_refl _))
      have HB4 := Lib.hid ((Below.refl w3.heap.size w3).alloc (Nat.le_refl _) (.cells #[] 5))
      go_loopw [13, 14] (fun o i wr => ∃ k : Nat, k ≤ 16 ∧ i = .int .i64 (k : Int) ∧ Ob wr w3.heap.size o (lowL (numD d) k) ∧ Below w3.heap.size w3 wr) (fun _ i _ => 16 - (intOf i).toNat)
      case atStart => exact ⟨0, by omega, rfl, HO.out, HB4.out⟩
      case round =>
        clear HO HB4
        obtain ⟨k, hk, rfl, hown, hbel⟩ := hrel
        by_cases hlt : k < 16
        · have hdg := digit_any vc d k wr (HVc.out.next hbel)
          rw [digit_byte HDd.out k] at hdg
          have HDg := Lib.hid hdg
          have HS := Lib.hid (lowL_succ (numD d) k)
          have HL := Lib.hid (show (lowL (numD d) k).length ≤ 1099511627776 by rw [lowL_len]; omega)
          have HOw := Lib.hid hown
          have HBel := Lib.hid hbel
          clear hdg hown hbel
          generalize byteAt (numD d) k = bt at *
          have e1 := byte_wrap bt
          have e2 : (bt.toNat : Int) % 256 = (bt.toNat : Int) := by have := bt.toNat_lt; omega
          go_wp2_with (first
            | (go_at_call 23; ((with_reducible refine HDg.out.mono ?_); rintro e w' ⟨rfl, rfl⟩))
            | (at_builtin; refine wpList_push wr rfl _ _ rfl w3.heap.size _ (lowL (numD d) k) rfl rfl HOw.out bt rfl HL.out HBel.out.size ?_; intro v' w1 hown' hb1))
          go_roundw
          case rel => exact ⟨k + 1, by omega, by go_num, by rw [HS.out]; exact hown', HBel.out.trans hb1⟩
          case measure => simp [intOf]; omega
        · obtain rfl : k = 16 := by omega
          have hcv := conv_Ob hown
          rw [HR.out 16 rfl] at hcv
          go_wp2
          go_ret2
          exact ⟨rfl, HB3.out.trans (hbel.mono HB3.out.size)⟩
theorem rtag_no (key text : ByteArray) (hk : key.size ≠ 32) (w : World) :
    Calls Tryd.prog 11 #[.string key, .string text] w fun e w' => e = .returned (.tuple #[.string ByteArray.empty, .int .i64 5]) ∧ w = w' := by
  have e1 : ((key.size : Int) != 32) = true := by simp; omega
  clear hk
  go_enter Tryd.func11, Tryd.ntmps11
  go_wp2
  go_ret2
  exact ⟨rfl, rfl⟩
end Go.Proofs.YtjbhmdlgokoepaaDoor
