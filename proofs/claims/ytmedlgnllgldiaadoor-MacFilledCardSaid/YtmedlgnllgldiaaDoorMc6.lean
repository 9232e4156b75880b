/- mac: the layer's law's own first calls. -/
import Derived.Test.YtmedlgnllgldiaaDoorMc5
import Derived.KernelRfl
namespace Go.Proofs.YtmedlgnllgldiaaDoor
open Go.RowKit

theorem mac_jefe : macL [74, 101, 102, 101] [119, 104, 97, 116, 32, 100, 111, 32, 121, 97, 32, 119, 97, 110, 116, 32, 102, 111, 114, 32, 110, 111, 116, 104, 105, 110, 103, 63] = [91, 220, 193, 70, 191, 96, 117, 78, 106, 4, 36, 38, 8, 149, 117, 199, 90, 0, 63, 8, 157, 39, 57, 131, 157, 236, 88, 185, 100, 236, 56, 67] := by decide +kernel
theorem mac_jefe2 : macL [74, 101, 102, 101] [119, 104, 97, 116, 32, 100, 111, 32, 121, 97, 32, 119, 97, 110, 116, 32, 102, 111, 114, 32, 110, 111, 116, 104, 105, 110, 103] = [160, 241, 75, 160, 24, 1, 43, 118, 75, 50, 220, 21, 124, 224, 162, 14, 131, 34, 218, 224, 157, 168, 12, 174, 3, 86, 112, 206, 8, 121, 229, 212] := by decide +kernel
def jefeB : ByteArray := ⟨#[91, 220, 193, 70, 191, 96, 117, 78, 106, 4, 36, 38, 8, 149, 117, 199, 90, 0, 63, 8, 157, 39, 57, 131, 157, 236, 88, 185, 100, 236, 56, 67]⟩
def jefeB2 : ByteArray := ⟨#[160, 241, 75, 160, 24, 1, 43, 118, 75, 50, 220, 21, 124, 224, 162, 14, 131, 34, 218, 224, 157, 168, 12, 174, 3, 86, 112, 206, 8, 121, 229, 212]⟩
theorem jefe_sum (w : World) (htab : Tab w) : Calls Tryd.prog 14 #[.string ⟨#[74, 101, 102, 101]⟩, .string ⟨#[119, 104, 97, 116, 32, 100, 111, 32, 121, 97, 32, 119, 97, 110, 116, 32, 102, 111, 114, 32, 110, 111, 116, 104, 105, 110, 103, 63]⟩] w fun e w' => e = .returned (.string jefeB) ∧ Below w.heap.size w w' :=
  (msum_any ⟨#[74, 101, 102, 101]⟩ ⟨#[119, 104, 97, 116, 32, 100, 111, 32, 121, 97, 32, 119, 97, 110, 116, 32, 102, 111, 114, 32, 110, 111, 116, 104, 105, 110, 103, 63]⟩ (by decide) (by decide) w htab).mono fun _ _ ⟨h, k⟩ => ⟨h.trans (by rw [macB, show (ByteArray.mk #[74, 101, 102, 101]).data.toList = [74, 101, 102, 101] from rfl, show (ByteArray.mk #[119, 104, 97, 116, 32, 100, 111, 32, 121, 97, 32, 119, 97, 110, 116, 32, 102, 111, 114, 32, 110, 111, 116, 104, 105, 110, 103, 63]).data.toList = [119, 104, 97, 116, 32, 100, 111, 32, 121, 97, 32, 119, 97, 110, 116, 32, 102, 111, 114, 32, 110, 111, 116, 104, 105, 110, 103, 63] from rfl, mac_jefe]; rfl), k⟩
theorem jefe_check (w : World) (htab : Tab w) : Calls Tryd.prog 15 #[.string ⟨#[74, 101, 102, 101]⟩, .string ⟨#[119, 104, 97, 116, 32, 100, 111, 32, 121, 97, 32, 119, 97, 110, 116, 32, 102, 111, 114, 32, 110, 111, 116, 104, 105, 110, 103, 63]⟩, .string jefeB] w fun e w' => e = .returned (.bool true) ∧ Below w.heap.size w w' :=
  (check_any ⟨#[74, 101, 102, 101]⟩ ⟨#[119, 104, 97, 116, 32, 100, 111, 32, 121, 97, 32, 119, 97, 110, 116, 32, 102, 111, 114, 32, 110, 111, 116, 104, 105, 110, 103, 63]⟩ jefeB (by decide) (by decide) w htab).mono fun _ _ ⟨h, k⟩ => ⟨h.trans (by rw [macB, show (ByteArray.mk #[74, 101, 102, 101]).data.toList = [74, 101, 102, 101] from rfl, show (ByteArray.mk #[119, 104, 97, 116, 32, 100, 111, 32, 121, 97, 32, 119, 97, 110, 116, 32, 102, 111, 114, 32, 110, 111, 116, 104, 105, 110, 103, 63]).data.toList = [119, 104, 97, 116, 32, 100, 111, 32, 121, 97, 32, 119, 97, 110, 116, 32, 102, 111, 114, 32, 110, 111, 116, 104, 105, 110, 103, 63] from rfl, mac_jefe]; show Ending.returned (.bool (jefeB.toList == jefeB.toList)) = _; rw [beq_self_eq_true]), k⟩
theorem jefe_check2 (w : World) (htab : Tab w) : Calls Tryd.prog 15 #[.string ⟨#[74, 101, 102, 101]⟩, .string ⟨#[119, 104, 97, 116, 32, 100, 111, 32, 121, 97, 32, 119, 97, 110, 116, 32, 102, 111, 114, 32, 110, 111, 116, 104, 105, 110, 103]⟩, .string jefeB] w fun e w' => e = .returned (.bool false) ∧ Below w.heap.size w w' :=
  (check_any ⟨#[74, 101, 102, 101]⟩ ⟨#[119, 104, 97, 116, 32, 100, 111, 32, 121, 97, 32, 119, 97, 110, 116, 32, 102, 111, 114, 32, 110, 111, 116, 104, 105, 110, 103]⟩ jefeB (by decide) (by decide) w htab).mono fun _ _ ⟨h, k⟩ => ⟨h.trans (by rw [macB, show (ByteArray.mk #[74, 101, 102, 101]).data.toList = [74, 101, 102, 101] from rfl, show (ByteArray.mk #[119, 104, 97, 116, 32, 100, 111, 32, 121, 97, 32, 119, 97, 110, 116, 32, 102, 111, 114, 32, 110, 111, 116, 104, 105, 110, 103]).data.toList = [119, 104, 97, 116, 32, 100, 111, 32, 121, 97, 32, 119, 97, 110, 116, 32, 102, 111, 114, 32, 110, 111, 116, 104, 105, 110, 103] from rfl, mac_jefe2]; show Ending.returned (.bool (jefeB2.toList == jefeB.toList)) = _; rw [show (jefeB2.toList == jefeB.toList) = false from by decide +kernel]), k⟩
theorem jefe_macSum (B m : Nat) (w : World) (hm : MacOf w B m [74, 101, 102, 101] [119, 104, 97, 116, 32, 100, 111, 32, 121, 97, 32, 119, 97, 110, 116, 32, 102, 111, 114, 32, 110, 111, 116, 104, 105, 110, 103, 63]) (htab : Tab w) : Calls Tryd.prog 23 #[.pointer (some ⟨m, 0, none⟩)] w fun e w' => e = .returned (.string jefeB) ∧ Below w.heap.size w w' :=
  (macSum_any B m _ _ w hm htab (by decide)).mono fun _ _ ⟨h, k⟩ => ⟨h.trans (by rw [macB, mac_jefe]; rfl), k⟩
theorem jefe_size : jefeB.size = 32 := rfl
theorem jefe_head (w : World) : (Instr.slice 9 (.string jefeB) none (some (.int .i64 4)) none).run Tryd.prog w = .ok (.string ⟨#[91, 220, 193, 70]⟩) w := by
  have := slice_to jefeB 4 (by decide) w
  rw [show jefeB.extract 0 4 = ⟨#[91, 220, 193, 70]⟩ from by decide +kernel] at this
  exact this
theorem exR_of (key info : List UInt8) (n : Nat) (h : n ≤ 8160) : ∃ X : ByteArray, X.size = n ∧ exR key info (n : Int) = .tuple #[.string X, .int .i64 0] :=
  ⟨exB key info n, exB_size key info n h, by rw [exR, if_neg (by omega), Int.toNat_natCast]⟩
theorem exR_neg (key info : List UInt8) : exR key info (-1) = .tuple #[.string ByteArray.empty, .int .i64 5] := by rw [exR, if_pos (by omega)]
theorem expand_40 (w : World) (htab : Tab w) : Calls Tryd.prog 17 #[.string ⟨#[107]⟩, .string ⟨#[105]⟩, .int .i64 40] w fun e w' => (∃ X : ByteArray, X.size = 40 ∧ e = .returned (.tuple #[.string X, .int .i64 0])) ∧ Below w.heap.size w w' :=
  (expand_any ⟨#[107]⟩ ⟨#[105]⟩ 40 (by decide) (by decide) w htab).mono fun _ _ ⟨h, k⟩ => by obtain ⟨X, h1, h2⟩ := exR_of (ByteArray.mk #[107]).data.toList (ByteArray.mk #[105]).data.toList 40 (by decide); exact ⟨⟨X, h1, h.trans (by rw [← h2]; rfl)⟩, k⟩
theorem expand_neg (w : World) (htab : Tab w) : Calls Tryd.prog 17 #[.string ⟨#[107]⟩, .string ⟨#[105]⟩, .int .i64 (-1)] w fun e w' => e = .returned (.tuple #[.string ByteArray.empty, .int .i64 5]) ∧ Below w.heap.size w w' :=
  (expand_any ⟨#[107]⟩ ⟨#[105]⟩ (-1) (by decide) (by decide) w htab).mono fun _ _ ⟨h, k⟩ => ⟨h.trans (by rw [exR_neg]), k⟩
theorem derive_7 (w : World) (htab : Tab w) : Calls Tryd.prog 19 #[.string ⟨#[115]⟩, .string ⟨#[116]⟩, .string ⟨#[105]⟩, .int .i64 7] w fun e w' => (∃ X : ByteArray, X.size = 7 ∧ e = .returned (.tuple #[.string X, .int .i64 0])) ∧ Below w.heap.size w w' :=
  (derive_any ⟨#[115]⟩ ⟨#[116]⟩ ⟨#[105]⟩ 7 (by decide) (by decide) (by decide) w htab).mono fun _ _ ⟨h, k⟩ => by obtain ⟨X, h1, h2⟩ := exR_of (macL (ByteArray.mk #[115]).data.toList (ByteArray.mk #[116]).data.toList) (ByteArray.mk #[105]).data.toList 7 (by decide); exact ⟨⟨X, h1, h.trans (by rw [← h2]; rfl)⟩, k⟩
theorem extract_ab (w : World) (htab : Tab w) : Calls Tryd.prog 16 #[.string ⟨#[97]⟩, .string ⟨#[98]⟩] w fun e w' => (∃ X : ByteArray, X.size = 32 ∧ e = .returned (.string X)) ∧ Below w.heap.size w w' :=
  (extract_any ⟨#[97]⟩ ⟨#[98]⟩ (by decide) (by decide) w htab).mono fun _ _ ⟨h, k⟩ => ⟨⟨_, macB_size _ _, h⟩, k⟩

set_option maxHeartbeats 2000000 in
set_option maxRecDepth 100000 in
theorem awake3_any (w : World) (htab : Tab w) : Calls Tryd.prog 11 #[] w fun e w' => e = .returned (.bool true) ∧ Below w.heap.size w w' := by
  have HT := Lib.hid htab
  have hjs := jefe_size
  have hjh := jefe_head
  have HJ := Lib.hid jefe_sum
  have HN := Lib.hid (macNew_any ⟨#[74, 101, 102, 101]⟩ (by decide))
  have HS := Lib.hid jefe_macSum
  have HC := Lib.hid jefe_check
  have HC2 := Lib.hid jefe_check2
  have HE := Lib.hid expand_40
  have HE2 := Lib.hid expand_neg
  have HD := Lib.hid derive_7
  have HX := Lib.hid extract_ab
  clear htab
  generalize jefeB = J at *
  go_enter Tryd.func11, Tryd.ntmps11
  go_wp2_with fail
  refine (HJ.out _ HT.out).mono ?_
  rintro e w1 ⟨rfl, hb⟩
  have HT1 := Lib.hid (HT.out.next hb)
  have HB1 := Lib.hid hb
  clear hb
  go_wp2_with fail
  refine (HN.out _ HT1.out).mono ?_
  rintro e w2 ⟨⟨m, rfl, hm⟩, hb⟩
  have HT2 := Lib.hid (HT1.out.next hb)
  have HB2 := Lib.hid (HB1.out.trans (hb.mono HB1.out.size))
  have HM2 := Lib.hid hm
  have HW2 := Lib.hid hb.size
  clear hb hm
  go_wp2_with fail
  refine (macAdd_any w1.heap.size m _ [] _ w2 HM2.out HT2.out HW2.out (by decide)).mono ?_
  rintro e w3 ⟨rfl, hm, hb⟩
  have HT3 := Lib.hid (HT2.out.below hb HT1.out.lt)
  have HB3 := Lib.hid (HB2.out.trans (hb.mono HB1.out.size))
  have HM3 := Lib.hid hm
  have HW3 := Lib.hid (Nat.le_trans HW2.out hb.size)
  clear hb hm
  go_wp2_with fail
  refine (macAdd_any w1.heap.size m _ _ _ w3 HM3.out HT3.out HW3.out (by decide)).mono ?_
  rintro e w4 ⟨rfl, hm, hb⟩
  have HT4 := Lib.hid (HT3.out.below hb HT1.out.lt)
  have HB4 := Lib.hid (HB3.out.trans (hb.mono HB1.out.size))
  have HM4 : Hid (MacOf w4 w1.heap.size m [74, 101, 102, 101] [119, 104, 97, 116, 32, 100, 111, 32, 121, 97, 32, 119, 97, 110, 116, 32, 102, 111, 114, 32, 110, 111, 116, 104, 105, 110, 103, 63]) := hm
  clear hb hm
  go_wp2_with fail
  refine (HE.out _ HT4.out).mono ?_
  rintro e w5 ⟨⟨X5, hX5, rfl⟩, hb⟩
  have HT5 := Lib.hid (HT4.out.next hb)
  have HB5 := Lib.hid (HB4.out.trans (hb.mono HB4.out.size))
  have HM5 := Lib.hid (HM4.out.next hb)
  clear hb
  go_wp2_with fail
  refine (HE2.out _ HT5.out).mono ?_
  rintro e w6 ⟨rfl, hb⟩
  have HT6 := Lib.hid (HT5.out.next hb)
  have HB6 := Lib.hid (HB5.out.trans (hb.mono HB5.out.size))
  have HM6 := Lib.hid (HM5.out.next hb)
  clear hb
  go_wp2_with fail
  refine (HD.out _ HT6.out).mono ?_
  rintro e w7 ⟨⟨X7, hX7, rfl⟩, hb⟩
  have HT7 := Lib.hid (HT6.out.next hb)
  have HB7 := Lib.hid (HB6.out.trans (hb.mono HB6.out.size))
  have HM7 := Lib.hid (HM6.out.next hb)
  clear hb
  go_wp2_with fail
  refine (HS.out w1.heap.size m _ HM7.out HT7.out).mono ?_
  rintro e w8 ⟨rfl, hb⟩
  have HT8 := Lib.hid (HT7.out.next hb)
  have HB8 := Lib.hid (HB7.out.trans (hb.mono HB7.out.size))
  clear hb
  go_wp2_with fail
  refine (HC.out _ HT8.out).mono ?_
  rintro e w9 ⟨rfl, hb⟩
  have HT9 := Lib.hid (HT8.out.next hb)
  have HB9 := Lib.hid (HB8.out.trans (hb.mono HB8.out.size))
  clear hb
  go_wp2_with fail
  refine (HC2.out _ HT9.out).mono ?_
  rintro e w10 ⟨rfl, hb⟩
  have HT10 := Lib.hid (HT9.out.next hb)
  have HB10 := Lib.hid (HB9.out.trans (hb.mono HB9.out.size))
  clear hb
  go_wp2_with fail
  refine (HX.out _ HT10.out).mono ?_
  rintro e w11 ⟨⟨X11, hX11, rfl⟩, hb⟩
  have HB11 := Lib.hid (HB10.out.trans (hb.mono HB10.out.size))
  clear hb
  go_wp2_with fail
  go_ret
  exact ⟨rfl, HB11.out⟩
end Go.Proofs.YtmedlgnllgldiaaDoor
