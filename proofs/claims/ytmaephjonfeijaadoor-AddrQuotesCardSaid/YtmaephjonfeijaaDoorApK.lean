/- awake of layer 9's laws, over the record. -/
import Derived.Test.YtmaephjonfeijaaDoorApW
namespace Go.Proofs.YtmaephjonfeijaaDoor
open Go.RowKit

theorem ex9_1 : parseV (parseL [60, 64, 97, 46, 98, 44, 64, 99, 58, 34, 120, 32, 121, 34, 64, 69, 120, 97, 109, 112, 108, 101, 46, 79, 82, 71, 62]) = .tuple #[.agg #[.string ⟨#[120, 32, 121]⟩, .string ⟨#[101, 120, 97, 109, 112, 108, 101, 46, 111, 114, 103]⟩], .int .i64 0] := by kernel_rfl
theorem ex9_2 : parseV (parseL [60, 97, 46, 46, 98, 64, 99, 62]) = .tuple #[.agg #[.string ⟨#[]⟩, .string ⟨#[]⟩], .int .i64 2] := by kernel_rfl
theorem ex9_3 : readV (readL [60, 62, 32, 120]) = .tuple #[.agg #[.string ⟨#[]⟩, .string ⟨#[]⟩], .string ⟨#[32, 120]⟩, .int .i64 0] := by kernel_rfl
theorem ex9_4 : wrR ⟨[97, 34, 98], [99, 46, 100]⟩ = .tuple #[.string ⟨#[34, 97, 92, 34, 98, 34, 64, 99, 46, 100]⟩, .int .i64 0] := by kernel_rfl
theorem ex9_5 : pathR ⟨[], []⟩ = .tuple #[.string ⟨#[60, 62]⟩, .int .i64 0] := by kernel_rfl
theorem ex9_6 : domR [65, 45, 49, 46, 98] = .tuple #[.string ⟨#[97, 45, 49, 46, 98]⟩, .int .i64 0] := by kernel_rfl
theorem ex9_7 : domR [45, 97] = .tuple #[.string ⟨#[]⟩, .int .i64 2] := by kernel_rfl
theorem ex9_8 : locB [120, 32, 121] = true := by kernel_rfl
theorem ex9_9 : plaB [120, 32, 121] = false := by kernel_rfl
theorem ex9_10 : plaB [97, 46, 98] = true := by kernel_rfl
theorem ex9_11 : mayB ⟨[120, 32, 121], [101, 120, 97, 109, 112, 108, 101, 46, 111, 114, 103]⟩ = true := by kernel_rfl
theorem ex9_12 : mayB ⟨[], []⟩ = false := by kernel_rfl

set_option maxHeartbeats 4000000 in
set_option maxRecDepth 100000 in
theorem awake9_walk (C : AddrB) (W : World) :
    Calls Tryd.prog 10 #[] W fun e w' => e = .returned (.bool true) ∧ Below W.heap.size W w' := by
  have hP1 := fun w => C.parse ⟨#[60, 64, 97, 46, 98, 44, 64, 99, 58, 34, 120, 32, 121, 34, 64, 69, 120, 97, 109, 112, 108, 101, 46, 79, 82, 71, 62]⟩ (by decide) w
  rw [show (⟨#[60, 64, 97, 46, 98, 44, 64, 99, 58, 34, 120, 32, 121, 34, 64, 69, 120, 97, 109, 112, 108, 101, 46, 79, 82, 71, 62]⟩ : ByteArray).data.toList = [60, 64, 97, 46, 98, 44, 64, 99, 58, 34, 120, 32, 121, 34, 64, 69, 120, 97, 109, 112, 108, 101, 46, 79, 82, 71, 62] from rfl, ex9_1] at hP1
  have hP2 := fun w => C.parse ⟨#[60, 97, 46, 46, 98, 64, 99, 62]⟩ (by decide) w
  rw [show (⟨#[60, 97, 46, 46, 98, 64, 99, 62]⟩ : ByteArray).data.toList = [60, 97, 46, 46, 98, 64, 99, 62] from rfl, ex9_2] at hP2
  have hR := fun w => C.read ⟨#[60, 62, 32, 120]⟩ (by decide) w
  rw [show (⟨#[60, 62, 32, 120]⟩ : ByteArray).data.toList = [60, 62, 32, 120] from rfl, ex9_3] at hR
  have hW := fun w => C.write ⟨[97, 34, 98], [99, 46, 100]⟩ (by decide) (by decide) w
  rw [ex9_4, show boxV ⟨[97, 34, 98], [99, 46, 100]⟩ = .agg #[.string ⟨#[97, 34, 98]⟩, .string ⟨#[99, 46, 100]⟩] from rfl] at hW
  have hPa := fun w => C.path ⟨[], []⟩ (by decide) (by decide) w
  rw [ex9_5, show boxV ⟨[], []⟩ = .agg #[.string ⟨#[]⟩, .string ⟨#[]⟩] from rfl] at hPa
  have hD1 := fun w => C.domain ⟨#[65, 45, 49, 46, 98]⟩ (by decide) w
  rw [show (⟨#[65, 45, 49, 46, 98]⟩ : ByteArray).data.toList = [65, 45, 49, 46, 98] from rfl, ex9_6] at hD1
  have hD2 := fun w => C.domain ⟨#[45, 97]⟩ (by decide) w
  rw [show (⟨#[45, 97]⟩ : ByteArray).data.toList = [45, 97] from rfl, ex9_7] at hD2
  have hL := fun w => C.local' ⟨#[120, 32, 121]⟩ (by decide) w
  rw [show (⟨#[120, 32, 121]⟩ : ByteArray).data.toList = [120, 32, 121] from rfl, ex9_8] at hL
  have hQ1 := fun w => C.plain ⟨#[120, 32, 121]⟩ (by decide) w
  rw [show (⟨#[120, 32, 121]⟩ : ByteArray).data.toList = [120, 32, 121] from rfl, ex9_9] at hQ1
  have hQ2 := fun w => C.plain ⟨#[97, 46, 98]⟩ (by decide) w
  rw [show (⟨#[97, 46, 98]⟩ : ByteArray).data.toList = [97, 46, 98] from rfl, ex9_10] at hQ2
  have hM1 := fun w => C.may ⟨[120, 32, 121], [101, 120, 97, 109, 112, 108, 101, 46, 111, 114, 103]⟩ (by decide) (by decide) w
  rw [ex9_11, show boxV ⟨[120, 32, 121], [101, 120, 97, 109, 112, 108, 101, 46, 111, 114, 103]⟩ = .agg #[.string ⟨#[120, 32, 121]⟩, .string ⟨#[101, 120, 97, 109, 112, 108, 101, 46, 111, 114, 103]⟩] from rfl] at hM1
  have hM2 := fun w => C.may ⟨[], []⟩ (by decide) (by decide) w
  rw [ex9_12, show boxV ⟨[], []⟩ = .agg #[.string ⟨#[]⟩, .string ⟨#[]⟩] from rfl] at hM2
  have HP1 := Lib.hid hP1
  have HP2 := Lib.hid hP2
  have HR := Lib.hid hR
  have HW := Lib.hid hW
  have HPa := Lib.hid hPa
  have HD1 := Lib.hid hD1
  have HD2 := Lib.hid hD2
  have HL := Lib.hid hL
  have HQ1 := Lib.hid hQ1
  have HQ2 := Lib.hid hQ2
  have HM1 := Lib.hid hM1
  have HM2 := Lib.hid hM2
  have q1 : ((⟨#[32, 120]⟩ : ByteArray).toList == [32, 120]) = true := toList_lit _ _ _ (decide_eq_true rfl)
  have q2 : ((⟨#[34, 97, 92, 34, 98, 34, 64, 99, 46, 100]⟩ : ByteArray).toList == [34, 97, 92, 34, 98, 34, 64, 99, 46, 100]) = true := toList_lit _ _ _ (decide_eq_true rfl)
  have q3 : ((⟨#[60, 62]⟩ : ByteArray).toList == [60, 62]) = true := toList_lit _ _ _ (decide_eq_true rfl)
  have q4 : ((⟨#[97, 45, 49, 46, 98]⟩ : ByteArray).toList == [97, 45, 49, 46, 98]) = true := toList_lit _ _ _ (decide_eq_true rfl)
  clear C hP1 hP2 hR hW hPa hD1 hD2 hL hQ1 hQ2 hM1 hM2
  go_enter Tryd.func10, Tryd.ntmps10
  go_wp2_with (first
    | (go_at_call 14; (with_reducible refine (HP1.out _).mono ?_); rintro e w1 ⟨rfl, hb1⟩; have k1 := box_new w1 (.string ⟨#[120, 32, 121]⟩) (.string ⟨#[101, 120, 97, 109, 112, 108, 101, 46, 111, 114, 103]⟩) 25; have hb1' := below_new hb1 (.cells #[.string ⟨#[120, 32, 121]⟩, .string ⟨#[101, 120, 97, 109, 112, 108, 101, 46, 111, 114, 103]⟩] 25))
    | (go_at_call 14; (with_reducible refine (HP2.out _).mono ?_); rintro e w2 ⟨rfl, hb2⟩; have k12 := box_next (box_next k1 hb2) (below_one w2 (.cells #[.string ⟨#[]⟩, .string ⟨#[]⟩] 25)); have hb2' := below_new (Below_next hb1' hb2) (.cells #[.string ⟨#[]⟩, .string ⟨#[]⟩] 25))
    | (go_at_call 12; (with_reducible refine (HR.out _).mono ?_); rintro e w3 ⟨rfl, hb3⟩; have k13 := box_next (box_next k12 hb3) (below_one w3 (.cells #[.string ⟨#[]⟩, .string ⟨#[]⟩] 25)); have k3 := box_new w3 (.string ⟨#[]⟩) (.string ⟨#[]⟩) 25; have hb3' := below_new (Below_next hb2' hb3) (.cells #[.string ⟨#[]⟩, .string ⟨#[]⟩] 25))
    | (go_at_call 23; (with_reducible refine (HW.out _).mono ?_); rintro e w4 ⟨rfl, hb4⟩; have k14 := box_next k13 hb4; have k34 := box_next k3 hb4; have hb4' := Below_next hb3' hb4)
    | (go_at_call 25; (with_reducible refine (HPa.out _).mono ?_); rintro e w5 ⟨rfl, hb5⟩; have k15 := box_next k14 hb5; have k35 := box_next k34 hb5; have hb5' := Below_next hb4' hb5)
    | (go_at_call 17; (with_reducible refine (HD1.out _).mono ?_); rintro e w6 ⟨rfl, hb6⟩; have k16 := box_next k15 hb6; have k36 := box_next k35 hb6; have hb6' := Below_next hb5' hb6)
    | (go_at_call 17; (with_reducible refine (HD2.out _).mono ?_); rintro e w7 ⟨rfl, hb7⟩; obtain ⟨c70, c71⟩ := box_next k16 hb7; obtain ⟨d70, d71⟩ := box_next k36 hb7; have hb7' := Below_next hb6' hb7)
    | (go_at_call 19; (with_reducible refine (HL.out _).mono ?_); rintro e w8 ⟨rfl, hb8⟩; have k18 := box_next ⟨c70, c71⟩ hb8; have hb8' := Below_next hb7' hb8)
    | (go_at_call 21; (with_reducible refine (HQ1.out _).mono ?_); rintro e w9 ⟨rfl, hb9⟩; have k19 := box_next k18 hb9; have hb9' := Below_next hb8' hb9)
    | (go_at_call 21; (with_reducible refine (HQ2.out _).mono ?_); rintro e wA ⟨rfl, hbA⟩; obtain ⟨cA0, cA1⟩ := box_next k19 hbA; have hbA' := Below_next hb9' hbA)
    | (go_at_call 27; (with_reducible refine (HM1.out _).mono ?_); rintro e wB ⟨rfl, hbB⟩; have hbB' := Below_next hbA' hbB)
    | (go_at_call 27; (with_reducible refine (HM2.out _).mono ?_); rintro e wC ⟨rfl, hbC⟩; have hbC' := Below_next hbB' hbC))
  go_ret
  exact ⟨rfl, hbC'⟩
end Go.Proofs.YtmaephjonfeijaaDoor
