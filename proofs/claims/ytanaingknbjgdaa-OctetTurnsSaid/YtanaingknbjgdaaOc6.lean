/- The law's 'awake': every call that the document fixes answers as it says. -/
import Derived.Test.YtanaingknbjgdaaOc3
import Derived.Test.YtanaingknbjgdaaOc5
namespace Go.Proofs.Ytanaingknbjgdaa
open Go.RowKit


theorem aw1 (w : World) : Calls Try.prog 10 #[.string ⟨#[2, 1]⟩] w fun e w' => e = .returned (.tuple #[.int .u64 258, .int .i64 0]) ∧ w = w' :=
  (fromLow_any _ w).mono fun _ _ ⟨h, k⟩ => ⟨h.trans (by kernel_rfl), k⟩
theorem aw2 (w : World) : Calls Try.prog 12 #[.string ⟨#[2, 1]⟩] w fun e w' => e = .returned (.tuple #[.int .u64 513, .int .i64 0]) ∧ w = w' :=
  (fromHigh_any _ w).mono fun _ _ ⟨h, k⟩ => ⟨h.trans (by kernel_rfl), k⟩
theorem aw3 (w : World) : Calls Try.prog 12 #[.string ⟨#[49, 50, 51, 52, 53, 54, 55, 56, 57]⟩] w fun e w' => e = .returned (.tuple #[.int .u64 0, .int .i64 5]) ∧ w = w' :=
  (fromHigh_any _ w).mono fun _ _ ⟨h, k⟩ => ⟨h.trans (by kernel_rfl), k⟩
theorem aw4 (w : World) : Calls Try.prog 22 #[.string ⟨#[97, 98]⟩, .string ⟨#[1, 2]⟩] w fun e w' => e = .returned (.tuple #[.string ⟨#[96, 96]⟩, .int .i64 0]) ∧ Below w.heap.size w w' :=
  (xor_any _ _ (by decide) (by decide) w).mono fun _ _ ⟨h, k⟩ => ⟨h.trans (by kernel_rfl), k⟩
theorem aw5 (w : World) : Calls Try.prog 22 #[.string ⟨#[97]⟩, .string ⟨#[]⟩] w fun e w' => e = .returned (.tuple #[.string ⟨#[]⟩, .int .i64 5]) ∧ Below w.heap.size w w' :=
  (xor_any _ _ (by decide) (by decide) w).mono fun _ _ ⟨h, k⟩ => ⟨h.trans (by kernel_rfl), k⟩
theorem aw6 (w : World) : Calls Try.prog 14 #[.int .u32 1, .int .i64 33] w fun e w' => e = .returned (.int .u32 2) ∧ w = w' :=
  (left_any 1 (by decide) _ w).mono fun _ _ ⟨h, k⟩ => ⟨h.trans (by kernel_rfl), k⟩
theorem aw7 (w : World) : Calls Try.prog 16 #[.int .u32 1, .int .i64 1] w fun e w' => e = .returned (.int .u32 2147483648) ∧ w = w' :=
  (right_any 1 (by decide) _ w).mono fun _ _ ⟨h, k⟩ => ⟨h.trans (by kernel_rfl), k⟩
theorem aw8 (w : World) : Calls Try.prog 18 #[.int .u64 258, .int .i64 3] w fun e w' => e = .returned (.string ⟨#[2, 1, 0]⟩) ∧ Below w.heap.size w w' :=
  (low_any 258 (by decide) _ w).mono fun _ _ ⟨h, k⟩ => ⟨h.trans (by kernel_rfl), k⟩
theorem aw9 (w : World) : Calls Try.prog 20 #[.int .u64 258, .int .i64 3] w fun e w' => e = .returned (.string ⟨#[0, 1, 2]⟩) ∧ Below w.heap.size w w' :=
  (high_any 258 (by decide) _ w).mono fun _ _ ⟨h, k⟩ => ⟨h.trans (by kernel_rfl), k⟩
theorem aw10 (w : World) : Calls Try.prog 24 #[.string ⟨#[97, 98]⟩, .string ⟨#[97, 98]⟩] w fun e w' => e = .returned (.bool true) ∧ w = w' :=
  (same_any _ _ w).mono fun _ _ ⟨h, k⟩ => ⟨h.trans (by simp), k⟩
theorem aw11 (w : World) : Calls Try.prog 24 #[.string ⟨#[97, 98]⟩, .string ⟨#[97, 99]⟩] w fun e w' => e = .returned (.bool false) ∧ w = w' :=
  (same_any _ _ w).mono fun _ _ ⟨h, k⟩ => ⟨h.trans (by kernel_rfl), k⟩
theorem aw12 (w : World) : Calls Try.prog 25 #[.string ⟨#[97, 98, 99]⟩, .int .i64 2] w fun e w' => e = .returned (.string ⟨#[97, 98, 99, 0]⟩) ∧ Below w.heap.size w w' :=
  (fill_any _ _ (by decide) (by decide) w).mono fun _ _ ⟨h, k⟩ => ⟨h.trans (by kernel_rfl), k⟩

set_option maxHeartbeats 1000000 in
set_option maxRecDepth 100000 in
theorem awake_any (w : World) : Calls Try.prog 9 #[] w fun e w' => e = .returned (.bool true) ∧ Below w.heap.size w w' := by
  have hbel := Below.refl w.heap.size w
  go_enter Try.func9, Try.ntmps9
  go_wp2_with (first
    | (go_at_call 10; ((with_reducible refine (aw1 _).mono ?_); rintro e w' ⟨rfl, rfl⟩))
    | (go_at_call 12; (first | (with_reducible refine (aw2 _).mono ?_) | (with_reducible refine (aw3 _).mono ?_)); rintro e w' ⟨rfl, rfl⟩)
    | (go_at_call 22; (first | (with_reducible refine (aw4 _).mono ?_) | (with_reducible refine (aw5 _).mono ?_)); rintro e w' ⟨rfl, hb⟩; replace hbel := Below_next hbel hb; clear hb)
    | (go_at_call 14; ((with_reducible refine (aw6 _).mono ?_); rintro e w' ⟨rfl, rfl⟩))
    | (go_at_call 16; ((with_reducible refine (aw7 _).mono ?_); rintro e w' ⟨rfl, rfl⟩))
    | (go_at_call 18; ((with_reducible refine (aw8 _).mono ?_); rintro e w' ⟨rfl, hb⟩; replace hbel := Below_next hbel hb; clear hb))
    | (go_at_call 20; ((with_reducible refine (aw9 _).mono ?_); rintro e w' ⟨rfl, hb⟩; replace hbel := Below_next hbel hb; clear hb))
    | (go_at_call 24; (first | (with_reducible refine (aw10 _).mono ?_) | (with_reducible refine (aw11 _).mono ?_)); rintro e w' ⟨rfl, rfl⟩)
    | (go_at_call 25; ((with_reducible refine (aw12 _).mono ?_); rintro e w' ⟨rfl, hb⟩; replace hbel := Below_next hbel hb; clear hb)))
  go_ret
  exact ⟨rfl, hbel⟩
end Go.Proofs.Ytanaingknbjgdaa
