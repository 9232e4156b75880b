/- sha: the contract of Sum; the law's 'awake'. -/
import Derived.Test.YtmedlgnllgldiaaDoorSh10
import Derived.Test.YtmedlgnllgldiaaDoorShE
namespace Go.Proofs.YtmedlgnllgldiaaDoor
open Go.RowKit

set_option maxHeartbeats 1000000 in
theorem sum_any (t : ByteArray) (ht : t.size ≤ 1099511627776) (w : World) (htab : Tab w) :
    Calls Tryd.prog 26 #[.string t] w fun e w' => e = .returned (.string ⟨(shaL t.data.toList).toArray⟩) ∧ Below w.heap.size w w' := by
  have HT := Lib.hid htab
  have HN := Lib.hid new_any
  have HL := Lib.hid ht
  clear htab ht
  go_enter Tryd.func26, Tryd.ntmps26
  go_wp2_with (first
    | (go_at_call 45; (with_reducible refine (HN.out _).mono ?_); rintro e w1 ⟨⟨g, rfl, hg, hh⟩, hb⟩; have HT1 := Lib.hid (HT.out.next hb); have hb1 := hb)
    | (go_at_call 42; (with_reducible refine (add_any w.heap.size g hg HT.out.lt [] t w1 hh (by have := HL.out; simpa using this) hb1.size HT1.out).mono ?_); rintro e w2 ⟨rfl, hh2, hb2⟩; have HT2 := Lib.hid (HT1.out.below hb2 HT.out.lt); have HB2 := Lib.hid (hb1.trans hb2))
    | (go_at_call 43; (with_reducible refine (hsum_any g _ w2 hh2 (by have := HL.out; simpa using this) HT2.out).mono ?_); rintro e w3 ⟨rfl, hb3⟩))
  go_ret
  exact ⟨rfl, HB2.out.trans (hb3.mono HB2.out.size)⟩

/-- The digest of 'abc', called. -/
theorem sum_abc (w : World) (htab : Tab w) : Calls Tryd.prog 26 #[.string ⟨#[97, 98, 99]⟩] w fun e w' => e = .returned (.string ⟨#[186, 120, 22, 191, 143, 1, 207, 234, 65, 65, 64, 222, 93, 174, 34, 35, 176, 3, 97, 163, 150, 23, 122, 156, 180, 16, 255, 97, 242, 0, 21, 173]⟩) ∧ Below w.heap.size w w' :=
  (sum_any ⟨#[97, 98, 99]⟩ (by decide) w htab).mono fun _ _ ⟨h, k⟩ => ⟨h.trans (by rw [show (ByteArray.mk #[97, 98, 99]).data.toList = [97, 98, 99] from rfl, sha_abc]), k⟩
theorem hsum_abc (g : Nat) (w : World) (h : HashOf w g [97, 98, 99]) (htab : Tab w) : Calls Tryd.prog 43 #[.pointer (some ⟨g, 0, none⟩)] w fun e w' => e = .returned (.string ⟨#[186, 120, 22, 191, 143, 1, 207, 234, 65, 65, 64, 222, 93, 174, 34, 35, 176, 3, 97, 163, 150, 23, 122, 156, 180, 16, 255, 97, 242, 0, 21, 173]⟩) ∧ Below w.heap.size w w' :=
  (hsum_any g [97, 98, 99] w h (by decide) htab).mono fun _ _ ⟨h, k⟩ => ⟨h.trans (by rw [sha_abc]), k⟩
theorem mix_x (w : World) (htab : Tab w) : Calls Tryd.prog 27 #[.agg firstS.cells, .string ⟨#[120]⟩] w fun e w' => e = .returned (.tuple #[.agg zeroS.cells, .int .i64 5]) ∧ Below w.heap.size w w' :=
  (Mix_any firstS firstS_ok ⟨#[120]⟩ w htab).mono fun _ _ ⟨h, k⟩ => ⟨h.trans (by rw [mixR, if_neg (by decide), mixE, if_neg (by decide)]), k⟩
theorem pad_3 (w : World) : Calls Tryd.prog 31 #[.int .u64 3] w fun e w' => (∃ X : ByteArray, e = .returned (.string X) ∧ X.size = 61) ∧ Below w.heap.size w w' :=
  (pad_any 3 (by decide) w).mono fun _ _ ⟨h, k⟩ => ⟨⟨_, h, by show (padL 3).toArray.size = 61; rw [List.size_toArray, padL_len]; rfl⟩, k⟩

set_option maxHeartbeats 2000000 in
set_option maxRecDepth 100000 in
theorem awake_any (w : World) (htab : Tab w) : Calls Tryd.prog 25 #[] w fun e w' => e = .returned (.bool true) ∧ Below w.heap.size w w' := by
  have HT := Lib.hid htab
  have HN := Lib.hid new_any
  have HF := Lib.hid first_any
  have HP3 := Lib.hid pad_3
  clear htab
  go_enter Tryd.func25, Tryd.ntmps25
  go_wp2_with fail
  refine (HN.out _).mono ?_
  rintro e w1 ⟨⟨g, rfl, hg, hh⟩, hb1⟩
  have HT1 := Lib.hid (HT.out.next hb1)
  have HH1 := Lib.hid hh
  have HG := Lib.hid hg
  have HB1 := Lib.hid hb1
  clear hh hg hb1
  go_wp2_with fail
  refine (add_any w.heap.size g HG.out HT.out.lt [] ⟨#[97]⟩ w1 HH1.out (by decide) HB1.out.size HT1.out).mono ?_
  rintro e w2 ⟨rfl, hh, hb⟩
  have HT2 := Lib.hid (HT1.out.below hb HT.out.lt)
  have HH2 := Lib.hid hh
  have HB2 := Lib.hid (HB1.out.trans hb)
  clear hh hb
  go_wp2_with fail
  refine (add_any w.heap.size g HG.out HT.out.lt [97] ⟨#[98, 99]⟩ w2 HH2.out (by decide) HB2.out.size HT2.out).mono ?_
  rintro e w3 ⟨rfl, hh, hb⟩
  have HT3 := Lib.hid (HT2.out.below hb HT.out.lt)
  have HH3 : Hid (HashOf w3 g [97, 98, 99]) := hh
  have HB3 := Lib.hid (HB2.out.trans hb)
  clear hh hb
  go_wp2_with (go_at_call 30; (with_reducible refine (HF.out _).mono ?_); rintro e w4 ⟨rfl, hb⟩; have HT4 := Lib.hid (HT3.out.next hb); have HH4 := Lib.hid (HH3.out.next hb); have HB4 := Lib.hid (HB3.out.trans (hb.mono HB3.out.size)); clear hb)
  refine (mix_x _ HT4.out).mono ?_
  rintro e w5 ⟨rfl, hb⟩
  have HT5 := Lib.hid (HT4.out.next hb)
  have HH5 := Lib.hid (HH4.out.next hb)
  have HB5 := Lib.hid (HB4.out.trans (hb.mono HB4.out.size))
  clear hb
  have HT6 := Lib.hid (HT5.out.alloc (.cells zeroS.cells 45))
  have HH6 := Lib.hid (HH5.out.next ((Below.refl w5.heap.size w5).alloc (Nat.le_refl _) (.cells zeroS.cells 45)))
  have HB6 := Lib.hid (HB5.out.alloc HB5.out.size (.cells zeroS.cells 45))
  go_wp2_with (with_reducible refine wpList_store8_new rfl _ _ rfl _ (by simp) rfl _ rfl (cells_size _) (cells_one _) ?_)
  generalize w5.alloc (.cells zeroS.cells 45) = w6 at *
  refine (sum_abc _ HT6.out).mono ?_
  rintro e w7 ⟨rfl, hb⟩
  have HT7 := Lib.hid (HT6.out.next hb)
  have HH7 := Lib.hid (HH6.out.next hb)
  have HB7 := Lib.hid (HB6.out.trans (hb.mono HB6.out.size))
  clear hb
  go_wp2_with fail
  refine (hsum_abc g _ HH7.out HT7.out).mono ?_
  rintro e w8 ⟨rfl, hb⟩
  have HT8 := Lib.hid (HT7.out.next hb)
  have HH8 := Lib.hid (HH7.out.next hb)
  have HB8 := Lib.hid (HB7.out.trans (hb.mono HB7.out.size))
  clear hb
  go_wp2_with fail
  refine (sum_abc _ HT8.out).mono ?_
  rintro e w9 ⟨rfl, hb⟩
  have HH9 := Lib.hid (HH8.out.next hb)
  have HB9 := Lib.hid (HB8.out.trans (hb.mono HB8.out.size))
  clear hb
  go_wp2_with fail
  refine (len_any g _ _ HH9.out).mono ?_
  rintro e w10 ⟨rfl, rfl⟩
  go_wp2_with fail
  refine (HP3.out _).mono ?_
  rintro e w11 ⟨⟨X, rfl, hX⟩, hb⟩
  have hX1 : ((X.size : Int) == 61) = true := by rw [hX]; rfl
  clear hX
  go_wp2
  go_ret
  exact ⟨rfl, HB9.out.trans (hb.mono HB9.out.size)⟩
end Go.Proofs.YtmedlgnllgldiaaDoor
