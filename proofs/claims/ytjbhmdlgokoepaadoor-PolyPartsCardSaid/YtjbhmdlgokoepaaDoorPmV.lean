/- poly: the contracts of Tag and Check; awake; the record of layer 5. -/
import Derived.Test.YtjbhmdlgokoepaaDoorPmT
import Derived.Test.YtjbhmdlgokoepaaDoorPrT
import Derived.Test.YtjbhmdlgokoepaaDoorPrO
namespace Go.Proofs.YtjbhmdlgokoepaaDoor
open Go.RowKit

set_option maxHeartbeats 1000000 in
theorem ptagF_ok (key text : ByteArray) (hk : key.size = 32) (w : World) (hp : Kp w) :
    Calls Tryd.prog 10 #[.string key, .string text] w fun e w' => e = .returned (.tuple #[.string (tagB key text), .int .i64 0]) ∧ Below w.heap.size w w' := by
  have HN := Lib.hid (polyNew_ok key hk w hp)
  have hkl : key.data.toList.length = 32 := by simpa using hk
  have HT := Lib.hid (fun g w h => ptag_any g key.data.toList text.data.toList hkl w h)
  rw [show (⟨(tagL key.data.toList text.data.toList).toArray⟩ : ByteArray) = tagB key text from rfl] at HT
  generalize tagB key text = T at *
  clear hk hkl hp
  go_enter Tryd.func10, Tryd.ntmps10
  go_wp2_with (first
    | (go_at_call 14; (with_reducible refine HN.out.mono ?_); rintro e w1 ⟨⟨g, rfl, hg, hP1⟩, hb1⟩)
    | (go_at_call 16; (with_reducible refine (padd_fr g key.data.toList [] text w1 hP1).mono ?_); rintro e w2 ⟨rfl, hP2, hf2⟩; rw [List.nil_append] at hP2)
    | (go_at_call 17; (with_reducible refine (HT.out g w2 hP2).mono ?_); rintro e w3 ⟨rfl, hb3⟩))
  go_ret2
  have hb2 := hb1.trans (hf2.below hg hb1.size)
  exact ⟨rfl, hb2.trans (hb3.mono hb2.size)⟩
theorem ptagF_no (key text : ByteArray) (hk : key.size ≠ 32) (w : World) :
    Calls Tryd.prog 10 #[.string key, .string text] w fun e w' => e = .returned (.tuple #[.string ByteArray.empty, .int .i64 5]) ∧ w = w' := by
  have HN := Lib.hid (polyNew_no key hk w)
  clear hk
  go_enter Tryd.func10, Tryd.ntmps10
  go_wp2_with (first
    | (go_at_call 14; (with_reducible refine HN.out.mono ?_); rintro e w1 ⟨rfl, rfl⟩))
  go_ret2
  exact ⟨rfl, rfl⟩
theorem tl_eq (a b : ByteArray) : (a.toList == b.toList) = decide (b = a) := by
  by_cases h : a = b
  · subst h; simp
  · rw [tl_ne h, decide_eq_false fun e => h e.symm]
theorem pcheck_any (key text tag : ByteArray) (w : World) (hp : Kp w) :
    Calls Tryd.prog 15 #[.string key, .string text, .string tag] w fun e w' => e = .returned (.bool (checkB key text tag)) ∧ Below w.heap.size w w' := by
  by_cases hk : key.size = 32
  · have HT := Lib.hid (ptagF_ok key text hk w hp)
    have HS := Lib.hid (fun w => same_any (tagB key text) tag w)
    have he : checkB key text tag = ((tagB key text).toList == tag.toList) := by
      rw [checkB, tl_eq]; simp [hk]
    rw [← he] at HS
    generalize checkB key text tag = R at *
    generalize tagB key text = T at *
    clear hk hp he
    go_enter Tryd.func15, Tryd.ntmps15
    go_wp2_with (first
      | (go_at_call 10; (with_reducible refine HT.out.mono ?_); rintro e w1 ⟨rfl, hb1⟩)
      | (go_at_call 25; (with_reducible refine (HS.out w1).mono ?_); rintro e w2 ⟨rfl, rfl⟩))
    go_ret
    exact ⟨rfl, hb1⟩
  · have HT := Lib.hid (ptagF_no key text hk w)
    have he : checkB key text tag = false := decide_eq_false fun h => hk h.1
    rw [he]
    clear hk hp he
    go_enter Tryd.func15, Tryd.ntmps15
    go_wp2_with (first
      | (go_at_call 10; (with_reducible refine HT.out.mono ?_); rintro e w1 ⟨rfl, rfl⟩))
    go_ret
    exact ⟨rfl, Below.refl _ _⟩

theorem ex_tag : tagB ⟨#[133, 214, 190, 120, 87, 85, 109, 51, 127, 68, 82, 254, 66, 213, 6, 168, 1, 3, 128, 138, 251, 13, 178, 253, 74, 191, 246, 175, 65, 73, 245, 27]⟩ ⟨#[67, 114, 121, 112, 116, 111, 103, 114, 97, 112, 104, 105, 99, 32, 70, 111, 114, 117, 109, 32, 82, 101, 115, 101, 97, 114, 99, 104, 32, 71, 114, 111, 117, 112]⟩ = ⟨#[168, 6, 29, 193, 48, 81, 54, 198, 194, 43, 139, 175, 12, 1, 39, 169]⟩ := by
  rw [tagB, show (ByteArray.mk #[133, 214, 190, 120, 87, 85, 109, 51, 127, 68, 82, 254, 66, 213, 6, 168, 1, 3, 128, 138, 251, 13, 178, 253, 74, 191, 246, 175, 65, 73, 245, 27]).data.toList = exKey from rfl, show (ByteArray.mk #[67, 114, 121, 112, 116, 111, 103, 114, 97, 112, 104, 105, 99, 32, 70, 111, 114, 117, 109, 32, 82, 101, 115, 101, 97, 114, 99, 104, 32, 71, 114, 111, 117, 112]).data.toList = exText from rfl, tag_ex]; rfl
theorem ex_tag2 : (⟨(tagL (ByteArray.mk #[133, 214, 190, 120, 87, 85, 109, 51, 127, 68, 82, 254, 66, 213, 6, 168, 1, 3, 128, 138, 251, 13, 178, 253, 74, 191, 246, 175, 65, 73, 245, 27]).data.toList ([] ++ (ByteArray.mk #[67, 114, 121, 112, 116, 111, 103, 114, 97, 112, 104, 105, 99, 32, 70, 111, 114, 117, 109]).data.toList ++ (ByteArray.mk #[32, 82, 101, 115, 101, 97, 114, 99, 104, 32, 71, 114, 111, 117, 112]).data.toList)).toArray⟩ : ByteArray) = ⟨#[168, 6, 29, 193, 48, 81, 54, 198, 194, 43, 139, 175, 12, 1, 39, 169]⟩ := by
  rw [show (ByteArray.mk #[133, 214, 190, 120, 87, 85, 109, 51, 127, 68, 82, 254, 66, 213, 6, 168, 1, 3, 128, 138, 251, 13, 178, 253, 74, 191, 246, 175, 65, 73, 245, 27]).data.toList = exKey from rfl, show [] ++ (ByteArray.mk #[67, 114, 121, 112, 116, 111, 103, 114, 97, 112, 104, 105, 99, 32, 70, 111, 114, 117, 109]).data.toList ++ (ByteArray.mk #[32, 82, 101, 115, 101, 97, 114, 99, 104, 32, 71, 114, 111, 117, 112]).data.toList = exText from rfl, tag_ex]; rfl
theorem ex_check : checkB ⟨#[133, 214, 190, 120, 87, 85, 109, 51, 127, 68, 82, 254, 66, 213, 6, 168, 1, 3, 128, 138, 251, 13, 178, 253, 74, 191, 246, 175, 65, 73, 245, 27]⟩ ⟨#[67, 114, 121, 112, 116, 111, 103, 114, 97, 112, 104, 105, 99, 32, 70, 111, 114, 117, 109, 32, 82, 101, 115, 101, 97, 114, 99, 104, 32, 71, 114, 111, 117, 112]⟩ ⟨#[168, 6, 29, 193, 48, 81, 54, 198, 194, 43, 139, 175, 12, 1, 39, 169]⟩ = true := decide_eq_true ⟨rfl, ex_tag.symm⟩
theorem ex_check0 : checkB ⟨#[133, 214, 190, 120, 87, 85, 109, 51, 127, 68, 82, 254, 66, 213, 6, 168, 1, 3, 128, 138, 251, 13, 178, 253, 74, 191, 246, 175, 65, 73, 245, 27]⟩ ⟨#[]⟩ ⟨#[168, 6, 29, 193, 48, 81, 54, 198, 194, 43, 139, 175, 12, 1, 39, 169]⟩ = false := decide_eq_false fun h => by
  have h2 := congrArg (fun b : ByteArray => b.data.toList) h.2
  exact tag_ex0 h2
theorem ex_clamp : (⟨(clampL (ByteArray.mk #[255, 255, 255, 255, 255, 255, 255, 255, 255, 255, 255, 255, 255, 255, 255, 255]).data.toList).toArray⟩ : ByteArray) = ⟨#[255, 255, 255, 15, 252, 255, 255, 15, 252, 255, 255, 15, 252, 255, 255, 15]⟩ := by
  rw [show (ByteArray.mk #[255, 255, 255, 255, 255, 255, 255, 255, 255, 255, 255, 255, 255, 255, 255, 255]).data.toList = List.replicate 16 255 from rfl, clamp_ex]

set_option maxHeartbeats 2000000 in
set_option maxRecDepth 100000 in
theorem awake5_any (w : World) (hp : Kp w) :
    Calls Tryd.prog 9 #[] w fun e w' => e = .returned (.bool true) ∧ Below w.heap.size w w' := by
  have HTag : Hid (∀ w, Kp w → Calls Tryd.prog 10 #[.string ⟨#[133, 214, 190, 120, 87, 85, 109, 51, 127, 68, 82, 254, 66, 213, 6, 168, 1, 3, 128, 138, 251, 13, 178, 253, 74, 191, 246, 175, 65, 73, 245, 27]⟩, .string ⟨#[67, 114, 121, 112, 116, 111, 103, 114, 97, 112, 104, 105, 99, 32, 70, 111, 114, 117, 109, 32, 82, 101, 115, 101, 97, 114, 99, 104, 32, 71, 114, 111, 117, 112]⟩] w fun e w' => e = .returned (.tuple #[.string ⟨#[168, 6, 29, 193, 48, 81, 54, 198, 194, 43, 139, 175, 12, 1, 39, 169]⟩, .int .i64 0]) ∧ Below w.heap.size w w') := fun w hp => by
    have := ptagF_ok ⟨#[133, 214, 190, 120, 87, 85, 109, 51, 127, 68, 82, 254, 66, 213, 6, 168, 1, 3, 128, 138, 251, 13, 178, 253, 74, 191, 246, 175, 65, 73, 245, 27]⟩ ⟨#[67, 114, 121, 112, 116, 111, 103, 114, 97, 112, 104, 105, 99, 32, 70, 111, 114, 117, 109, 32, 82, 101, 115, 101, 97, 114, 99, 104, 32, 71, 114, 111, 117, 112]⟩ rfl w hp
    rw [ex_tag] at this; exact this
  have HNew : Hid (∀ w, Kp w → Calls Tryd.prog 14 #[.string ⟨#[133, 214, 190, 120, 87, 85, 109, 51, 127, 68, 82, 254, 66, 213, 6, 168, 1, 3, 128, 138, 251, 13, 178, 253, 74, 191, 246, 175, 65, 73, 245, 27]⟩] w fun e w' => (∃ g, e = .returned (.tuple #[.pointer (some ⟨g, 0, none⟩), .int .i64 0]) ∧ w.heap.size ≤ g ∧ PolyOf w' g (ByteArray.mk #[133, 214, 190, 120, 87, 85, 109, 51, 127, 68, 82, 254, 66, 213, 6, 168, 1, 3, 128, 138, 251, 13, 178, 253, 74, 191, 246, 175, 65, 73, 245, 27]).data.toList []) ∧ Below w.heap.size w w') := fun w hp => polyNew_ok ⟨#[133, 214, 190, 120, 87, 85, 109, 51, 127, 68, 82, 254, 66, 213, 6, 168, 1, 3, 128, 138, 251, 13, 178, 253, 74, 191, 246, 175, 65, 73, 245, 27]⟩ rfl w hp
  have HNo : Hid (∀ w, Calls Tryd.prog 14 #[.string ⟨#[]⟩] w fun e w' => e = .returned (.tuple #[.pointer none, .int .i64 5]) ∧ w = w') := fun w => polyNew_no ⟨#[]⟩ (by decide) w
  have HCl : Hid (∀ w, Kp w → Calls Tryd.prog 12 #[.string ⟨#[255, 255, 255, 255, 255, 255, 255, 255, 255, 255, 255, 255, 255, 255, 255, 255]⟩] w fun e w' => e = .returned (.tuple #[.string ⟨#[255, 255, 255, 15, 252, 255, 255, 15, 252, 255, 255, 15, 252, 255, 255, 15]⟩, .int .i64 0]) ∧ Below w.heap.size w w') := fun w hp => by
    have := clamp_ok ⟨#[255, 255, 255, 255, 255, 255, 255, 255, 255, 255, 255, 255, 255, 255, 255, 255]⟩ rfl w hp
    rw [ex_clamp] at this; exact this
  have HTg : Hid (∀ g w, PolyOf w g (ByteArray.mk #[133, 214, 190, 120, 87, 85, 109, 51, 127, 68, 82, 254, 66, 213, 6, 168, 1, 3, 128, 138, 251, 13, 178, 253, 74, 191, 246, 175, 65, 73, 245, 27]).data.toList ([] ++ (ByteArray.mk #[67, 114, 121, 112, 116, 111, 103, 114, 97, 112, 104, 105, 99, 32, 70, 111, 114, 117, 109]).data.toList ++ (ByteArray.mk #[32, 82, 101, 115, 101, 97, 114, 99, 104, 32, 71, 114, 111, 117, 112]).data.toList) → Calls Tryd.prog 17 #[.pointer (some ⟨g, 0, none⟩)] w fun e w' => e = .returned (.string ⟨#[168, 6, 29, 193, 48, 81, 54, 198, 194, 43, 139, 175, 12, 1, 39, 169]⟩) ∧ Below w.heap.size w w') := fun g w h => by
    have := ptag_any g _ _ rfl w h
    rw [ex_tag2] at this; exact this
  have HC1 : Hid (∀ w, Kp w → Calls Tryd.prog 15 #[.string ⟨#[133, 214, 190, 120, 87, 85, 109, 51, 127, 68, 82, 254, 66, 213, 6, 168, 1, 3, 128, 138, 251, 13, 178, 253, 74, 191, 246, 175, 65, 73, 245, 27]⟩, .string ⟨#[67, 114, 121, 112, 116, 111, 103, 114, 97, 112, 104, 105, 99, 32, 70, 111, 114, 117, 109, 32, 82, 101, 115, 101, 97, 114, 99, 104, 32, 71, 114, 111, 117, 112]⟩, .string ⟨#[168, 6, 29, 193, 48, 81, 54, 198, 194, 43, 139, 175, 12, 1, 39, 169]⟩] w fun e w' => e = .returned (.bool true) ∧ Below w.heap.size w w') := fun w hp => by
    have := pcheck_any ⟨#[133, 214, 190, 120, 87, 85, 109, 51, 127, 68, 82, 254, 66, 213, 6, 168, 1, 3, 128, 138, 251, 13, 178, 253, 74, 191, 246, 175, 65, 73, 245, 27]⟩ ⟨#[67, 114, 121, 112, 116, 111, 103, 114, 97, 112, 104, 105, 99, 32, 70, 111, 114, 117, 109, 32, 82, 101, 115, 101, 97, 114, 99, 104, 32, 71, 114, 111, 117, 112]⟩ ⟨#[168, 6, 29, 193, 48, 81, 54, 198, 194, 43, 139, 175, 12, 1, 39, 169]⟩ w hp
    rw [ex_check] at this; exact this
  have HC0 : Hid (∀ w, Kp w → Calls Tryd.prog 15 #[.string ⟨#[133, 214, 190, 120, 87, 85, 109, 51, 127, 68, 82, 254, 66, 213, 6, 168, 1, 3, 128, 138, 251, 13, 178, 253, 74, 191, 246, 175, 65, 73, 245, 27]⟩, .string ⟨#[]⟩, .string ⟨#[168, 6, 29, 193, 48, 81, 54, 198, 194, 43, 139, 175, 12, 1, 39, 169]⟩] w fun e w' => e = .returned (.bool false) ∧ Below w.heap.size w w') := fun w hp => by
    have := pcheck_any ⟨#[133, 214, 190, 120, 87, 85, 109, 51, 127, 68, 82, 254, 66, 213, 6, 168, 1, 3, 128, 138, 251, 13, 178, 253, 74, 191, 246, 175, 65, 73, 245, 27]⟩ ⟨#[]⟩ ⟨#[168, 6, 29, 193, 48, 81, 54, 198, 194, 43, 139, 175, 12, 1, 39, 169]⟩ w hp
    rw [ex_check0] at this; exact this
  have cv : ∀ w : World, (convert 33 9 (.slice (some ⟨w.heap.size, 0, none⟩) 16 16)).run Tryd.prog (w.alloc (.cells #[.int .u8 255, .int .u8 255, .int .u8 255, .int .u8 255, .int .u8 255, .int .u8 255, .int .u8 255, .int .u8 255, .int .u8 255, .int .u8 255, .int .u8 255, .int .u8 255, .int .u8 255, .int .u8 255, .int .u8 255, .int .u8 255] 5)) = .ok (.string ⟨#[255, 255, 255, 255, 255, 255, 255, 255, 255, 255, 255, 255, 255, 255, 255, 255]⟩) (w.alloc (.cells #[.int .u8 255, .int .u8 255, .int .u8 255, .int .u8 255, .int .u8 255, .int .u8 255, .int .u8 255, .int .u8 255, .int .u8 255, .int .u8 255, .int .u8 255, .int .u8 255, .int .u8 255, .int .u8 255, .int .u8 255, .int .u8 255] 5)) :=
    fun w => conv_rowB (l := List.replicate 16 255) (Arr.new w _ _) rfl
  have HP := Lib.hid hp
  clear hp
  go_enter Tryd.func9, Tryd.ntmps9
  go_wp2_with fail
  refine (HTag.out _ HP.out).mono ?_
  rintro e w1 ⟨rfl, hb⟩
  have HP1 := Lib.hid (HP.out.next hb)
  have HB1 := Lib.hid hb
  clear hb
  go_wp2_with fail
  refine (HNew.out _ HP1.out).mono ?_
  rintro e w2 ⟨⟨g, rfl, hg, hpo⟩, hb⟩
  have HP2 := Lib.hid (HP1.out.next hb)
  have HB2 := Lib.hid (HB1.out.trans (hb.mono HB1.out.size))
  have HG : Hid (w.heap.size ≤ g ∧ 0 ≠ g) := ⟨Nat.le_trans HB1.out.size hg, Nat.ne_of_lt (Nat.lt_of_lt_of_le HP1.out.lt hg)⟩
  have HO2 := Lib.hid hpo
  clear hb hg hpo
  go_wp2_with fail
  refine (HNo.out _).mono ?_
  rintro e w2' ⟨rfl, rfl⟩
  go_wp2_with fail
  refine (HCl.out _ ?_).mono ?_
  · exact HP2.out.alloc _
  rintro e w3 ⟨rfl, hb⟩
  have hal := (Below.refl w2.heap.size w2).alloc (Nat.le_refl _) (.cells #[.int .u8 255, .int .u8 255, .int .u8 255, .int .u8 255, .int .u8 255, .int .u8 255, .int .u8 255, .int .u8 255, .int .u8 255, .int .u8 255, .int .u8 255, .int .u8 255, .int .u8 255, .int .u8 255, .int .u8 255, .int .u8 255] 5)
  have HB3 : Hid (Below w2.heap.size w2 w3) := hal.trans (hb.mono hal.size)
  have HP3 := Lib.hid (HP2.out.next HB3.out)
  have HO3 := Lib.hid (HO2.out.next HB3.out)
  have HB3' := Lib.hid (HB2.out.trans (HB3.out.mono HB2.out.size))
  clear hb hal cv
  go_wp2_with fail
  refine (padd_fr g _ _ _ w3 HO3.out).mono ?_
  rintro e w4 ⟨rfl, hpo, hf⟩
  have HO4 := Lib.hid hpo
  have HB4 := Lib.hid (HB3'.out.trans (hf.below HG.out.1 HB3'.out.size))
  have HP4 := Lib.hid (HP3.out.fr hf HG.out.2)
  clear hpo hf
  go_wp2_with fail
  refine (padd_fr g _ _ _ w4 HO4.out).mono ?_
  rintro e w5 ⟨rfl, hpo, hf⟩
  have HO5 := Lib.hid hpo
  have HB5 := Lib.hid (HB4.out.trans (hf.below HG.out.1 HB4.out.size))
  have HP5 := Lib.hid (HP4.out.fr hf HG.out.2)
  clear hpo hf HP HP1 HP2 HP3 HP4 HB1 HB2 HB3 HB3' HB4 HO2 HO3 HO4
  go_wp2_with fail
  refine (HTg.out _ _ HO5.out).mono ?_
  rintro e w6 ⟨rfl, hb⟩
  have HB6 := Lib.hid (HB5.out.trans (hb.mono HB5.out.size))
  have HP6 := Lib.hid (HP5.out.next hb)
  clear hb
  go_wp2_with fail
  refine (HC1.out _ HP6.out).mono ?_
  rintro e w7 ⟨rfl, hb⟩
  have HB7 := Lib.hid (HB6.out.trans (hb.mono HB6.out.size))
  have HP7 := Lib.hid (HP6.out.next hb)
  clear hb
  go_wp2_with fail
  refine (HC0.out _ HP7.out).mono ?_
  rintro e w8 ⟨rfl, hb⟩
  have HB8 := Lib.hid (HB7.out.trans (hb.mono HB7.out.size))
  clear hb
  go_wp2_with fail
  go_ret
  exact ⟨rfl, HB8.out⟩

/-- What the laws of layer 5 need of the code. -/
theorem polyC : PolyN Kp where
  next := fun h hb => h.next hb
  alloc := fun o h => h.alloc o
  awake := awake5_any
  tag_ok := fun key text hk _ w hp => ptagF_ok key text hk w hp
  tag_no := fun key text hk w _ => (ptagF_no key text hk w).mono fun _ _ ⟨h1, h2⟩ => ⟨h1, h2 ▸ Below.refl _ _⟩
  clamp_ok := fun s hs w hp => clamp_ok s hs w hp
  clamp_no := fun s hs w _ => (clamp_no s hs w).mono fun _ _ ⟨h1, h2⟩ => ⟨h1, h2 ▸ Below.refl _ _⟩
  check := fun key text tag _ w hp => pcheck_any key text tag w hp
  new_ok := fun key hk w hp => (polyNew_ok key hk w hp).mono fun _ _ ⟨⟨g, h1, _, _⟩, h2⟩ => ⟨⟨⟨g, 0, none⟩, h1⟩, h2⟩
  new_no := fun key hk w _ => (polyNew_no key hk w).mono fun _ _ ⟨h1, h2⟩ => ⟨h1, h2 ▸ Below.refl _ _⟩
end Go.Proofs.YtjbhmdlgokoepaaDoor
