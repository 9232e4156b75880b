/- MacDerives: the law's walk. -/
import Derived.Test.YtmedlgnllgldiaaDoorMc7
import Derived.Deep.RegionHeld3
namespace Go.Proofs.YtmedlgnllgldiaaDoor
open Go.RowKit

theorem slice_from (s : ByteArray) (n : Nat) (h : n ≤ s.size) (w : World) :
    (Instr.slice 9 (.string s) (some (.int .i64 (n : Int))) none none).run Tryd.prog w = .ok (.string (s.extract n s.size)) w := by
  have := run_slice_string_from_if (P := Tryd.prog) (w := w) 9 s .i64 (n : Int) Tryd.underlying9
  rw [this, if_pos (by omega)]
  simp
theorem exL_two (key info : List UInt8) : exL key info 2 = macL key (info ++ [1]) ++ macL key (macL key (info ++ [1]) ++ info ++ [2]) := by
  rw [exL, exL, exL, exPart, exPart, exPart, List.nil_append, List.nil_append]; rfl
theorem exB_64 (key info : List UInt8) : exB key info 64 = macB key (info ++ [1]) ++ macB key (macL key (info ++ [1]) ++ info ++ [2]) := by
  rw [← exB_of key info 64 2 (by decide) (by decide), exL_two]
  apply ByteArray.ext
  have h : (macL key (info ++ [1]) ++ macL key (macL key (info ++ [1]) ++ info ++ [2])).length = 64 := by rw [List.length_append, macL_len, macL_len]
  rw [ByteArray.data_extract, ByteArray.data_append, macB, macB]
  simp only [List.extract_toArray, List.extract_eq_take_drop, List.drop_zero, Nat.sub_zero, List.append_toArray]
  rw [List.take_of_length_le (by omega)]
theorem ext_left (a b : ByteArray) (n : Nat) (h : a.size = n) : (a ++ b).extract 0 n = a := by
  apply ByteArray.ext
  apply Array.ext'
  rw [ext_toList, show (a ++ b).data.toList = a.data.toList ++ b.data.toList by simp, List.drop_zero, Nat.sub_zero, List.take_left' (by simpa using h)]
theorem ext_right (a b : ByteArray) (n m : Nat) (h : a.size = n) (h2 : n + b.size = m) : (a ++ b).extract n m = b := by
  apply ByteArray.ext
  apply Array.ext'
  rw [ext_toList, show (a ++ b).data.toList = a.data.toList ++ b.data.toList by simp, List.drop_left' (by simpa using h), List.take_of_length_le (by simp; omega)]

set_option maxHeartbeats 2000000 in
set_option maxRecDepth 100000 in
theorem macDerives_walk (salt secret info : ByteArray) (_ : salt.size ≤ maxLen) (_ : secret.size ≤ maxLen) (_ : info.size ≤ maxLen) (W : World) (htab : Tab W) :
    Calls Tryd.prog 8 #[.string salt, .string secret, .string info] W fun e w' => e = .returned (.bool true) ∧ Below W.heap.size W w' := by
  have HA := Lib.hid (awake3_any W htab)
  have HT := Lib.hid htab
  clear htab
  have HL := Lib.hid (fun w => large3 w salt secret info)
  have HLA := Lib.hid (largeB_all [salt, secret, info])
  generalize largeB [salt, secret, info] = L at *
  go_enter Tryd.func8, Tryd.ntmps8
  cases L
  · have h1 := HLA.out rfl salt (by simp)
    have h2 := HLA.out rfl secret (by simp)
    have h3 := HLA.out rfl info (by simp)
    have hkl : (macB salt.data.toList secret.data.toList).data.toList = macL salt.data.toList secret.data.toList := by simp [macB]
    have hK := macB_size salt.data.toList secret.data.toList
    have CX := fun w ht => extract_any salt secret (by omega) (by omega) w ht
    have CS0 := fun w ht => msum_any salt secret (by omega) (by omega) w ht
    have CD := fun w ht => derive_any salt secret info 64 (by omega) (by omega) (by omega) w ht
    rw [← hkl] at CD
    generalize macB salt.data.toList secret.data.toList = K at *
    have CE := fun w ht => expand_any K info 64 (by omega) (by omega) w ht
    have h64 : exR K.data.toList info.data.toList 64 = .tuple #[.string (exB K.data.toList info.data.toList 64), .int .i64 0] := rfl
    have CS1 := fun w ht => msum_any K (info ++ ⟨#[1]⟩) (by omega) (by rw [ByteArray.size_append]; show info.size + 1 ≤ _; omega) w ht
    have h1l : (info ++ (⟨#[1]⟩ : ByteArray)).data.toList = info.data.toList ++ [1] := by simp
    have hsp := exB_64 K.data.toList info.data.toList
    have hA := exB_size K.data.toList info.data.toList 64 (by decide)
    rw [h1l] at CS1
    have hM1 := macB_size K.data.toList (info.data.toList ++ [1])
    have hM1l : (macB K.data.toList (info.data.toList ++ [1])).data.toList = macL K.data.toList (info.data.toList ++ [1]) := by simp [macB]
    rw [← hM1l] at hsp
    generalize macB K.data.toList (info.data.toList ++ [1]) = A1 at *
    have CS2 := fun w ht => msum_any K (A1 ++ info ++ ⟨#[2]⟩) (by omega) (by rw [ByteArray.size_append, ByteArray.size_append]; show A1.size + info.size + 1 ≤ _; omega) w ht
    have h2l : (A1 ++ info ++ (⟨#[2]⟩ : ByteArray)).data.toList = A1.data.toList ++ info.data.toList ++ [2] := by simp
    rw [h2l] at CS2
    have hM2 := macB_size K.data.toList (A1.data.toList ++ info.data.toList ++ [2])
    generalize macB K.data.toList (A1.data.toList ++ info.data.toList ++ [2]) = A2 at *
    have he1 : (exB K.data.toList info.data.toList 64).extract 0 32 = A1 := by rw [hsp]; exact ext_left A1 A2 32 hM1
    have he2 : (exB K.data.toList info.data.toList 64).extract 32 64 = A2 := by rw [hsp]; exact ext_right A1 A2 32 64 hM1 (by omega)
    rw [h64] at CD CE
    have hc1 : ∀ w : World, (Op.stringOp .add info ⟨#[1]⟩).run Tryd.prog w = .ok (.string (info ++ ⟨#[1]⟩)) w := fun w => cat_run info ⟨#[1]⟩ (by show info.size + 1 ≤ _; omega) w
    have hc2 : ∀ w : World, (Op.stringOp .add A1 info).run Tryd.prog w = .ok (.string (A1 ++ info)) w := fun w => cat_run A1 info (by omega) w
    have hc3 : ∀ w : World, (Op.stringOp .add (A1 ++ info) ⟨#[2]⟩).run Tryd.prog w = .ok (.string (A1 ++ info ++ ⟨#[2]⟩)) w := fun w => cat_run (A1 ++ info) ⟨#[2]⟩ (by rw [ByteArray.size_append]; show A1.size + info.size + 1 ≤ _; omega) w
    generalize info ++ (⟨#[1]⟩ : ByteArray) = I1 at *
    generalize A1 ++ info ++ (⟨#[2]⟩ : ByteArray) = J at *
    generalize A1 ++ info = J0 at *
    generalize exB K.data.toList info.data.toList 64 = A at *
    have HCX := Lib.hid CX
    have HCS0 := Lib.hid CS0
    have HCS1 := Lib.hid CS1
    have HCS2 := Lib.hid CS2
    have HCD := Lib.hid CD
    have HCE := Lib.hid CE
    clear CX CS0 CS1 CS2 CD CE hsp h1l h2l hM1l h64 hkl h1 h2 h3
    go_wp2_with (first
      | (go_at_call 11; (with_reducible refine HA.out.mono ?_); rintro e w1 ⟨rfl, hb1⟩)
      | (go_at_call 12; (with_reducible refine (HL.out _).mono ?_); rintro e w2 ⟨rfl, rfl⟩))
    have HB1 := Lib.hid (hb1.alloc hb1.size (.cells #[.string salt, .string secret, .string info] 9))
    have HT1 := Lib.hid ((HT.out.next hb1).alloc (.cells #[.string salt, .string secret, .string info] 9))
    generalize (w1.alloc (.cells #[.string salt, .string secret, .string info] 9)) = w2 at *
    clear hb1
    refine (HCX.out _ HT1.out).mono ?_
    rintro e w3 ⟨rfl, hb⟩
    have HT3 := Lib.hid (HT1.out.next hb)
    have HB3 := Lib.hid (HB1.out.trans (hb.mono HB1.out.size))
    clear hb
    go_wp2_with fail
    refine (HCD.out _ HT3.out).mono ?_
    rintro e w4 ⟨rfl, hb⟩
    have HT4 := Lib.hid (HT3.out.next hb)
    have HB4 := Lib.hid (HB3.out.trans (hb.mono HB3.out.size))
    clear hb
    go_wp2_with fail
    refine (HCE.out _ HT4.out).mono ?_
    rintro e w5 ⟨rfl, hb⟩
    have HT5 := Lib.hid (HT4.out.next hb)
    have HB5 := Lib.hid (HB4.out.trans (hb.mono HB4.out.size))
    clear hb
    go_wp2_with fail
    refine (HCS0.out _ HT5.out).mono ?_
    rintro e w6 ⟨rfl, hb⟩
    have HT6 := Lib.hid (HT5.out.next hb)
    have HB6 := Lib.hid (HB5.out.trans (hb.mono HB5.out.size))
    clear hb
    go_wp2_with fail
    have HT6d := Lib.hid (show Tab w6.drew from HT6.out)
    clear HCX HCS0 HCD HCE HT1 HT3 HT4 HT5 HB1 HB3 HB4 HB5
    go_region_held3 (fun _ => True)
      (first | exact trivial)
      (first
        | (go_at_call 14; (with_reducible refine (HCS1.out _ HT6d.out).mono ?_); rintro e w7 ⟨rfl, hb7⟩)
        | (go_at_call 14; (with_reducible refine (HCS2.out _ (HT6d.out.next hb7)).mono ?_); rintro e w8 ⟨rfl, hb8⟩))
    all_goals
      go_wp2
      go_ret
      exact ⟨rfl, HB6.out.trans (((Below.drew (Below.refl _ _)).trans (Below_next hb7 hb8)).mono HB6.out.size)⟩
  · go_wp2_with (first
      | (go_at_call 11; (with_reducible refine HA.out.mono ?_); rintro e w1 ⟨rfl, hb1⟩)
      | (go_at_call 12; (with_reducible refine (HL.out _).mono ?_); rintro e w2 ⟨rfl, rfl⟩))
    go_ret
    exact ⟨rfl, hb1.alloc hb1.size _⟩
end Go.Proofs.YtmedlgnllgldiaaDoor
