/- awake of layer 10's laws, over the record. -/
import Derived.Test.YtahbbnimoogapaaGreatDoorMU
import Derived.Test.YtahbbnimoogapaaGreatDoorMX
namespace Go.Proofs.YtahbbnimoogapaaGreatDoor
open Go.RowKit

theorem ex10_1 : parV [109, 97, 105, 108, 32, 70, 114, 111, 109, 58, 32, 60, 97, 64, 66, 46, 99, 62, 32, 32, 98, 111, 100, 121, 61, 56, 98, 105, 116, 109, 105, 109, 101, 32, 115, 105, 122, 101, 61, 48, 49, 50] = .tuple #[.agg #[.int .i64 3, .string ⟨#[]⟩, .string ⟨#[97]⟩, .string ⟨#[98, 46, 99]⟩, .int .i64 12, .bool true], .int .i64 0] := by kernel_rfl
theorem ex10_2 : parV [82, 67, 80, 84, 32, 84, 79, 58, 60, 97, 64, 98, 62, 32, 120] = .tuple #[.agg #[.int .i64 0, .string ⟨#[]⟩, .string ⟨#[]⟩, .string ⟨#[]⟩, .int .i64 0, .bool false], .int .i64 2] := by kernel_rfl
theorem ex10_3 : parV [72, 69, 76, 76, 79, 32, 120] = .tuple #[.agg #[.int .i64 0, .string ⟨#[]⟩, .string ⟨#[]⟩, .string ⟨#[]⟩, .int .i64 0, .bool false], .int .i64 1] := by kernel_rfl
theorem num12 : numL 12 = [49, 50] := by rw [numL, if_neg (by decide), numL, if_pos (by decide)]; rfl
theorem num250 : numL 250 = [50, 53, 48] := by rw [numL, if_neg (by decide), numL, if_neg (by decide), numL, if_pos (by decide)]; rfl
theorem ex10_4 : wriV ⟨3, [], ⟨[97], [98, 46, 99]⟩, 12, true⟩ = .tuple #[.string ⟨#[77, 65, 73, 76, 32, 70, 82, 79, 77, 58, 60, 97, 64, 98, 46, 99, 62, 32, 83, 73, 90, 69, 61, 49, 50, 32, 66, 79, 68, 89, 61, 56, 66, 73, 84, 77, 73, 77, 69]⟩, .int .i64 0] := by
  have h : sizT 12 = 32 :: (sizW ++ [49, 50]) := by rw [← num12]; rfl
  have hl : lineC ⟨3, [], ⟨[97], [98, 46, 99]⟩, 12, true⟩ = some [77, 65, 73, 76, 32, 70, 82, 79, 77, 58, 60, 97, 64, 98, 46, 99, 62, 32, 83, 73, 90, 69, 61, 49, 50, 32, 66, 79, 68, 89, 61, 56, 66, 73, 84, 77, 73, 77, 69] := by
    rw [lineC, if_neg (by decide), if_pos (by decide)]
    show (if _ then some (vb 3 ++ 32 :: (froW ++ ([60, 97, 64, 98, 46, 99, 62] ++ (sizT 12 ++ bodT true)))) else none) = _
    rw [h, if_pos (by decide)]; rfl
  rw [wriV, if_neg (by decide), hl]; rfl
theorem ex10_5 : linE 250 [[97], []] = 0 ∧ linO 250 [[97], []] = [[50, 53, 48, 45, 97], [50, 53, 48, 32]] := by
  have h : linE 250 [[97], []] = 0 := by decide
  refine ⟨h, ?_⟩
  rw [linO, if_pos h, show (250 : Int).toNat = 250 from rfl, num250]; rfl
theorem ex10_6 : redE [[50, 53, 48, 45, 97], [50, 53, 48, 32]] = 0 ∧ redN [[50, 53, 48, 45, 97], [50, 53, 48, 32]] = 250 ∧ redT [[50, 53, 48, 45, 97], [50, 53, 48, 32]] = [[97], []] :=
  red_yes (red_rep (by decide) (by decide) (by rw [repL, if_pos (by decide), num250]; rfl))
theorem ex10_7 : linE 199 [[97]] = 3 := by decide
theorem lit_texts (w : World) (L : List (List UInt8)) (hn : L.length ≤ 100) (hx : ∀ x ∈ L, x.length ≤ 1000) : IsTexts (w.alloc (.cells (strV (bas L)).toArray 9)) (some ⟨w.heap.size, 0, none⟩) L.length L.length (bas L) :=
  .inr ⟨_, rfl, Nat.le_refl _, by unfold maxLen; omega, bas_len L, fun i hi => by
    rw [addr_add, Nat.zero_add]
    exact (Arr.new w _ _).cell (by rw [List.getElem?_toArray, strV_get (bas L) i (by rw [bas_len]; exact hi)]), mem_bas (n := 1000) (by decide) hx⟩
theorem IsTexts.front {w : World} {a : Option Addr} {n cap : Nat} {L : List ByteArray} (h : IsTexts w a n cap L) (k : Nat) (hk : k ≤ n) : IsTexts w a k cap (L.take k) := by
  rcases h with ⟨rfl, rfl, rfl, rfl⟩ | ⟨x, rfl, h1, h2, h3, h4, h5⟩
  · obtain rfl : k = 0 := by omega
    exact .inl ⟨rfl, rfl, rfl, rfl⟩
  · refine .inr ⟨x, rfl, Nat.le_trans hk h1, h2, by rw [List.length_take]; omega, fun i hi => ?_, fun s hs => h5 s (List.mem_of_mem_take hs)⟩
    rw [h4 i (by omega), List.getD_eq_getElem?_getD, List.getD_eq_getElem?_getD, List.getElem?_take, if_pos hi]
theorem two_form {LL : List (List UInt8)} (hLL : [[50, 53, 48, 45, 97], [50, 53, 48, 32]] = LL) {w : World} {a : Option Addr} {n c : Nat} (h : IsTexts w a n c (bas LL)) : ∃ y, a = some y ∧ n = 2 ∧ (1 : Int) ≤ (c : Int) := by
  obtain ⟨h1, h2, _⟩ := h.len
  rw [bas_len, ← hLL] at h1
  have h1 : n = 2 := h1.symm
  obtain ⟨y, hy, _⟩ := h.at (i := 0) (by omega)
  exact ⟨y, hy, h1, by omega⟩
theorem two_cells {LL : List (List UInt8)} (hLL : [[50, 53, 48, 45, 97], [50, 53, 48, 32]] = LL) {w : World} {y : Addr} {c : Nat} (h : IsTexts w (some y) 2 c (bas LL)) : w.cell? y = some (.string ⟨#[50, 53, 48, 45, 97]⟩) ∧ w.cell? ⟨y.block, y.off + 1, none⟩ = some (.string ⟨#[50, 53, 48, 32]⟩) := by
  subst hLL
  obtain ⟨_, h0, c0, _⟩ := h.at (i := 0) (by decide)
  obtain ⟨_, h1, c1, _⟩ := h.at (i := 1) (by decide)
  cases h0; cases h1
  have e : y.add 0 = y := by obtain ⟨b, o, q⟩ := y; cases q <;> simp [Addr.add]
  rw [e] at c0
  exact ⟨c0, c1⟩

set_option maxHeartbeats 8000000 in
set_option maxRecDepth 100000 in
theorem awake10_walk (C : CmdB) (W : World) (hTb : Tb W) :

    Calls Tryz.prog 9 #[] W fun e w' => e = .returned (.bool true) ∧ Below W.heap.size W w' := by
  have HTb := Lib.hid hTb
  clear hTb
  have hP1 := fun w g => C.parse ⟨#[109, 97, 105, 108, 32, 70, 114, 111, 109, 58, 32, 60, 97, 64, 66, 46, 99, 62, 32, 32, 98, 111, 100, 121, 61, 56, 98, 105, 116, 109, 105, 109, 101, 32, 115, 105, 122, 101, 61, 48, 49, 50]⟩ (by decide) w g
  rw [show (⟨#[109, 97, 105, 108, 32, 70, 114, 111, 109, 58, 32, 60, 97, 64, 66, 46, 99, 62, 32, 32, 98, 111, 100, 121, 61, 56, 98, 105, 116, 109, 105, 109, 101, 32, 115, 105, 122, 101, 61, 48, 49, 50]⟩ : ByteArray).data.toList = [109, 97, 105, 108, 32, 70, 114, 111, 109, 58, 32, 60, 97, 64, 66, 46, 99, 62, 32, 32, 98, 111, 100, 121, 61, 56, 98, 105, 116, 109, 105, 109, 101, 32, 115, 105, 122, 101, 61, 48, 49, 50] from rfl, ex10_1] at hP1
  have HP1 := Lib.hid hP1
  have hP2 := fun w g => C.parse ⟨#[82, 67, 80, 84, 32, 84, 79, 58, 60, 97, 64, 98, 62, 32, 120]⟩ (by decide) w g
  rw [show (⟨#[82, 67, 80, 84, 32, 84, 79, 58, 60, 97, 64, 98, 62, 32, 120]⟩ : ByteArray).data.toList = [82, 67, 80, 84, 32, 84, 79, 58, 60, 97, 64, 98, 62, 32, 120] from rfl, ex10_2] at hP2
  have HP2 := Lib.hid hP2
  have hP3 := fun w g => C.parse ⟨#[72, 69, 76, 76, 79, 32, 120]⟩ (by decide) w g
  rw [show (⟨#[72, 69, 76, 76, 79, 32, 120]⟩ : ByteArray).data.toList = [72, 69, 76, 76, 79, 32, 120] from rfl, ex10_3] at hP3
  have HP3 := Lib.hid hP3
  have hW := fun w g => C.write ⟨3, [], ⟨[97], [98, 46, 99]⟩, 12, true⟩ (by decide) (by decide) (by decide) ⟨by decide, by decide⟩ w g
  rw [ex10_4, show cmdV ⟨3, [], ⟨[97], [98, 46, 99]⟩, 12, true⟩ = .agg #[.int .i64 3, .string ⟨#[]⟩, .string ⟨#[97]⟩, .string ⟨#[98, 46, 99]⟩, .int .i64 12, .bool true] from rfl] at hW
  have HW := Lib.hid hW
  have hL1 := fun a n c w g h => C.lines 250 a n c [[97], []] (by have := IsTexts.len h; simp [bas] at this; omega) (by decide) w g h
  rw [ex10_5.1, ex10_5.2] at hL1
  have HL1 := Lib.hid hL1
  have hL2 := fun a n c w g h => C.lines 199 a n c [[97]] (by have := IsTexts.len h; simp [bas] at this; omega) (by decide) w g h
  rw [ex10_7] at hL2
  have HL2 := Lib.hid hL2
  generalize hLL : ([[50, 53, 48, 45, 97], [50, 53, 48, 32]] : List (List UInt8)) = LL at *
  have hR := fun a n c w g h => C.readReply a n c LL (by have := IsTexts.len h; rw [bas_len, ← hLL] at this; simp at this; omega) (by rw [← hLL]; decide) w g h
  obtain ⟨r1, r2, r3⟩ := ex10_6
  rw [hLL] at r1 r2 r3
  rw [r1, r2, r3] at hR
  have HR := Lib.hid hR
  have hWh := fun a n c w h => C.whole a n c LL (by have := IsTexts.len h; rw [bas_len, ← hLL] at this; simp at this; omega) (by rw [← hLL]; decide) w h
  rw [show whoL LL 0 = 2 by rw [← hLL]; decide] at hWh
  have HWh := Lib.hid hWh
  have hWf := fun a n c w h => C.whole a n c (LL.take 1) (by have := IsTexts.len h; rw [bas_len, ← hLL] at this; simp at this; omega) (by rw [← hLL]; decide) w h
  rw [show whoL (LL.take 1) 0 = 0 by rw [← hLL]; decide, show bas (LL.take 1) = (bas LL).take 1 from List.map_take] at hWf
  have HWf := Lib.hid hWf
  have hC1 := fun w => C.class' 451 w
  rw [show clsZ 451 = 4 from rfl] at hC1
  have HC1 := Lib.hid hC1
  have hC2 := fun w => C.class' 600 w
  rw [show clsZ 600 = 0 from rfl] at hC2
  have HC2 := Lib.hid hC2
  have HLL := Lib.hid hLL
  have HX1 := Lib.hid (fun w => (show IsTexts (w.alloc (.cells #[.string ⟨#[97]⟩, .string ⟨#[]⟩] 9)) (some ⟨w.heap.size, 0, none⟩) 2 2 (bas [[97], []]) from lit_texts w [[97], []] (by decide) (by decide)))
  have HX2 := Lib.hid (fun (w : World) (o : Obj) => (show IsTexts ((w.alloc o).alloc (.cells #[.string ⟨#[97]⟩] 9)) (some ⟨w.heap.size + 1, 0, none⟩) 1 1 (bas [[97]]) by
    have h := lit_texts (w.alloc o) [[97]] (by decide) (by decide)
    rw [show (w.alloc o).heap.size = w.heap.size + 1 by show (w.heap.push _).size = _; simp] at h
    exact h))
  have q1 : ((⟨#[77, 65, 73, 76, 32, 70, 82, 79, 77, 58, 60, 97, 64, 98, 46, 99, 62, 32, 83, 73, 90, 69, 61, 49, 50, 32, 66, 79, 68, 89, 61, 56, 66, 73, 84, 77, 73, 77, 69]⟩ : ByteArray).toList == [77, 65, 73, 76, 32, 70, 82, 79, 77, 58, 60, 97, 64, 98, 46, 99, 62, 32, 83, 73, 90, 69, 61, 49, 50, 32, 66, 79, 68, 89, 61, 56, 66, 73, 84, 77, 73, 77, 69]) = true := toList_lit _ _ _ (decide_eq_true rfl)
  have q2 : ((⟨#[50, 53, 48, 45, 97]⟩ : ByteArray).toList == [50, 53, 48, 45, 97]) = true := toList_lit _ _ _ (decide_eq_true rfl)
  have q3 : ((⟨#[50, 53, 48, 32]⟩ : ByteArray).toList == [50, 53, 48, 32]) = true := toList_lit _ _ _ (decide_eq_true rfl)
  have q4 : ((⟨#[97]⟩ : ByteArray).toList == [97]) = true := toList_lit _ _ _ (decide_eq_true rfl)
  have q5 : ((⟨#[98, 46, 99]⟩ : ByteArray).toList == [98, 46, 99]) = true := toList_lit _ _ _ (decide_eq_true rfl)
  clear C hP1 hP2 hP3 hW hL1 hL2 hR hWh hWf hC1 hC2 r1 r2 r3 hLL
  go_enter Tryz.func9, Tryz.ntmps9
  go_wp2_with (first
    | (go_at_call 10; (with_reducible refine (HP1.out _ HTb.out).mono ?_); rintro e w1 ⟨rfl, hb1⟩; have o1 := below_one w1 (.cells #[.int .i64 3, .string ⟨#[]⟩, .string ⟨#[97]⟩, .string ⟨#[98, 46, 99]⟩, .int .i64 12, .bool true] 26); have K1 := Lib.hid (Arr.new w1 #[.int .i64 3, .string ⟨#[]⟩, .string ⟨#[97]⟩, .string ⟨#[98, 46, 99]⟩, .int .i64 12, .bool true] 26); have B1 := Lib.hid (Below_next hb1 o1))
    | (go_at_call 10; (with_reducible refine (HP2.out _ (HTb.out.next B1.out)).mono ?_); rintro e w2 ⟨rfl, hb2⟩; have o2 := below_one w2 (.cells #[.int .i64 0, .string ⟨#[]⟩, .string ⟨#[]⟩, .string ⟨#[]⟩, .int .i64 0, .bool false] 26); have K2 := Lib.hid ((K1.out.next hb2).next o2); have B2 := Lib.hid (Below_next (Below_next B1.out hb2) o2))
    | (go_at_call 10; (with_reducible refine (HP3.out _ (HTb.out.next B2.out)).mono ?_); rintro e w3 ⟨rfl, hb3⟩; have o3 := below_one w3 (.cells #[.int .i64 0, .string ⟨#[]⟩, .string ⟨#[]⟩, .string ⟨#[]⟩, .int .i64 0, .bool false] 26); have K3 := Lib.hid ((K2.out.next hb3).next o3); have B3 := Lib.hid (Below_next (Below_next B2.out hb3) o3); obtain ⟨a0, a1, a2, a3, a4, a5⟩ := six_cells K3.out)
    | (go_at_call 14; (with_reducible refine (HW.out _ (HTb.out.next B3.out)).mono ?_); rintro e w4 ⟨rfl, hb4⟩; have o4 := below_one w4 (.cells #[.string ⟨#[97]⟩, .string ⟨#[]⟩] 9); have K4 := Lib.hid ((K3.out.next hb4).next o4); have B4 := Lib.hid (Below_next (Below_next B3.out hb4) o4))
    | (go_at_call 17; (with_reducible refine (HL1.out _ _ _ _ (HTb.out.next B4.out) (HX1.out w4)).mono ?_); rintro e w5 ⟨x5, n5, c5, rfl, hT5, hb5⟩; have K5 := Lib.hid (K4.out.next hb5); have B5 := Lib.hid (Below_next B4.out hb5); obtain ⟨y5, rfl, hn5, hc5⟩ := two_form HLL.out hT5; subst hn5; have T5 := Lib.hid hT5)
    | (go_at_call 19; (with_reducible refine (HR.out _ _ _ _ (HTb.out.next B5.out) hT5).mono ?_); rintro e w6 ⟨x6, n6, c6, rfl, hT6, hb6⟩; have o6 := below_one w6 (.cells #[.int .i64 250, .slice x6 n6 c6] 46); have p6 := below_one (w6.alloc (.cells #[.int .i64 250, .slice x6 n6 c6] 46)) (.cells #[.string ⟨#[97]⟩] 9); have K6 := Lib.hid (((K5.out.next hb6).next o6).next p6); have B6 := Lib.hid (Below_next (Below_next (Below_next B5.out hb6) o6) p6); have R6 := Lib.hid ((Arr.new w6 #[.int .i64 250, .slice x6 n6 c6] 46).next p6); have T6 := Lib.hid (((T5.out.next hb6).next o6).next p6); have hn6 := hT6.len.1; rw [bas_len] at hn6; obtain rfl : n6 = 2 := hn6.symm; have x7 := HX2.out w6 (.cells #[.int .i64 250, .slice x6 2 c6] 46))
    | (go_at_call 17; (with_reducible refine (HL2.out _ _ _ _ (HTb.out.next B6.out) x7).mono ?_); rintro e w7 ⟨x7', n7, c7, rfl, _, hb7⟩; obtain ⟨a0, a1, a2, a3, a4, a5⟩ := six_cells (K6.out.next hb7); have B7 := Lib.hid (Below_next B6.out hb7); have r0 : w7.cell? ⟨w6.heap.size, 0, none⟩ = some (.int .i64 250) := (R6.out.next hb7).cell rfl; have r1 : w7.cell? ⟨w6.heap.size, 1, none⟩ = some (.slice x6 2 c6) := (R6.out.next hb7).cell rfl; have hT7 := T6.out.next hb7; obtain ⟨l0, l1⟩ := two_cells HLL.out hT7)
    | (go_at_call 22; (with_reducible refine (HWh.out _ _ _ _ hT7).mono ?_); rintro e w8 ⟨rfl, hb8⟩; have B8 := Lib.hid (Below_next B7.out hb8); have hT8 := (hT7.next hb8).front 1 (by decide))
    | (go_at_call 22; (with_reducible refine (HWf.out _ _ _ _ hT8).mono ?_); rintro e w9 ⟨rfl, hb9⟩; have B9 := Lib.hid (Below_next B8.out hb9))
    | (go_at_call 24; (with_reducible refine (HC1.out _).mono ?_); rintro e wA ⟨rfl, hbA⟩; have BA := Lib.hid (Below_next B9.out hbA))
    | (go_at_call 24; (with_reducible refine (HC2.out _).mono ?_); rintro e wB ⟨rfl, hbB⟩; have BB := Lib.hid (Below_next BA.out hbB)))
  go_ret
  exact ⟨rfl, BB.out⟩
end Go.Proofs.YtahbbnimoogapaaGreatDoor
