/- mac: a Mac in memory; the contracts of begin, New, Add, Sum. -/
import Derived.Test.YtmedlgnllgldiaaDoorMc2
import Derived.Deep.RegionWith
import Derived.Deep.RegionHeld3
namespace Go.Proofs.YtmedlgnllgldiaaDoor
open Go.RowKit

/-- The block, turned, as a string. -/
def turnB (key : List UInt8) (b : UInt8) : ByteArray := ⟨(turnL (kbL key) b).toArray⟩
theorem turnB_list (key : List UInt8) (b : UInt8) : (turnB key b).data.toList = turnL (kbL key) b := by simp [turnB]
theorem turnB_size (key : List UInt8) (b : UInt8) : (turnB key b).size = 64 := by show (turnL (kbL key) b).toArray.size = 64; rw [List.size_toArray, turnL_len, kbL_len]
theorem Kb.next {w w' : World} {g : Nat} {key : List UInt8} (h : Kb w g key) (hb : Below w.heap.size w w') : Kb w' g key := Arr.next h hb
theorem turn54 (g : Nat) (key : List UInt8) (w : World) (h : Kb w g key) :
    Calls Tryd.prog 55 #[.int .u8 54, .pointer (some ⟨g, 0, none⟩)] w fun e w' => e = .returned (.string (turnB key 54)) ∧ Below w.heap.size w w' := turned1_any g _ (kbL_len key) 54 w h
theorem turn92 (g : Nat) (key : List UInt8) (w : World) (h : Kb w g key) :
    Calls Tryd.prog 55 #[.int .u8 92, .pointer (some ⟨g, 0, none⟩)] w fun e w' => e = .returned (.string (turnB key 92)) ∧ Below w.heap.size w w' := turned1_any g _ (kbL_len key) 92 w h

/-- Block m is a Mac of this key and text; what it writes lies from B on. -/
def MacOf (w : World) (B m : Nat) (key t : List UInt8) : Prop :=
  ∃ g h, Arr w m #[turnF g, .pointer (some ⟨h, 0, none⟩)] 73 ∧ Kb w g key ∧ HashOf w h (turnL (kbL key) 54 ++ t) ∧ m ≠ h ∧ g ≠ h ∧ B ≤ h ∧ 0 < B
theorem MacOf.next {w w' : World} {B m : Nat} {key t : List UInt8} (h : MacOf w B m key t) (hb : Below w.heap.size w w') : MacOf w' B m key t := by
  obtain ⟨g, h0, h1, h2, h3, h4⟩ := h
  exact ⟨g, h0, h1.next hb, h2.next hb, h3.next hb, h4⟩

set_option maxHeartbeats 1000000 in
set_option maxRecDepth 100000 in
theorem begin_any (B g : Nat) (key : List UInt8) (w : World) (hk : Kb w g key) (htab : Tab w) (hB : B ≤ w.heap.size) (hB0 : 0 < B) :
    Calls Tryd.prog 41 #[turnF g] w fun e w' => (∃ m, e = .returned (.pointer (some ⟨m, 0, none⟩)) ∧ MacOf w' B m key []) ∧ Below w.heap.size w w' := by
  have HN := Lib.hid new_any
  have HT54 := Lib.hid (turn54 g key)
  have HK := Lib.hid hk
  have HT := Lib.hid htab
  have hg := Arr.lt hk
  have ht0 := htab.lt
  clear hk htab
  unfold turnF
  go_enter Tryd.func41, Tryd.ntmps41
  go_wp2_with (first
    | (go_at_call 45; (with_reducible refine (HN.out _).mono ?_); rintro e w1 ⟨⟨h, rfl, hwh, hh⟩, hb1⟩))
  have hlt := hh.lt
  have hA := Arr.new w1 #[.func (.func 55) #[] #[.pointer (some ⟨g, 0, none⟩)], .pointer (some ⟨h, 0, none⟩)] 73
  have HH := Lib.hid (show HashOf _ h [] from hh.next ((Below.refl _ w1).alloc (Nat.le_refl _) (.cells #[.func (.func 55) #[] #[.pointer (some ⟨g, 0, none⟩)], .pointer (some ⟨h, 0, none⟩)] 73)))
  have HK2 := Lib.hid (show Kb _ g key from (HK.out.next hb1).next ((Below.refl _ w1).alloc (Nat.le_refl _) (.cells #[.func (.func 55) #[] #[.pointer (some ⟨g, 0, none⟩)], .pointer (some ⟨h, 0, none⟩)] 73)))
  have HT2 := Lib.hid ((HT.out.next hb1).alloc (.cells #[.func (.func 55) #[] #[.pointer (some ⟨g, 0, none⟩)], .pointer (some ⟨h, 0, none⟩)] 73))
  have hb2 := Lib.hid (hb1.alloc hb1.size (.cells #[.func (.func 55) #[] #[.pointer (some ⟨g, 0, none⟩)], .pointer (some ⟨h, 0, none⟩)] 73))
  have hs1 := hb1.size
  clear hh HK HT
  have hmh : w1.heap.size ≠ h := by omega
  clear hb1
  generalize (w1.alloc (.cells #[.func (.func 55) #[] #[.pointer (some ⟨g, 0, none⟩)], .pointer (some ⟨h, 0, none⟩)] 73)) = w2 at *
  generalize w1.heap.size = m at *
  have c1 : w2.cell? ⟨m, 1, none⟩ = some (.pointer (some ⟨h, 0, none⟩)) := hA.cell rfl
  have HA := Lib.hid hA
  have HKd := Lib.hid (show Kb w2.drew g key from HK2.out)
  have HHd := Lib.hid (show HashOf w2.drew h [] from HH.out)
  have HTd := Lib.hid (show Tab w2.drew from HT2.out)
  have HAd := Lib.hid (show Arr w2.drew m _ _ from HA.out)
  have hn : 0 ≠ h := by omega
  have HADD := Lib.hid (fun w3 (hw : HashOf w3 h []) (ht : Tab w3) => add_fr h hn [] (turnB key 54) w3 hw (by rw [turnB_size]; decide) ht)
  clear hA
  go_region_with (first
    | (go_at_call 55; (with_reducible refine (HT54.out _ HKd.out).mono ?_); rintro e w3 ⟨rfl, hb3⟩; have c1' : w3.cell? ⟨m, 1, none⟩ = some (.pointer (some ⟨h, 0, none⟩)) := (HAd.out.next hb3).cell rfl)
    | (go_at_call 42; (with_reducible refine (HADD.out _ (HHd.out.next hb3) (HTd.out.next hb3)).mono ?_); rintro e w4 ⟨rfl, hh4, hf4⟩))
  all_goals
    go_wp2
    go_ret
    rw [List.nil_append, turnB_list] at hh4
    refine ⟨⟨m, rfl, g, h, (HAd.out.next hb3).fr hf4 hmh, Arr.fr (HKd.out.next hb3) hf4 (by omega), by rw [List.append_nil]; exact hh4, hmh, by omega, by omega, hB0⟩, ?_⟩
    have hx : Below w.heap.size w w3 := (hb2.out.drew).trans (hb3.mono (by show w.heap.size ≤ w2.heap.size; exact hb2.out.size))
    exact hx.trans (hf4.below (by omega) hx.size)

set_option maxHeartbeats 1000000 in
set_option maxRecDepth 100000 in
theorem macAdd_any (B m : Nat) (key t : List UInt8) (x : ByteArray) (w : World) (hm : MacOf w B m key t) (htab : Tab w) (hB : B ≤ w.heap.size) (hl : t.length + x.size ≤ 1000000000000) :
    Calls Tryd.prog 22 #[.pointer (some ⟨m, 0, none⟩), .string x] w fun e w' => e = .returned (.tuple #[]) ∧ MacOf w' B m key (t ++ x.data.toList) ∧ Below B w w' := by
  obtain ⟨g, h, hA, hK, hH, hmh, hgh, hBh, h0⟩ := hm
  have HADD := Lib.hid (add_fr h (by omega) (turnL (kbL key) 54 ++ t) x w hH (by rw [List.length_append, turnL_len, kbL_len]; omega) htab)
  have c1 : w.cell? ⟨m, 1, none⟩ = some (.pointer (some ⟨h, 0, none⟩)) := hA.cell rfl
  have HA := Lib.hid hA
  have HK := Lib.hid hK
  clear hA hK hH htab
  go_enter Tryd.func22, Tryd.ntmps22
  go_wp2_with (first
    | (go_at_call 42; (with_reducible refine HADD.out.mono ?_); rintro e w4 ⟨rfl, hh4, hf4⟩))
  go_end0
  rw [List.append_assoc] at hh4
  exact ⟨rfl, ⟨g, h, HA.out.fr hf4 hmh, Arr.fr HK.out hf4 hgh, hh4, hmh, hgh, hBh, h0⟩, hf4.below hBh hB⟩

/-- The mac, as a string. -/
def macB (key t : List UInt8) : ByteArray := ⟨(macL key t).toArray⟩
theorem macB_size (key t : List UInt8) : (macB key t).size = 32 := by show (macL key t).toArray.size = 32; rw [List.size_toArray, macL_len]

set_option maxHeartbeats 1000000 in
set_option maxRecDepth 100000 in
theorem macSum_any (B m : Nat) (key t : List UInt8) (w : World) (hm : MacOf w B m key t) (htab : Tab w) (hl : t.length ≤ 1000000000000) :
    Calls Tryd.prog 23 #[.pointer (some ⟨m, 0, none⟩)] w fun e w' => e = .returned (.string (macB key t)) ∧ Below w.heap.size w w' := by
  obtain ⟨g, h, hA, hK, hH, hmh, hgh, hBh, h0⟩ := hm
  have HT92 := Lib.hid (turn92 g key)
  have hl2 : (turnL (kbL key) 54 ++ t).length ≤ 1099511627776 := by rw [List.length_append, turnL_len, kbL_len]; omega
  obtain ⟨D, hD⟩ : ∃ D : ByteArray, D = ⟨(shaL (turnL (kbL key) 54 ++ t)).toArray⟩ := ⟨_, rfl⟩
  have HS := Lib.hid (fun w (hw : HashOf w h (turnL (kbL key) 54 ++ t)) (ht : Tab w) => hsum_any h _ w hw hl2 ht)
  rw [← hD] at HS
  have hDs : D.size = 32 := by rw [hD]; show (shaL (turnL (kbL key) 54 ++ t)).toArray.size = 32; rw [List.size_toArray, shaL_len]
  have hT := turnB_size key 92
  have hTl := turnB_list key 92
  generalize turnB key 92 = T at *
  have hcat : ∀ w : World, (Op.stringOp .add T D).run Tryd.prog w = .ok (.string (T ++ D)) w := fun w => cat_run T D (by omega) w
  obtain ⟨U, hU⟩ : ∃ U, U = T ++ D := ⟨_, rfl⟩
  rw [← hU] at hcat
  have hUs : U.size ≤ 1099511627776 := by rw [hU, ByteArray.size_append]; omega
  have hUl : (⟨(shaL U.data.toList).toArray⟩ : ByteArray) = macB key t := by
    rw [hU, macB, macL, ← hTl, show (T ++ D).data.toList = T.data.toList ++ D.data.toList by simp, hD]
  have hsum := sum_any U hUs
  rw [hUl] at hsum
  have HU := Lib.hid hsum
  have HKd := Lib.hid (show Kb w.drew g key from hK)
  have HHd := Lib.hid (show HashOf w.drew h _ from hH)
  have HTd := Lib.hid (show Tab w.drew from htab)
  have HAd := Lib.hid (show Arr w.drew m _ _ from hA)
  have c0 : w.cell? ⟨m, 0, none⟩ = some (turnF g) := hA.cell rfl
  have c1 : w.cell? ⟨m, 1, none⟩ = some (.pointer (some ⟨h, 0, none⟩)) := hA.cell rfl
  unfold turnF at c0
  clear hA hK hH htab hU hUs hUl hsum hDs hD hT hTl hl2
  go_enter Tryd.func23, Tryd.ntmps23
  go_wp2_with fail
  go_region_with (first
    | (go_at_call 55; (first | (with_reducible refine (HT92.out _ HKd.out).mono ?_) | (with_reducible refine (HT92.out _ (HKd.out.next hbS)).mono ?_)); rintro e wT ⟨rfl, hbT⟩; (first | (have c1' : wT.cell? ⟨m, 1, none⟩ = some (.pointer (some ⟨h, 0, none⟩)) := ((HAd.out.next hbS).next hbT).cell rfl) | (have c1' : wT.cell? ⟨m, 1, none⟩ = some (.pointer (some ⟨h, 0, none⟩)) := (HAd.out.next hbT).cell rfl)))
    | (go_at_call 43; (first | (with_reducible refine (HS.out _ HHd.out HTd.out).mono ?_) | (with_reducible refine (HS.out _ (HHd.out.next hbT) (HTd.out.next hbT)).mono ?_)); rintro e wS ⟨rfl, hbS⟩; (first | (have c0' : wS.cell? ⟨m, 0, none⟩ = some (.func (.func 55) #[] #[.pointer (some ⟨g, 0, none⟩)]) := ((HAd.out.next hbT).next hbS).cell rfl) | (have c0' : wS.cell? ⟨m, 0, none⟩ = some (.func (.func 55) #[] #[.pointer (some ⟨g, 0, none⟩)]) := (HAd.out.next hbS).cell rfl)))
    | (go_at_call 26; (first | (with_reducible refine (HU.out _ ((HTd.out.next hbT).next hbS)).mono ?_) | (with_reducible refine (HU.out _ ((HTd.out.next hbS).next hbT)).mono ?_)); rintro e wU ⟨rfl, hbU⟩))
  all_goals
    go_wp2
    go_ret
    refine ⟨rfl, ?_⟩
    first
      | exact Below_next (Below_next (Below_next (Below.drew (Below.refl _ _)) hbT) hbS) hbU
      | exact Below_next (Below_next (Below_next (Below.drew (Below.refl _ _)) hbS) hbT) hbU
end Go.Proofs.YtmedlgnllgldiaaDoor
