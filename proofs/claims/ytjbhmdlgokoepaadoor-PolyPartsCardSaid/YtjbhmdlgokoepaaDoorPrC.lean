/- What layer 5's laws need of the code: its contracts, as one record. PolySizes over it. -/
import Derived.Test.YtjbhmdlgokoepaaDoorPrL
namespace Go.Proofs.YtjbhmdlgokoepaaDoor
open Go.RowKit

def checkB (key text tag : ByteArray) : Bool := decide (key.size = 32 ∧ tag = tagB key text)
structure PolyC (P : World → Prop) : Prop where
  next : ∀ {w w' : World}, P w → Below w.heap.size w w' → P w'
  alloc : ∀ {w : World} (o : Obj), P w → P (w.alloc o)
  awake : ∀ w, P w → Calls Tryd.prog 9 #[] w fun e w' => e = .returned (.bool true) ∧ Below w.heap.size w w'
  tag_ok : ∀ key text : ByteArray, key.size = 32 → text.size ≤ 2048 → ∀ w, P w → Calls Tryd.prog 10 #[.string key, .string text] w fun e w' => e = .returned (.tuple #[.string (tagB key text), .int .i64 0]) ∧ Below w.heap.size w w'
  tag_no : ∀ key text : ByteArray, key.size ≠ 32 → ∀ w, P w → Calls Tryd.prog 10 #[.string key, .string text] w fun e w' => e = .returned (.tuple #[.string ByteArray.empty, .int .i64 5]) ∧ Below w.heap.size w w'
  clamp_ok : ∀ s : ByteArray, s.size = 16 → ∀ w, P w → Calls Tryd.prog 12 #[.string s] w fun e w' => e = .returned (.tuple #[.string ⟨(clampL s.data.toList).toArray⟩, .int .i64 0]) ∧ Below w.heap.size w w'
  clamp_no : ∀ s : ByteArray, s.size ≠ 16 → ∀ w, P w → Calls Tryd.prog 12 #[.string s] w fun e w' => e = .returned (.tuple #[.string ByteArray.empty, .int .i64 5]) ∧ Below w.heap.size w w'
  check : ∀ key text tag : ByteArray, text.size ≤ 2048 → ∀ w, P w → Calls Tryd.prog 15 #[.string key, .string text, .string tag] w fun e w' => e = .returned (.bool (checkB key text tag)) ∧ Below w.heap.size w w'

theorem PolyC.drewN {P : World → Prop} (C : PolyC P) {w : World} (n : Nat) (h : P w) : P (w.drewN n) := C.next h (Below_drewN (Below.refl _ _) n)

set_option maxHeartbeats 1000000 in
set_option maxRecDepth 100000 in
theorem polySizes_walk {P : World → Prop} (C : PolyC P) (key text : ByteArray) (W : World) (hp : P W) :
    Calls Tryd.prog 8 #[.string key, .string text] W fun e w' => e = .returned (.bool true) ∧ Below W.heap.size W w' := by
  have HA := Lib.hid (C.awake W hp)
  have HP := Lib.hid hp
  have HC := Lib.hid C
  clear hp C
  by_cases h1 : 1024 < key.size
  · have h1i : (1024 : Int) < (key.size : Int) := by omega
    go_enter Tryd.func8, Tryd.ntmps8
    go_wp2_with (go_at_call 9; (with_reducible refine HA.out.mono ?_); rintro e w1 ⟨rfl, hb1⟩)
    go_ret
    exact ⟨rfl, hb1⟩
  have h1i : ¬ (1024 : Int) < (key.size : Int) := by omega
  by_cases h2 : 1024 < text.size
  · have h2i : (1024 : Int) < (text.size : Int) := by omega
    go_enter Tryd.func8, Tryd.ntmps8
    go_wp2_with (go_at_call 9; (with_reducible refine HA.out.mono ?_); rintro e w1 ⟨rfl, hb1⟩)
    go_ret
    exact ⟨rfl, hb1⟩
  have h2i : ¬ (1024 : Int) < (text.size : Int) := by omega
  by_cases hk : key.size = 32
  · have e3 : ((key.size : Int) != 32) = false := by rw [hk]; rfl
    have HT := Lib.hid (fun w hp => HC.out.tag_ok key text hk (by omega) w hp)
    obtain ⟨T, hT⟩ : ∃ T, T = tagB key text := ⟨_, rfl⟩
    have hTs : T.size = 16 := by rw [hT, tagB_size]
    have hc1 := fun w hp => HC.out.check key text T (by omega) w hp
    have hsl := slice_to T 15 (by omega)
    rw [show ((15 : Nat) : Int) = 15 from rfl] at hsl
    obtain ⟨X, hX⟩ : ∃ X, X = T.extract 0 15 := ⟨_, rfl⟩
    have hXs : X.size = 15 := by rw [hX, ext_size _ _ _ (by omega)]
    rw [← hX] at hsl
    have hc2 := fun w hp => HC.out.check key text X (by omega) w hp
    have hcat : ∀ w : World, (Op.stringOp .add T ⟨#[0]⟩).run Tryd.prog w = .ok (.string (T ++ ⟨#[0]⟩)) w := fun w => cat_run T _ (by show T.size + 1 ≤ _; omega) w
    obtain ⟨Y, hY⟩ : ∃ Y : ByteArray, Y = T ++ ⟨#[0]⟩ := ⟨_, rfl⟩
    have hYs : Y.size = 17 := by rw [hY, ByteArray.size_append, hTs]; rfl
    rw [← hY] at hcat
    have hc3 := fun w hp => HC.out.check key text Y (by omega) w hp
    have b1 : checkB key text T = true := decide_eq_true ⟨hk, hT⟩
    have b2 : checkB key text X = false := decide_eq_false fun ⟨_, h⟩ => by rw [h, tagB_size] at hXs; omega
    have b3 : checkB key text Y = false := decide_eq_false fun ⟨_, h⟩ => by rw [h, tagB_size] at hYs; omega
    rw [b1] at hc1
    rw [b2] at hc2
    rw [b3] at hc3
    have e16 : ((T.size : Int) == 16) = true := by rw [hTs]; rfl
    rw [← hT] at HT
    have HC1 := Lib.hid hc1
    have HC2 := Lib.hid hc2
    have HC3 := Lib.hid hc3
    clear hc1 hc2 hc3 b1 b2 b3 hX hY hXs hYs hTs hT hk h1 h2
    go_enter Tryd.func8, Tryd.ntmps8
    go_wp2_with fail
    refine HA.out.mono ?_
    rintro e w1 ⟨rfl, hb⟩
    have HP1 := Lib.hid (HC.out.next HP.out hb)
    have HB1 := Lib.hid hb
    clear hb
    go_wp2_with fail
    refine (HT.out _ HP1.out).mono ?_
    rintro e w2 ⟨rfl, hb⟩
    have HP2 := Lib.hid (HC.out.next HP1.out hb)
    have HB2 := Lib.hid (HB1.out.trans (hb.mono HB1.out.size))
    clear hb
    go_wp2_with fail
    refine (HC1.out _ HP2.out).mono ?_
    rintro e w3 ⟨rfl, hb⟩
    have HP3 := Lib.hid (HC.out.next HP2.out hb)
    have HB3 := Lib.hid (HB2.out.trans (hb.mono HB2.out.size))
    clear hb
    go_wp2_with fail
    refine (HC2.out _ HP3.out).mono ?_
    rintro e w4 ⟨rfl, hb⟩
    have HP4 := Lib.hid (HC.out.next HP3.out hb)
    have HB4 := Lib.hid (HB3.out.trans (hb.mono HB3.out.size))
    clear hb
    go_wp2_with fail
    refine (HC3.out _ HP4.out).mono ?_
    rintro e w5 ⟨rfl, hb⟩
    have HB5 := Lib.hid (HB4.out.trans (hb.mono HB4.out.size))
    clear hb
    go_wp2_with fail
    go_ret
    exact ⟨rfl, HB5.out⟩
  · have e3 : ((key.size : Int) != 32) = true := by simp; omega
    have HT := Lib.hid (fun w hp => HC.out.tag_no key text hk w hp)
    have hc1 := fun w hp => HC.out.check key text ByteArray.empty (by omega) w hp
    have b1 : checkB key text ByteArray.empty = false := decide_eq_false fun ⟨h, _⟩ => hk h
    rw [b1] at hc1
    have HC1 := Lib.hid hc1
    clear hc1 b1 hk h1 h2
    go_enter Tryd.func8, Tryd.ntmps8
    go_wp2_with fail
    refine HA.out.mono ?_
    rintro e w1 ⟨rfl, hb⟩
    have HP1 := Lib.hid (HC.out.next HP.out hb)
    have HB1 := Lib.hid hb
    clear hb
    go_wp2_with fail
    refine (HT.out _ HP1.out).mono ?_
    rintro e w2 ⟨rfl, hb⟩
    have HP2 := Lib.hid (HC.out.next HP1.out hb)
    have HB2 := Lib.hid (HB1.out.trans (hb.mono HB1.out.size))
    clear hb
    go_wp2_with fail
    refine (HC1.out _ HP2.out).mono ?_
    rintro e w3 ⟨rfl, hb⟩
    have HB3 := Lib.hid (HB2.out.trans (hb.mono HB2.out.size))
    clear hb
    go_wp2_with fail
    go_ret
    exact ⟨rfl, HB3.out⟩
end Go.Proofs.YtjbhmdlgokoepaaDoor
