/- PolyTells over the contracts' record. -/
import Derived.Test.YtjbhmdlgokoepaaDoorPrA
namespace Go.Proofs.YtjbhmdlgokoepaaDoor
open Go.RowKit

structure PolyN (P : World → Prop) : Prop extends PolyC P where
  new_ok : ∀ key : ByteArray, key.size = 32 → ∀ w, P w → Calls Tryd.prog 14 #[.string key] w fun e w' => (∃ a : Addr, e = .returned (.tuple #[.pointer (some a), .int .i64 0])) ∧ Below w.heap.size w w'
  new_no : ∀ key : ByteArray, key.size ≠ 32 → ∀ w, P w → Calls Tryd.prog 14 #[.string key] w fun e w' => e = .returned (.tuple #[.pointer none, .int .i64 5]) ∧ Below w.heap.size w w'

theorem tl_data (s : ByteArray) : s.toList = s.data.toList := by
  obtain ⟨⟨l⟩⟩ := s
  exact ByteArray.toList_mk l
theorem tl_ne {a b : ByteArray} (h : ¬ a = b) : (a.toList == b.toList) = false := by
  rw [tl_data, tl_data]
  exact beq_false_of_ne fun e => h (by obtain ⟨⟨x⟩⟩ := a; obtain ⟨⟨y⟩⟩ := b; cases (show x = y from e); rfl)

theorem clamp_both {P : World → Prop} (C : PolyC P) (tag : ByteArray) : ∃ (c : ByteArray) (f : Int),
    (∀ w, P w → Calls Tryd.prog 12 #[.string tag] w fun e w' => e = .returned (.tuple #[.string c, .int .i64 f]) ∧ Below w.heap.size w w') ∧
    (∀ w, Calls Tryd.prog 13 #[.string tag] w fun e w' => e = .returned (.tuple #[.string c, .int .i64 f]) ∧ Below w.heap.size w w') := by
  by_cases h : tag.size = 16
  · exact ⟨_, 0, C.clamp_ok tag h, fun w => rclamp_ok tag h w⟩
  · exact ⟨_, 5, C.clamp_no tag h, fun w => (rclamp_no tag h w).mono fun _ _ ⟨h1, h2⟩ => ⟨h1, h2 ▸ Below.refl _ _⟩⟩

set_option maxHeartbeats 1000000 in
set_option maxRecDepth 100000 in
theorem polyTells_walk {P : World → Prop} (N : PolyN P) (key text tag : ByteArray) (W : World) (hp : P W) :
    Calls Tryd.prog 3 #[.string key, .string text, .string tag] W fun e W' => e = .returned (.bool true) ∧ Below W.heap.size W W' := by
  have C := N.toPolyC
  have HA := Lib.hid (C.awake W hp)
  have HP := Lib.hid hp
  have HC := Lib.hid C
  have HN := Lib.hid N
  clear hp C N
  by_cases h0 : 1024 < key.size ∨ 1024 < text.size ∨ 1024 < tag.size
  · rcases (show 1024 < key.size ∨ (¬ 1024 < key.size ∧ 1024 < text.size) ∨ (¬ 1024 < key.size ∧ ¬ 1024 < text.size ∧ 1024 < tag.size) by omega) with h | ⟨h, h'⟩ | ⟨h, h', h''⟩
    · have h1i : (1024 : Int) < (key.size : Int) := by omega
      clear h0 h
      go_enter Tryd.func3, Tryd.ntmps3
      go_wp2_with (go_at_call 9; (with_reducible refine HA.out.mono ?_); rintro e w1 ⟨rfl, hb1⟩)
      go_ret
      exact ⟨rfl, hb1⟩
    · have h1i : ¬ (1024 : Int) < (key.size : Int) := by omega
      have h2i : (1024 : Int) < (text.size : Int) := by omega
      clear h0 h h'
      go_enter Tryd.func3, Tryd.ntmps3
      go_wp2_with (go_at_call 9; (with_reducible refine HA.out.mono ?_); rintro e w1 ⟨rfl, hb1⟩)
      go_ret
      exact ⟨rfl, hb1⟩
    · have h1i : ¬ (1024 : Int) < (key.size : Int) := by omega
      have h2i : ¬ (1024 : Int) < (text.size : Int) := by omega
      have h3i : (1024 : Int) < (tag.size : Int) := by omega
      clear h0 h h' h''
      go_enter Tryd.func3, Tryd.ntmps3
      go_wp2_with (go_at_call 9; (with_reducible refine HA.out.mono ?_); rintro e w1 ⟨rfl, hb1⟩)
      go_ret
      exact ⟨rfl, hb1⟩
  have h1i : ¬ (1024 : Int) < (key.size : Int) := by omega
  have h2i : ¬ (1024 : Int) < (text.size : Int) := by omega
  have h3i : ¬ (1024 : Int) < (tag.size : Int) := by omega
  have htx : text.size ≤ 1024 := by omega
  clear h0
  obtain ⟨CC, F, hc1, hc2⟩ := clamp_both HC.out tag
  have HC1 := Lib.hid hc1
  have HC2 := Lib.hid hc2
  have HCk := Lib.hid (fun w hp => HC.out.check key text tag (by omega) w hp)
  clear hc1 hc2
  by_cases hk : key.size = 32
  · have HT := Lib.hid (fun w hp => HC.out.tag_ok key text hk (by omega) w hp)
    have HR := Lib.hid (fun w => rtag_ok key text hk (by omega) w)
    have HNw := Lib.hid (fun w hp => HN.out.new_ok key hk w hp)
    by_cases he : tag = tagB key text
    · have hb : checkB key text tag = true := decide_eq_true ⟨hk, he⟩
      rw [hb] at HCk
      rw [← he] at HT HR
      clear he hb hk htx
      go_enter Tryd.func3, Tryd.ntmps3
      go_wp2_with fail
      refine HA.out.mono ?_
      rintro e w1 ⟨rfl, hb⟩
      have HP1 := Lib.hid (HC.out.next HP.out hb)
      have HB1 := Lib.hid hb
      clear hb
      go_wp2_with fail
      refine (HT.out _ HP1.out).mono ?_
      rintro e w2 ⟨rfl, hb⟩
      have HP2 := Lib.hid (HC.out.next HP1.out hb)
      have HB2 := Lib.hid (HB1.out.trans (hb.mono HB1.out.size))
      clear hb
      go_wp2_with fail
      refine (HR.out _).mono ?_
      rintro e w3 ⟨rfl, hb⟩
      have HP3 := Lib.hid (HC.out.next HP2.out hb)
      have HB3 := Lib.hid (HB2.out.trans (hb.mono HB2.out.size))
      clear hb
      go_wp2_with fail
      refine (HC1.out _ HP3.out).mono ?_
      rintro e w4 ⟨rfl, hb⟩
      have HP4 := Lib.hid (HC.out.next HP3.out hb)
      have HB4 := Lib.hid (HB3.out.trans (hb.mono HB3.out.size))
      clear hb
      go_wp2_with fail
      refine (HC2.out _).mono ?_
      rintro e w5 ⟨rfl, hb⟩
      have HP5 := Lib.hid (HC.out.next HP4.out hb)
      have HB5 := Lib.hid (HB4.out.trans (hb.mono HB4.out.size))
      clear hb
      go_wp2_with fail
      refine (HNw.out _ HP5.out).mono ?_
      rintro e w6 ⟨⟨a, rfl⟩, hb⟩
      have HP6 := Lib.hid (HC.out.next HP5.out hb)
      have HB6 := Lib.hid (HB5.out.trans (hb.mono HB5.out.size))
      clear hb
      go_wp2_with fail
      refine (HCk.out _ HP6.out).mono ?_
      rintro e w7 ⟨rfl, hb⟩
      have HB7 := Lib.hid (HB6.out.trans (hb.mono HB6.out.size))
      clear hb
      go_wp2_with fail
      go_ret
      exact ⟨rfl, HB7.out⟩
    · have hb : checkB key text tag = false := decide_eq_false fun ⟨_, h⟩ => he h
      rw [hb] at HCk
      generalize tagB key text = T at *
      have hne := tl_ne he
      clear hb hk htx he
      go_enter Tryd.func3, Tryd.ntmps3
      go_wp2_with fail
      refine HA.out.mono ?_
      rintro e w1 ⟨rfl, hb⟩
      have HP1 := Lib.hid (HC.out.next HP.out hb)
      have HB1 := Lib.hid hb
      clear hb
      go_wp2_with fail
      refine (HT.out _ HP1.out).mono ?_
      rintro e w2 ⟨rfl, hb⟩
      have HP2 := Lib.hid (HC.out.next HP1.out hb)
      have HB2 := Lib.hid (HB1.out.trans (hb.mono HB1.out.size))
      clear hb
      go_wp2_with fail
      refine (HR.out _).mono ?_
      rintro e w3 ⟨rfl, hb⟩
      have HP3 := Lib.hid (HC.out.next HP2.out hb)
      have HB3 := Lib.hid (HB2.out.trans (hb.mono HB2.out.size))
      clear hb
      go_wp2_with fail
      refine (HC1.out _ HP3.out).mono ?_
      rintro e w4 ⟨rfl, hb⟩
      have HP4 := Lib.hid (HC.out.next HP3.out hb)
      have HB4 := Lib.hid (HB3.out.trans (hb.mono HB3.out.size))
      clear hb
      go_wp2_with fail
      refine (HC2.out _).mono ?_
      rintro e w5 ⟨rfl, hb⟩
      have HP5 := Lib.hid (HC.out.next HP4.out hb)
      have HB5 := Lib.hid (HB4.out.trans (hb.mono HB4.out.size))
      clear hb
      go_wp2_with fail
      refine (HNw.out _ HP5.out).mono ?_
      rintro e w6 ⟨⟨a, rfl⟩, hb⟩
      have HP6 := Lib.hid (HC.out.next HP5.out hb)
      have HB6 := Lib.hid (HB5.out.trans (hb.mono HB5.out.size))
      clear hb
      go_wp2_with fail
      refine (HCk.out _ HP6.out).mono ?_
      rintro e w7 ⟨rfl, hb⟩
      have HB7 := Lib.hid (HB6.out.trans (hb.mono HB6.out.size))
      clear hb
      go_wp2_with fail
      go_ret
      exact ⟨rfl, HB7.out⟩
  · have HT := Lib.hid (fun w hp => HC.out.tag_no key text hk w hp)
    have HR := Lib.hid (fun w => rtag_no key text hk w)
    have HNw := Lib.hid (fun w hp => HN.out.new_no key hk w hp)
    have hb : checkB key text tag = false := decide_eq_false fun ⟨h, _⟩ => hk h
    rw [hb] at HCk
    clear hb hk htx
    go_enter Tryd.func3, Tryd.ntmps3
    go_wp2_with fail
    refine HA.out.mono ?_
    rintro e w1 ⟨rfl, hb⟩
    have HP1 := Lib.hid (HC.out.next HP.out hb)
    have HB1 := Lib.hid hb
    clear hb
    go_wp2_with fail
    refine (HT.out _ HP1.out).mono ?_
    rintro e w2 ⟨rfl, hb⟩
    have HP2 := Lib.hid (HC.out.next HP1.out hb)
    have HB2 := Lib.hid (HB1.out.trans (hb.mono HB1.out.size))
    clear hb
    go_wp2_with fail
    refine (HR.out _).mono ?_
    rintro e w3 ⟨rfl, hw⟩
    subst hw
    have HP3 := HP2
    have HB3 := HB2
    go_wp2_with fail
    refine (HC1.out _ HP3.out).mono ?_
    rintro e w4 ⟨rfl, hb⟩
    have HP4 := Lib.hid (HC.out.next HP3.out hb)
    have HB4 := Lib.hid (HB3.out.trans (hb.mono HB3.out.size))
    clear hb
    go_wp2_with fail
    refine (HC2.out _).mono ?_
    rintro e w5 ⟨rfl, hb⟩
    have HP5 := Lib.hid (HC.out.next HP4.out hb)
    have HB5 := Lib.hid (HB4.out.trans (hb.mono HB4.out.size))
    clear hb
    go_wp2_with fail
    refine (HNw.out _ HP5.out).mono ?_
    rintro e w6 ⟨rfl, hb⟩
    have HP6 := Lib.hid (HC.out.next HP5.out hb)
    have HB6 := Lib.hid (HB5.out.trans (hb.mono HB5.out.size))
    clear hb
    go_wp2_with fail
    refine (HCk.out _ HP6.out).mono ?_
    rintro e w7 ⟨rfl, hb⟩
    have HB7 := Lib.hid (HB6.out.trans (hb.mono HB6.out.size))
    clear hb
    go_wp2_with fail
    go_ret
    exact ⟨rfl, HB7.out⟩
end Go.Proofs.YtjbhmdlgokoepaaDoor
