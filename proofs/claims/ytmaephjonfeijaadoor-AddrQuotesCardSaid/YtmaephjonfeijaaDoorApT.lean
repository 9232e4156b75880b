/- AddrTells: its walk over the record. -/
import Derived.Test.YtmaephjonfeijaaDoorApA
namespace Go.Proofs.YtmaephjonfeijaaDoor
open Go.RowKit

theorem large1_any (s : ByteArray) (w : World) : Calls Tryd.prog 11 #[.slice (some ⟨w.heap.size, 0, none⟩) 1 1] (w.alloc (.cells #[.string s] 9)) fun e w' => e = .returned (.bool (decide (2048 < s.size))) ∧ w.alloc (.cells #[.string s] 9) = w' := by
  have h := large9_any _ 1 [s] (by show 1 ≤ 1000; decide) _ (texts_new w [s])
  rwa [show largeS [s] = decide (2048 < s.size) by simp [largeS]] at h
theorem large2_any (s t : ByteArray) (w : World) : Calls Tryd.prog 11 #[.slice (some ⟨w.heap.size, 0, none⟩) 2 2] (w.alloc (.cells #[.string s, .string t] 9)) fun e w' => e = .returned (.bool (decide (2048 < s.size ∨ 2048 < t.size))) ∧ w.alloc (.cells #[.string s, .string t] 9) = w' := by
  have h := large9_any _ 2 [s, t] (by show 2 ≤ 1000; decide) _ (texts_new w [s, t])
  rwa [show largeS [s, t] = decide (2048 < s.size ∨ 2048 < t.size) by simp [largeS]] at h
theorem large3_any (s t u : ByteArray) (w : World) : Calls Tryd.prog 11 #[.slice (some ⟨w.heap.size, 0, none⟩) 3 3] (w.alloc (.cells #[.string s, .string t, .string u] 9)) fun e w' => e = .returned (.bool (decide (2048 < s.size ∨ 2048 < t.size ∨ 2048 < u.size))) ∧ w.alloc (.cells #[.string s, .string t, .string u] 9) = w' := by
  have h := large9_any _ 3 [s, t, u] (by show 3 ≤ 1000; decide) _ (texts_new w [s, t, u])
  rwa [show largeS [s, t, u] = decide (2048 < s.size ∨ 2048 < t.size ∨ 2048 < u.size) by simp [largeS]] at h
theorem domR_form (l : List UInt8) : ∃ S e, domR l = .tuple #[.string S, .int .i64 e] := by
  unfold domR
  split
  · exact ⟨_, _, rfl⟩
  · exact ⟨_, _, rfl⟩
theorem below_new {w w' : World} (h : Below w.heap.size w w') (o : Obj) : Below w.heap.size w (w'.alloc o) := h.alloc h.size o

set_option maxHeartbeats 2000000 in
set_option maxRecDepth 100000 in
theorem addrTells_walk (C : AddrC) (s : ByteArray) (W : World) :
    Calls Tryd.prog 4 #[.string s] W fun e w' => e = .returned (.bool true) ∧ Below W.heap.size W w' := by
  have HA := Lib.hid (C.awake W)
  have hLg := fun w => large1_any s w
  by_cases h1 : s.size ≤ 2048
  · rw [decide_eq_false (by omega : ¬ 2048 < s.size)] at hLg
    have HLg := Lib.hid hLg
    have hD1 := fun w => C.domain s (by omega) w
    have hD2 := fun w => rdomain_any s (by omega) w
    obtain ⟨S, er, he⟩ := domR_form s.data.toList
    rw [he] at hD1 hD2
    have HD1 := Lib.hid hD1
    have HD2 := Lib.hid hD2
    have HL1 := Lib.hid (fun w => C.local' s (by omega) w)
    have HL2 := Lib.hid (fun w => rlocal_any s (by omega) w)
    have HP1 := Lib.hid (fun w => C.plain s (by omega) w)
    have HP2 := Lib.hid (fun w => rplain_any s (by omega) w)
    generalize locB s.data.toList = LB at *
    generalize plaB s.data.toList = PB at *
    clear hLg hD1 hD2 h1 he
    go_enter Tryd.func4, Tryd.ntmps4
    go_wp2_with (first
      | (go_at_call 10; (with_reducible refine HA.out.mono ?_); rintro e w1 ⟨rfl, hb1⟩)
      | (go_at_call 11; (with_reducible refine (HLg.out _).mono ?_); rintro e w2 ⟨rfl, rfl⟩; have hb2 := below_new hb1 (.cells #[.string s] 9))
      | (go_at_call 17; (with_reducible refine (HD1.out _).mono ?_); rintro e w3 ⟨rfl, hb3⟩; have hb3' := Below_next hb2 hb3)
      | (go_at_call 18; (with_reducible refine (HD2.out _).mono ?_); rintro e w4 ⟨rfl, hb4⟩; have hb4' := Below_next hb3' hb4)
      | (go_at_call 19; (with_reducible refine (HL1.out _).mono ?_); rintro e w5 ⟨rfl, hb5⟩; have hb5' := Below_next hb4' hb5)
      | (go_at_call 20; (with_reducible refine (HL2.out _).mono ?_); rintro e w6 ⟨rfl, rfl⟩)
      | (go_at_call 21; (with_reducible refine (HP1.out _).mono ?_); rintro e w7 ⟨rfl, hb7⟩; have hb7' := Below_next hb5' hb7)
      | (go_at_call 22; (with_reducible refine (HP2.out _).mono ?_); rintro e w8 ⟨rfl, hb8⟩; have hb8' := Below_next hb7' hb8))
    go_ret
    exact ⟨rfl, hb8'⟩
  · rw [decide_eq_true (by omega : 2048 < s.size)] at hLg
    have HLg := Lib.hid hLg
    clear hLg h1
    go_enter Tryd.func4, Tryd.ntmps4
    go_wp2_with (first
      | (go_at_call 10; (with_reducible refine HA.out.mono ?_); rintro e w1 ⟨rfl, hb1⟩)
      | (go_at_call 11; (with_reducible refine (HLg.out _).mono ?_); rintro e w2 ⟨rfl, rfl⟩))
    go_ret
    exact ⟨rfl, below_new hb1 _⟩
end Go.Proofs.YtmaephjonfeijaaDoor
