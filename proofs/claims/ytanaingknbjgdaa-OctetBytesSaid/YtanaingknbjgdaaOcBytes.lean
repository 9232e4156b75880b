/- OctetBytes: the law's walk. -/
import Derived.Test.YtanaingknbjgdaaOcTurns
namespace Go.Proofs.Ytanaingknbjgdaa
open Go.RowKit

set_option maxHeartbeats 1000000 in
theorem bytes_main (a b : ByteArray) (n : Int) (ha : a.size ≤ 4096) (hb0 : b.size ≤ 4096) (hn : n ≤ 4096) (w : World) :
    Calls Try.prog 4 #[.string a, .string b, .int .i64 n] w fun e w' => e = .returned (.bool true) ∧ Below w.heap.size w w' := by
  have hbel := Below.refl w.heap.size w
  have C1 := Lib.hid (xor_any a b (by omega) (by omega))
  have C2 := Lib.hid (rxor_any a b (by omega) (by omega))
  have C3 := Lib.hid (same_any a b)
  have C4 := Lib.hid (fill_any a n (by omega) (by omega))
  have C5 := Lib.hid (rfill_any a n (by omega) (by omega))
  generalize xorB a b = XB at *
  generalize xorE a b = XE at *
  generalize fillI a n = FI at *
  go_enter Try.func4, Try.ntmps4
  go_wp2_with (first
    | (go_at_call 9; ((with_reducible refine (awake_any _).mono ?_); rintro e w' ⟨rfl, hb⟩; replace hbel := Below_next hbel hb; clear hb))
    | (go_at_call 22; ((with_reducible refine (C1.out _).mono ?_); rintro e w' ⟨rfl, hb⟩; replace hbel := Below_next hbel hb; clear hb))
    | (go_at_call 23; ((with_reducible refine (C2.out _).mono ?_); rintro e w' ⟨rfl, hb⟩; replace hbel := Below_next hbel hb; clear hb))
    | (go_at_call 24; ((with_reducible refine (C3.out _).mono ?_); rintro e w' ⟨rfl, rfl⟩))
    | (go_at_call 25; ((with_reducible refine (C4.out _).mono ?_); rintro e w' ⟨rfl, hb⟩; replace hbel := Below_next hbel hb; clear hb))
    | (go_at_call 26; ((with_reducible refine (C5.out _).mono ?_); rintro e w' ⟨rfl, hb⟩; replace hbel := Below_next hbel hb; clear hb)))
  go_ret
  exact ⟨by simp, hbel⟩

theorem bytes_big (a b : ByteArray) (n : Int) (wa : a.size ≤ maxLen) (wb : b.size ≤ maxLen) (h : 4096 < a.size ∨ (a.size ≤ 4096 ∧ 4096 < b.size) ∨ (a.size ≤ 4096 ∧ b.size ≤ 4096 ∧ 4096 < n)) (w : World) :
    Calls Try.prog 4 #[.string a, .string b, .int .i64 n] w fun e w' => e = .returned (.bool true) ∧ Below w.heap.size w w' := by
  have hbel := Below.refl w.heap.size w
  rcases h with h | ⟨h, h'⟩ | ⟨h, h', h''⟩
  all_goals
    go_enter Try.func4, Try.ntmps4
    go_wp2_with (go_at_call 9; ((with_reducible refine (awake_any _).mono ?_); rintro e w' ⟨rfl, hb⟩; replace hbel := Below_next hbel hb; clear hb))
    go_ret
    exact ⟨rfl, hbel⟩

theorem octetBytes_walk (a b : ByteArray) (n : Int) (wa : a.size ≤ maxLen) (wb : b.size ≤ maxLen) (_ : (Lit.int .i64 n).wf = true) (w : World) :
    Calls Try.prog 4 #[.string a, .string b, .int .i64 n] w fun e w' => e = .returned (.bool true) ∧ Below w.heap.size w w' := by
  by_cases h1 : a.size ≤ 4096
  · by_cases h2 : b.size ≤ 4096
    · by_cases h3 : n ≤ 4096
      · exact bytes_main a b n h1 h2 h3 w
      · exact bytes_big a b n wa wb (.inr (.inr ⟨h1, h2, by omega⟩)) w
    · exact bytes_big a b n wa wb (.inr (.inl ⟨h1, by omega⟩)) w
  · exact bytes_big a b n wa wb (.inl (by omega)) w
end Go.Proofs.Ytanaingknbjgdaa
