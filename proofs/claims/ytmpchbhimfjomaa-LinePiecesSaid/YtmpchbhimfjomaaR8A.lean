/- The document's own layer 8: Ends, Same, Unstuff, Join. -/
import Derived.Test.YtmpchbhimfjomaaOs
import Derived.Test.YtmpchbhimfjomaaLnN
import Derived.Test.YtmpchbhimfjomaaOpn
namespace Go.Proofs.Ytmpchbhimfjomaa
open Go.RowKit

theorem endAt_of {s : ByteArray} {i : Nat} (h : i + 1 < s.size) : endAt s.data.toList i ↔ s[i] = 13 ∧ s[i + 1] = 10 := by
  unfold endAt
  rw [byte_at (by omega), byte_at h]
  simp

set_option maxRecDepth 100000 in
theorem rends_any (s : ByteArray) (hs : s.size ≤ 1099511627776) (i : Nat) (hi : i ≤ s.size) (w : World) :
    Calls Try.prog 28 #[.string s, .int .i64 (i : Int)] w fun e w' => e = .returned (.bool (decide (endAt s.data.toList i))) ∧ w = w' := by
  by_cases h1 : i + 1 < s.size
  · have h0 : i < s.size := by omega
    by_cases h13 : s[i] = 13
    · have b1 : ((s[i].toNat : Int) == 13) = true := by rw [h13]; rfl
      by_cases h10 : s[i + 1] = 10
      · have b2 : ((s[i + 1].toNat : Int) == 10) = true := by rw [h10]; rfl
        rw [decide_eq_true ((endAt_of h1).2 ⟨h13, h10⟩)]
        clear h13 h10
        go_enter Try.func28, Try.ntmps28
        go_wp2
        go_ret
        exact ⟨rfl, rfl⟩
      · have b2 : ((s[i + 1].toNat : Int) == 10) = false := by rw [show (10 : Int) = ((10 : Nat) : Int) from rfl, byte_is (by decide)]; exact decide_eq_false h10
        rw [decide_eq_false (fun e => h10 ((endAt_of h1).1 e).2)]
        clear h13 h10
        go_enter Try.func28, Try.ntmps28
        go_wp2
        go_ret
        exact ⟨rfl, rfl⟩
    · have b1 : ((s[i].toNat : Int) == 13) = false := by rw [show (13 : Int) = ((13 : Nat) : Int) from rfl, byte_is (by decide)]; exact decide_eq_false h13
      rw [decide_eq_false (fun e => h13 ((endAt_of h1).1 e).1)]
      clear h13
      go_enter Try.func28, Try.ntmps28
      go_wp2
      go_ret
      exact ⟨rfl, rfl⟩
  · rw [decide_eq_false (fun e => h1 (by have := endAt_lt e; simpa using this))]
    have b0 : ¬ (i : Int) + 1 < (s.size : Int) := by omega
    go_enter Try.func28, Try.ntmps28
    go_wp2
    go_ret
    exact ⟨rfl, rfl⟩

end Go.Proofs.Ytmpchbhimfjomaa
