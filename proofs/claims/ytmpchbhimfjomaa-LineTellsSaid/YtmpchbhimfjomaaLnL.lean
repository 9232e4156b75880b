/- large, of layer 8's laws. -/
import Derived.Test.YtmpchbhimfjomaaR8F
import Derived.Test.YtmpchbhimfjomaaLnC
namespace Go.Proofs.Ytmpchbhimfjomaa
open Go.RowKit

theorem wrap_add (a b : Int) : wrap64 (IntKind.i64.wrap a + b) = IntKind.i64.wrap (a + b) := by
  rw [IntKind.wrap_i64, IntKind.wrap_i64, wrap64]
  omega
def largeL (ss : List ByteArray) : Bool := decide (100 < ss.length ∨ 4096 < sizeB ss)
theorem sizeB_bound {ss : List ByteArray} {m : Nat} (h : ∀ s ∈ ss, s.size ≤ m) : sizeB ss ≤ ss.length * m := by
  induction ss with
  | nil => simp [sizeB]
  | cons s ss ih =>
    rw [sizeB_cons, List.length_cons, Nat.add_mul, Nat.one_mul]
    have h1 := h s List.mem_cons_self
    have h2 := ih fun x hx => h x (List.mem_cons_of_mem _ hx)
    omega
theorem IsTexts.small {w : World} {a : Option Addr} {len cap : Nat} {ss : List ByteArray} (h : IsTexts w a len cap ss) : ∀ s ∈ ss, s.size ≤ 140737488355328 := by
  rcases h with ⟨_, _, _, rfl⟩ | ⟨x, rfl, h1, h2, h3, h4, h5⟩
  · intro s h; cases h
  · exact h5

set_option maxHeartbeats 1000000 in
theorem large8_any (a : Option Addr) (len cap : Nat) (ss : List ByteArray) (w : World) (h : IsTexts w a len cap ss) :
    Calls Try.prog 10 #[.slice a len cap] w fun e w' => e = .returned (.bool (largeL ss)) ∧ w = w' := by
  obtain ⟨e1, hc1, hm1⟩ := h.len
  have H1 := Lib.hid h
  have HB := Lib.hid (sizeB_bound h.small)
  have hm : len ≤ 9223372036854775807 := Nat.le_trans (Nat.le_trans hc1 hm1) (by decide)
  subst e1
  clear hm1 h hc1
  go_enter Try.func10, Try.ntmps10
  go_wp2
  go_loopw [3, 7] (fun n i wr => ∃ (k : Nat) (N : Int), i = .int .i64 (k : Int) ∧ n = .int .i64 N ∧ k ≤ ss.length ∧ N = IntKind.i64.wrap ((sizeB (ss.take k) : Nat) : Int) ∧ w = wr) (fun _ i _ => ss.length - (intOf i).toNat)
  case atStart => exact ⟨0, 0, rfl, rfl, Nat.zero_le _, rfl, rfl⟩
  case round =>
    obtain ⟨k, N, rfl, rfl, hk, hN, rfl⟩ := hrel
    have HN := Lib.hid hN
    clear hN
    by_cases hlt : k < ss.length
    · have hli : (k : Int) < (ss.length : Int) := by omega
      have hk0 : (0 : Int) ≤ (k : Int) := by omega
      obtain ⟨x, rfl, c1, _⟩ := H1.out.at hlt
      have hx := sizeB_take hlt
      have HX := Lib.hid hx
      clear hx
      generalize ss.getD k ByteArray.empty = X at *
      go_wp2
      go_roundw
      case rel => exact ⟨k + 1, _, by go_num, rfl, by omega, by rw [HN.out, HX.out, Int.natCast_add]; exact wrap_add _ _, trivial⟩
      case measure => simp only [intOf]; omega
    · have hli : ¬ (k : Int) < (ss.length : Int) := by omega
      rw [List.take_of_length_le (by omega)] at HN
      by_cases h100 : 100 < ss.length
      · have h1 : (100 : Int) < (ss.length : Int) := by omega
        have HR := Lib.hid (show largeL ss = true from decide_eq_true (.inl h100))
        go_wp2
        go_ret
        exact ⟨by rw [HR.out]; rfl, rfl⟩
      · have h1 : ¬ (100 : Int) < (ss.length : Int) := by omega
        have hN2 : N = ((sizeB ss : Nat) : Int) := by
          have h2 := HB.out
          have h3 : ss.length * 140737488355328 ≤ 100 * 140737488355328 := Nat.mul_le_mul_right _ (by omega)
          rw [HN.out, IntKind.wrap_i64]
          omega
        by_cases h4 : 4096 < sizeB ss
        · have h5 : 4096 < N := by omega
          have HR := Lib.hid (show largeL ss = true from decide_eq_true (.inr h4))
          clear hN2 HN
          go_wp2
          go_ret
          exact ⟨by rw [HR.out]; rfl, rfl⟩
        · have h5 : ¬ 4096 < N := by omega
          have HR := Lib.hid (show largeL ss = false from decide_eq_false (by omega))
          clear hN2 HN
          go_wp2
          go_ret
          exact ⟨by rw [HR.out]; rfl, rfl⟩
theorem largeL_no {ss : List ByteArray} (h : largeL ss = false) : ss.length ≤ 100 ∧ sizeB ss ≤ 4096 := by
  have := of_decide_eq_false h
  omega
end Go.Proofs.Ytmpchbhimfjomaa
