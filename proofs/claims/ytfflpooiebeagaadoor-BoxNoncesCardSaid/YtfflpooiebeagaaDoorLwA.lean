/- Layer 7's laws: what an act is; 'large'. -/
import Derived.Test.YtfflpooiebeagaaDoorM1
import Derived.Outline
namespace Go.Proofs.YtfflpooiebeagaaDoor
open Go.RowKit

/-- An act. -/
structure ActB where
  kind : Int
  K : ByteArray
  N : ByteArray
  D : ByteArray
  T : ByteArray
def actC (x : ActB) : Array Value := #[.int .i64 x.kind, .string x.K, .string x.N, .string x.D, .string x.T]
abbrev actV (x : ActB) : Value := .agg (actC x)
def largeA (x : ActB) : Bool := decide (100 < x.K.size) || decide (100 < x.N.size) || decide (500 < x.D.size) || decide (500 < x.T.size)

theorem large7_any (x : ActB) (w : World) :
    Calls Tryd.prog 8 #[actV x] w fun e w' => e = .returned (.bool (largeA x)) ∧ Below w.heap.size w w' := by
  obtain ⟨kind, K, N, D, T⟩ := x
  have hb := (Below.refl w.heap.size w).alloc (Nat.le_refl _) (.cells #[.int .i64 kind, .string K, .string N, .string D, .string T] 29)
  by_cases h1 : 100 < K.size
  · have b1 : decide (100 < (K.size : Int)) = true := decide_eq_true (by omega)
    have e1 : largeA ⟨kind, K, N, D, T⟩ = true := by simp [largeA, h1]
    rw [e1]
    unfold actV actC
    go_enter Tryd.func8, Tryd.ntmps8
    go_wp2
    go_ret
    exact ⟨rfl, hb⟩
  · have b1 : decide (100 < (K.size : Int)) = false := decide_eq_false (by omega)
    by_cases h2 : 100 < N.size
    · have b2 : decide (100 < (N.size : Int)) = true := decide_eq_true (by omega)
      have e1 : largeA ⟨kind, K, N, D, T⟩ = true := by simp [largeA, h2]
      rw [e1]
      unfold actV actC
      go_enter Tryd.func8, Tryd.ntmps8
      go_wp2
      go_ret
      exact ⟨rfl, hb⟩
    · have b2 : decide (100 < (N.size : Int)) = false := decide_eq_false (by omega)
      by_cases h3 : 500 < D.size
      · have b3 : decide (500 < (D.size : Int)) = true := decide_eq_true (by omega)
        have e1 : largeA ⟨kind, K, N, D, T⟩ = true := by simp [largeA, h3]
        rw [e1]
        unfold actV actC
        go_enter Tryd.func8, Tryd.ntmps8
        go_wp2
        go_ret
        exact ⟨rfl, hb⟩
      · have b3 : decide (500 < (D.size : Int)) = false := decide_eq_false (by omega)
        have e1 : largeA ⟨kind, K, N, D, T⟩ = decide (500 < (T.size : Int)) := by
          simp only [largeA, decide_eq_false h1, decide_eq_false h2, decide_eq_false h3, Bool.false_or]
          exact decide_eq_decide.2 (by omega)
        rw [e1]
        unfold actV actC
        go_enter Tryd.func8, Tryd.ntmps8
        go_wp2
        go_ret
        exact ⟨rfl, hb⟩
end Go.Proofs.YtfflpooiebeagaaDoor
