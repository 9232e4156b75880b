/- Arrays of integers, compared: the same array is the same. -/
import Derived.Test.YtebhmcnocpblkaaDoorProg
import Derived.WalkKit
import Derived.Laws.StructEq
namespace Go.Proofs.YtebhmcnocpblkaaDoor
open Go.RowKit

theorem equalIn_ints {P : Program} (w : World) (d : Nat) (t e : TypeId) (n : Nat) (k : IntKind) (xs : List Int) (ht : P.underlying t = some (.array n e)) (he : P.underlying e = some (.int k))
    (hag : ∀ w, (isAgg e).run P w = .ok false w) (hz : ∀ w, (sizeOf e).run P w = .ok 1 w) (hx : xs.length = n) :
    (Op.equalIn (d + 2) t (.agg (xs.map (Value.int k)).toArray) (.agg (xs.map (Value.int k)).toArray)).run P w = .ok true w := by
  have hp : ∀ (i : Nat), i < n → ∃ z, ∀ w, (part e (xs.map (Value.int k)).toArray i).run P w = .ok (.int k z) w := by
    intro i hi
    refine ⟨xs[i]'(by omega), fun w => ?_⟩
    have hv : ((xs.map (Value.int k)).toArray)[i]? = some (.int k (xs[i]'(by omega))) := by simp [hx, hi]
    simp [part, hag, hv]
  rw [Op.equalIn.eq_def]
  simp only [Sem.run_bind, run_underlying ht, Result.andThen_ok, hz, Std.Legacy.Range.forIn_eq_forIn_range', Nat.mul_one]
  have hl : ∀ i ∈ List.range' 0 (Std.Legacy.Range.size [:n]) 1, i < n := by
    intro i hi
    rw [List.mem_range'] at hi
    obtain ⟨j, hj, rfl⟩ := hi
    simp [Std.Legacy.Range.size] at hj
    omega
  generalize List.range' 0 (Std.Legacy.Range.size [:n]) 1 = l at *
  induction l with
  | nil => simp
  | cons i l ih =>
    obtain ⟨z, hz2⟩ := hp i (hl i (by simp))
    simp only [List.forIn_cons, Sem.run_bind, hz2, Result.andThen_ok, run_equalIn_int _ _ _ _ _ _ _ he, beq_self_eq_true, Bool.not_true, Bool.false_eq_true, if_false, Sem.run_pure]
    exact ih (fun i hi => hl i (by simp [hi]))
end Go.Proofs.YtebhmcnocpblkaaDoor
