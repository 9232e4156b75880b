/- Contracts of the document's own answers of layer 2: the small ones. The document's own Mix of layer 2: rows of numbers that are built by append. The document's own Sum of layer 2. -/
import Derived.Test.YtfflpooiebeagaaDoorMA
import Derived.Test.YtfflpooiebeagaaDoorM1
import Derived.Test.YtfflpooiebeagaaDoorM9
import Derived.Deep.RegionLaw
import Derived.Deep.DeepCutAuto
import Derived.StillTailTactics
import Derived.Deep.QuietTactic
import Derived.BigQuiet
namespace Go.Proofs.YtfflpooiebeagaaDoor
open Go.RowKit

theorem mst_eq (a b c : Nat) : (a &&& b) ||| (b &&& c) ||| (a &&& c) = mst a b c := by
  rw [mst, Nat.or_assoc, Nat.or_comm (b &&& c), ← Nat.or_assoc]
theorem rep_snoc (k : Nat) : (128 : UInt8) :: List.replicate (k + 1) 0 = (128 :: List.replicate k 0) ++ [0] := by rw [List.replicate_succ']; rfl
theorem pad_more (n k : Nat) (h : k < padZ n) : (n % 64 + (k + 1)) % 64 ≠ 56 := by unfold padZ at h; omega
theorem pad_done (n : Nat) : (n % 64 + (padZ n + 1)) % 64 = 56 := by unfold padZ; omega

end Go.Proofs.YtfflpooiebeagaaDoor
namespace Go.Proofs.YtfflpooiebeagaaDoor
open Go.RowKit

/-- What Mix's memory is while the rounds go on. -/
def RelR (ty : TypeId) (s : S8) (W : List Nat) (w : World) (g0 gt gw : Nat) (wr : World) : Prop :=
  Arr wr g0 s.cells ty ∧ (∀ j, j < 64 → wr.cell? ⟨gw, j, none⟩ = some (.int .u32 ((W.getD j 0 : Nat) : Int))) ∧ Arr wr gt (u32s tabL).toArray 65 ∧ Below w.heap.size w wr
theorem RelR.drewN {ty : TypeId} {s : S8} {W : List Nat} {w : World} {g0 gt gw : Nat} {wr : World} (h : RelR ty s W w g0 gt gw wr) (n : Nat) : RelR ty s W w g0 gt gw (wr.drewN n) :=
  ⟨h.1.drewN n, h.2.1, h.2.2.1.drewN n, Below_drewN h.2.2.2 n⟩
theorem same_quiet {f : FuncId} {args : Array Value} {w : World} {n : Nat} {v : Value} (h : Calls Tryd.prog f args (w.drewN n) fun e w' => e = .returned v ∧ w.drewN n = w') :
    Calls Tryd.prog f args (w.drewN n) fun e w'' => e = .returned v ∧ ∃ m, w'' = w.drewN m :=
  Calls.quiet_of_same (h.mono fun _ _ ⟨h, k⟩ => ⟨h, k.symm⟩)

end Go.Proofs.YtfflpooiebeagaaDoor
namespace Go.Proofs.YtfflpooiebeagaaDoor
open Go.RowKit

theorem nth_cellR (s : S8) (j : Nat) (h : j < 8) : s.cells[j]? = some (.int .u32 ((s.nth j : Nat) : Int)) := by
  match j, h with
  | 0, _ => rfl
  | 1, _ => rfl
  | 2, _ => rfl
  | 3, _ => rfl
  | 4, _ => rfl
  | 5, _ => rfl
  | 6, _ => rfl
  | 7, _ => rfl
theorem Arr.of_below {w w' : World} {g : Nat} {cs : Array Value} {t : TypeId} (h : Arr w g cs t) (hb : Below w.heap.size w w') : Arr w' g cs t := h.next hb

end Go.Proofs.YtfflpooiebeagaaDoor
