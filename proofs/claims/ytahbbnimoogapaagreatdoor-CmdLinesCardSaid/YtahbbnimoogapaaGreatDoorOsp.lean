/- Rows of strings that a call owns: append in a region that draws its order. -/
import Derived.Test.YtahbbnimoogapaaGreatDoorOs
import Derived.Test.YtahbbnimoogapaaGreatDoorBlw
namespace Go.Proofs.YtahbbnimoogapaaGreatDoor
open Go.RowKit

theorem step_pushs {ops : Array Oper} {o : Oper} {a : Act} (wr W : World) {K : Act → World → Prop} {Q : Exit → Act → World → Prop} {E : Prop}
    (hg : o.guard = none) (s x : Operand) (ho : o.op = .call { callee := .builtin .append, args := #[s, x], argTypes := #[41, 41] })
    {base : Nat} {v : Value} {l : List ByteArray} (hown : OwS wr base v l) (hs : a.eval s = v) (hx : a.eval x = .slice (some ⟨wr.heap.size, 0, none⟩) 1 1) (b : ByteArray)
    (hW : W.heap = (wr.alloc (.cells #[.string b] 9)).heap)
    (hlen : l.length ≤ 1099511627776) (hbase : base ≤ wr.heap.size)
    (h : ∀ v' w', OwS w' base v' (l ++ [b]) → Below base W w' → K (a.put o.dst v') w') :
    if Region.wanted o (yielded ops a.tmps) = true then Oper.wp Tryz.prog o a W K Q else E := by
  have hw : Region.wanted o (yielded ops a.tmps) = true := by simp [Region.wanted, hg]
  rw [if_pos hw]
  obtain ⟨i0, hi, hz0, hz1, hz2⟩ := info_parts Tryz.infoStr
  have hsz : W.heap.size = wr.heap.size + 1 := by rw [hW]; show (wr.heap.push _).size = _; simp
  have hcell : ∀ ad, W.cell? ad = (wr.alloc (.cells #[.string b] 9)).cell? ad := fun ad => by unfold World.cell?; rw [hW]
  have hownW : W.ownsRow base 9 1 v l.length (strV l) := by
    have := World.ownsRow.alloc hown (.cells #[.string b] 9)
    unfold World.ownsRow at this ⊢
    rw [hW]; exact this
  refine wp_append_own _ s x 41 ho base 9 i0 (.string ⟨#[]⟩) 1 16 Tryz.underlying41 hi hz0 hz1 hz2 rfl (by decide) v l.length (strV l) hs hownW ⟨wr.heap.size, 0, none⟩ 1 1 [.string b] hx rfl ?_ ?_ (by unfold maxLen; omega) (by omega) (by omega) ?_
  · intro j u hj
    match j, hj with
    | 0, hj => simp at hj; subst hj; rw [hcell]; simp [Addr.add]
  · intro u hu; simp at hu; subst hu; rfl
  · intro v' w' h1 h2 _
    refine h v' w' ?_ ?_
    · have e : strV (l ++ [b]) = strV l ++ [.string b] := by simp [strV]
      unfold OwS
      rw [e, List.length_append]; exact h1
    · refine Below.grown (Below.refl _ _) h2 (by omega) ?_
      intro k hk
      rcases hown.2 with ⟨rfl, _⟩ | ⟨g, cap, cur, rfl, hb, _⟩
      · simp [Value.ownBlock] at hk
      · simp [Value.ownBlock] at hk; omega
end Go.Proofs.YtahbbnimoogapaaGreatDoor
