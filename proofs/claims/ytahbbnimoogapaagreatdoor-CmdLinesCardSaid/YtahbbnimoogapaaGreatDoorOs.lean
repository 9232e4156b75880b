/- Rows of strings that a call owns: append. -/
import Derived.Test.YtahbbnimoogapaaGreatDoorBas
import Derived.Deep.RegionLaw
namespace Go.Proofs.YtahbbnimoogapaaGreatDoor
open Go.RowKit

theorem Tryz.infoStr : (Tryz.prog.info? 9).map (fun i => (i.zero, i.size, i.bytes)) = some (some (.string ⟨#[]⟩), 1, 16) := by kernel_rfl
def strV (L : List ByteArray) : List Value := L.map Value.string
theorem strV_len (L : List ByteArray) : (strV L).length = L.length := by simp [strV]
theorem strV_get (L : List ByteArray) (i : Nat) (h : i < L.length) : (strV L)[i]? = some (.string (L.getD i ByteArray.empty)) := by simp [strV, h]

/-- A row of strings that the call owns. -/
def OwS (w : World) (base : Nat) (v : Value) (L : List ByteArray) : Prop := w.ownsRow base 9 1 v L.length (strV L)
theorem OwS.start (w : World) (base : Nat) (h : base ≤ w.heap.size) : OwS (w.alloc (.cells #[] 9)) base (.slice (some ⟨w.heap.size, 0, none⟩) 0 0) [] :=
  World.ownsRow_lit w #[] 0 h (by unfold maxLen; omega) rfl
theorem OwS.nil (w : World) (base : Nat) : OwS w base (.slice none 0 0) [] := ⟨rfl, .inl ⟨rfl, rfl⟩⟩
theorem OwS.alloc {w : World} {base : Nat} {v : Value} {l : List ByteArray} (h : OwS w base v l) (o : Obj) : OwS (w.alloc o) base v l := World.ownsRow.alloc h o
theorem OwS.drew {w : World} {base : Nat} {v : Value} {l : List ByteArray} (h : OwS w base v l) : OwS w.drew base v l := h
theorem OwS.drewN {w : World} {base : Nat} {v : Value} {l : List ByteArray} (h : OwS w base v l) (n : Nat) : OwS (w.drewN n) base v l := h
theorem OwS.next {w w' : World} {base : Nat} {v : Value} {l : List ByteArray} (h : OwS w base v l) (hb : Below w.heap.size w w') : OwS w' base v l :=
  World.ownsRow.kept (row := none) h ⟨hb.os, hb.tape, hb.output, hb.size, fun i hi _ => hb.block i hi⟩ (Classical.em _)
/-- It reads as these texts. -/
theorem OwS.texts {w : World} {base : Nat} {v : Value} {l : List ByteArray} (h : OwS w base v l) (hs : ∀ s ∈ l, s.size ≤ 140737488355328) : ∃ a cap, v = .slice a l.length cap ∧ IsTexts w a l.length cap l := by
  rcases h.2 with ⟨rfl, h0⟩ | ⟨g, cap, cur, rfl, hb, hg, h1, h2, h3⟩
  · obtain rfl : l = [] := List.length_eq_zero_iff.1 h0
    exact ⟨none, 0, rfl, .inl ⟨rfl, rfl, rfl, rfl⟩⟩
  · refine ⟨some ⟨g, 0, none⟩, cap, rfl, .inr ⟨⟨g, 0, none⟩, rfl, h1, h2, rfl, fun i hi => ?_, hs⟩⟩
    rw [addr_add, Nat.zero_add, World.ownsRow.cellAt h i (by rw [Nat.mul_one]; exact hi), strV_get l i hi]
theorem OwS.fresh {w : World} {base n cap : Nat} {a : Option Addr} {l : List ByteArray} (h : OwS w base (.slice a n cap) l) : ∀ x, a = some x → base ≤ x.block := by
  intro x hx
  subst hx
  rcases h.2 with ⟨h0, _⟩ | ⟨g, cap, cur, h0, hb, _⟩
  · cases h0
  · cases h0; exact hb
theorem OwS.some {w : World} {base : Nat} {v : Value} {l : List ByteArray} (h : OwS w base v l) (hs : ∀ s ∈ l, s.size ≤ 140737488355328) : ∃ a n cap, v = .slice a n cap ∧ IsTexts w a n cap l := by
  obtain ⟨a, cap, h1, h2⟩ := h.texts hs
  exact ⟨a, _, cap, h1, h2⟩
/-- The walk's law for 'append(out, s)', out a row of the call's own. -/
theorem wpList_pushs (wr : World) {ops : Array Oper} {rest : List Oper} {o : Oper} {a : Act} {Q : Exit → Act → World → Prop}
    {base : Nat} {v : Value} {l : List ByteArray} (hown : OwS wr base v l) (hgd : o.guard = none) (s x : Operand) (ho : o.op = .call { callee := .builtin .append, args := #[s, x], argTypes := #[41, 41] })
    (hs : a.eval s = v) (hx : a.eval x = .slice (some ⟨wr.heap.size, 0, none⟩) 1 1) (b : ByteArray)
    (hlen : l.length ≤ 1099511627776) (hbase : base ≤ wr.heap.size)
    (h : ∀ v' w', OwS w' base v' (l ++ [b]) → Below base wr w' → wpList Tryz.prog ops Q rest (a.put o.dst v') w') :
    wpList Tryz.prog ops Q (o :: rest) a (wr.alloc (.cells #[.string b] 9)) := by
  obtain ⟨i0, hi, hz0, hz1, hz2⟩ := info_parts Tryz.infoStr
  have hsz : (wr.alloc (.cells #[.string b] 9)).heap.size = wr.heap.size + 1 := by show (wr.heap.push _).size = _; simp
  refine wpList_append_own _ hgd s x 41 ho base 9 i0 (.string ⟨#[]⟩) 1 16 Tryz.underlying41 hi hz0 hz1 hz2 rfl (by decide) v l.length (strV l) hs (World.ownsRow.alloc hown _) ⟨wr.heap.size, 0, none⟩ 1 1 [.string b] hx rfl ?_ ?_ (by unfold maxLen; omega) (by omega) (by omega) ?_
  · intro j u hj
    match j, hj with
    | 0, hj => simp at hj; subst hj; simp [Addr.add]
  · intro u hu; simp at hu; subst hu; rfl
  · intro v' w' h1 h2 _
    refine h v' w' ?_ ?_
    · have e : strV (l ++ [b]) = strV l ++ [.string b] := by simp [strV]
      unfold OwS
      rw [e, List.length_append]; exact h1
    · refine Below.grown ((Below.refl _ _).alloc hbase _) h2 (by omega) ?_
      intro k hk
      rcases hown.2 with ⟨rfl, _⟩ | ⟨g, cap, cur, rfl, hb, _⟩
      · simp [Value.ownBlock] at hk
      · simp [Value.ownBlock] at hk; omega
end Go.Proofs.YtahbbnimoogapaaGreatDoor
