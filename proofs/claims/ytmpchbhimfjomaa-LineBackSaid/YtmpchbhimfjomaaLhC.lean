/- line, the landed code: a reader of one's own: New, Add, Next, Len; one that holds a string. -/
import Derived.Test.YtmpchbhimfjomaaLhB
import Derived.Test.YtmpchbhimfjomaaLnC
import Derived.Laws.IdiomStrings
namespace Go.Proofs.Ytmpchbhimfjomaa
open Go.RowKit

/-- The reader in memory, and its blocks. -/
def RdL (w : World) (own : Nat → Prop) (p : Value) (m : Nat) (l : List UInt8) : Prop :=
  ∃ g a cap k hf, p = .pointer (some ⟨g, 0, none⟩) ∧ (∀ h, own h ↔ h = g ∨ ∃ x, a = some x ∧ h = x.block) ∧ RdA w g m a cap k hf l ∧ Row w a cap
theorem RdL.keep {w w' : World} {own : Nat → Prop} {p : Value} {m : Nat} {l : List UInt8} (h : RdL w own p m l) (hk : ∀ g, own g → w'.heap[g]? = w.heap[g]?) : RdL w' own p m l := by
  obtain ⟨g, a, cap, k, hf, hp, ho, hA, hR⟩ := h
  have hx : ∀ x, a = some x → w'.heap[x.block]? = w.heap[x.block]? := fun x hx => hk _ ((ho _).2 (.inr ⟨x, hx, rfl⟩))
  exact ⟨g, a, cap, k, hf, hp, ho, hA.keep (hk g ((ho g).2 (.inl rfl))) hx, hR.keep hx⟩
theorem RdL.lt {w : World} {own : Nat → Prop} {p : Value} {m : Nat} {l : List UInt8} (h : RdL w own p m l) : ∀ g, own g → g < w.heap.size := by
  obtain ⟨g, a, cap, k, hf, hp, ho, hA, hR⟩ := h
  intro h hh
  rcases (ho h).1 hh with rfl | ⟨x, hx, rfl⟩
  · exact hA.arr.lt
  · exact hA.byt.lt x hx
theorem RdL.det {w : World} {own own' : Nat → Prop} {p : Value} {m m' : Nat} {l l' : List UInt8} (h : RdL w own p m l) (h' : RdL w own' p m' l') : l = l' := by
  obtain ⟨g, a, cap, k, hf, rfl, _, hA, _⟩ := h
  obtain ⟨g', a', cap', k', hf', hp, _, hA', _⟩ := h'
  cases hp
  have e := hA.arr.symm.trans hA'.arr
  injection e with e
  injection e with e1
  have e2 := congrArg (fun a : Array Value => a[1]?) e1
  simp only [List.getElem?_toArray, List.getElem?_cons_succ, List.getElem?_cons_zero, Option.some.injEq, Value.slice.injEq] at e2
  obtain ⟨rfl, hl, _⟩ := e2
  exact hA.byt.det hA'.byt hl

theorem rda_new (w : World) (m : Nat) : RdA (w.alloc (.cells #[.int .i64 (m : Int), .slice none 0 0, .int .i64 0, .bool false] 53)) w.heap.size m none 0 0 false [] where
  arr := Arr.new w _ _
  byt := .inl ⟨rfl, rfl⟩
  off := fun x hx => by cases hx
  le := Nat.le_refl _
  seen := Nat.le_refl _
  half := by simp
  no := fun j hj => by omega
theorem lnew_any (n : Nat) (h1 : 1 ≤ n) (h2 : n ≤ 1000) (w : World) : Calls Try.prog 22 #[.int .i64 (n : Int)] w fun e w' => ∃ (p : Value) (own : Nat → Prop), e = .returned p ∧ RdL w' own p n [] ∧ (∀ g, own g → w.heap.size ≤ g) ∧ Below w.heap.size w w' := by
  have b1 : ¬ (n : Int) < 1 := by omega
  have b2 : ¬ (1000 : Int) < (n : Int) := by omega
  go_enter Try.func22, Try.ntmps22
  go_wp2
  go_ret
  exact ⟨_, rfl, fun h => h = w.heap.size, ⟨w.heap.size, none, 0, 0, false, rfl, fun h => ⟨fun e => .inl e, fun e => e.elim id (fun ⟨x, hx, _⟩ => by cases hx)⟩, rda_new w n, .inl ⟨rfl, rfl⟩⟩, fun g e => by subst e; exact Nat.le_refl _, (Below.refl w.heap.size w).alloc (Nat.le_refl _) _⟩
theorem lnone_any (n : Int) (h : ¬ (1 ≤ n ∧ n ≤ 1000)) (w : World) : Calls Try.prog 22 #[.int .i64 n] w fun e w' => e = .returned (.pointer none) ∧ Below w.heap.size w w' := by
  by_cases h1 : n < 1
  · clear h
    go_enter Try.func22, Try.ntmps22
    go_wp2
    go_ret
    exact ⟨rfl, Below.refl _ _⟩
  · have h2 : 1000 < n := by omega
    clear h
    go_enter Try.func22, Try.ntmps22
    go_wp2
    go_ret
    exact ⟨rfl, Below.refl _ _⟩

/-- More bytes behind. -/
theorem RdA.more {w w1 : World} {g m : Nat} {a a' : Option Addr} {cap cap' k : Nat} {hf : Bool} {l : List UInt8} (h : RdA w g m a cap k hf l) (s : ByteArray) (hd : Appd a a' w w1) (hb : Byt w1 a' (l ++ s.data.toList)) (hc : l.length + s.size ≤ cap') :
    RdA (w1.setCell ⟨g, 1, none⟩ (.slice a' (l.length + s.size) cap')) g m a' cap' k hf (l ++ s.data.toList) := by
  obtain ⟨_, _, _, hs, hk, hx⟩ := hd
  have hlen : (l ++ s.data.toList).length = l.length + s.size := by simp
  have hA1 : Arr w1 g #[.int .i64 (m : Int), .slice a l.length cap, .int .i64 (k : Int), .bool hf] 53 := (hk g h.arr.lt (fun x hx => (h.off x hx).symm)).trans h.arr
  have hoff : ∀ x, a' = some x → x.block ≠ g := fun x hx' => by
    rcases hx x hx' with ⟨y, hy, e⟩ | hge
    · rw [← e]; exact h.off y hy
    · have := h.arr.lt; omega
  have hsn := h.seen
  refine ⟨?_, hb.keep fun x hx' => Below.heap_setCell _ _ _ _ (hoff x hx'), hoff, by omega, by omega, ?_, fun j hj he => ?_⟩
  · rw [hlen]; exact Arr.set hA1 1 _
  · rw [h.half]
    refine and_congr_right fun h0 => ?_
    rw [List.getElem?_append_left (by omega)]
  · exact h.no j hj ((endAt_append _ (by omega)).1 he)

theorem ladd_any {own : Nat → Prop} {p : Value} {m : Nat} {l : List UInt8} (s : ByteArray) (hl : l.length + s.size ≤ 65536) (w : World) (h : RdL w own p m l) :
    Calls Try.prog 23 #[p, .string s] w fun e w' => e = .returned (.tuple #[]) ∧ ∃ own' : Nat → Prop, RdL w' own' p m (l ++ s.data.toList) ∧ (∀ g, own' g → own g ∨ w.heap.size ≤ g) ∧ Fro own w w' := by
  obtain ⟨g, a, cap, k, hf, rfl, ho, hA, hR⟩ := h
  have c1 : w.cell? ⟨g, 1, none⟩ = some (.slice a l.length cap) := hA.arr.cell rfl
  have HA := Lib.hid hA
  have hgl := hA.arr.lt
  clear hA
  go_enter Try.func23, Try.ntmps23
  go_wp2_with (first
    | (at_builtin; refine wpList_append_at _ rfl _ _ rfl rfl rfl s rfl HA.out.byt hR (by omega) ?_; intro a' cap' w1 hb1 hr1 hc1 hd1; have d1 : w1.cell? ⟨g, 1, none⟩ = some (.slice a l.length cap) := (World.cell?_of_block (hd1.2.2.2.2.1 g hgl (fun x hx => (HA.out.off x hx).symm))).trans c1; have f1 : w1.frozen? ⟨g, 1, none⟩ = false := (World.frozen?_of_block (hd1.2.2.2.2.1 g hgl (fun x hx => (HA.out.off x hx).symm))).trans (HA.out.arr.frozen 1)))
  go_end0
  have hm := HA.out.more s hd1 hb1 hc1
  obtain ⟨e1, e2, e3, hs, hk, hx⟩ := hd1
  refine ⟨rfl, fun h => h = g ∨ ∃ x, a' = some x ∧ h = x.block, ⟨g, a', cap', k, hf, rfl, fun h => Iff.rfl, hm, hr1.keep fun x hx' => Below.heap_setCell _ _ _ _ (hm.off x hx')⟩, fun h hh => ?_, e1, e2, e3, by simp [World.setCell]; exact hs, fun h hh hn => ?_⟩
  · rcases hh with rfl | ⟨x, hx', rfl⟩
    · exact .inl ((ho _).2 (.inl rfl))
    · rcases hx x hx' with ⟨y, hy, e⟩ | hge
      · exact .inl ((ho _).2 (.inr ⟨y, hy, e.symm⟩))
      · exact .inr hge
  · have hng : h ≠ g := fun e => hn ((ho h).2 (.inl e))
    exact (Below.heap_setCell _ _ _ _ hng).trans (hk h hh fun x hx' e => hn ((ho h).2 (.inr ⟨x, hx', e⟩)))

theorem lnext_any {own : Nat → Prop} {p : Value} {m : Nat} {l : List UInt8} (hl : l.length ≤ 65536) (w : World) (h : RdL w own p m l) :
    Calls Try.prog 24 #[p] w fun e w' => e = .returned (.tuple #[.string (ba (nextL m l).1), .int .i64 (nextL m l).2.1, .bool (nextL m l).2.2.1]) ∧ ∃ own' : Nat → Prop, RdL w' own' p m (nextL m l).2.2.2 ∧ (∀ g, own' g → own g ∨ w.heap.size ≤ g) ∧ Fro own w w' := by
  obtain ⟨g, a, cap, k, hf, rfl, ho, hA, hR⟩ := h
  refine (lnextA_any (by omega) w hA).mono fun e w' ⟨he, hn⟩ => ⟨he, ?_⟩
  obtain ⟨a', cap', k', hf', hA', hor⟩ := hn.rd
  have hR' : Row w' a cap := hR.keep fun x hx => hn.fro.block _ (hA.byt.lt x hx) (hA.off x hx)
  have hsub : ∀ x, a' = some x → ∃ y, a = some y ∧ y.block = x.block := fun x hx => by
    rcases hor with ⟨rfl, _⟩ | ⟨i, _, rfl, _⟩
    · exact ⟨x, hx, rfl⟩
    · exact from_block hx
  refine ⟨fun h => h = g ∨ ∃ x, a' = some x ∧ h = x.block, ⟨g, a', cap', k', hf', rfl, fun _ => Iff.rfl, hA', ?_⟩, fun h hh => .inl ?_, hn.fro.os, hn.fro.tape, hn.fro.output, hn.fro.size, fun h hh hno => hn.fro.block h hh fun e => hno ((ho h).2 (.inl e))⟩
  · rcases hor with ⟨rfl, rfl⟩ | ⟨i, hi, rfl, rfl⟩
    · exact hR'
    · exact hR'.from hi
  · rcases hh with rfl | ⟨x, hx, rfl⟩
    · exact (ho _).2 (.inl rfl)
    · obtain ⟨y, hy, e⟩ := hsub x hx
      exact (ho _).2 (.inr ⟨y, hy, e.symm⟩)

theorem llen_any {own : Nat → Prop} {p : Value} {m : Nat} {l : List UInt8} (w : World) (h : RdL w own p m l) :
    Calls Try.prog 26 #[p] w fun e w' => e = .returned (.int .i64 (l.length : Int)) ∧ Below w.heap.size w w' := by
  obtain ⟨g, a, cap, k, hf, rfl, ho, hA, hR⟩ := h
  have c1 : w.cell? ⟨g, 1, none⟩ = some (.slice a l.length cap) := hA.arr.cell rfl
  clear hA hR ho
  go_enter Try.func26, Try.ntmps26
  go_wp2
  go_ret
  exact ⟨rfl, Below.refl _ _⟩

/-- '[]byte(s)': a new block from whose begin on it reads as the string's bytes. -/
theorem wpList_conv_new (w : World) {ops : Array Oper} {rest : List Oper} {o : Oper} {act : Act} {Q : Exit → Act → World → Prop}
    (hg : o.guard = none) (x : Operand) (hop : o.op = Op.convert 9 34 x) (s : ByteArray) (hx : act.eval x = .string s)
    (hK : ∀ cap w', s.size ≤ cap → Byt w' (some ⟨w.heap.size, 0, none⟩) s.data.toList → Below w.heap.size w w' → w'.heap.size = w.heap.size + 1 → wpList Try.prog ops Q rest (act.put o.dst (.slice (some ⟨w.heap.size, 0, none⟩) s.size cap)) w') :
    wpList Try.prog ops Q (o :: rest) act w := by
  refine wpList_plain hg fun K hK' => ?_
  have hrun := run_bytes_of_string w _ _ 5 s Try.underlying9 Try.underlying34 Try.underlying5
  have hge := grownCap_ge w s.size 0 5
  generalize grownCap w s.size 0 5 = cp at *
  unfold Oper.wp
  simp [execOp, hop, hx, hrun, Result.andThen]
  refine hK' _ _ (hK cp _ hge (.inr ⟨w.heap.size, 0, rfl, ?_, fun j b hb => ?_⟩) ((Below.refl _ _).drew.alloc (Nat.le_refl _) _) (by show (w.heap.push _).size = _; simp))
  · show ((w.heap.push _)[w.heap.size]?).isSome = true
    simp
  · have hj := (List.getElem?_eq_some_iff.1 hb).1
    have hj' : j < s.data.size := by simpa using hj
    rw [Nat.zero_add, show w.heap.size = (w.drew).heap.size from rfl, World.cell?_alloc_mark, bytesRow, Array.getElem?_append_left (by simpa using hj'), Array.getElem?_map, Array.getElem?_eq_getElem hj']
    rw [← (List.getElem?_eq_some_iff.1 hb).2]; rfl

/-- A reader that holds a string. -/
theorem lholding_any (s : ByteArray) (w : World) :
    Calls Try.prog 27 #[.string s] w fun e w' => ∃ g a cap, e = .returned (.pointer (some ⟨g, 0, none⟩)) ∧ w.heap.size ≤ g ∧ RdA w' g s.size a cap 0 false s.data.toList ∧ Below w.heap.size w w' := by
  have hlen : s.data.toList.length = s.size := by simp
  go_enter Try.func27, Try.ntmps27
  go_wp2_with (first
    | (with_reducible refine wpList_conv_new _ rfl _ rfl s rfl ?_; intro cap w1 hc1 hb1 hbel1 hz1))
  go_ret
  refine ⟨w.heap.size + 1, some ⟨w.heap.size, 0, none⟩, cap, rfl, by omega, ⟨?_, hb1.keep fun x hx => ?_, fun x hx => ?_, by rw [hlen]; exact hc1, Nat.zero_le _, by simp, fun j hj => by omega⟩, hbel1.alloc (by omega) _⟩
  · rw [hlen, ← hz1]; exact Arr.new w1 _ _
  · cases hx
    exact Below.heap_alloc w1 _ _ (by rw [hz1]; exact Nat.lt_succ_self _)
  · cases hx
    exact Nat.ne_of_lt (Nat.lt_succ_self _)
end Go.Proofs.Ytmpchbhimfjomaa
