/- line, the landed code: a reader in memory, and its next line. -/
import Derived.Test.YtmpchbhimfjomaaLhA
import Derived.Test.YtmpchbhimfjomaaLnN
import Derived.OwnWalk
import Derived.WalkMore
import Derived.Deep.QuietTactic
import Derived.BigQuiet
import Derived.BigRegion
namespace Go.Proofs.Ytmpchbhimfjomaa
open Go.RowKit

/-- A reader in memory: its block, its most, its bytes, how many were looked at. -/
structure RdA (w : World) (g m : Nat) (a : Option Addr) (cap k : Nat) (hf : Bool) (l : List UInt8) : Prop where
  arr : Arr w g #[.int .i64 (m : Int), .slice a l.length cap, .int .i64 (k : Int), .bool hf] 53
  byt : Byt w a l
  off : ∀ x, a = some x → x.block ≠ g
  le : l.length ≤ cap
  seen : k ≤ l.length
  half : hf = true ↔ 0 < k ∧ l[k - 1]? = some 13
  no : ∀ j, j + 1 < k → ¬ endAt l j

theorem RdA.keep {w w' : World} {g m : Nat} {a : Option Addr} {cap k : Nat} {hf : Bool} {l : List UInt8} (h : RdA w g m a cap k hf l) (hg : w'.heap[g]? = w.heap[g]?) (hk : ∀ x, a = some x → w'.heap[x.block]? = w.heap[x.block]?) : RdA w' g m a cap k hf l :=
  ⟨hg.trans h.arr, h.byt.keep hk, h.off, h.le, h.seen, h.half, h.no⟩
theorem RdA.first_none {w : World} {g m : Nat} {a : Option Addr} {cap : Nat} {hf : Bool} {l : List UInt8} (h : RdA w g m a cap l.length hf l) : firstE l = none :=
  firstE_none.2 fun i hi => h.no i (endAt_lt hi) hi
/-- An end stands where the half of one was seen. -/
theorem RdA.first_some {w : World} {g m : Nat} {a : Option Addr} {cap k : Nat} {l : List UInt8} (h : RdA w g m a cap k true l) (h10 : l[k]? = some 10) : 1 ≤ k ∧ firstE l = some (k - 1) := by
  obtain ⟨h0, h13⟩ := h.half.1 rfl
  refine ⟨h0, firstE_some.2 ⟨⟨h13, by rw [show k - 1 + 1 = k by omega]; exact h10⟩, fun j hj => h.no j (by omega)⟩⟩
/-- One byte further on. -/
theorem RdA.step {w : World} {g m : Nat} {a : Option Addr} {cap k : Nat} {hf hf' : Bool} {l : List UInt8} (h : RdA w g m a cap k hf l) (hk : k < l.length) (hne : ¬ (l[k] = 10 ∧ hf = true)) (hh : hf' = decide (l[k] = 13)) (q : Nat) :
    RdA (((w.drewN q).setCell ⟨g, 2, none⟩ (.int .i64 ((k : Int) + 1))).setCell ⟨g, 3, none⟩ (.bool hf')) g m a cap (k + 1) hf' l where
  arr := Arr.set (Arr.set (h.arr.drewN q) 2 _) 3 _
  byt := h.byt.keep fun x hx => (Below.heap_setCell _ _ _ _ (h.off x hx)).trans (Below.heap_setCell _ _ _ _ (h.off x hx))
  off := h.off
  le := h.le
  seen := hk
  half := by
    subst hh
    rw [Nat.add_sub_cancel, List.getElem?_eq_getElem hk]
    simp
  no := fun j hj he => by
    by_cases e : j + 1 < k
    · exact h.no j e he
    · obtain rfl : k = j + 1 := by omega
      refine hne ⟨?_, h.half.2 ⟨by omega, by rw [Nat.add_sub_cancel]; exact he.1⟩⟩
      have := he.2
      rw [List.getElem?_eq_getElem hk] at this
      exact Option.some.inj this

theorem Fro.set {g : Nat} {w w' : World} (h : Fro (fun h => h = g) w w') (o : Nat) (v : Value) : Fro (fun h => h = g) w (w'.setCell ⟨g, o, none⟩ v) :=
  ⟨h.os, h.tape, h.output, by simp [World.setCell]; exact h.size, fun x hx hn => (Below.heap_setCell _ _ _ _ hn).trans (h.block x hx hn)⟩
theorem Fro.drewN {own : Nat → Prop} {w w' : World} (h : Fro own w w') (q : Nat) : Fro own w (w'.drewN q) := ⟨h.os, h.tape, h.output, h.size, h.block⟩
theorem size_set2 {w w' : World} {g q : Nat} {v u : Value} (h : w'.heap.size = w.heap.size) : (((w'.drewN q).setCell ⟨g, 2, none⟩ v).setCell ⟨g, 3, none⟩ u).heap.size = w.heap.size := by
  simp [World.setCell]; exact h
/-- The world behind a line. -/
def cutW (w : World) (g k : Nat) (a : Option Addr) (n cap q1 q2 : Nat) : World := (((((w.drewN q1).setCell ⟨g, 2, none⟩ (.int .i64 ((k : Int) + 1))).drewN q2).setCell ⟨g, 1, none⟩ (.slice (from' a cap (k + 1)) (n - (k + 1)) (cap - (k + 1)))).setCell ⟨g, 2, none⟩ (.int .i64 0)).setCell ⟨g, 3, none⟩ (.bool false)
theorem cut_fro {w w' : World} {g : Nat} (h : Fro (fun h => h = g) w w') (k : Nat) (a : Option Addr) (n cap q1 q2 : Nat) : Fro (fun h => h = g) w (cutW w' g k a n cap q1 q2) :=
  ((((((h.drewN _).set _ _).drewN _).set _ _).set _ _).set _ _)
theorem cut_size {w w' : World} (h : w'.heap.size = w.heap.size) (g k : Nat) (a : Option Addr) (n cap q1 q2 : Nat) : (cutW w' g k a n cap q1 q2).heap.size = w.heap.size := by
  simp [cutW, World.setCell]; exact h
theorem RdA.byt' {w w' : World} {g m : Nat} {a : Option Addr} {cap k : Nat} {hf : Bool} {l : List UInt8} (h : RdA w g m a cap k hf l) (hf' : Fro (fun h => h = g) w w') : Byt w' a l :=
  h.byt.keep fun x hx => hf'.block _ (h.byt.lt x hx) (h.off x hx)
theorem RdA.cut {w : World} {g m : Nat} {a : Option Addr} {cap k : Nat} {hf : Bool} {l : List UInt8} (h : RdA w g m a cap k hf l) (hk : k < l.length) (q1 q2 : Nat) :
    RdA (cutW w g k a l.length cap q1 q2) g m (from' a cap (k + 1)) (cap - (k + 1)) 0 false (l.drop (k + 1)) where
  arr := by
    rw [List.length_drop]
    exact Arr.set (Arr.set (Arr.set ((Arr.set (h.arr.drewN q1) 2 _).drewN q2) 1 _) 2 _) 3 _
  byt := (h.byt' (cut_fro (Fro.of_below (Below.refl _ _)) k a l.length cap q1 q2)).from (by omega) h.le
  off := fun x hx => by obtain ⟨y, hy, e⟩ := from_block hx; rw [← e]; exact h.off y hy
  le := by rw [List.length_drop]; have := h.le; omega
  seen := Nat.zero_le _
  half := by simp
  no := fun j hj => by omega
theorem RdA.cutB {w : World} {g m : Nat} {a : Option Addr} {cap k : Nat} {hf : Bool} {l : List UInt8} (h : RdA w g m a cap k hf l) (n q1 q2 i : Nat) : Byt (cutW w g k a n cap q1 q2) (from' a cap 0) (l.take i) :=
  ((h.byt' (cut_fro (Fro.of_below (Below.refl _ _)) k a n cap q1 q2)).from (Nat.zero_le _) h.le).take i

/-- The walk's law for 'string(b)', b a part of bytes. -/
theorem wpList_conv_byt (w : World) {ops : Array Oper} {rest : List Oper} {o : Oper} {act : Act} {Q : Exit → Act → World → Prop}
    (hg : o.guard = none) (x : Operand) (hop : o.op = Op.convert 34 9 x) {a : Option Addr} {n cap : Nat} {l : List UInt8} (h : Byt w a l) (hn : l.length = n) (hx : act.eval x = .slice a n cap)
    (hK : wpList Try.prog ops Q rest (act.put o.dst (.string (ba l))) w) :
    wpList Try.prog ops Q (o :: rest) act w := by
  subst hn
  refine wpList_plain hg fun K hK' => ?_
  have hrun := h.conv cap
  unfold Oper.wp
  simp [execOp, hop, hx, hrun, Result.andThen]
  exact hK' _ _ hK

/-- Where a reader stands, as a loop's measure. -/
def seenOf (g n : Nat) (w : World) : Nat := match w.cell? ⟨g, 2, none⟩ with
  | some (.int _ k) => n - k.toNat
  | _ => 0
theorem RdA.measure {w : World} {g m : Nat} {a : Option Addr} {cap k : Nat} {hf : Bool} {l : List UInt8} (h : RdA w g m a cap k hf l) (n : Nat) : seenOf g n w = n - k := by
  have c2 : w.cell? ⟨g, 2, none⟩ = some (.int .i64 (k : Int)) := h.arr.cell rfl
  rw [seenOf, c2]; rfl

/-- What a reader's next line leaves. -/
structure NxA (w w' : World) (g m : Nat) (a : Option Addr) (cap : Nat) (l : List UInt8) : Prop where
  size : w'.heap.size = w.heap.size
  fro : Fro (fun h => h = g) w w'
  rd : ∃ a' cap' k hf, RdA w' g m a' cap' k hf (nextL m l).2.2.2 ∧ ((a' = a ∧ cap' = cap) ∨ ∃ i, i ≤ cap ∧ a' = from' a cap i ∧ cap' = cap - i)

set_option maxHeartbeats 2000000 in
set_option maxRecDepth 100000 in
theorem lnextA_any {g m : Nat} {a : Option Addr} {cap k0 : Nat} {hf0 : Bool} {l : List UInt8} (hl : l.length ≤ 1048576) (w : World) (h : RdA w g m a cap k0 hf0 l) :
    Calls Try.prog 24 #[.pointer (some ⟨g, 0, none⟩)] w fun e w' => e = .returned (.tuple #[.string (ba (nextL m l).1), .int .i64 (nextL m l).2.1, .bool (nextL m l).2.2.1]) ∧ NxA w w' g m a cap l := by
  go_enter Try.func24, Try.ntmps24
  go_wp2
  go_step3
  go_wp2
  go_step3
  go_wp2
  go_loopw [5] (fun c wr => ∃ (k : Nat) (hf : Bool), Fro (fun h => h = g) w wr ∧ wr.heap.size = w.heap.size ∧ RdA wr g m a cap k hf l) (fun _ wr => seenOf g 1048577 wr)
  case atStart => exact ⟨k0, hf0, Fro.of_below (Below.refl _ _), rfl, h⟩
  case round =>
    obtain ⟨k, hf, hfro, hsz, hrd⟩ := hrel
    have HR := Lib.hid hrd
    have HF := Lib.hid hfro
    have HM := Lib.hid (hrd.measure 1048577)
    have c1 : wr.cell? ⟨g, 1, none⟩ = some (.slice a l.length cap) := hrd.arr.cell rfl
    have c2 : wr.cell? ⟨g, 2, none⟩ = some (.int .i64 (k : Int)) := hrd.arr.cell rfl
    have c3 : wr.cell? ⟨g, 3, none⟩ = some (.bool hf) := hrd.arr.cell rfl
    have f1 := hrd.arr.frozen 1
    have f2 := hrd.arr.frozen 2
    have f3 := hrd.arr.frozen 3
    have hseen := hrd.seen
    have hle := hrd.le
    clear h hfro
    by_cases hk : k < l.length
    · obtain ⟨gb, o, ha, hc⟩ := hrd.byt.at hk
      have hki : (k : Int) < (l.length : Int) := by omega
      have hke : ((k : Int) == (l.length : Int)) = false := beq_false_of_ne (by omega)
      clear hrd
      subst ha
      have e0 : (((⟨#[13, 10]⟩ : ByteArray)[0]'(by decide)).toNat : Int) = ((13 : Nat) : Int) := rfl
      have e1 : (((⟨#[13, 10]⟩ : ByteArray)[1]'(by decide)).toNat : Int) = ((10 : Nat) : Int) := rfl
      by_cases h13 : l[k] = 13
      · have b1 : ((l[k].toNat : Int) == (((⟨#[13, 10]⟩ : ByteArray)[0]'(by decide)).toNat : Int)) = true := by rw [e0, byte_is (by decide)]; exact decide_eq_true h13
        have HS := Lib.hid (fun q => HR.out.step (hf' := true) hk (fun e => by rw [h13] at e; exact absurd e.1 (by decide)) (by simp [h13]) q)
        clear h13 e0 e1
        go_wp2
        go_quiet (fail)
        go_wp2
        go_quiet (fail)
        go_wp2
        go_roundw
        case rel => exact ⟨k + 1, true, ((HF.out.drewN _).set 2 _).set 3 _, size_set2 hsz, HS.out _⟩
        case measure => rw [(HS.out _).measure, HM.out]; omega
      · have b1 : ((l[k].toNat : Int) == (((⟨#[13, 10]⟩ : ByteArray)[0]'(by decide)).toNat : Int)) = false := by rw [e0, byte_is (by decide)]; exact decide_eq_false h13
        by_cases h10 : l[k] = 10
        · have b2 : ((l[k].toNat : Int) == (((⟨#[13, 10]⟩ : ByteArray)[1]'(by decide)).toNat : Int)) = true := by rw [e1, byte_is (by decide)]; exact decide_eq_true h10
          cases hf with
          | true =>
            obtain ⟨hk1, hfe⟩ := HR.out.first_some (by rw [List.getElem?_eq_getElem hk, h10])
            have hk1i : (1 : Int) ≤ (k : Int) := by omega
            have hlt := firstE_lt hfe
            have hk2 : k - 1 + 2 = k + 1 := by omega
            have hnx : nextL m l = if m < k - 1 then ([], 5, true, l.drop (k + 1)) else (l.take (k - 1), 0, true, l.drop (k + 1)) := by rw [nextL, hfe, ← hk2]
            have HX := Lib.hid hnx
            have HC := Lib.hid (HR.out.cut hk)
            have HB := Lib.hid (show ∀ q1 q2, Byt ((((((wr.drewN q1).setCell ⟨g, 2, none⟩ (.int .i64 ((k : Int) + 1))).drewN q2).setCell ⟨g, 1, none⟩ (.slice (from' (some ⟨gb, o, none⟩) cap (k + 1)) (l.length - (k + 1)) (cap - (k + 1)))).setCell ⟨g, 2, none⟩ (.int .i64 0)).setCell ⟨g, 3, none⟩ (.bool false)) (from' (some ⟨gb, o, none⟩) cap 0) (l.take (k - 1))
              from fun q1 q2 => HR.out.cutB l.length q1 q2 (k - 1))
            have htl : (l.take (k - 1)).length = k - 1 := by rw [List.length_take]; omega
            have c0 : wr.cell? ⟨g, 0, none⟩ = some (.int .i64 (m : Int)) := HR.out.arr.cell rfl
            have hs1 := fun w => sl_to (some ⟨gb, o, none⟩) l.length cap (k - 1) (by omega) w
            rw [show ((k - 1 : Nat) : Int) = (k : Int) + 1 - 2 by omega] at hs1
            have hs2 := fun w => sl_from (some ⟨gb, o, none⟩) l.length cap (k + 1) (by omega) w
            rw [show ((k + 1 : Nat) : Int) = (k : Int) + 1 by omega] at hs2
            clear h13 h10 e0 e1 hfe hnx hk2 hlt
            go_wp2
            go_quiet (fail)
            go_wp2
            go_quiet (fail)
            go_wp2
            go_quiet (fail)
            go_wp2
            go_region
            by_cases hmk : m < k - 1
            · have hmi : (m : Int) < ((k - 1 : Nat) : Int) := by omega
              go_wp2
              rw [Exit.noGoto_ret]
              go_ret3
              exact ⟨by rw [HX.out, if_pos hmk]; rfl, cut_size hsz _ _ _ _ _ _ _, cut_fro HF.out _ _ _ _ _ _, _, _, _, _, by rw [HX.out, if_pos hmk]; exact HC.out _ _, .inr ⟨k + 1, by omega, rfl, rfl⟩⟩
            · have hmi : ¬ (m : Int) < ((k - 1 : Nat) : Int) := by omega
              go_wp2_with (first
                | (with_reducible refine wpList_conv_byt _ rfl _ rfl (HB.out _ _) htl rfl ?_))
              go_ret3
              exact ⟨by rw [HX.out, if_neg hmk]; rfl, cut_size hsz _ _ _ _ _ _ _, cut_fro HF.out _ _ _ _ _ _, _, _, _, _, by rw [HX.out, if_neg hmk]; exact HC.out _ _, .inr ⟨k + 1, by omega, rfl, rfl⟩⟩
          | false =>
            have HS := Lib.hid (fun q => HR.out.step (hf' := false) hk (fun e => by cases e.2) (by simp [h13]) q)
            clear h13 e0 e1
            go_wp2
            go_quiet (fail)
            go_wp2
            go_quiet (fail)
            go_wp2
            go_roundw
            case rel => exact ⟨k + 1, false, ((HF.out.drewN _).set 2 _).set 3 _, size_set2 hsz, HS.out _⟩
            case measure => rw [(HS.out _).measure, HM.out]; omega
        · have b2 : ((l[k].toNat : Int) == (((⟨#[13, 10]⟩ : ByteArray)[1]'(by decide)).toNat : Int)) = false := by rw [e1, byte_is (by decide)]; exact decide_eq_false h10
          have HS := Lib.hid (fun q => HR.out.step (hf' := false) hk (fun e => h10 e.1) (by simp [h13]) q)
          clear h13 h10 e0 e1
          go_wp2
          go_quiet (fail)
          go_wp2
          go_quiet (fail)
          go_wp2
          go_roundw
          case rel => exact ⟨k + 1, false, ((HF.out.drewN _).set 2 _).set 3 _, size_set2 hsz, HS.out _⟩
          case measure => rw [(HS.out _).measure, HM.out]; omega
    · have hke : ((k : Int) == (l.length : Int)) = true := by rw [beq_iff_eq]; omega
      obtain rfl : k = l.length := by omega
      have HN := Lib.hid (nextL_none m HR.out.first_none)
      clear hrd
      go_wp2
      go_quiet (fail)
      go_wp2
      rw [Exit.noGoto_ret]
      go_ret3
      exact ⟨by rw [HN.out]; rfl, ⟨hsz, HF.out.drewN _, a, cap, l.length, hf, by rw [HN.out]; exact HR.out.keep rfl (fun _ _ => rfl), .inl ⟨rfl, rfl⟩⟩⟩
end Go.Proofs.Ytmpchbhimfjomaa
