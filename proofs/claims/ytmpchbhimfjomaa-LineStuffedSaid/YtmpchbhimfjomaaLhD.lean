/- line, the landed code: Split, Unstuff, Unstuffed. -/
import Derived.Test.YtmpchbhimfjomaaLhC
import Derived.Test.YtmpchbhimfjomaaR8E
import Derived.Test.YtmpchbhimfjomaaBld
namespace Go.Proofs.Ytmpchbhimfjomaa
open Go.RowKit

/-- A reader that holds bytes, all its blocks below B. -/
def RdH (B : Nat) (w : World) (g m : Nat) (l : List UInt8) : Prop := g < B ∧ ∃ a cap k hf, RdA w g m a cap k hf l ∧ ∀ x, a = some x → x.block < B
theorem RdH.start {w : World} {g m : Nat} {a : Option Addr} {cap k : Nat} {hf : Bool} {l : List UInt8} (h : RdA w g m a cap k hf l) : RdH w.heap.size w g m l := ⟨h.arr.lt, a, cap, k, hf, h, h.byt.lt⟩
theorem RdH.next {B : Nat} {w w' : World} {g m : Nat} {l : List UInt8} (h : RdH B w g m l) (hb : Below B w w') : RdH B w' g m l := by
  obtain ⟨hg, a, cap, k, hf, hA, ho⟩ := h
  exact ⟨hg, a, cap, k, hf, hA.keep (hb.block g hg) fun x hx => hb.block _ (ho x hx), ho⟩
theorem RdH.line {B : Nat} {w : World} {g m : Nat} {l : List UInt8} (h : RdH B w g m l) (hl : l.length ≤ 1048576) :
    Calls Try.prog 24 #[.pointer (some ⟨g, 0, none⟩)] w fun e w' => e = .returned (.tuple #[.string (ba (nextL m l).1), .int .i64 (nextL m l).2.1, .bool (nextL m l).2.2.1]) ∧ RdH B w' g m (nextL m l).2.2.2 ∧ Fro (fun h => h = g) w w' ∧ w'.heap.size = w.heap.size := by
  obtain ⟨hg, a, cap, k, hf, hA, ho⟩ := h
  refine (lnextA_any hl w hA).mono fun e w' ⟨he, hn⟩ => ⟨he, ⟨hg, ?_⟩, hn.fro, hn.size⟩
  obtain ⟨a', cap', k', hf', hA', hor⟩ := hn.rd
  refine ⟨a', cap', k', hf', hA', fun x hx => ?_⟩
  rcases hor with ⟨rfl, _⟩ | ⟨i, _, rfl, _⟩
  · exact ho x hx
  · obtain ⟨y, hy, e⟩ := from_block hx
    rw [← e]; exact ho y hy
/-- How many bytes a reader holds, as a loop's measure. -/
def leftOf (g : Nat) (w : World) : Nat := match w.cell? ⟨g, 1, none⟩ with
  | some (.slice _ n _) => n
  | _ => 0
theorem RdH.left {B : Nat} {w : World} {g m : Nat} {l : List UInt8} (h : RdH B w g m l) : leftOf g w = l.length := by
  obtain ⟨hg, a, cap, k, hf, hA, ho⟩ := h
  have c1 : w.cell? ⟨g, 1, none⟩ = some (.slice a l.length cap) := hA.arr.cell rfl
  rw [leftOf, c1]
/-- What its bytes are, as the walk asks for it. -/
theorem RdH.came {B : Nat} {w : World} {g m : Nat} {l : List UInt8} (h : RdH B w g m l) : ∃ v, w.cell? ⟨g, 1, none⟩ = some v ∧ ∀ q, (convert 34 9 v).run Try.prog (w.drewN q) = .ok (.string (ba l)) (w.drewN q) := by
  obtain ⟨hg, a, cap, k, hf, hA, ho⟩ := h
  exact ⟨.slice a l.length cap, hA.arr.cell rfl, fun q => Byt.conv (hA.byt.keep (w' := w.drewN q) fun _ _ => rfl) cap⟩
/-- A row of one's own stays, whatever is written below it. -/
theorem OwS.fro {w w' : World} {B g : Nat} {v : Value} {L : List ByteArray} (h : OwS w B v L) (hg : g < B) (hf : Fro (fun h => h = g) w w') : OwS w' B v L := by
  refine World.ownsRow.kept (row := Option.some g) h ⟨hf.os, hf.tape, hf.output, hf.size, fun i hi hne => hf.block i hi fun e => hne (by rw [e])⟩ ?_
  rcases h.2 with ⟨rfl, _⟩ | ⟨g', cap, cur, rfl, hb, _⟩
  · exact .inl rfl
  · refine .inr fun e => ?_
    have : g' = g := by simpa [Value.ownBlock] using e
    omega
theorem OwS.read {w : World} {B : Nat} {a : Option Addr} {n cap : Nat} {L : List (List UInt8)} (h : OwS w B (.slice a n cap) (bas L)) (hL : ∀ x ∈ L, x.length ≤ 1048576) : IsTexts w a n cap (bas L) := by
  obtain ⟨a', n', cap', he, ht⟩ := h.some (mem_bas (by decide) hL)
  cases he
  exact ht
theorem below_drewN {B : Nat} {w w' : World} (h : Below B w w') (q : Nat) : Below B w (w'.drewN q) := ⟨h.os, h.tape, h.output, h.size, h.block⟩
theorem below_fro {w0 w w' : World} {g : Nat} (h : Below w0.heap.size w0 w) (hg : w0.heap.size ≤ g) (hf : Fro (fun h => h = g) w w') : Below w0.heap.size w0 w' :=
  h.trans (hf.below (fun x e => by rw [e]; exact hg) h.size)
theorem next_short {m : Nat} {l : List UInt8} (hl : l.length ≤ m) {i : Nat} (h : firstE l = some i) : nextL m l = (l.take i, 0, true, l.drop (i + 2)) := by
  have := firstE_lt h
  rw [nextL, h]; exact if_neg (by omega)

set_option maxHeartbeats 1000000 in
set_option maxRecDepth 100000 in
theorem lsplit_any (s : ByteArray) (hs : s.size ≤ 1048576) (w : World) :
    Calls Try.prog 11 #[.string s] w fun e w' => ∃ (a : Option Addr) (len cap : Nat), e = .returned (.tuple #[.slice a len cap, .string (ba (linesL s.data.toList).2)]) ∧ IsTexts w' a len cap (bas (linesL s.data.toList).1) ∧ Below w.heap.size w w' := by
  have hll : s.data.toList.length = s.size := by simp
  have HH := Lib.hid (lholding_any s w)
  obtain ⟨l, hl⟩ : ∃ l, l = s.data.toList := ⟨_, rfl⟩
  rw [← hl] at hll HH ⊢
  clear hl
  go_enter Try.func11, Try.ntmps11
  go_wp2_with (first
    | (go_at_call 27; (with_reducible refine HH.out.mono ?_); rintro e w0 ⟨g, a0, cap0, rfl, hg0, hrd0, hb0⟩; have HR0 := Lib.hid (RdH.start hrd0); have HB0 := Lib.hid hb0; have hB0 := hb0.size; clear hrd0))
  go_loopw [5] (fun o wr => ∃ (r : List UInt8) (L : List (List UInt8)), r.length ≤ s.size ∧ L.length + r.length ≤ 1048576 ∧ (∀ x ∈ L, x.length ≤ 1048576) ∧ OwS wr w0.heap.size o (bas L) ∧ RdH w0.heap.size wr g s.size r ∧ Below w.heap.size w wr ∧ w0.heap.size ≤ wr.heap.size ∧
    linesL l = (L ++ (linesL r).1, (linesL r).2)) (fun _ wr => leftOf g wr)
  case atStart => exact ⟨l, [], by omega, by show 0 + _ ≤ _; omega, fun _ h => (by cases h), OwS.nil _ _, HR0.out, HB0.out, Nat.le_refl _, rfl⟩
  case round =>
    clear HH HR0
    obtain ⟨r, L, hr, hLr, hLs, hown, hrd, hbel, hsz, hln⟩ := hrel
    have HNx := Lib.hid (hrd.line (by omega))
    have HM := Lib.hid hrd.left
    have hgB := hrd.1
    have HLn := Lib.hid hln
    have HOw := Lib.hid hown
    have HLs := Lib.hid hLs
    clear hrd
    cases hf : firstE r with
    | none =>
      rw [nextL_none _ hf] at HNx
      have HF := Lib.hid (show linesL l = (L, r) by rw [HLn.out, linesL_none hf]; simp)
      clear hln hf hLs hown
      obtain ⟨a, n, cap, rfl, htx⟩ := HOw.out.some (mem_bas (by decide) HLs.out)
      clear htx
      go_wp2_with (first
        | (go_at_call 24; (with_reducible refine HNx.out.mono ?_); rintro e w1 ⟨rfl, hrd1, hfr1, hz1⟩; obtain ⟨v1, c1, cv1⟩ := hrd1.came; have HOw1 := Lib.hid (HOw.out.fro hgB hfr1); have hbel1 := below_fro hbel hg0 hfr1))
      go_quiet (fail)
      go_wp2
      go_ret2
      exact ⟨_, _, _, by rw [HF.out]; rfl, by rw [HF.out]; exact (HOw1.out.drewN _).read HLs.out, below_drewN hbel1 _⟩
    | some i =>
      have hlt := firstE_lt hf
      rw [next_short hr hf] at HNx
      have HR := Lib.hid (show linesL l = ((L ++ [r.take i]) ++ (linesL (r.drop (i + 2))).1, (linesL (r.drop (i + 2))).2) by rw [HLn.out, linesL_some hf]; simp)
      have hdl : (r.drop (i + 2)).length = r.length - (i + 2) := List.length_drop
      have htl : (r.take i).length ≤ 1048576 := by rw [List.length_take]; omega
      have HMb := Lib.hid (show ∀ x ∈ L ++ [r.take i], x.length ≤ 1048576 from fun x hx => by
        rcases List.mem_append.1 hx with hx | hx
        · exact HLs.out x hx
        · rw [List.mem_singleton.1 hx]; exact htl)
      have HB := Lib.hid (bas_snoc L (r.take i))
      have HD := Lib.hid hdl
      clear hln hf hLs hown hdl htl
      generalize r.take i = X at *
      generalize r.drop (i + 2) = D at *
      go_wp2_with (first
        | (go_at_call 24; (with_reducible refine HNx.out.mono ?_); rintro e w1 ⟨rfl, hrd1, hfr1, hz1⟩; have HOw1 := Lib.hid (HOw.out.fro hgB hfr1); have hbel1 := below_fro hbel hg0 hfr1; have hsz1 : w0.heap.size ≤ w1.heap.size := (by omega); clear hz1)
        | (at_builtin; refine wpList_pushs w1 HOw1.out rfl _ _ rfl rfl rfl (ba X) (by rw [bas_len]; omega) hsz1 ?_; intro v' w5 h5 hb5; rw [← HB.out] at h5))
      go_roundw
      case rel => exact ⟨D, L ++ [X], by have := HD.out; omega, by rw [List.length_append]; have := HD.out; show L.length + 1 + D.length ≤ _; omega, HMb.out, h5, hrd1.next hb5, hbel1.trans ⟨hb5.os, hb5.tape, hb5.output, hb5.size, fun k hk => hb5.block k (Nat.lt_of_lt_of_le hk hB0)⟩, Nat.le_trans hsz1 hb5.size, HR.out⟩
      case measure => rw [(hrd1.next hb5).left, HM.out]; have := HD.out; omega
theorem trim_dot (s : ByteArray) (h : ¬ s.data.toList = [46]) : Lib.trimPrefix s.data.toList [46] = (undotL s.data.toList).1 ∧ (undotL s.data.toList).2 = false := by
  unfold undotL
  rw [if_neg h]
  cases hl : s.data.toList with
  | nil => exact ⟨rfl, rfl⟩
  | cons b l =>
    by_cases hb : b = 46
    · subst hb
      exact ⟨by simp [Lib.trimPrefix, Lib.hasPrefix, List.isPrefixOf], rfl⟩
    · have : ¬ (b :: l)[0]? = some 46 := fun e => hb (by simpa using e)
      rw [if_neg this]
      exact ⟨by simp [Lib.trimPrefix, Lib.hasPrefix, List.isPrefixOf, Ne.symm hb], rfl⟩

set_option maxRecDepth 100000 in
theorem lunstuff_any (s : ByteArray) (w : World) :
    Calls Try.prog 15 #[.string s] w fun e w' => e = .returned (.tuple #[.string (ba (undotL s.data.toList).1), .bool (undotL s.data.toList).2]) ∧ w = w' := by
  by_cases hd : s = ⟨#[46]⟩
  · have q : (s.toList == [46]) = true := by rw [dot_eq]; exact decide_eq_true hd
    have e1 : undotL s.data.toList = ([], true) := by rw [undotL, if_pos (dot_is.1 hd)]
    rw [e1]
    clear hd e1
    go_enter Try.func15, Try.ntmps15
    go_wp2
    go_ret2
    exact ⟨rfl, rfl⟩
  · have q : (s.toList == [46]) = false := by rw [dot_eq]; exact decide_eq_false hd
    obtain ⟨t1, t2⟩ := trim_dot s (fun h => hd (dot_is.2 h))
    have HT := Lib.hid (fun w => Try.strings_TrimPrefix s ⟨#[46]⟩ w)
    rw [show (⟨#[46]⟩ : ByteArray).data.toList = [46] from rfl, t1] at HT
    rw [t2]
    show Calls _ _ _ _ fun e w' => e = .returned (.tuple #[.string ⟨(undotL s.data.toList).1.toArray⟩, .bool false]) ∧ _
    generalize (undotL s.data.toList).1 = X at *
    clear hd t1 t2
    go_enter Try.func15, Try.ntmps15
    go_wp2_with (first
      | (go_at_call 29; (with_reducible refine (HT.out _).mono ?_); rintro e w1 ⟨rfl, rfl⟩))
    go_ret2
    exact ⟨rfl, rfl⟩

end Go.Proofs.Ytmpchbhimfjomaa
