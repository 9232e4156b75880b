/- cmd, landed: sizes; paths. cmd, landed: a path taken into a command; a line's verb. cmd, landed: a line's verb. -/
import Derived.Test.YtahbbnimoogapaaGreatDoorMN
import Derived.Test.YtahbbnimoogapaaGreatDoorMM
import Derived.Test.YtahbbnimoogapaaGreatDoorMJ
import Derived.Test.YtahbbnimoogapaaGreatDoorMO
import Derived.Lib.AtoiErrMem
import Derived.Lib.AtoiTie
import Derived.Lib.ParseIntBCases
namespace Go.Proofs.YtahbbnimoogapaaGreatDoor
open Go.RowKit

theorem dec_from : ∀ (l : List UInt8) (acc : Nat), Lib.decFrom acc l = if l.all digB = true then some (l.foldl (fun n c => n * 10 + (c.toNat - 48)) acc) else none
  | [], _ => rfl
  | c :: l, acc => by
    rw [Lib.decFrom, Lib.digitVal, List.all_cons, digB_nat]
    by_cases hc : 48 ≤ c.toNat ∧ c.toNat ≤ 57
    · rw [if_pos hc, decide_eq_true hc, Bool.true_and]
      simp only
      rw [dec_from l, List.foldl_cons]
    · rw [if_neg hc, decide_eq_false hc]
      simp
/-- What the library reads as a number of digits. -/
theorem dec_siz {l : List UInt8} (hl : l.length ≤ 12) : Lib.decNat l = sizC l := by
  rw [Lib.decNat, sizC]
  by_cases h0 : l = []
  · subst h0; simp
  · rw [if_neg (by simpa using h0), dec_from]
    by_cases hd : l.all digB = true
    · rw [if_pos hd, if_pos ⟨h0, hl, hd⟩]; rfl
    · rw [if_neg hd, if_neg fun h => hd h.2.2]
theorem punt_siz {l : List UInt8} (hl : l.length ≤ 12) : Lib.parseUintB 64 l = match sizC l with
    | none => .«syntax»
    | some n => .ok n := by
  rw [Lib.parseUintB_64, Lib.parseMag_short l (by omega), dec_siz hl]
  cases sizC l <;> rfl
theorem bw_below {w w1 : World} {t : TypeId} {s : ByteArray} (h : w1 = w ∨ w1 = Lib.bytesWorld w t s) : Below w.heap.size w w1 := by
  rcases h with h | h
  · rw [h]; exact Below.refl _ _
  · rw [h]; exact Lib.bytesWorld_below _ _ _
/-- What readSize answers. -/
def rszV (l : List UInt8) : Value := match sizC l with
  | none => .tuple #[.int .i64 0, .bool false]
  | some n => .tuple #[.int .i64 (n : Int), .bool true]
theorem siz_long {l : List UInt8} (h : 12 < l.length) : sizC l = none := by rw [sizC, if_neg fun e => by omega]

set_option maxHeartbeats 1000000 in
set_option maxRecDepth 100000 in
theorem lreadSize_any (l : List UInt8) (w : World) (ht : Tb w) :
    Calls Tryz.prog 81 #[.string (ba l)] w fun e w' => e = .returned (rszV l) ∧ Below w.heap.size w w' := by
  have hs := ba_size l
  by_cases h12 : 12 < l.length
  · have hli : (12 : Int) < ((ba l).size : Int) := by omega
    have HR := Lib.hid (show rszV l = .tuple #[.int .i64 0, .bool false] by rw [rszV, siz_long h12])
    generalize rszV l = R at *
    generalize ba l = A at *
    clear hs h12
    go_enter Tryz.func81, Tryz.ntmps81
    go_wp2
    go_ret2
    exact ⟨by rw [HR.out]; rfl, Below.refl _ _⟩
  · have hli : ¬ (12 : Int) < ((ba l).size : Int) := by omega
    have hp := punt_siz (l := l) (by omega)
    cases hz : sizC l with
    | none =>
      rw [hz] at hp
      obtain ⟨tp, p, hv⟩ := ht.syn
      have HC := Lib.hid (Tryz.strconv_ParseUint_10_at64_syntax_var (ba l) (by rw [ba_size]; omega) (by rw [ba_list]; exact hp) tp p w hv)
      have HR := Lib.hid (show rszV l = .tuple #[.int .i64 0, .bool false] by rw [rszV, hz])
      generalize rszV l = R at *
      generalize ba l = A at *
      clear hs h12 hp hz ht hv
      go_enter Tryz.func81, Tryz.ntmps81
      go_wp2_with (first
        | (go_at_call 118; (with_reducible refine HC.out.mono ?_); rintro e w1 ⟨N, rfl, _, _, hb1⟩))
      go_quiet (fail)
      go_wp2
      go_ret2
      exact ⟨by rw [HR.out]; rfl, Below_drewN hb1 _⟩
    | some n =>
      rw [hz] at hp
      have hn := sizC_le hz
      have HC := Lib.hid (Tryz.strconv_ParseUint_10_at64_ok (ba l) (by rw [ba_size]; omega) n (by rw [ba_list]; exact hp) w)
      have HR := Lib.hid (show rszV l = .tuple #[.int .i64 (n : Int), .bool true] by rw [rszV, hz])
      have hw : IntKind.i64.wrap (n : Int) = (n : Int) := by rw [IntKind.wrap_i64]; omega
      have hw2 : wrap64 (n : Int) = (n : Int) := by unfold wrap64; omega
      generalize rszV l = R at *
      generalize ba l = A at *
      clear hs h12 hp hz ht
      go_enter Tryz.func81, Tryz.ntmps81
      go_wp2_with (first
        | (go_at_call 118; (with_reducible refine HC.out.mono ?_); rintro e w1 ⟨rfl, hw1⟩; have hb1 := bw_below hw1))
      go_quiet (fail)
      go_wp2
      go_ret2
      exact ⟨by rw [HR.out]; rfl, Below_drewN hb1 _⟩

/-- A line and a command, moved on: but for their own blocks all that was there is as it was. -/
structure Two (g gc : Nat) (r : List UInt8) (cs : Array Value) (w w' : World) : Prop where
  sc : Sc w' g r
  cm : Arr w' gc cs 26
  fro : Fro (fun h => h = g ∨ h = gc) w w'
theorem Fro.trans {own : Nat → Prop} {a b c : World} (h : Fro own a b) (k : Fro own b c) : Fro own a c :=
  ⟨k.os.trans h.os, k.tape.trans h.tape, k.output.trans h.output, Nat.le_trans h.size k.size, fun g hg hn => (k.block g (Nat.lt_of_lt_of_le hg h.size) hn).trans (h.block g hg hn)⟩
theorem Fro.wide {own own' : Nat → Prop} {a b : World} (h : Fro own a b) (ho : ∀ g, own g → own' g) : Fro own' a b := ⟨h.os, h.tape, h.output, h.size, fun g hg hn => h.block g hg fun e => hn (ho g e)⟩
theorem Fro.arr {own : Nat → Prop} {a b : World} (h : Fro own a b) {g : Nat} {cs : Array Value} {t : TypeId} (k : Arr a g cs t) (hn : ¬ own g) : Arr b g cs t := (h.block g k.lt hn).trans k
theorem Fro.setAt {own : Nat → Prop} {a b : World} (h : Fro own a b) (p : Addr) (v : Value) (hp : own p.block ∨ a.heap.size ≤ p.block) : Fro own a (b.setCell p v) :=
  ⟨h.os, h.tape, h.output, by simp [World.setCell]; exact h.size, fun x hx hn => (Below.heap_setCell _ _ _ _ (by
    intro e
    rcases hp with hp | hp
    · rw [← e] at hp; exact hn hp
    · omega)).trans (h.block x hx hn)⟩
theorem Fro.newAt {own : Nat → Prop} {a b : World} (h : Fro own a b) (o : Obj) : Fro own a (b.alloc o) := h.trans (Fro.of_below (below_one b o))
theorem Fro.draws {own : Nat → Prop} {a b : World} (h : Fro own a b) (n : Nat) : Fro own a (b.drewN n) := ⟨h.os, h.tape, h.output, h.size, h.block⟩
theorem Fro.tb {own : Nat → Prop} {a b : World} (h : Fro own a b) (k : Tb a) (hv : ¬ own 0) (hp : ¬ own 3) (hs : ¬ own 1) : Tb b := by
  have hb : ∀ (n : String) (G : Nat) (cs : Array Value), Tryz.prog.globalNamed n = some G → ¬ own G → a.var? Tryz.prog n = some cs → b.var? Tryz.prog n = some cs := by
    intro n G cs hG ho hx
    unfold World.var? at hx ⊢
    rw [hG] at hx ⊢
    simp only [Option.bind_some] at hx ⊢
    have hlt : G < a.heap.size := by
      rcases Nat.lt_or_ge G a.heap.size with h' | h'
      · exact h'
      · rw [Array.getElem?_eq_none h'] at hx; cases hx
    rw [h.block G hlt ho]
    exact hx
  refine ⟨fun i hi => ?_, hb _ _ _ gPow hp k.pow, ?_⟩
  · have h1 := k.verbs i hi
    rw [World.cell?_of_block (w := a) (h.block 0 (World.block_lt_of_cell? a _ h1) hv)]
    exact h1
  · obtain ⟨tp, p, h1⟩ := k.syn
    exact ⟨tp, p, hb _ _ _ gSyn hs h1⟩
end Go.Proofs.YtahbbnimoogapaaGreatDoor
namespace Go.Proofs.YtahbbnimoogapaaGreatDoor
open Go.RowKit

theorem Mov.two {g gc : Nat} {r : List UInt8} {cs : Array Value} {w w' : World} (h : Mov g r w w') (hc : Arr w gc cs 26) (hn : g ≠ gc) : Two g gc r cs w w' :=
  ⟨h.sc, h.fro.arr hc (fun e => hn e.symm), h.fro.wide fun _ e => .inl e⟩
/-- A command in memory: its cells. -/
theorem Two.cells {g gc : Nat} {r : List UInt8} {a b c d e f : Value} {w w' : World} (h : Two g gc r #[a, b, c, d, e, f] w w') :
    (w'.cell? ⟨gc, 0, none⟩ = some a ∧ w'.cell? ⟨gc, 1, none⟩ = some b ∧ w'.cell? ⟨gc, 2, none⟩ = some c ∧ w'.cell? ⟨gc, 3, none⟩ = some d ∧ w'.cell? ⟨gc, 4, none⟩ = some e ∧ w'.cell? ⟨gc, 5, none⟩ = some f) ∧
    (w'.frozen? ⟨gc, 1, none⟩ = false ∧ w'.frozen? ⟨gc, 2, none⟩ = false ∧ w'.frozen? ⟨gc, 3, none⟩ = false ∧ w'.frozen? ⟨gc, 4, none⟩ = false ∧ w'.frozen? ⟨gc, 5, none⟩ = false) :=
  ⟨⟨h.cm.cell rfl, h.cm.cell rfl, h.cm.cell rfl, h.cm.cell rfl, h.cm.cell rfl, h.cm.cell rfl⟩, h.cm.frozen 1, h.cm.frozen 2, h.cm.frozen 3, h.cm.frozen 4, h.cm.frozen 5⟩
theorem Two.next {g gc : Nat} {r : List UInt8} {cs : Array Value} {w w' w2 : World} (h : Two g gc r cs w w') (hb : Below w'.heap.size w' w2) : Two g gc r cs w w2 :=
  ⟨h.sc.next hb, h.cm.next hb, h.fro.trans (Fro.of_below hb)⟩
/-- The world behind a path. -/
def pathW (w : World) (g gc : Nat) (L D R : ByteArray) : World := (((w.setCell ⟨gc, 2, none⟩ (.string L)).setCell ⟨gc, 3, none⟩ (.string D)).setCell ⟨g, 0, none⟩ (.string R)).alloc (.cells #[.string L, .string D] 24)
theorem pathW_two {g gc : Nat} {l r : List UInt8} {V T L0 D0 S E : Value} {w w' : World} {L D : ByteArray} (hn : g ≠ gc) (h : Two g gc l #[V, T, L0, D0, S, E] w w') :
    Two g gc r #[V, T, .string L, .string D, S, E] w (pathW w' g gc L D (ba r)) where
  sc := Arr.alloc (Sc.set (Arr.other (Arr.other h.sc _ _ hn) _ _ hn) r) _
  cm := Arr.alloc (Arr.other (Arr.set (Arr.set h.cm 2 (.string L)) 3 (.string D)) _ _ (fun e => hn e.symm)) _
  fro := (((h.fro.setAt _ _ (.inl (.inr rfl))).setAt _ _ (.inl (.inr rfl))).setAt _ _ (.inl (.inl rfl))).newAt _

set_option maxHeartbeats 2000000 in
set_option maxRecDepth 100000 in
theorem lpathC_any {g gc : Nat} {l : List UInt8} {V T S E : Value} {L0 D0 : ByteArray} (hn : g ≠ gc) (hl : l.length ≤ 65536) (w : World) (h : Sc w g l) (hc : Arr w gc #[V, T, .string L0, .string D0, S, E] 26) :
    Calls Tryz.prog 56 #[.pointer (some ⟨g, 0, none⟩), .pointer (some ⟨gc, 0, none⟩)] w fun e w' => match readL (spL l) with
      | none => e = .returned (.bool false) ∧ Fro (fun h => h = g ∨ h = gc) w w'
      | some p => e = .returned (.bool true) ∧ Two g gc p.2 #[V, T, .string (ba p.1.loc), .string (ba p.1.dom), S, E] w w' := by
  have HS := Lib.hid (fun w (h : Sc w g l) => lspaces_any w h)
  have HR := Lib.hid (fun w => lread_any (ba (spL l)) (by rw [ba_size]; exact Nat.le_trans (spL_len l) hl) w)
  rw [ba_list] at HR
  have H0 := Lib.hid (And.intro h hc)
  have HN := Lib.hid hn
  cases hr : readL (spL l) with
  | none =>
    rw [hr, readV] at HR
    clear h hc hn hr hl
    have hne : g ≠ gc := HN.out
    have HP := Lib.hid (fun w1 w2 (m : Mov g (spL l) w w1) (hb : Below w1.heap.size w1 w2) => (pathW_two (r := []) (L := ⟨#[]⟩) (D := ⟨#[]⟩) HN.out ((m.two H0.out.2 HN.out).next hb)).fro)
    have HP2 := Lib.hid (fun w1 w2 (m : Mov g (spL l) w w1) (hb : Below w1.heap.size w1 w2) => ((m.two H0.out.2 HN.out).next hb))
    unfold pathW at HP
    go_enter Tryz.func56, Tryz.ntmps56
    go_wp2_with (first
      | (go_at_call 53; (with_reducible refine (HS.out _ H0.out.1).mono ?_); rintro e w1 ⟨rfl, hm⟩; have q0 := hm.sc.cells.1)
      | (go_at_call 80; (with_reducible refine (HR.out _).mono ?_); rintro e w2 ⟨rfl, hb⟩; have HX := Lib.hid (HP.out _ _ hm hb); have HY := Lib.hid (HP2.out _ _ hm hb); obtain ⟨⟨k0, k1, k2, k3, k4, k5⟩, f1, f2, f3, f4, f5⟩ := HY.out.cells; obtain ⟨i0, i1, i2⟩ := HY.out.sc.cells; have hlc := HY.out.cm.lt; have hlg := Arr.lt HY.out.sc))
    go_ret
    exact ⟨rfl, HX.out⟩
  | some p =>
    obtain ⟨b, r⟩ := p
    rw [hr, readV, boxV] at HR
    dsimp only at HR ⊢
    clear h hc hn hr hl
    have hne : g ≠ gc := HN.out
    have HP := Lib.hid (fun w1 w2 (m : Mov g (spL l) w w1) (hb : Below w1.heap.size w1 w2) => (pathW_two (r := r) (L := ba b.loc) (D := ba b.dom) HN.out ((m.two H0.out.2 HN.out).next hb)))
    have HP2 := Lib.hid (fun w1 w2 (m : Mov g (spL l) w w1) (hb : Below w1.heap.size w1 w2) => ((m.two H0.out.2 HN.out).next hb))
    unfold pathW at HP
    generalize ba b.loc = L at *
    generalize ba b.dom = D at *
    generalize ba r = R at *
    go_enter Tryz.func56, Tryz.ntmps56
    go_wp2_with (first
      | (go_at_call 53; (with_reducible refine (HS.out _ H0.out.1).mono ?_); rintro e w1 ⟨rfl, hm⟩; have q0 := hm.sc.cells.1)
      | (go_at_call 80; (with_reducible refine (HR.out _).mono ?_); rintro e w2 ⟨rfl, hb⟩; have HX := Lib.hid (HP.out _ _ hm hb); have HY := Lib.hid (HP2.out _ _ hm hb); obtain ⟨⟨k0, k1, k2, k3, k4, k5⟩, f1, f2, f3, f4, f5⟩ := HY.out.cells; obtain ⟨i0, i1, i2⟩ := HY.out.sc.cells; have hlc := HY.out.cm.lt; have hlg := Arr.lt HY.out.sc))
    go_ret
    exact ⟨rfl, HX.out⟩
end Go.Proofs.YtahbbnimoogapaaGreatDoor
namespace Go.Proofs.YtahbbnimoogapaaGreatDoor
open Go.RowKit

/-- No block of the variables that are read. -/
def NoG (g : Nat) : Prop := g ≠ 0 ∧ g ≠ 3 ∧ g ≠ 1
theorem var_lt {w : World} {n : String} {G : Nat} {cs : Array Value} (hG : Tryz.prog.globalNamed n = some G) (hx : w.var? Tryz.prog n = some cs) : G < w.heap.size := by
  unfold World.var? at hx
  rw [hG] at hx
  simp only [Option.bind_some] at hx
  rcases Nat.lt_or_ge G w.heap.size with h' | h'
  · exact h'
  · rw [Array.getElem?_eq_none h'] at hx; cases hx
theorem Tb.no {w : World} (h : Tb w) {g : Nat} (hg : w.heap.size ≤ g) : NoG g := by
  have h1 := World.block_lt_of_cell? w _ (h.verbs 0 (by decide))
  have h2 := var_lt gPow h.pow
  obtain ⟨tp, p, h3⟩ := h.syn
  have h4 := var_lt gSyn h3
  have h1' : 0 < w.heap.size := h1
  exact ⟨by omega, by omega, by omega⟩
theorem Fro.tb1 {g : Nat} {a b : World} (h : Fro (fun h => h = g) a b) (k : Tb a) (hg : NoG g) : Tb b :=
  h.tb k (fun e => hg.1 e.symm) (fun e => hg.2.1 e.symm) (fun e => hg.2.2 e.symm)
theorem Fro.tb2 {g gc : Nat} {a b : World} (h : Fro (fun h => h = g ∨ h = gc) a b) (k : Tb a) (hg : NoG g) (hc : NoG gc) : Tb b :=
  h.tb k (fun e => e.elim (fun e => hg.1 e.symm) (fun e => hc.1 e.symm)) (fun e => e.elim (fun e => hg.2.1 e.symm) (fun e => hc.2.1 e.symm)) (fun e => e.elim (fun e => hg.2.2 e.symm) (fun e => hc.2.2 e.symm))
theorem vb_great : ∀ k : Fin 10, grL (vb k.val) = vb k.val := by decide
theorem vbF_is {k : Nat} (h1 : 1 ≤ k) (h2 : k ≤ 9) : vbF 9 (vb k) = k := by
  have := (vb_facts ⟨k, by omega⟩ (by show k ≠ 0; omega)).1
  rwa [vb_great ⟨k, by omega⟩] at this
theorem vbF_zero (x : List UInt8) : ∀ n, (∀ j, 1 ≤ j → j ≤ n → x ≠ vb j) → vbF n x = 0
  | 0, _ => rfl
  | n + 1, h => by
    rw [vbF, if_neg (h (n + 1) (by omega) (Nat.le_refl _))]
    exact vbF_zero x n fun j h1 h2 => h j h1 (by omega)
theorem vb_len (k : Nat) : (vb k).length ≤ 4 := by
  have h : ∀ x ∈ vbL, x.length ≤ 4 := by decide
  rw [vb, List.getD_eq_getElem?_getD]
  cases hk : vbL[k]? with
  | none => exact Nat.zero_le _
  | some x => exact h x (List.mem_of_getElem? hk)
theorem Mov.trans {g : Nat} {r s : List UInt8} {a b c : World} (h : Mov g r a b) (k : Mov g s b c) : Mov g s a c := ⟨k.sc, h.fro.trans k.fro, k.size.trans h.size⟩

set_option maxHeartbeats 2000000 in
set_option maxRecDepth 100000 in
theorem lverb_any {g : Nat} {l : List UInt8} (hl : l.length ≤ 1048576) (w : World) (ht : Tb w) (hg : NoG g) (h : Sc w g l) :
    Calls Tryz.prog 28 #[.pointer (some ⟨g, 0, none⟩)] w fun e w' => e = .returned (.int .i64 ((vbN l : Nat) : Int)) ∧ Mov g (rst l) w w' := by
  have HW := Lib.hid (lword_any hl w h)
  have HAl := Lib.hid (fun k (hk : k < 10) w => lalike_any (wrd l) (vb k) (Nat.le_trans (wrd_len l) hl) (Nat.le_trans (vb_len k) (by decide)) w)
  have HD := Lib.hid (fun k (hk : k < 10) => show decide (smL (wrd l) = smL (vb k)) = decide (grL (wrd l) = vb k) from decide_eq_decide.2 (sm_great (vb_great ⟨k, hk⟩)))
  have HTb := Lib.hid (fun wr (m : Mov g (rst l) w wr) k (hk : k < 10) => show wr.cell? ⟨0, k, none⟩ = some (.string (ba (vb k))) from (m.fro.tb1 ht hg).verbs k hk)
  have HY := Lib.hid (fun k (h1 : 1 ≤ k) (h2 : k ≤ 9) (e : grL (wrd l) = vb k) => show vbN l = k by rw [vbN, e]; exact vbF_is h1 h2)
  have HZ := Lib.hid (fun (h : ∀ j, 1 ≤ j → j ≤ 9 → grL (wrd l) ≠ vb j) => show vbN l = 0 from vbF_zero _ 9 h)
  clear ht hg h hl
  generalize vbN l = N at *
  go_enter Tryz.func28, Tryz.ntmps28
  go_wp2_with (first
    | (go_at_call 52; (with_reducible refine HW.out.mono ?_); rintro e w1 ⟨rfl, hm⟩; have HM := Lib.hid hm; clear hm))
  go_loopw [4] (fun i wr => ∃ k : Nat, i = .int .i64 (k : Int) ∧ Mov g (rst l) w wr ∧ 1 ≤ k ∧ k ≤ 10 ∧ (∀ j, 1 ≤ j → j < k → grL (wrd l) ≠ vb j)) (fun i _ => 11 - (intOf i).toNat)
  case atStart => exact ⟨1, rfl, HM.out, Nat.le_refl _, by decide, fun j h1 h2 => absurd h2 (by omega)⟩
  case round =>
    obtain ⟨k, rfl, hm, h1, h2, hno⟩ := hrel
    have HNo := Lib.hid hno
    have HM := Lib.hid hm
    have hk0 : (0 : Int) ≤ (k : Int) := by omega
    obtain ⟨c0, c1, f0⟩ := hm.sc.cells
    clear hno hm
    by_cases h9 : k ≤ 9
    · have h9i : (k : Int) ≤ 9 := by omega
      have h10 : (k : Int) < 10 := by omega
      have cv := HTb.out wr HM.out k (by omega)
      have hal := fun w => HAl.out k (by omega) w
      rw [HD.out k (by omega)] at hal
      by_cases he : grL (wrd l) = vb k
      · rw [decide_eq_true he] at hal
        have HA := Lib.hid hal
        have HE := Lib.hid (HY.out k h1 h9 he)
        clear hal he h2
        go_wp2
        go_quiet (first | (go_at_call 27; refine (HA.out _).mono ?_; rintro _ _ ⟨rfl, hd⟩; exact ⟨rfl, drw_of hd⟩))
        go_wp2
        go_ret
        exact ⟨by rw [HE.out]; rfl, HM.out.drewN _⟩
      · rw [decide_eq_false he] at hal
        have HA := Lib.hid hal
        have HN := Lib.hid (show ∀ j, 1 ≤ j → j < k + 1 → grL (wrd l) ≠ vb j from fun j h3 h4 => by
          by_cases e : j = k
          · rw [e]; exact he
          · exact HNo.out j h3 (by omega))
        have HK := Lib.hid (show k < 11 by omega)
        clear hal he h2
        go_wp2
        go_quiet (first | (go_at_call 27; refine (HA.out _).mono ?_; rintro _ _ ⟨rfl, hd⟩; exact ⟨rfl, drw_of hd⟩))
        go_wp2
        go_roundw
        case rel => exact ⟨k + 1, by go_num, HM.out.drewN _, by omega, by omega, HN.out⟩
        case measure => exact measB HK.out
    · have h9i : ¬ (k : Int) ≤ 9 := by omega
      have HE := Lib.hid (HZ.out fun j h3 h4 => HNo.out j h3 (by omega))
      go_wp2
      go_ret
      exact ⟨by rw [HE.out]; rfl, HM.out⟩
end Go.Proofs.YtahbbnimoogapaaGreatDoor
