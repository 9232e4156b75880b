/- The document's own layer 10: Parse. -/
import Derived.Test.YtahbbnimoogapaaGreatDoorMR
import Derived.Deep.CutBlock
import Derived.Deep.DeepCutAuto
namespace Go.Proofs.YtahbbnimoogapaaGreatDoor
open Go.RowKit

theorem info_rcmd : (Tryz.prog.info? 32).map (·.size) = some 6 := by kernel_rfl
theorem ret_rcmd {fn : Func} {p t : Tmp} {R : Ending → World → Prop} {a : Act} {w : World} (h : fn.results = #[.cell p 32, .tmp t]) (g : Nat) (cs : Array Value) (hs : cs.size = 6) (hp : a.tmps.getD p undef = .pointer (some ⟨g, 0, none⟩))
    (hg : Arr w g cs 32) (hd : a.defers = []) (hR : R (.returned (.tuple #[.agg cs, a.tmps.getD t undef])) w) : bodyPost Tryz.prog fn R .ret a w := by
  refine bodyPost_ret ?_ hd hR
  have hp' : a.tmps[p]?.getD undef = .pointer (some ⟨g, 0, none⟩) := by simpa using hp
  simp [results, h, hp', asAddr, run_loadVar_row w g 32 32 cs (0, 0) _ hg Tryz.underlying32 rfl (by rw [hs]; exact info_rcmd)]
theorem rverbs_new (w : World) :
    Calls Tryz.prog 30 #[] w fun e w' => e = .returned (.slice (some ⟨w.heap.size, 0, none⟩) 10 10) ∧ Arr w' w.heap.size (strV vbS).toArray 9 ∧ Below w.heap.size w w' := by
  have HT := Lib.hid (Arr.new w (strV vbS).toArray 9)
  have HB := Lib.hid (below_one w (.cells (strV vbS).toArray 9))
  go_enter Tryz.func30, Tryz.ntmps30
  go_wp2
  go_ret
  exact ⟨rfl, HT.out, HB.out⟩
/-- What Parse answers. -/
def parV (l : List UInt8) : Value := if vbN l = 0 then .tuple #[cmdV cmd0, .int .i64 1] else match parC l with
  | none => .tuple #[cmdV cmd0, .int .i64 2]
  | some c => .tuple #[cmdV c, .int .i64 0]
/-- What Parse's loop keeps. -/
def PaW (w0 : World) (g gv : Nat) (v : Int) (wr : World) : Prop :=
  Arr wr g #[.int .i64 0, .string ⟨#[]⟩, .string ⟨#[]⟩, .string ⟨#[]⟩, .int .i64 0, .bool false] 32 ∧ Arr wr (g + 1) #[.int .i64 v, .string ⟨#[]⟩, .string ⟨#[]⟩, .string ⟨#[]⟩, .int .i64 (-1), .bool false] 32 ∧
    Arr wr gv (strV vbS).toArray 9 ∧ Below g w0 wr ∧ g + 1 < gv
theorem PaW.next {w0 wr w' : World} {g gv : Nat} {v : Int} (h : PaW w0 g gv v wr) (hb : Below wr.heap.size wr w') : PaW w0 g gv v w' :=
  ⟨h.1.next hb, h.2.1.next hb, h.2.2.1.next hb, h.2.2.2.1.trans (hb.mono (Nat.le_of_lt h.1.lt)), h.2.2.2.2⟩
theorem PaW.set {w0 wr : World} {g gv : Nat} {v : Int} (h : PaW w0 g gv v wr) (n : Int) : PaW w0 g gv n (wr.setCell ⟨g + 1, 0, none⟩ (.int .i64 n)) :=
  ⟨h.1.other _ _ (by show g ≠ g + 1; omega), h.2.1.set 0 _, h.2.2.1.other _ _ (by have := h.2.2.2.2; show gv ≠ g + 1; omega), h.2.2.2.1.setCell (p := ⟨g + 1, 0, none⟩) (Nat.le_succ _) _, h.2.2.2.2⟩
theorem PaW.verb {w0 wr : World} {g gv k : Nat} {v : Int} (h : PaW w0 g gv v wr) (hk : k < 10) : wr.cell? (Addr.add ⟨gv, 0, none⟩ k) = some (.string (ba (vb k))) := by
  rw [addr_add, Nat.zero_add]
  refine h.2.2.1.cell ?_
  rw [List.getElem?_toArray, strV_get vbS k hk, vbS_eq, List.getD_eq_getElem?_getD, bas, List.getElem?_map, vb, List.getD_eq_getElem?_getD]
  have : k < vbL.length := hk
  rw [List.getElem?_eq_getElem this]; rfl
theorem paw_start {w w' : World} (hv : Arr w' ((w.alloc (.cells #[.int .i64 0, .string ⟨#[]⟩, .string ⟨#[]⟩, .string ⟨#[]⟩, .int .i64 0, .bool false] 32)).alloc (.cells #[.int .i64 0, .string ⟨#[]⟩, .string ⟨#[]⟩, .string ⟨#[]⟩, .int .i64 (-1), .bool false] 32)).heap.size (strV vbS).toArray 9)
    (hb : Below ((w.alloc (.cells #[.int .i64 0, .string ⟨#[]⟩, .string ⟨#[]⟩, .string ⟨#[]⟩, .int .i64 0, .bool false] 32)).alloc (.cells #[.int .i64 0, .string ⟨#[]⟩, .string ⟨#[]⟩, .string ⟨#[]⟩, .int .i64 (-1), .bool false] 32)).heap.size ((w.alloc (.cells #[.int .i64 0, .string ⟨#[]⟩, .string ⟨#[]⟩, .string ⟨#[]⟩, .int .i64 0, .bool false] 32)).alloc (.cells #[.int .i64 0, .string ⟨#[]⟩, .string ⟨#[]⟩, .string ⟨#[]⟩, .int .i64 (-1), .bool false] 32)) w') :
    PaW w w.heap.size ((w.alloc (.cells #[.int .i64 0, .string ⟨#[]⟩, .string ⟨#[]⟩, .string ⟨#[]⟩, .int .i64 0, .bool false] 32)).alloc (.cells #[.int .i64 0, .string ⟨#[]⟩, .string ⟨#[]⟩, .string ⟨#[]⟩, .int .i64 (-1), .bool false] 32)).heap.size 0 w' := by
  have z1 : (w.alloc (.cells #[.int .i64 0, .string ⟨#[]⟩, .string ⟨#[]⟩, .string ⟨#[]⟩, .int .i64 0, .bool false] 32)).heap.size = w.heap.size + 1 := by show (w.heap.push _).size = _; simp
  refine ⟨((Arr.new w _ _).alloc _).next hb, (Arr.newAt _ _ _ z1.symm).next hb, hv, ((below_new (below_one w _) _).trans (hb.mono ?_)), ?_⟩
  · exact (below_new (below_one w _) _).size
  · show w.heap.size + 1 < ((World.alloc w _).heap.push _).size
    rw [Array.size_push, z1]; omega
theorem six_cells {w : World} {g : Nat} {a b c d e f : Value} {t : TypeId} (h : Arr w g #[a, b, c, d, e, f] t) : w.cell? ⟨g, 0, none⟩ = some a ∧ w.cell? ⟨g, 1, none⟩ = some b ∧ w.cell? ⟨g, 2, none⟩ = some c ∧ w.cell? ⟨g, 3, none⟩ = some d ∧ w.cell? ⟨g, 4, none⟩ = some e ∧ w.cell? ⟨g, 5, none⟩ = some f :=
  ⟨h.cell rfl, h.cell rfl, h.cell rfl, h.cell rfl, h.cell rfl, h.cell rfl⟩
theorem six_free {w : World} {g : Nat} {cs : Array Value} {t : TypeId} (h : Arr w g cs t) : w.frozen? ⟨g, 0, none⟩ = false ∧ w.frozen? ⟨g, 1, none⟩ = false ∧ w.frozen? ⟨g, 2, none⟩ = false ∧ w.frozen? ⟨g, 3, none⟩ = false ∧ w.frozen? ⟨g, 4, none⟩ = false ∧ w.frozen? ⟨g, 5, none⟩ = false :=
  ⟨h.frozen 0, h.frozen 1, h.frozen 2, h.frozen 3, h.frozen 4, h.frozen 5⟩
def put6 (w : World) (g : Nat) (a b c d e f : Value) : World := (((((w.setCell ⟨g, 0, none⟩ a).setCell ⟨g, 1, none⟩ b).setCell ⟨g, 2, none⟩ c).setCell ⟨g, 3, none⟩ d).setCell ⟨g, 4, none⟩ e).setCell ⟨g, 5, none⟩ f
theorem six_put {w : World} {g : Nat} {a' b' c' d' e' f' : Value} {t : TypeId} (h : Arr w g #[a', b', c', d', e', f'] t) (a b c d e f : Value) : Arr (put6 w g a b c d e f) g #[a, b, c, d, e, f] t :=
  ((((((h.set 0 a).set 1 b).set 2 c).set 3 d).set 4 e).set 5 f)
theorem six_below {w0 w : World} {B g : Nat} (h : Below B w0 w) (hg : B ≤ g) (a b c d e f : Value) : Below B w0 (put6 w g a b c d e f) :=
  (((((h.setCell (p := ⟨g, 0, none⟩) hg a).setCell (p := ⟨g, 1, none⟩) hg b).setCell (p := ⟨g, 2, none⟩) hg c).setCell (p := ⟨g, 3, none⟩) hg d).setCell (p := ⟨g, 4, none⟩) hg e).setCell (p := ⟨g, 5, none⟩) hg f
/-- Two commands in memory: what is answered, and what is built. -/
def TwoW (w0 : World) (g : Nat) (c : CmdA) (wr : World) : Prop :=
  Arr wr g #[.int .i64 0, .string ⟨#[]⟩, .string ⟨#[]⟩, .string ⟨#[]⟩, .int .i64 0, .bool false] 32 ∧ Arr wr (g + 1) (cmdZ c) 32 ∧ Below g w0 wr
theorem TwoW.next {w0 wr w' : World} {g : Nat} {c : CmdA} (h : TwoW w0 g c wr) (hb : Below wr.heap.size wr w') : TwoW w0 g c w' :=
  ⟨h.1.next hb, h.2.1.next hb, h.2.2.trans (hb.mono (Nat.le_of_lt h.1.lt))⟩
theorem TwoW.text {w0 wr : World} {g : Nat} {c : CmdA} (h : TwoW w0 g c wr) (t : List UInt8) : TwoW w0 g { c with text := t } (wr.setCell ⟨g + 1, 1, none⟩ (.string (ba t))) :=
  ⟨h.1.other _ _ (by show g ≠ g + 1; omega), h.2.1.set 1 _, h.2.2.setCell (p := ⟨g + 1, 1, none⟩) (Nat.le_succ _) _⟩
theorem TwoW.box {w0 wr : World} {g : Nat} {c : CmdA} (h : TwoW w0 g c wr) (b : BoxA) : TwoW w0 g { c with box := b } ((wr.setCell ⟨g + 1, 2, none⟩ (.string (ba b.loc))).setCell ⟨g + 1, 3, none⟩ (.string (ba b.dom))) :=
  ⟨(h.1.other _ _ (by show g ≠ g + 1; omega)).other _ _ (by show g ≠ g + 1; omega), (h.2.1.set 2 _).set 3 _, (h.2.2.setCell (p := ⟨g + 1, 2, none⟩) (Nat.le_succ _) _).setCell (p := ⟨g + 1, 3, none⟩) (Nat.le_succ _) _⟩
theorem TwoW.cells {w0 wr : World} {g : Nat} {c : CmdA} (h : TwoW w0 g c wr) : wr.cell? ⟨g + 1, 0, none⟩ = some (.int .i64 c.verb) ∧ wr.cell? ⟨g + 1, 1, none⟩ = some (.string (ba c.text)) ∧ wr.cell? ⟨g + 1, 2, none⟩ = some (.string (ba c.box.loc)) ∧ wr.cell? ⟨g + 1, 3, none⟩ = some (.string (ba c.box.dom)) ∧ wr.cell? ⟨g + 1, 4, none⟩ = some (.int .i64 c.size) ∧ wr.cell? ⟨g + 1, 5, none⟩ = some (.bool c.eight) :=
  six_cells (show Arr wr (g + 1) #[_, _, _, _, _, _] _ from h.2.1)
theorem tr_len (l : List UInt8) : (trL l).length ≤ l.length := by
  have h1 : (spL l).length ≤ l.length := (List.dropWhile_sublist _).length_le
  have h2 : ((spL l).reverse.dropWhile (· == 32)).length ≤ (spL l).reverse.length := (List.dropWhile_sublist _).length_le
  rw [List.length_reverse] at h2
  rw [trL, rtL, List.length_reverse]
  omega
theorem wrd_eat {l : List UInt8} {k : Nat} {c : UInt8} (h : l[k]? = some c) (hc : c ≠ 32) : wrd (l.drop k) = c :: wrd (l.drop (k + 1)) ∧ rst (l.drop k) = rst (l.drop (k + 1)) := by
  rw [drop_some h, wrd, rst, List.takeWhile_cons, List.dropWhile_cons]
  have : (!(c == 32)) = true := by simp [hc]
  rw [this]
  exact ⟨rfl, rfl⟩
theorem wrd_end {l : List UInt8} {k : Nat} (h : l[k]? = none ∨ l[k]? = some 32) : wrd (l.drop k) = [] ∧ rst (l.drop k) = l.drop k := by
  rcases h with h | h
  · rw [List.drop_of_length_le (List.getElem?_eq_none_iff.1 h)]; exact ⟨rfl, rfl⟩
  · rw [drop_some h]; exact ⟨rfl, rfl⟩

set_option maxHeartbeats 8000000 in
set_option maxRecDepth 100000 in
theorem rparse10_any (l : List UInt8) (hl : l.length ≤ 524288) (w : World) :
    Calls Tryz.prog 11 #[.string (ba l)] w fun e w' => e = .returned (parV l) ∧ Below w.heap.size w w' := by
  have hls := ba_size l
  have HAt := Lib.hid (fun k (h : k < (ba l).size) => byte_at (s := ba l) h)
  rw [ba_list] at HAt
  have HL := Lib.hid (And.intro hl hls)
  have HS := Lib.hid (show ∀ k, (ba l).extract 0 k = ba (l.take k) from fun k => by rw [ext_ba, ba_list, List.drop_zero, Nat.sub_zero])
  have HD := Lib.hid (show ∀ k, (ba l).extract k (ba l).size = ba (l.drop k) from fun k => by rw [ext_all, ba_list])
  have hsz : (ba l).size ≤ 524288 := by omega
  have HPv := Lib.hid (show parV l = if vbN l = 0 then .tuple #[cmdV cmd0, .int .i64 1] else match parC l with
    | none => .tuple #[cmdV cmd0, .int .i64 2]
    | some c => .tuple #[cmdV c, .int .i64 0] from rfl)
  generalize hRR : parV l = RR at *
  generalize ba l = s at *
  have H0 := Lib.hid (show wrd l = l.take 0 ++ wrd (l.drop 0) ∧ rst l = rst (l.drop 0) from ⟨rfl, rfl⟩)
  clear hls hRR
  go_enter Tryz.func11, Tryz.ntmps11
  go_upto_block 0 with (fail)
  go_cut [4] (fun s4 wx => ∃ k : Nat, s4 = .int .i64 (k : Int) ∧ k ≤ s.size ∧ wrd l = l.take k ∧ rst l = l.drop k ∧ w.alloc (.cells #[.int .i64 0, .string ⟨#[]⟩, .string ⟨#[]⟩, .string ⟨#[]⟩, .int .i64 0, .bool false] 32) = wx)
  case first =>
    go_wp2_with fail
    go_loopw [4] (fun i wr => (∃ k : Nat, i = .int .i64 (k : Int) ∧ k ≤ s.size ∧ wrd l = l.take k ++ wrd (l.drop k) ∧ rst l = rst (l.drop k)) ∧ w.alloc (.cells #[.int .i64 0, .string ⟨#[]⟩, .string ⟨#[]⟩, .string ⟨#[]⟩, .int .i64 0, .bool false] 32) = wr) (fun i _ => s.size - (intOf i).toNat)
    case atStart => exact ⟨⟨0, rfl, Nat.zero_le _, H0.out⟩, rfl⟩
    case round =>
      clear H0
      obtain ⟨⟨k, rfl, hk, hw1, hw2⟩, rfl⟩ := hrel
      have HW1 := Lib.hid hw1
      have HW2 := Lib.hid hw2
      have hk0 : (0 : Int) ≤ (k : Int) := by omega
      clear hw1 hw2
      by_cases hlt : k < s.size
      · have hli : (k : Int) < (s.size : Int) := by omega
        have hat := HAt.out k hlt
        by_cases hc : s[k] = 32
        · have q : ((s[k].toNat : Int) != 32) = false := by rw [hc]; rfl
          have hE := Lib.hid (wrd_end (l := l) (k := k) (.inr (by rw [hat, hc])))
          clear hat hc
          go_wp2
          go_meet
          exact ⟨k, rfl, hk, by rw [HW1.out, hE.out.1, List.append_nil], by rw [HW2.out, hE.out.2], rfl⟩
        · have q : ((s[k].toNat : Int) != 32) = true := by
            rw [bne, show (32 : Int) = ((32 : Nat) : Int) from rfl, byte_is (by decide), decide_eq_false (by exact hc)]; rfl
          have hE := Lib.hid (wrd_eat hat hc)
          have hT := Lib.hid (show l.take (k + 1) = l.take k ++ [s[k]] by rw [List.take_add_one, hat]; rfl)
          clear hat hc
          go_wp2
          go_roundw
          case rel => exact ⟨⟨k + 1, by go_num, by omega, by rw [hT.out, HW1.out, hE.out.1, List.append_assoc]; rfl, by rw [HW2.out, hE.out.2]⟩, trivial⟩
          case measure => simp only [intOf]; omega
      · have hli : ¬ (k : Int) < (s.size : Int) := by omega
        have hE := Lib.hid (wrd_end (l := l) (k := k) (.inl (List.getElem?_eq_none (by have := HL.out; omega))))
        go_wp2
        go_meet
        exact ⟨k, rfl, hk, by rw [HW1.out, hE.out.1, List.append_nil], by rw [HW2.out, hE.out.2], rfl⟩
  case rest =>
    obtain ⟨k, rfl, hk, hw, hr, rfl⟩ := hcut
    have hk0 : (0 : Int) ≤ (k : Int) := by omega
    have hks : (k : Int) ≤ (s.size : Int) := by omega
    have HW := Lib.hid hw
    have HRs := Lib.hid hr
    clear hw hr
    go_wp2_with (first
      | (go_at_call 30; (with_reducible refine (rverbs_new _).mono ?_); rintro e w3 ⟨he, hv, hb3⟩; obtain ⟨gv, hgv, HPa⟩ : ∃ gv, e = .returned (.slice (some ⟨gv, 0, none⟩) 10 10) ∧ Hid (PaW w w.heap.size gv 0 w3) := ⟨_, he, paw_start hv hb3⟩; subst hgv; clear he hv hb3))
    have hG := fun w => rgreat_any (wrd l) (by have := HL.out; rw [HW.out, List.length_take]; omega) w
    rw [HW.out, ← HS.out k, ← HW.out] at hG
    have HG := Lib.hid hG
    clear hG
    go_loopw [7] (fun i wr => ∃ j : Nat, i = .int .i64 ((j : Int) + 1) ∧ j ≤ 9 ∧ PaW w w.heap.size gv (vbF j (grL (wrd l)) : Nat) wr) (fun i _ => 10 - (intOf i).toNat)
    case atStart => exact ⟨0, rfl, by decide, HPa.out⟩
    case round =>
      clear HPa
      obtain ⟨j, rfl, hj, hpa⟩ := hrel
      have HPa := Lib.hid hpa
      have hj0 : (0 : Int) ≤ (j : Int) := by omega
      clear hpa
      by_cases hlt : j < 9
      · have hli : (j : Int) + 1 < 10 := by omega
        have HV := Lib.hid (fun (W : World) (v : Int) (h : PaW w w.heap.size gv v W) => show W.cell? ⟨gv, j + 1, none⟩ = some (.string (ba (vb (j + 1)))) from (by have q := h.verb (k := j + 1) (by omega); rw [addr_add, Nat.zero_add] at q; exact q))
        have hj1 : (0 : Int) ≤ (j : Int) + 1 := by omega
        have HRR := Lib.hid (HPa.out.next (below_drew wr))
        have hks : (k : Int) ≤ (s.size : Int) := by omega
        by_cases hg : grL (wrd l) = vb (j + 1)
        · have q := (gr_cmp (grL (wrd l)) (vb (j + 1))).1
          rw [decide_eq_true hg] at q
          have HF := Lib.hid (show (vbF (j + 1) (grL (wrd l)) : Nat) = j + 1 by rw [vbF, if_pos hg])
          clear hg
          generalize ba (vb (j + 1)) = VB at *
          generalize ba (grL (wrd l)) = GG at *
          go_wp2
          go_region_held3 (fun w' => w'.cell? ⟨gv, j + 1, none⟩ = some (.string VB))
            (first | with_reducible exact HV.out _ _ HPa.out | with_reducible exact HV.out _ _ HRR.out | with_reducible exact HV.out _ _ (HRR.out.next hb5))
            (first
              | (go_at_call 31; (with_reducible refine (HG.out _).mono ?_); rintro e w5 ⟨rfl, hb5⟩))
          have HP5 := Lib.hid (HRR.out.next hb5)
          obtain ⟨k0, _⟩ := six_cells HP5.out.2.1
          obtain ⟨f0, _⟩ := six_free HP5.out.2.1
          go_wp2
          go_roundw
          case rel => exact ⟨j + 1, by go_num, by omega, by rw [HF.out]; exact HP5.out.set ((j + 1 : Nat) : Int)⟩
          case measure => simp only [intOf]; omega
        · have q := (gr_cmp (grL (wrd l)) (vb (j + 1))).1
          rw [decide_eq_false hg] at q
          have HF := Lib.hid (show (vbF (j + 1) (grL (wrd l)) : Nat) = vbF j (grL (wrd l)) by rw [vbF, if_neg hg])
          clear hg
          generalize ba (vb (j + 1)) = VB at *
          generalize ba (grL (wrd l)) = GG at *
          go_wp2
          go_region_held3 (fun w' => w'.cell? ⟨gv, j + 1, none⟩ = some (.string VB))
            (first | with_reducible exact HV.out _ _ HPa.out | with_reducible exact HV.out _ _ HRR.out | with_reducible exact HV.out _ _ (HRR.out.next hb5))
            (first
              | (go_at_call 31; (with_reducible refine (HG.out _).mono ?_); rintro e w5 ⟨rfl, hb5⟩))
          have HP5 := Lib.hid (HRR.out.next hb5)
          go_wp2
          go_roundw
          case rel => exact ⟨j + 1, by go_num, by omega, by rw [HF.out]; exact HP5.out⟩
          case measure => simp only [intOf]; omega
      · have hli : ¬ (j : Int) + 1 < 10 := by omega
        have hj9 : j = 9 := by omega
        rw [hj9] at HPa
        have HB := Lib.hid (show RR = if vbF 9 (grL (wrd l)) = 0 then .tuple #[cmdV cmd0, .int .i64 1] else match bodC (vbF 9 (grL (wrd l))) (trL (rst l)) with
          | none => .tuple #[cmdV cmd0, .int .i64 2]
          | some c => .tuple #[cmdV c, .int .i64 0] from HPv.out)
        have hV9 := vbF_le 9 (grL (wrd l))
        generalize vbF 9 (grL (wrd l)) = V at *
        have HT0 := Lib.hid (show TwoW w w.heap.size ⟨V, [], ⟨[], []⟩, -1, false⟩ wr from ⟨HPa.out.1, HPa.out.2.1, HPa.out.2.2.2.1⟩)
        have hrl : (trL (rst l)).length ≤ 524288 := Nat.le_trans (tr_len _) (by have := HL.out; rw [HRs.out, List.length_drop]; omega)
        have hTr := fun w => rtrimmed_any (rst l) (by have := HL.out; rw [HRs.out, List.length_drop]; omega) w
        generalize trL (rst l) = r at *
        rw [HRs.out, ← HD.out k] at hTr
        have HTr := Lib.hid (fun w => (hTr w).mono (fun _ w' (h : _ ∧ w = w') => And.intro h.1 h.2.symm))
        have hks : (k : Int) ≤ (s.size : Int) := by omega
        have hrs := ba_size r
        clear hTr HPa hj9 hj0 HG HRs HW HAt HS HD HL H0 HPv hj
        obtain ⟨b0, b1, b2, b3, b4, b5⟩ := HT0.out.cells
        obtain ⟨h0, h1, h2, h3, h4, h5⟩ := six_free HT0.out.2.1
        obtain ⟨a0, a1, a2, a3, a4, a5⟩ := six_cells HT0.out.1
        obtain ⟨f0, f1, f2, f3, f4, f5⟩ := six_free HT0.out.1
        by_cases hv0 : V = 0
        · have HF := Lib.hid (show RR = .tuple #[cmdV cmd0, .int .i64 1] by rw [HB.out, if_pos hv0])
          have e0 : ((V : Int) == 0) = true := by rw [hv0]; rfl
          clear HB hv0 hrs
          go_wp2
          refine ret_rcmd rfl w.heap.size #[.int .i64 0, .string ⟨#[]⟩, .string ⟨#[]⟩, .string ⟨#[]⟩, .int .i64 0, .bool false] rfl rfl (six_put HT0.out.1 _ _ _ _ _ _) rfl ?_
          exact ⟨by rw [HF.out]; rfl, six_below HT0.out.2.2 (Nat.le_refl _) _ _ _ _ _ _⟩
        · have e0 : ((V : Int) == 0) = false := beq_false_of_ne (by omega)
          have HB2 := Lib.hid (show RR = match bodC V r with
            | none => .tuple #[cmdV cmd0, .int .i64 2]
            | some c => .tuple #[cmdV c, .int .i64 0] by rw [HB.out, if_neg hv0])
          clear HB
          have HV0 := Lib.hid hv0
          clear hv0
          by_cases g1 : V = 1 ∨ V = 2
          · have hD := fun w => rdomain_any (ba r) (by rw [ba_size]; omega) w
            rw [ba_list] at hD
            have HB3 := Lib.hid (show bodC V r = if domB r = true then some ⟨V, smL r, ⟨[], []⟩, -1, false⟩ else none by rw [bodC, if_pos g1])
            have hee : Hid (((V : Int) == 1) = true ∨ (((V : Int) == 1) = false ∧ ((V : Int) == 2) = true)) := by
              rcases g1 with h | h
              · exact .inl (by rw [h]; rfl)
              · exact .inr ⟨by rw [h]; rfl, by rw [h]; rfl⟩
            by_cases hdm : domB r = true
            · rw [domR, if_pos hdm] at hD
              have HF := Lib.hid (show RR = .tuple #[cmdV ⟨V, smL r, ⟨[], []⟩, -1, false⟩, .int .i64 0] by rw [HB2.out, HB3.out, if_pos hdm])
              have HT9 := Lib.hid (fun (W : World) (h : TwoW w w.heap.size ⟨V, [], ⟨[], []⟩, -1, false⟩ W) => h.text (smL r))
              have HDm := Lib.hid hD
              clear hD hdm HB2 HB3 g1 hrl hrs
              rcases hee.out with e1 | ⟨e1, e2⟩
              all_goals
                clear b1 b2 b3 b4 b5 h0 h1 h2 h3 h4 h5 a0 a1 a2 a3 a4 a5 f0 f1 f2 f3 f4 f5
                go_wp2_with (first
                  | (go_at_call 32; (with_reducible refine (HTr.out _).mono ?_); rintro e w' ⟨rfl, rfl⟩)
                  | (go_at_call 33; (with_reducible refine (HDm.out _).mono ?_); rintro e w6 ⟨rfl, hb6⟩; have HT6 := Lib.hid (HT0.out.next hb6); obtain ⟨a0, a1, a2, a3, a4, a5⟩ := six_cells HT6.out.1; obtain ⟨f0, f1, f2, f3, f4, f5⟩ := six_free HT6.out.1; obtain ⟨b0, b1, b2, b3, b4, b5⟩ := HT6.out.cells; obtain ⟨h0, h1, h2, h3, h4, h5⟩ := six_free HT6.out.2.1))
                refine ret_rcmd rfl w.heap.size #[.int .i64 (V : Int), .string (ba (smL r)), .string ⟨#[]⟩, .string ⟨#[]⟩, .int .i64 (-1), .bool false] rfl rfl (six_put (HT9.out _ HT6.out).1 _ _ _ _ _ _) rfl ?_
                exact ⟨by rw [HF.out]; rfl, six_below (HT9.out _ HT6.out).2.2 (Nat.le_refl _) _ _ _ _ _ _⟩
            · rw [domR, if_neg hdm] at hD
              have HF := Lib.hid (show RR = .tuple #[cmdV cmd0, .int .i64 2] by rw [HB2.out, HB3.out, if_neg hdm])
              have HT9 := Lib.hid (fun (W : World) (h : TwoW w w.heap.size ⟨V, [], ⟨[], []⟩, -1, false⟩ W) => h.text [])
              have HDm := Lib.hid hD
              clear hD hdm HB2 HB3 g1 hrl hrs
              rcases hee.out with e1 | ⟨e1, e2⟩
              all_goals
                clear b1 b2 b3 b4 b5 h0 h1 h2 h3 h4 h5 a0 a1 a2 a3 a4 a5 f0 f1 f2 f3 f4 f5
                go_wp2_with (first
                  | (go_at_call 32; (with_reducible refine (HTr.out _).mono ?_); rintro e w' ⟨rfl, rfl⟩)
                  | (go_at_call 33; (with_reducible refine (HDm.out _).mono ?_); rintro e w6 ⟨rfl, hb6⟩; have HT6 := Lib.hid (HT0.out.next hb6); obtain ⟨a0, a1, a2, a3, a4, a5⟩ := six_cells HT6.out.1; obtain ⟨f0, f1, f2, f3, f4, f5⟩ := six_free HT6.out.1; obtain ⟨b0, b1, b2, b3, b4, b5⟩ := HT6.out.cells; obtain ⟨h0, h1, h2, h3, h4, h5⟩ := six_free HT6.out.2.1))
                refine ret_rcmd rfl w.heap.size #[.int .i64 0, .string ⟨#[]⟩, .string ⟨#[]⟩, .string ⟨#[]⟩, .int .i64 0, .bool false] rfl rfl (six_put (HT9.out _ HT6.out).1 _ _ _ _ _ _) rfl ?_
                exact ⟨by rw [HF.out]; rfl, six_below (HT9.out _ HT6.out).2.2 (Nat.le_refl _) _ _ _ _ _ _⟩
          · have e1 : ((V : Int) == 1) = false := beq_false_of_ne (by omega)
            have e2 : ((V : Int) == 2) = false := beq_false_of_ne (by omega)
            by_cases g3 : V = 3
            · have hM := fun W (h : CmdW W (w.heap.size + 1) (cmdZ ⟨3, [], ⟨[], []⟩, -1, false⟩)) => rmail_any r (w.heap.size + 1) hrl W h
              have HB3 := Lib.hid (show bodC V r = maiC r by rw [bodC, if_neg g1, if_pos g3])
              have e3 : ((V : Int) == 3) = true := by rw [g3]; rfl
              have HC := Lib.hid (show CmdW wr (w.heap.size + 1) (cmdZ ⟨3, [], ⟨[], []⟩, -1, false⟩) by have h := HT0.out.2.1; rw [g3] at h; exact h)
              cases hmc : maiC r with
              | some m =>
                rw [hmc] at hM
                have HF := Lib.hid (show RR = .tuple #[cmdV m, .int .i64 0] by rw [HB2.out, HB3.out, hmc])
                have HMl := Lib.hid (hM wr HC.out)
                clear hM hmc HB2 HB3 g3 hrl hrs g1 HC
                clear b1 b2 b3 b4 b5 h0 h1 h2 h3 h4 h5 a0 a1 a2 a3 a4 a5 f0 f1 f2 f3 f4 f5
                go_wp2_with (first
                  | (go_at_call 32; (with_reducible refine (HTr.out _).mono ?_); rintro e w' ⟨rfl, rfl⟩)
                  | (go_at_call 34; (with_reducible refine HMl.out.mono ?_); rintro e w6 ⟨d, rfl, hd, hm, hb6⟩; have HT6 := Lib.hid (show TwoW w w.heap.size d w6 from ⟨HT0.out.1.below hb6 (Nat.lt_succ_self _), hd, HT0.out.2.2.trans (hb6.mono (Nat.le_succ _))⟩); obtain rfl := hm m rfl; obtain ⟨a0, a1, a2, a3, a4, a5⟩ := six_cells HT6.out.1; obtain ⟨f0, f1, f2, f3, f4, f5⟩ := six_free HT6.out.1; obtain ⟨b0, b1, b2, b3, b4, b5⟩ := HT6.out.cells; clear hd hb6))
                refine ret_rcmd rfl w.heap.size (cmdZ d) rfl rfl (six_put HT6.out.1 _ _ _ _ _ _) rfl ?_
                exact ⟨by rw [HF.out]; rfl, six_below HT6.out.2.2 (Nat.le_refl _) _ _ _ _ _ _⟩
              | none =>
                rw [hmc] at hM
                have HF := Lib.hid (show RR = .tuple #[cmdV cmd0, .int .i64 2] by rw [HB2.out, HB3.out, hmc])
                have HMl := Lib.hid (hM wr HC.out)
                clear hM hmc HB2 HB3 g3 hrl hrs g1 HC
                clear b1 b2 b3 b4 b5 h0 h1 h2 h3 h4 h5 a0 a1 a2 a3 a4 a5 f0 f1 f2 f3 f4 f5
                go_wp2_with (first
                  | (go_at_call 32; (with_reducible refine (HTr.out _).mono ?_); rintro e w' ⟨rfl, rfl⟩)
                  | (go_at_call 34; (with_reducible refine HMl.out.mono ?_); rintro e w6 ⟨d, rfl, hd, hm, hb6⟩; have HT6 := Lib.hid (show TwoW w w.heap.size d w6 from ⟨HT0.out.1.below hb6 (Nat.lt_succ_self _), hd, HT0.out.2.2.trans (hb6.mono (Nat.le_succ _))⟩); clear hm; obtain ⟨a0, a1, a2, a3, a4, a5⟩ := six_cells HT6.out.1; obtain ⟨f0, f1, f2, f3, f4, f5⟩ := six_free HT6.out.1; obtain ⟨b0, b1, b2, b3, b4, b5⟩ := HT6.out.cells; clear hd hb6))
                refine ret_rcmd rfl w.heap.size #[.int .i64 0, .string ⟨#[]⟩, .string ⟨#[]⟩, .string ⟨#[]⟩, .int .i64 0, .bool false] rfl rfl (six_put HT6.out.1 _ _ _ _ _ _) rfl ?_
                exact ⟨by rw [HF.out]; rfl, six_below HT6.out.2.2 (Nat.le_refl _) _ _ _ _ _ _⟩
            · have e3 : ((V : Int) == 3) = false := beq_false_of_ne (by omega)
              by_cases g4 : V = 4
              · have hP := fun w => rpathed_any r toW hrl (by decide) w
                rw [show ba toW = ⟨#[84, 79, 58]⟩ from rfl] at hP
                have HB3 := Lib.hid (show bodC V r = match patL r toW with
                  | none => none
                  | some p => if p.2 = [] ∧ p.1.loc ≠ [] then some ⟨4, [], p.1, -1, false⟩ else none by rw [bodC, if_neg g1, if_neg g3, if_pos g4]; rfl)
                have e4 : ((V : Int) == 4) = true := by rw [g4]; rfl
                have hV4 : Hid ((V : Int) = 4) := by rw [g4]; rfl
                cases hp : patL r toW with
                | none =>
                  rw [hp, patV] at hP
                  have HF := Lib.hid (show RR = .tuple #[cmdV cmd0, .int .i64 2] by rw [HB2.out, HB3.out, hp])
                  clear hp
                  have HPd := Lib.hid hP
                  clear hP HB2 HB3 g3 hrl hrs g1 g4
                  clear b1 b2 b3 b4 b5 h0 h1 h2 h3 h4 h5 a0 a1 a2 a3 a4 a5 f0 f1 f2 f3 f4 f5
                  go_wp2_with (first
                    | (go_at_call 32; (with_reducible refine (HTr.out _).mono ?_); rintro e w' ⟨rfl, rfl⟩)
                    | (go_at_call 35; (with_reducible refine (HPd.out _).mono ?_); rintro e w6 ⟨rfl, hb6⟩; have HT6 := Lib.hid ((HT0.out.next hb6).next (below_one w6 (.cells #[.string ⟨#[]⟩, .string ⟨#[]⟩] 30))); obtain ⟨a0, a1, a2, a3, a4, a5⟩ := six_cells HT6.out.1; obtain ⟨f0, f1, f2, f3, f4, f5⟩ := six_free HT6.out.1; obtain ⟨b0, b1, b2, b3, b4, b5⟩ := HT6.out.cells; obtain ⟨h0, h1, h2, h3, h4, h5⟩ := six_free HT6.out.2.1))
                  refine ret_rcmd rfl w.heap.size #[.int .i64 0, .string ⟨#[]⟩, .string ⟨#[]⟩, .string ⟨#[]⟩, .int .i64 0, .bool false] rfl rfl (six_put (HT6.out.box ⟨[], []⟩).1 _ _ _ _ _ _) rfl ?_
                  exact ⟨by rw [HF.out]; rfl, six_below (HT6.out.box ⟨[], []⟩).2.2 (Nat.le_refl _) _ _ _ _ _ _⟩
                | some p =>
                  obtain ⟨b, more⟩ := p
                  rw [hp, patV, boxV] at hP
                  simp only at hP
                  have HB4 := Lib.hid (show bodC V r = if more = [] ∧ b.loc ≠ [] then some ⟨4, [], b, -1, false⟩ else none by rw [HB3.out, hp])
                  clear hp
                  by_cases hm0 : more = []
                  · rw [hm0, show ba [] = ByteArray.empty from rfl] at hP
                    by_cases hl0 : b.loc = []
                    · rw [hl0, show ba [] = ByteArray.empty from rfl] at hP
                      have HF := Lib.hid (show RR = .tuple #[cmdV cmd0, .int .i64 2] by rw [HB2.out, HB4.out, if_neg (fun h => h.2 hl0)])
                      clear hm0 hl0 HB4
                      have HPd := Lib.hid hP
                      clear hP HB2 HB3 g3 hrl hrs g1 g4
                      clear b1 b2 b3 b4 b5 h0 h1 h2 h3 h4 h5 a0 a1 a2 a3 a4 a5 f0 f1 f2 f3 f4 f5
                      go_wp2_with (first
                        | (go_at_call 32; (with_reducible refine (HTr.out _).mono ?_); rintro e w' ⟨rfl, rfl⟩)
                        | (go_at_call 35; (with_reducible refine (HPd.out _).mono ?_); rintro e w6 ⟨rfl, hb6⟩; have HT6 := Lib.hid ((HT0.out.next hb6).next (below_one w6 (.cells #[.string ByteArray.empty, .string (ba b.dom)] 30))); obtain ⟨a0, a1, a2, a3, a4, a5⟩ := six_cells HT6.out.1; obtain ⟨f0, f1, f2, f3, f4, f5⟩ := six_free HT6.out.1; obtain ⟨b0, b1, b2, b3, b4, b5⟩ := HT6.out.cells; obtain ⟨h0, h1, h2, h3, h4, h5⟩ := six_free HT6.out.2.1))
                      refine ret_rcmd rfl w.heap.size #[.int .i64 0, .string ⟨#[]⟩, .string ⟨#[]⟩, .string ⟨#[]⟩, .int .i64 0, .bool false] rfl rfl (six_put (HT6.out.box ⟨[], b.dom⟩).1 _ _ _ _ _ _) rfl ?_
                      exact ⟨by rw [HF.out]; rfl, six_below (HT6.out.box ⟨[], b.dom⟩).2.2 (Nat.le_refl _) _ _ _ _ _ _⟩
                    · have HF := Lib.hid (show RR = .tuple #[cmdV ⟨V, [], b, -1, false⟩, .int .i64 0] by rw [HB2.out, HB4.out, if_pos ⟨hm0, hl0⟩, g4]; rfl)
                      have hbs := ba_size b.loc
                      have hbp := List.length_pos_iff.2 hl0
                      have l0 : 0 < (ba b.loc).size := by omega
                      have l1 : (0 : Int) < ((ba b.loc).size : Int) := by omega
                      have l2 : ¬ ba b.loc = ByteArray.empty := fun e => hl0 (ba_inj (e.trans (show ByteArray.empty = ba [] from rfl)))
                      clear hm0 hl0 HB4 hbs hbp
                      have HPd := Lib.hid hP
                      clear hP HB2 HB3 g3 hrl hrs g1 g4
                      clear b1 b2 b3 b4 b5 h0 h1 h2 h3 h4 h5 a0 a1 a2 a3 a4 a5 f0 f1 f2 f3 f4 f5
                      go_wp2_with (first
                        | (go_at_call 32; (with_reducible refine (HTr.out _).mono ?_); rintro e w' ⟨rfl, rfl⟩)
                        | (go_at_call 35; (with_reducible refine (HPd.out _).mono ?_); rintro e w6 ⟨rfl, hb6⟩; have HT6 := Lib.hid ((HT0.out.next hb6).next (below_one w6 (.cells #[.string (ba b.loc), .string (ba b.dom)] 30))); obtain ⟨a0, a1, a2, a3, a4, a5⟩ := six_cells HT6.out.1; obtain ⟨f0, f1, f2, f3, f4, f5⟩ := six_free HT6.out.1; obtain ⟨b0, b1, b2, b3, b4, b5⟩ := HT6.out.cells; obtain ⟨h0, h1, h2, h3, h4, h5⟩ := six_free HT6.out.2.1))
                      refine ret_rcmd rfl w.heap.size #[.int .i64 (V : Int), .string ⟨#[]⟩, .string (ba b.loc), .string (ba b.dom), .int .i64 (-1), .bool false] rfl rfl (six_put (HT6.out.box b).1 _ _ _ _ _ _) rfl ?_
                      exact ⟨by rw [HF.out]; rfl, six_below (HT6.out.box b).2.2 (Nat.le_refl _) _ _ _ _ _ _⟩
                  · have HF := Lib.hid (show RR = .tuple #[cmdV cmd0, .int .i64 2] by rw [HB2.out, HB4.out, if_neg (fun h => hm0 h.1)])
                    have l1 : (((ba more).size : Int) == 0) = false := by
                      have h1 := ba_size more
                      have h2 := List.length_pos_iff.2 hm0
                      exact beq_false_of_ne (by omega)
                    have l2 : ¬ ba more = ByteArray.empty := fun e => hm0 (ba_inj (e.trans (show ByteArray.empty = ba [] from rfl)))
                    clear hm0 HB4
                    have HPd := Lib.hid hP
                    clear hP HB2 HB3 g3 hrl hrs g1 g4
                    clear b1 b2 b3 b4 b5 h0 h1 h2 h3 h4 h5 a0 a1 a2 a3 a4 a5 f0 f1 f2 f3 f4 f5
                    go_wp2_with (first
                      | (go_at_call 32; (with_reducible refine (HTr.out _).mono ?_); rintro e w' ⟨rfl, rfl⟩)
                      | (go_at_call 35; (with_reducible refine (HPd.out _).mono ?_); rintro e w6 ⟨rfl, hb6⟩; have HT6 := Lib.hid ((HT0.out.next hb6).next (below_one w6 (.cells #[.string (ba b.loc), .string (ba b.dom)] 30))); obtain ⟨a0, a1, a2, a3, a4, a5⟩ := six_cells HT6.out.1; obtain ⟨f0, f1, f2, f3, f4, f5⟩ := six_free HT6.out.1; obtain ⟨b0, b1, b2, b3, b4, b5⟩ := HT6.out.cells; obtain ⟨h0, h1, h2, h3, h4, h5⟩ := six_free HT6.out.2.1))
                    refine ret_rcmd rfl w.heap.size #[.int .i64 0, .string ⟨#[]⟩, .string ⟨#[]⟩, .string ⟨#[]⟩, .int .i64 0, .bool false] rfl rfl (six_put (HT6.out.box b).1 _ _ _ _ _ _) rfl ?_
                    exact ⟨by rw [HF.out]; rfl, six_below (HT6.out.box b).2.2 (Nat.le_refl _) _ _ _ _ _ _⟩
              · have e4 : ((V : Int) == 4) = false := beq_false_of_ne (by omega)
                have hpr := fun w => (rprinted_any r (by omega) w).mono (fun _ w' (h : _ ∧ w = w') => And.intro h.1 h.2.symm)
                have hr0 : (r = [] ∧ ba r = ByteArray.empty) ∨ (r ≠ [] ∧ (((ba r).size : Int) == 0) = false ∧ (0 : Int) < ((ba r).size : Int) ∧ 0 < (ba r).size ∧ ¬ ba r = ByteArray.empty) := by
                  by_cases h : r = []
                  · exact .inl ⟨h, by rw [h]; rfl⟩
                  · have h2 := List.length_pos_iff.2 h
                    exact .inr ⟨h, beq_false_of_ne (by omega), by omega, by omega, fun e => h (ba_inj (e.trans (show ByteArray.empty = ba [] from rfl)))⟩
                by_cases g7 : V = 7 ∨ V = 9
                · have HB3 := Lib.hid (show bodC V r = if prB r = true ∧ (V = 9 → r ≠ []) then some ⟨V, r, ⟨[], []⟩, -1, false⟩ else none by rw [bodC, if_neg g1, if_neg g3, if_neg g4, if_pos g7])
                  have hee : (((V : Int) == 7) = true ∧ V = 7) ∨ (((V : Int) == 7) = false ∧ ((V : Int) == 9) = true ∧ V = 9) := by
                    rcases g7 with h | h
                    · exact .inl ⟨by rw [h]; rfl, h⟩
                    · exact .inr ⟨by rw [h]; rfl, by rw [h]; rfl, h⟩
                  have HT9 := Lib.hid (HT0.out.text r)
                  cases hpb : prB r with
                  | false =>
                    have HF := Lib.hid (show RR = .tuple #[cmdV cmd0, .int .i64 2] by rw [HB2.out, HB3.out, if_neg (fun h => by rw [hpb] at h; cases h.1)])
                    rw [hpb] at hpr
                    have HPr := Lib.hid hpr
                    clear hpr HB2 HB3 g3 hrl g1 g4 g7 hpb hr0 hrs
                    generalize hR : ba r = R at *
                    clear hR
                    rcases hee with ⟨e7, e8⟩ | ⟨e7, e9, e8⟩
                    all_goals
                      clear e8
                      go_wp2_with (first
                        | (go_at_call 32; (with_reducible refine (HTr.out _).mono ?_); rintro e w' ⟨rfl, rfl⟩)
                        | (go_at_call 36; (with_reducible refine (HPr.out _).mono ?_); rintro e w' ⟨rfl, rfl⟩))
                      refine ret_rcmd rfl w.heap.size #[.int .i64 0, .string ⟨#[]⟩, .string ⟨#[]⟩, .string ⟨#[]⟩, .int .i64 0, .bool false] rfl rfl (six_put HT9.out.1 _ _ _ _ _ _) rfl ?_
                      exact ⟨by rw [HF.out]; rfl, six_below HT9.out.2.2 (Nat.le_refl _) _ _ _ _ _ _⟩
                  | true =>
                    rw [hpb] at hpr
                    rcases hee with ⟨e7, e8⟩ | ⟨e7, e9, e8⟩
                    · have HF := Lib.hid (show RR = .tuple #[.agg #[.int .i64 (V : Int), .string (ba r), .string ⟨#[]⟩, .string ⟨#[]⟩, .int .i64 (-1), .bool false], .int .i64 0] by rw [HB2.out, HB3.out, if_pos ⟨hpb, fun h => by omega⟩]; rfl)
                      have HPr := Lib.hid hpr
                      clear hpr HB2 HB3 g3 hrl g1 g4 g7 hpb e8 hr0 hrs
                      generalize hR : ba r = R at *
                      clear hR
                      go_wp2_with (first
                        | (go_at_call 32; (with_reducible refine (HTr.out _).mono ?_); rintro e w' ⟨rfl, rfl⟩)
                        | (go_at_call 36; (with_reducible refine (HPr.out _).mono ?_); rintro e w' ⟨rfl, rfl⟩))
                      refine ret_rcmd rfl w.heap.size #[.int .i64 (V : Int), .string R, .string ⟨#[]⟩, .string ⟨#[]⟩, .int .i64 (-1), .bool false] rfl rfl (six_put HT9.out.1 _ _ _ _ _ _) rfl ?_
                      exact ⟨by rw [HF.out]; rfl, six_below HT9.out.2.2 (Nat.le_refl _) _ _ _ _ _ _⟩
                    · rcases hr0 with ⟨r0, rE⟩ | ⟨r0, r1, r2, r4, r3⟩
                      · have HF := Lib.hid (show RR = .tuple #[cmdV cmd0, .int .i64 2] by rw [HB2.out, HB3.out, if_neg (fun h => h.2 e8 r0)])
                        have HPr := Lib.hid hpr
                        clear hpr HB2 HB3 g3 hrl g1 g4 g7 hpb e8 r0 hrs
                        generalize hR : ba r = R at *
                        clear hR
                        subst rE
                        go_wp2_with (first
                          | (go_at_call 32; (with_reducible refine (HTr.out _).mono ?_); rintro e w' ⟨rfl, rfl⟩)
                          | (go_at_call 36; (with_reducible refine (HPr.out _).mono ?_); rintro e w' ⟨rfl, rfl⟩))
                        refine ret_rcmd rfl w.heap.size #[.int .i64 0, .string ⟨#[]⟩, .string ⟨#[]⟩, .string ⟨#[]⟩, .int .i64 0, .bool false] rfl rfl (six_put HT9.out.1 _ _ _ _ _ _) rfl ?_
                        exact ⟨by rw [HF.out]; rfl, six_below HT9.out.2.2 (Nat.le_refl _) _ _ _ _ _ _⟩
                      · have HF := Lib.hid (show RR = .tuple #[.agg #[.int .i64 (V : Int), .string (ba r), .string ⟨#[]⟩, .string ⟨#[]⟩, .int .i64 (-1), .bool false], .int .i64 0] by rw [HB2.out, HB3.out, if_pos ⟨hpb, fun _ => r0⟩]; rfl)
                        have HPr := Lib.hid hpr
                        clear hpr HB2 HB3 g3 hrl g1 g4 g7 hpb e8 r0 hrs
                        generalize hR : ba r = R at *
                        clear hR
                        go_wp2_with (first
                          | (go_at_call 32; (with_reducible refine (HTr.out _).mono ?_); rintro e w' ⟨rfl, rfl⟩)
                          | (go_at_call 36; (with_reducible refine (HPr.out _).mono ?_); rintro e w' ⟨rfl, rfl⟩))
                        refine ret_rcmd rfl w.heap.size #[.int .i64 (V : Int), .string R, .string ⟨#[]⟩, .string ⟨#[]⟩, .int .i64 (-1), .bool false] rfl rfl (six_put HT9.out.1 _ _ _ _ _ _) rfl ?_
                        exact ⟨by rw [HF.out]; rfl, six_below HT9.out.2.2 (Nat.le_refl _) _ _ _ _ _ _⟩
                · have e7 : ((V : Int) == 7) = false := beq_false_of_ne (by omega)
                  have e9 : ((V : Int) == 9) = false := beq_false_of_ne (by omega)
                  have HB3 := Lib.hid (show bodC V r = if r = [] then some ⟨V, [], ⟨[], []⟩, -1, false⟩ else none by rw [bodC, if_neg g1, if_neg g3, if_neg g4, if_neg g7])
                  rcases hr0 with ⟨r0, rE⟩ | ⟨r0, r1, r2, r4, r3⟩
                  · have HF := Lib.hid (show RR = .tuple #[cmdV ⟨V, [], ⟨[], []⟩, -1, false⟩, .int .i64 0] by rw [HB2.out, HB3.out, if_pos r0])
                    clear hpr HB2 HB3 g3 hrl g1 g4 g7 r0 hrs
                    generalize hR : ba r = R at *
                    clear hR
                    subst rE
                    go_wp2_with (first
                      | (go_at_call 32; (with_reducible refine (HTr.out _).mono ?_); rintro e w' ⟨rfl, rfl⟩))
                    refine ret_rcmd rfl w.heap.size #[.int .i64 (V : Int), .string ⟨#[]⟩, .string ⟨#[]⟩, .string ⟨#[]⟩, .int .i64 (-1), .bool false] rfl rfl (six_put HT0.out.1 _ _ _ _ _ _) rfl ?_
                    exact ⟨by rw [HF.out]; rfl, six_below HT0.out.2.2 (Nat.le_refl _) _ _ _ _ _ _⟩
                  · have HF := Lib.hid (show RR = .tuple #[cmdV cmd0, .int .i64 2] by rw [HB2.out, HB3.out, if_neg r0])
                    clear hpr HB2 HB3 g3 hrl g1 g4 g7 r0 hrs
                    generalize hR : ba r = R at *
                    clear hR
                    go_wp2_with (first
                      | (go_at_call 32; (with_reducible refine (HTr.out _).mono ?_); rintro e w' ⟨rfl, rfl⟩))
                    refine ret_rcmd rfl w.heap.size #[.int .i64 0, .string ⟨#[]⟩, .string ⟨#[]⟩, .string ⟨#[]⟩, .int .i64 0, .bool false] rfl rfl (six_put HT0.out.1 _ _ _ _ _ _) rfl ?_
                    exact ⟨by rw [HF.out]; rfl, six_below HT0.out.2.2 (Nat.le_refl _) _ _ _ _ _ _⟩
end Go.Proofs.YtahbbnimoogapaaGreatDoor
