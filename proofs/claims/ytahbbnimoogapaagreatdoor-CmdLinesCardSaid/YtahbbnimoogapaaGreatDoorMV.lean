/- cmd, landed: Write whole. cmd, landed: Parse whole. -/
import Derived.Test.YtahbbnimoogapaaGreatDoorCdK
import Derived.Test.YtahbbnimoogapaaGreatDoorMU
import Derived.Test.YtahbbnimoogapaaGreatDoorCdG
namespace Go.Proofs.YtahbbnimoogapaaGreatDoor
open Go.RowKit

set_option maxHeartbeats 8000000 in
set_option maxRecDepth 100000 in
theorem lwriteC_any (c : CmdA) (k0 : c.text.length ≤ 65536) (k1 : c.box.loc.length ≤ 65536) (k2 : c.box.dom.length ≤ 65536) (hS : I64 c.size) (w : World) (ht : Tb w) :
    Calls Tryz.prog 14 #[cmdV c] w fun e w' => e = .returned (wriV c) ∧ Below w.heap.size w w' := by
  have HB := Lib.hid (below_one w (.cells (cmdZ c) 26))
  have HA := Lib.hid (Arr.new w (cmdZ c) 26)
  by_cases hr : c.verb < 1 ∨ 9 < c.verb
  · have HW := Lib.hid (show wriV c = .tuple #[.string ⟨#[]⟩, .int .i64 1] by rw [wriV, if_pos hr])
    rw [cmdV]
    unfold cmdZ at HA HB ⊢
    generalize wriV c = R at *
    clear k0 k1 k2 hS ht
    generalize ba c.text = T at *
    generalize ba c.box.loc = L at *
    generalize ba c.box.dom = D at *
    generalize c.size = S at *
    generalize c.eight = E at *
    generalize c.verb = V at *
    by_cases h1 : V < 1
    · clear hr
      go_enter Tryz.func14, Tryz.ntmps14
      go_wp2
      go_ret2
      exact ⟨by rw [HW.out]; rfl, HB.out⟩
    · have h9 : 9 < V := by omega
      clear hr
      go_enter Tryz.func14, Tryz.ntmps14
      go_wp2
      go_ret2
      exact ⟨by rw [HW.out]; rfl, HB.out⟩
  · obtain ⟨v, hv⟩ : ∃ v : Nat, c.verb = v := ⟨c.verb.toNat, by omega⟩
    have h1 : 1 ≤ v := by omega
    have h9 : v ≤ 9 := by omega
    have hw0 : wriV c = match lineC c with
      | none => .tuple #[.string ⟨#[]⟩, .int .i64 2]
      | some w => .tuple #[.string (ba w), .int .i64 0] := by rw [wriV, if_neg hr]; rfl
    rw [line_say hv h1 h9] at hw0
    have hSay := fun w h => lsayB_any v h1 h9 c k0 k1 k2 hS w h
    obtain ⟨A, hon, hq⟩ := only_any v h1 h9 c
    rw [cmdV]
    unfold cmdZ at HA HB ⊢
    rw [hv] at HA HB ⊢
    have HTb := Lib.hid (fun w1 (hb : Below w.heap.size w w1) => ht.next hb)
    have v1 : ¬ (v : Int) < 1 := by omega
    have v9 : ¬ (9 : Int) < (v : Int) := by omega
    have vp : (0 : Int) ≤ (v : Int) := by omega
    have v10 : (v : Int) < 10 := by omega
    cases ho : sayB v c with
    | none =>
      rw [ho] at hw0 hSay
      have HW := Lib.hid (show wriV c = .tuple #[.string ⟨#[]⟩, .int .i64 2] from hw0)
      have HSay := Lib.hid (show ∀ w, Tb w → Calls Tryz.prog 37 _ w fun e w' => (∃ X, e = .returned (.tuple #[.string X, .bool false])) ∧ Below w.heap.size w w' from hSay)
      clear hw0 hSay hon hq ho k0 k1 k2 hS ht hr hv
      generalize wriV c = R at *
      generalize ba c.text = T at *
      generalize ba c.box.loc = L at *
      generalize ba c.box.dom = D at *
      generalize c.size = S at *
      generalize c.eight = E at *
      go_enter Tryz.func14, Tryz.ntmps14
      go_wp2_with (first
        | (go_at_call 37; (with_reducible refine (HSay.out _ (HTb.out _ HB.out)).mono ?_); rintro e w1 ⟨⟨X, rfl⟩, hb1⟩; have HA1 := Lib.hid (HA.out.next hb1); have HB1 := Lib.hid (Below_next HB.out hb1); obtain ⟨b0, b1, b2, b3, b4, b5⟩ := six_cells HA1.out))
      go_quiet (fail)
      go_wp2
      go_ret2
      exact ⟨by rw [HW.out]; rfl, Below_drewN HB1.out _⟩
    | some t =>
      rw [ho] at hw0 hSay
      have htl := sayB_len ho k0 k1 k2 hS
      have HSay := Lib.hid (show ∀ w, Tb w → Calls Tryz.prog 37 _ w fun e w' => e = .returned (.tuple #[.string (ba t), .bool true]) ∧ Below w.heap.size w w' from hSay)
      have HOn := Lib.hid hon
      have s1 := cat_run (ba (vb v)) (ba t) (by have := vb_len v; rw [ba_size, ba_size]; omega)
      rw [ba_append] at s1
      cases hb : onlyB v c with
      | true =>
        rw [hb] at hq hw0
        have HW := Lib.hid (show wriV c = .tuple #[.string (ba (vb v ++ t)), .int .i64 0] from hw0)
        have HVb := Lib.hid (fun w1 (h : Tb w1) => h.verbs v (by omega))
        clear hw0 hSay hon ho hb k0 k1 k2 hS ht hr hv htl
        generalize wriV c = R at *
        generalize ba (vb v ++ t) = U at *
        generalize ba (vb v) = VB at *
        generalize ba t = P at *
        generalize ba c.text = T at *
        generalize ba c.box.loc = L at *
        generalize ba c.box.dom = D at *
        generalize c.size = S at *
        generalize c.eight = E at *
        go_enter Tryz.func14, Tryz.ntmps14
        go_wp2_with (first
          | (go_at_call 37; (with_reducible refine (HSay.out _ (HTb.out _ HB.out)).mono ?_); rintro e w1 ⟨rfl, hb1⟩; have HA1 := Lib.hid (HA.out.next hb1); have HB1 := Lib.hid (Below_next HB.out hb1); obtain ⟨b0, b1, b2, b3, b4, b5⟩ := six_cells HA1.out))
        have HD1 := Lib.hid (HA1.out.next (below_drew w1))
        have hg := cmd_guard
        first
          | (go_region_with (first
            | (go_at_call 38; (with_reducible refine (HOn.out _).mono ?_); rintro e w5 ⟨rfl, hb5⟩; obtain ⟨p0, p1, p2, p3, p4, p5⟩ := six_cells (HD1.out.next hb5); have HB5 := Lib.hid (Below_next HB1.out.drew hb5); have cv := HVb.out _ (HTb.out _ HB5.out))))
          | fail
        all_goals
          go_wp2
          go_ret2
          exact ⟨by rw [HW.out]; rfl, HB5.out⟩
      | false =>
        rw [hb] at hq hw0
        have HW := Lib.hid (show wriV c = .tuple #[.string ⟨#[]⟩, .int .i64 2] from hw0)
        clear hw0 hSay hon ho hb k0 k1 k2 hS ht hr hv htl s1
        generalize wriV c = R at *
        generalize ba t = P at *
        generalize ba c.text = T at *
        generalize ba c.box.loc = L at *
        generalize ba c.box.dom = D at *
        generalize c.size = S at *
        generalize c.eight = E at *
        go_enter Tryz.func14, Tryz.ntmps14
        go_wp2_with (first
          | (go_at_call 37; (with_reducible refine (HSay.out _ (HTb.out _ HB.out)).mono ?_); rintro e w1 ⟨rfl, hb1⟩; have HA1 := Lib.hid (HA.out.next hb1); have HB1 := Lib.hid (Below_next HB.out hb1); obtain ⟨b0, b1, b2, b3, b4, b5⟩ := six_cells HA1.out))
        have HD1 := Lib.hid (HA1.out.next (below_drew w1))
        have hg := cmd_guard
        first
          | (go_region_with (first
            | (go_at_call 38; (with_reducible refine (HOn.out _).mono ?_); rintro e w5 ⟨rfl, hb5⟩; obtain ⟨p0, p1, p2, p3, p4, p5⟩ := six_cells (HD1.out.next hb5); have HB5 := Lib.hid (Below_next HB1.out.drew hb5))))
          | fail
        all_goals
          go_wp2
          go_ret2
          exact ⟨by rw [HW.out]; rfl, HB5.out⟩
end Go.Proofs.YtahbbnimoogapaaGreatDoor
namespace Go.Proofs.YtahbbnimoogapaaGreatDoor
open Go.RowKit

theorem results_cmd2 {fn : Func} {p t : Tmp} (h : fn.results = #[.cell p 26, .tmp t]) (tmps : Array Value) (w : World) (g : Nat) (cs : Array Value) (hs : cs.size = 6) (hp : tmps.getD p undef = .pointer (some ⟨g, 0, none⟩)) (hg : Arr w g cs 26) :
    (results fn tmps).run Tryz.prog w = .ok (.tuple #[.agg cs, tmps.getD t undef]) w := by
  have hp' : tmps[p]?.getD undef = .pointer (some ⟨g, 0, none⟩) := by simpa using hp
  simp [results, h, hp', asAddr, run_loadVar_row w g 26 26 cs (0, 0) _ hg Tryz.underlying26 rfl (by rw [hs]; exact info_cmd)]
/-- What Parse's call has: the answer's cell, the line, the command. -/
structure Prs (w0 : World) (gc : Nat) (w : World) (r : List UInt8) (cs : Array Value) : Prop where
  ans : Arr w w0.heap.size #[.int .i64 0, .string ⟨#[]⟩, .string ⟨#[]⟩, .string ⟨#[]⟩, .int .i64 0, .bool false] 26
  sc : Sc w (w0.heap.size + 1) r
  cm : Arr w gc cs 26
  bel : Below w0.heap.size w0 w
  lt : w0.heap.size + 1 < gc
def zc : Array Value := #[.int .i64 0, .string ⟨#[]⟩, .string ⟨#[]⟩, .string ⟨#[]⟩, .int .i64 0, .bool false]
/-- The world in which a line is read. -/
def parW (w : World) (l : List UInt8) : World := (w.alloc (.cells #[.int .i64 0, .string ⟨#[]⟩, .string ⟨#[]⟩, .string ⟨#[]⟩, .int .i64 0, .bool false] 26)).alloc (.cells #[.string (ba l), .func (.func 27) #[] #[]] 66)
theorem alloc_size (w : World) (o : Obj) : (w.alloc o).heap.size = w.heap.size + 1 := by show (w.heap.push _).size = _; simp
theorem parW_is (w : World) (l : List UInt8) : Arr (parW w l) w.heap.size #[.int .i64 0, .string ⟨#[]⟩, .string ⟨#[]⟩, .string ⟨#[]⟩, .int .i64 0, .bool false] 26 ∧ Sc (parW w l) (w.heap.size + 1) l ∧ Below w.heap.size w (parW w l) ∧ (parW w l).heap.size = w.heap.size + 1 + 1 :=
  ⟨(Arr.new w _ _).alloc _, Arr.newAt _ _ _ (alloc_size w _).symm, below_new (below_one w _) _, by rw [parW, alloc_size, alloc_size]⟩
/-- A verb read: the world behind it, and the command's block. -/
theorem Prs.verb {w w1 : World} {l r : List UInt8} (v : Int) (h : Mov (w.heap.size + 1) r (parW w l) w1) :
    Prs w w1.heap.size (w1.alloc (.cells #[.int .i64 v, .string ⟨#[]⟩, .string ⟨#[]⟩, .string ⟨#[]⟩, .int .i64 (-1), .bool false] 26)) r #[.int .i64 v, .string ⟨#[]⟩, .string ⟨#[]⟩, .string ⟨#[]⟩, .int .i64 (-1), .bool false] := by
  obtain ⟨a, b, c, d⟩ := parW_is w l
  have hs : w1.heap.size = w.heap.size + 1 + 1 := h.size.trans d
  refine ⟨(h.fro.arr a (by omega)).alloc _, Arr.alloc h.sc _, Arr.new _ _ _, below_new ?_ _, by omega⟩
  exact c.trans (h.fro.below (fun g hg => by omega) c.size)
theorem Prs.ans1 {w w1 : World} {l r : List UInt8} (h : Mov (w.heap.size + 1) r (parW w l) w1) : Arr w1 w.heap.size #[.int .i64 0, .string ⟨#[]⟩, .string ⟨#[]⟩, .string ⟨#[]⟩, .int .i64 0, .bool false] 26 ∧ Below w.heap.size w w1 := by
  obtain ⟨a, b, c, d⟩ := parW_is w l
  exact ⟨h.fro.arr a (by omega), c.trans (h.fro.below (fun g hg => by omega) c.size)⟩
/-- What was said, taken. -/
theorem Prs.said {w w1 w2 : World} {gc : Nat} {r s : List UInt8} {cs ds : Array Value} (h : Prs w gc w1 r cs) (k : Two (w.heap.size + 1) gc s ds w1 w2) : Prs w gc w2 s ds :=
  ⟨k.fro.arr h.ans (fun e => by have := h.lt; rcases e with e | e <;> omega), k.sc, k.cm, h.bel.trans (k.fro.below (fun g hg => by have := h.lt; rcases hg with e | e <;> omega) h.bel.size), h.lt⟩
theorem Prs.next {w w1 w2 : World} {gc : Nat} {r : List UInt8} {cs : Array Value} (h : Prs w gc w1 r cs) (hb : Below w1.heap.size w1 w2) : Prs w gc w2 r cs :=
  ⟨h.ans.next hb, h.sc.next hb, h.cm.next hb, Below_next h.bel hb, h.lt⟩
theorem Prs.no {w w1 w2 : World} {gc : Nat} {r : List UInt8} {cs : Array Value} (h : Prs w gc w1 r cs) (k : Fro (fun h => h = w.heap.size + 1 ∨ h = gc) w1 w2) : Arr w2 w.heap.size #[.int .i64 0, .string ⟨#[]⟩, .string ⟨#[]⟩, .string ⟨#[]⟩, .int .i64 0, .bool false] 26 ∧ Below w.heap.size w w2 :=
  ⟨k.arr h.ans (fun e => by have := h.lt; rcases e with e | e <;> omega), h.bel.trans (k.below (fun g hg => by have := h.lt; rcases hg with e | e <;> omega) h.bel.size)⟩
theorem say_size {v : Nat} {r q : List UInt8} {c : CmdA} (h : sayC v r = some (c, q)) : c.text.length ≤ r.length ∧ c.box.loc.length ≤ 255 ∧ c.box.dom.length ≤ 255 ∧ I64 c.size ∧ c.verb = v := by
  have z : I64 (-1) := ⟨by decide, by decide⟩
  rw [sayC] at h
  by_cases h12 : v = 1 ∨ v = 2
  · rw [if_pos h12] at h
    split at h
    · obtain ⟨e1, _⟩ := Prod.mk.inj (Option.some.inj h)
      rw [← e1]
      exact ⟨by show (smL (wrd r)).length ≤ _; rw [sm_len]; exact wrd_len r, Nat.zero_le _, Nat.zero_le _, z, rfl⟩
    · cases h
  rw [if_neg h12] at h
  by_cases h3 : v = 3
  · rw [if_pos h3] at h
    cases hp : patL r froW with
    | none => rw [hp] at h; cases h
    | some p =>
      obtain ⟨b, t⟩ := p
      rw [hp] at h
      obtain ⟨s1, s2⟩ := pat_size hp
      simp only at h
      split at h
      · obtain ⟨e1, _⟩ := Prod.mk.inj (Option.some.inj h)
        rw [← e1]
        exact ⟨Nat.zero_le _, s1, s2, z, by rw [h3]; rfl⟩
      · cases hm : maF (wdF [] t) ⟨-1, false, false⟩ with
        | none => rw [hm] at h; cases h
        | some m =>
          rw [hm] at h
          obtain ⟨e1, _⟩ := Prod.mk.inj (Option.some.inj h)
          have hs := maF_fit _ _ _ hm ⟨by decide, by decide⟩
          rw [← e1]
          exact ⟨Nat.zero_le _, s1, s2, ⟨Int.le_trans (by decide) hs.1, Int.le_trans hs.2 (by decide)⟩, by rw [h3]; rfl⟩
  rw [if_neg h3] at h
  by_cases h4 : v = 4
  · rw [if_pos h4] at h
    cases hp : patL r toW with
    | none => rw [hp] at h; cases h
    | some p =>
      obtain ⟨b, t⟩ := p
      rw [hp] at h
      obtain ⟨s1, s2⟩ := pat_size hp
      obtain ⟨e1, _⟩ := Prod.mk.inj (Option.some.inj h)
      rw [← e1]
      exact ⟨Nat.zero_le _, s1, s2, z, by rw [h4]; rfl⟩
  rw [if_neg h4] at h
  split at h
  · obtain ⟨e1, _⟩ := Prod.mk.inj (Option.some.inj h)
    rw [← e1]
    exact ⟨Nat.le_refl _, Nat.zero_le _, Nat.zero_le _, z, rfl⟩
  · obtain ⟨e1, _⟩ := Prod.mk.inj (Option.some.inj h)
    rw [← e1]
    exact ⟨Nat.zero_le _, Nat.zero_le _, Nat.zero_le _, z, rfl⟩

set_option maxHeartbeats 8000000 in
set_option maxRecDepth 100000 in
theorem lparseC_any (l : List UInt8) (hl : l.length ≤ 65536) (w : World) (ht : Tb w) :
    Calls Tryz.prog 10 #[.string (ba l)] w fun e w' => e = .returned (parV l) ∧ Below w.heap.size w w' := by
  obtain ⟨pA, pS, pB, pZ⟩ := parW_is w (rtL l)
  have hrl : (rtL l).length ≤ 65536 := by
    obtain ⟨t, hp⟩ := rtL_pre l
    have := congrArg List.length hp
    rw [List.length_append] at this
    omega
  have HTr := Lib.hid (fun w => lib_trimRight l (Nat.le_trans hl (by decide)) w)
  have hVb := lverb_any (Nat.le_trans hrl (by decide)) (parW w (rtL l)) (ht.next pB) (ht.no (g := w.heap.size + 1) (by omega)) pS
  rw [vbN_rt] at hVb
  have HT := Lib.hid ht
  by_cases hv0 : vbN l = 0
  · have HR := Lib.hid (show parV l = .tuple #[cmdV cmd0, .int .i64 1] by rw [parV, if_pos hv0])
    rw [hv0] at hVb
    have HVb := Lib.hid hVb
    unfold parW at HVb
    clear hVb ht hl hrl pA pS pB pZ hv0
    generalize parV l = R at *
    go_enter Tryz.func10, Tryz.ntmps10
    go_wp2_with (first
      | (go_at_call 26; (with_reducible refine (HTr.out _).mono ?_); rintro e w0 ⟨rfl, rfl⟩)
      | (go_at_call 28; (with_reducible refine HVb.out.mono ?_); rintro e w1 ⟨rfl, hm⟩; obtain ⟨hA1, hB1⟩ := Prs.ans1 hm; obtain ⟨a0, a1, a2, a3, a4, a5⟩ := six_cells hA1; obtain ⟨f0, f1, f2, f3, f4, f5⟩ := six_free hA1; have hgl := hA1.lt; clear hm))
    refine bodyPost_ret (results_cmd2 rfl _ _ w.heap.size #[.int .i64 0, .string ⟨#[]⟩, .string ⟨#[]⟩, .string ⟨#[]⟩, .int .i64 0, .bool false] rfl rfl (Arr.alloc (six_put hA1 (.int .i64 0) (.string ⟨#[]⟩) (.string ⟨#[]⟩) (.string ⟨#[]⟩) (.int .i64 0) (.bool false)) _)) rfl ?_
    exact ⟨by rw [HR.out]; rfl, below_new (six_below hB1 (Nat.le_refl _) _ _ _ _ _ _) _⟩
  · have hv := vbF_le 9 (grL (wrd l))
    have HVb := Lib.hid hVb
    obtain ⟨v, hvv⟩ : ∃ v, v = vbN l := ⟨_, rfl⟩
    have h1 : 1 ≤ v := by omega
    have h9 : v ≤ 9 := by rw [hvv]; exact hv
    have hvi : (((v : Nat) : Int) == 0) = false := beq_false_of_ne (by omega)
    have hps := par_say hv0
    rw [vbN_rt, ← hvv] at hps
    rw [← hvv] at HVb
    have hpv : parV l = match parC l with
      | none => .tuple #[cmdV cmd0, .int .i64 2]
      | some c => .tuple #[cmdV c, .int .i64 0] := by rw [parV, if_neg hv0]; rfl
    rw [hps] at hpv
    have hlr : (rst (rtL l)).length ≤ 65536 := by
      have := congrArg List.length (wrd_all (rtL l))
      rw [List.length_append] at this
      omega
    have hlast : (rst (rtL l)).getLast? ≠ some 32 := last_suf (rtL_last l) (wrd_all (rtL l)).symm
    have HP := Lib.hid (fun w1 (h : Mov (w.heap.size + 1) (rst (rtL l)) (parW w (rtL l)) w1) => Prs.verb (v : Int) h)
    have HSd := Lib.hid (fun w2 gc (h : Prs w gc w2 (rst (rtL l)) #[.int .i64 (v : Int), .string ⟨#[]⟩, .string ⟨#[]⟩, .string ⟨#[]⟩, .int .i64 (-1), .bool false]) =>
      lsaid_any v ⟨h1, h9⟩ (show w.heap.size + 1 ≠ gc by have := h.lt; omega) hlr w2 (HT.out.next h.bel) (HT.out.no (by omega)) (HT.out.no (by have := h.lt; omega)) h.sc h.cm hlast)
    have hsl := spL_len (rst (rtL l))
    generalize spL (rst (rtL l)) = q at *
    generalize rst (rtL l) = r0 at *
    unfold parW at HVb HP
    cases hs : sayC v q with
    | none =>
      rw [hs] at hpv HSd
      have HR := Lib.hid (show parV l = .tuple #[cmdV cmd0, .int .i64 2] from hpv)
      unfold SayR at HSd
      dsimp only at HSd
      clear hpv hps hs ht hl hrl hlr hlast hsl pA pS pB pZ hv0 hVb hv h1 h9 hvv
      generalize parV l = R at *
      go_enter Tryz.func10, Tryz.ntmps10
      go_wp2_with (first
        | (go_at_call 26; (with_reducible refine (HTr.out _).mono ?_); rintro e w0 ⟨rfl, rfl⟩)
        | (go_at_call 28; (with_reducible refine HVb.out.mono ?_); rintro e w1 ⟨rfl, hm⟩; have HP1 := Lib.hid (HP.out _ hm); clear hm)
        | (go_at_call 29; (with_reducible refine (HSd.out _ _ HP1.out).mono ?_); rintro e w2 ⟨rfl, hf⟩; obtain ⟨hA1, hB1⟩ := HP1.out.no hf; obtain ⟨a0, a1, a2, a3, a4, a5⟩ := six_cells hA1; obtain ⟨f0, f1, f2, f3, f4, f5⟩ := six_free hA1; have hgl := hA1.lt; clear hf))
      refine bodyPost_ret (results_cmd2 rfl _ _ w.heap.size #[.int .i64 0, .string ⟨#[]⟩, .string ⟨#[]⟩, .string ⟨#[]⟩, .int .i64 0, .bool false] rfl rfl (six_put hA1 (.int .i64 0) (.string ⟨#[]⟩) (.string ⟨#[]⟩) (.string ⟨#[]⟩) (.int .i64 0) (.bool false))) rfl ?_
      exact ⟨by rw [HR.out]; rfl, six_below hB1 (Nat.le_refl _) _ _ _ _ _ _⟩
    | some p =>
      obtain ⟨c, r⟩ := p
      rw [hs] at hpv HSd
      unfold SayR at HSd
      dsimp only at HSd hpv
      obtain ⟨z0, z1, z2, z3, z4⟩ := say_size hs
      have hz := ba_empty r
      by_cases hr : r = []
      · rw [decide_eq_true hr] at hz
        have hWr := fun w h => lwriteC_any c (by omega) (by omega) (by omega) z3 w h
        rw [wriV, if_neg (by omega)] at hWr
        rw [cmdV] at hWr
        unfold cmdZ at HSd hWr
        cases hlc : lineC c with
        | none =>
          rw [hlc] at hWr
          rw [if_neg (fun e => e.2 hlc)] at hpv
          dsimp only at hWr
          have HWr := Lib.hid hWr
          have HR := Lib.hid (show parV l = .tuple #[cmdV cmd0, .int .i64 2] from hpv)
          clear hpv hps hs ht hl hrl hlr hlast hsl pA pS pB pZ hv0 hVb hv h1 h9 hvv z0 z1 z2 z3 z4 hr hWr hlc
          generalize parV l = R at *
          generalize ba c.text = T at *
          generalize ba c.box.loc = L at *
          generalize ba c.box.dom = D at *
          generalize c.size = S at *
          generalize c.eight = E at *
          generalize c.verb = V at *
          go_enter Tryz.func10, Tryz.ntmps10
          go_wp2_with (first
            | (go_at_call 26; (with_reducible refine (HTr.out _).mono ?_); rintro e w0 ⟨rfl, rfl⟩)
            | (go_at_call 28; (with_reducible refine HVb.out.mono ?_); rintro e w1 ⟨rfl, hm⟩; have HP1 := Lib.hid (HP.out _ hm); clear hm)
            | (go_at_call 29; (with_reducible refine (HSd.out _ _ HP1.out).mono ?_); rintro e w2 ⟨rfl, hf⟩; have HP2 := Lib.hid (HP1.out.said hf); have i0 := HP2.out.sc.cells.1; obtain ⟨c0, c1, c2, c3, c4, c5⟩ := six_cells HP2.out.cm; have t2 := HT.out.next HP2.out.bel; clear hf)
            | (go_at_call 14; (with_reducible refine (HWr.out _ t2).mono ?_); rintro e w3 ⟨rfl, hb⟩; have HP3 := Lib.hid (HP2.out.next hb); have hA1 := HP3.out.ans; have hB1 := HP3.out.bel; obtain ⟨a0, a1, a2, a3, a4, a5⟩ := six_cells hA1; obtain ⟨f0, f1, f2, f3, f4, f5⟩ := six_free hA1; have hgl := hA1.lt; clear hb))
          refine bodyPost_ret (results_cmd2 rfl _ _ w.heap.size #[.int .i64 0, .string ⟨#[]⟩, .string ⟨#[]⟩, .string ⟨#[]⟩, .int .i64 0, .bool false] rfl rfl (six_put hA1 (.int .i64 0) (.string ⟨#[]⟩) (.string ⟨#[]⟩) (.string ⟨#[]⟩) (.int .i64 0) (.bool false))) rfl ?_
          exact ⟨by rw [HR.out]; rfl, six_below hB1 (Nat.le_refl _) _ _ _ _ _ _⟩
        | some x =>
          rw [hlc] at hWr
          rw [if_pos ⟨hr, by rw [hlc]; simp⟩] at hpv
          dsimp only at hWr
          have HWr := Lib.hid hWr
          have hpv2 : parV l = .tuple #[cmdV c, .int .i64 0] := hpv
          rw [cmdV] at hpv2
          unfold cmdZ at hpv2
          have HR := Lib.hid hpv2
          clear hpv hpv2 hps hs ht hl hrl hlr hlast hsl pA pS pB pZ hv0 hVb hv h1 h9 hvv z0 z1 z2 z3 z4 hr hWr hlc
          generalize parV l = R at *
          generalize ba c.text = T at *
          generalize ba c.box.loc = L at *
          generalize ba c.box.dom = D at *
          generalize c.size = S at *
          generalize c.eight = E at *
          generalize c.verb = V at *
          go_enter Tryz.func10, Tryz.ntmps10
          go_wp2_with (first
            | (go_at_call 26; (with_reducible refine (HTr.out _).mono ?_); rintro e w0 ⟨rfl, rfl⟩)
            | (go_at_call 28; (with_reducible refine HVb.out.mono ?_); rintro e w1 ⟨rfl, hm⟩; have HP1 := Lib.hid (HP.out _ hm); clear hm)
            | (go_at_call 29; (with_reducible refine (HSd.out _ _ HP1.out).mono ?_); rintro e w2 ⟨rfl, hf⟩; have HP2 := Lib.hid (HP1.out.said hf); have i0 := HP2.out.sc.cells.1; obtain ⟨c0, c1, c2, c3, c4, c5⟩ := six_cells HP2.out.cm; have t2 := HT.out.next HP2.out.bel; clear hf)
            | (go_at_call 14; (with_reducible refine (HWr.out _ t2).mono ?_); rintro e w3 ⟨rfl, hb⟩; have HP3 := Lib.hid (HP2.out.next hb); have hA1 := HP3.out.ans; have hB1 := HP3.out.bel; obtain ⟨a0, a1, a2, a3, a4, a5⟩ := six_cells hA1; obtain ⟨f0, f1, f2, f3, f4, f5⟩ := six_free hA1; obtain ⟨d0, d1, d2, d3, d4, d5⟩ := six_cells HP3.out.cm; have hgl := hA1.lt; clear hb))
          refine bodyPost_ret (results_cmd2 rfl _ _ w.heap.size #[.int .i64 V, .string T, .string L, .string D, .int .i64 S, .bool E] rfl rfl (six_put hA1 (.int .i64 V) (.string T) (.string L) (.string D) (.int .i64 S) (.bool E))) rfl ?_
          exact ⟨by rw [HR.out]; rfl, six_below hB1 (Nat.le_refl _) _ _ _ _ _ _⟩
      · rw [decide_eq_false hr] at hz
        rw [if_neg (fun e => hr e.1)] at hpv
        have HR := Lib.hid (show parV l = .tuple #[cmdV cmd0, .int .i64 2] from hpv)
        unfold cmdZ at HSd
        clear hpv hps hs ht hl hrl hlr hlast hsl pA pS pB pZ hv0 hVb hv h1 h9 hvv z0 z1 z2 z3 z4 hr
        generalize parV l = R at *
        generalize ba c.text = T at *
        generalize ba c.box.loc = L at *
        generalize ba c.box.dom = D at *
        generalize c.size = S at *
        generalize c.eight = E at *
        generalize c.verb = V at *
        go_enter Tryz.func10, Tryz.ntmps10
        go_wp2_with (first
          | (go_at_call 26; (with_reducible refine (HTr.out _).mono ?_); rintro e w0 ⟨rfl, rfl⟩)
          | (go_at_call 28; (with_reducible refine HVb.out.mono ?_); rintro e w1 ⟨rfl, hm⟩; have HP1 := Lib.hid (HP.out _ hm); clear hm)
          | (go_at_call 29; (with_reducible refine (HSd.out _ _ HP1.out).mono ?_); rintro e w2 ⟨rfl, hf⟩; have HP2 := Lib.hid (HP1.out.said hf); have i0 := HP2.out.sc.cells.1; have hA1 := HP2.out.ans; have hB1 := HP2.out.bel; obtain ⟨a0, a1, a2, a3, a4, a5⟩ := six_cells hA1; obtain ⟨f0, f1, f2, f3, f4, f5⟩ := six_free hA1; have hgl := hA1.lt; clear hf))
        refine bodyPost_ret (results_cmd2 rfl _ _ w.heap.size #[.int .i64 0, .string ⟨#[]⟩, .string ⟨#[]⟩, .string ⟨#[]⟩, .int .i64 0, .bool false] rfl rfl (six_put hA1 (.int .i64 0) (.string ⟨#[]⟩) (.string ⟨#[]⟩) (.string ⟨#[]⟩) (.int .i64 0) (.bool false))) rfl ?_
        exact ⟨by rw [HR.out]; rfl, six_below hB1 (Nat.le_refl _) _ _ _ _ _ _⟩
end Go.Proofs.YtahbbnimoogapaaGreatDoor
