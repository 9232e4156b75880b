/- cmd, landed: Write. -/
import Derived.Test.YtahbbnimoogapaaGreatDoorCdJ
namespace Go.Proofs.YtahbbnimoogapaaGreatDoor
open Go.RowKit

/-- Is there nothing in a command but what its verb says? -/
def onlyB (v : Nat) (c : CmdA) : Bool :=
  if v = 1 ∨ v = 2 ∨ v = 7 ∨ v = 9 then decide (c.box.loc = [] ∧ c.box.dom = []) && !c.eight
  else if v = 3 then decide (c.text = [])
  else if v = 4 then decide (c.text = []) && !c.eight
  else decide (c.text = [] ∧ c.box.loc = [] ∧ c.box.dom = []) && !c.eight
theorem lit_same (a : List UInt8) : ((ba a).toList == (⟨#[]⟩ : ByteArray).toList) = decide (a = []) := by
  have := ba_same a []
  exact this
theorem non_only (c : CmdA) : nonB c = (decide (c.box.loc = [] ∧ c.box.dom = []) && !c.eight) := by
  rw [nonB]
  congr 1
  refine decide_eq_decide.2 ?_
  rw [← List.length_eq_zero_iff, ← List.length_eq_zero_iff]
  omega
theorem bool_not_false (e : Bool) : (e == false) = !e := by cases e <;> rfl
/-- A line by what stands behind its verb. -/
theorem line_say {c : CmdA} {v : Nat} (hv : c.verb = v) (h1 : 1 ≤ v) (h9 : v ≤ 9) : lineC c = match sayB v c with
    | none => none
    | some t => if onlyB v c = true then some (vb v ++ t) else none := by
  by_cases h12 : v = 1 ∨ v = 2
  · have hl : lineC c = if domB c.text = true ∧ smL c.text = c.text ∧ nonB c = true then some (vb v ++ 32 :: c.text) else none := by
      rw [lineC, hv, if_pos (show (v : Int) = 1 ∨ (v : Int) = 2 by omega), Int.toNat_natCast]
    have hs : sayB v c = if domB c.text = true ∧ smL c.text = c.text then some (32 :: c.text) else none := by rw [sayB, if_pos h12]
    have ho : onlyB v c = nonB c := by rw [onlyB, if_pos (show v = 1 ∨ v = 2 ∨ v = 7 ∨ v = 9 by omega), non_only]
    rw [hl, hs, ho]
    by_cases hd : domB c.text = true ∧ smL c.text = c.text
    · rw [if_pos hd]
      by_cases hn : nonB c = true
      · rw [if_pos ⟨hd.1, hd.2, hn⟩]
        exact (if_pos hn).symm
      · rw [if_neg (fun e => hn e.2.2)]
        exact (if_neg hn).symm
    · rw [if_neg hd, if_neg (fun e => hd ⟨e.1, e.2.1⟩)]
  by_cases h3 : v = 3
  · subst h3
    have ho : onlyB 3 c = decide (c.text = []) := by rw [onlyB, if_neg (by decide), if_pos rfl]
    rw [ho]
    cases hp : pathL c.box with
    | none =>
      have hl : lineC c = none := by rw [lineC, hv, if_neg (by decide), if_pos (by decide), hp]
      have hs : sayB 3 c = none := by rw [sayB, if_neg (by decide), if_pos rfl, hp]
      rw [hl, hs]
    | some p =>
      have hl : lineC c = if c.text = [] ∧ -1 ≤ c.size ∧ c.size ≤ 999999999999 then some (vb 3 ++ 32 :: (froW ++ (p ++ (sizT c.size ++ bodT c.eight)))) else none := by rw [lineC, hv, if_neg (by decide), if_pos (by decide), hp]
      have hs : sayB 3 c = if -1 ≤ c.size ∧ c.size ≤ 999999999999 then some (32 :: (froW ++ (p ++ (szT c.size ++ bodT c.eight)))) else none := by rw [sayB, if_neg (by decide), if_pos rfl, hp]
      rw [hl, hs]
      by_cases hz : -1 ≤ c.size ∧ c.size ≤ 999999999999
      · rw [if_pos hz, szT_may hz.1]
        by_cases ht : c.text = []
        · rw [if_pos ⟨ht, hz⟩]
          exact (if_pos (decide_eq_true ht)).symm
        · rw [if_neg (fun e => ht e.1)]
          exact (if_neg (by rw [decide_eq_false ht]; decide)).symm
      · rw [if_neg hz, if_neg (fun e => hz e.2)]
  by_cases h4 : v = 4
  · subst h4
    have ho : onlyB 4 c = (decide (c.text = []) && !c.eight) := by rw [onlyB, if_neg (by decide), if_neg (by decide), if_pos rfl]
    rw [ho]
    cases hp : pathL c.box with
    | none =>
      have hl : lineC c = none := by rw [lineC, hv, if_neg (by decide), if_neg (by decide), if_pos (by decide), hp]
      have hs : sayB 4 c = none := by rw [sayB, if_neg (by decide), if_neg (by decide), if_pos rfl, hp]
      rw [hl, hs]
    | some p =>
      have hl : lineC c = if p ≠ [60, 62] ∧ c.text = [] ∧ c.eight = false then some (vb 4 ++ 32 :: (toW ++ p)) else none := by rw [lineC, hv, if_neg (by decide), if_neg (by decide), if_pos (by decide), hp]
      have hs : sayB 4 c = if mayB c.box = true then some (32 :: (toW ++ p)) else none := by rw [sayB, if_neg (by decide), if_neg (by decide), if_pos rfl, hp]
      rw [hl, hs]
      have hm : mayB c.box = true ↔ p ≠ [60, 62] := by
        constructor
        · intro hm hp2
          rw [pathL] at hp
          split at hp
          · rename_i h0
            rw [mayB, Bool.and_eq_true] at hm
            have h2 := hm.2
            rw [locB, Bool.and_eq_true, Bool.and_eq_true, decide_eq_true_eq] at h2
            omega
          · first | rw [if_pos hm] at hp | skip
            rw [← Option.some.inj hp] at hp2
            have e3 := (List.cons.inj hp2).2
            have h4 := congrArg List.length e3
            simp only [List.length_append, List.length_cons, List.length_nil] at h4
            have hw : wrL c.box ≠ [] := by
              rw [wrL]; split
              · intro e2; rw [List.append_eq_nil_iff] at e2; cases e2.2
              · exact List.cons_ne_nil _ _
            have h5 := List.length_pos_iff.2 hw
            omega
        · intro hp2
          rw [pathL] at hp
          split at hp
          · exact absurd (Option.some.inj hp).symm hp2
          · split at hp
            · assumption
            · cases hp
      by_cases hmm : mayB c.box = true
      · rw [if_pos hmm]
        by_cases hq : c.text = [] ∧ c.eight = false
        · rw [if_pos ⟨hm.1 hmm, hq⟩]
          exact (if_pos (by rw [hq.1, hq.2]; rfl)).symm
        · rw [if_neg (fun e => hq e.2)]
          refine (if_neg ?_).symm
          rw [Bool.and_eq_true, decide_eq_true_eq]
          rintro ⟨e1, e2⟩
          exact hq ⟨e1, by simpa using e2⟩
      · rw [if_neg hmm, if_neg (fun e => hmm (hm.2 e.1))]
  by_cases h79 : v = 7 ∨ v = 9
  · have hl : lineC c = if prB c.text = true ∧ trL c.text = c.text ∧ nonB c = true ∧ (c.verb = 9 → c.text ≠ []) then some (vb v ++ if c.text = [] then [] else 32 :: c.text) else none := by
      rw [lineC, hv, if_neg (show ¬ ((v : Int) = 1 ∨ (v : Int) = 2) by omega), if_neg (show ¬ (v : Int) = 3 by omega), if_neg (show ¬ (v : Int) = 4 by omega), if_pos (show (v : Int) = 7 ∨ (v : Int) = 9 by omega), Int.toNat_natCast]
    have ho : onlyB v c = nonB c := by rw [onlyB, if_pos (show v = 1 ∨ v = 2 ∨ v = 7 ∨ v = 9 by omega), non_only]
    rw [hl, ho]
    by_cases ht : c.text = []
    · by_cases h7 : v = 7
      · have hs : sayB v c = some [] := by rw [sayB, if_neg h12, if_neg h3, if_neg h4, if_pos h7, if_pos ht]
        rw [hs, ht]
        by_cases hn : nonB c = true
        · rw [if_pos ⟨rfl, rfl, hn, fun e => by omega⟩, if_pos rfl]
          exact (if_pos hn).symm
        · rw [if_neg (fun e => hn e.2.2.1)]
          exact (if_neg hn).symm
      · have hs : sayB v c = none := by rw [sayB, if_neg h12, if_neg h3, if_neg h4, if_neg h7, if_pos (by omega), if_neg (fun e => e.1 ht)]
        rw [hs, if_neg (fun e => e.2.2.2 (by omega) ht)]
    · have hs : sayB v c = if prB c.text = true ∧ trL c.text = c.text then some (32 :: c.text) else none := by
        rw [sayB, if_neg h12, if_neg h3, if_neg h4]
        by_cases h7 : v = 7
        · rw [if_pos h7, if_neg ht]
        · rw [if_neg h7, if_pos (show v = 9 by omega)]
          by_cases hp : prB c.text = true ∧ trL c.text = c.text
          · rw [if_pos ⟨ht, hp⟩, if_pos hp]
          · rw [if_neg (fun e => hp e.2), if_neg hp]
      rw [hs]
      by_cases hp : prB c.text = true ∧ trL c.text = c.text
      · rw [if_pos hp]
        by_cases hn : nonB c = true
        · rw [if_pos ⟨hp.1, hp.2, hn, fun _ => ht⟩, if_neg ht]
          exact (if_pos hn).symm
        · rw [if_neg (fun e => hn e.2.2.1)]
          exact (if_neg hn).symm
      · rw [if_neg hp, if_neg (fun e => hp ⟨e.1, e.2.1⟩)]
  have hl : lineC c = if c.text = [] ∧ nonB c = true then some (vb v) else none := by
    rw [lineC, hv, if_neg (show ¬ ((v : Int) = 1 ∨ (v : Int) = 2) by omega), if_neg (show ¬ (v : Int) = 3 by omega), if_neg (show ¬ (v : Int) = 4 by omega), if_neg (show ¬ ((v : Int) = 7 ∨ (v : Int) = 9) by omega), Int.toNat_natCast]
  have hs : sayB v c = some [] := by rw [sayB, if_neg h12, if_neg h3, if_neg h4, if_neg (show ¬ v = 7 by omega), if_neg (show ¬ v = 9 by omega)]
  have ho : onlyB v c = true ↔ c.text = [] ∧ nonB c = true := by
    rw [onlyB, if_neg (show ¬ (v = 1 ∨ v = 2 ∨ v = 7 ∨ v = 9) by omega), if_neg h3, if_neg h4, non_only, Bool.and_eq_true, Bool.and_eq_true, decide_eq_true_eq, decide_eq_true_eq, and_assoc]
  rw [hl, hs]
  by_cases h : c.text = [] ∧ nonB c = true
  · rw [if_pos h]
    show some (vb v) = if onlyB v c = true then some (vb v ++ []) else none
    rw [if_pos (ho.2 h), List.append_nil]
  · rw [if_neg h]
    exact (if_neg fun x => h (ho.1 x)).symm
theorem lsayB_any (v : Nat) (h1 : 1 ≤ v) (h9 : v ≤ 9) (c : CmdA) (k0 : c.text.length ≤ 65536) (k1 : c.box.loc.length ≤ 65536) (k2 : c.box.dom.length ≤ 65536) (hS : I64 c.size) (w : World) (ht : Tb w) :
    Calls Tryz.prog 37 #[.agg #[.int .i64 (v : Int), .string (ba c.text), .string (ba c.box.loc), .string (ba c.box.dom), .int .i64 c.size, .bool c.eight]] w fun e w' => SayW (sayB v c) e ∧ Below w.heap.size w w' := by
  obtain rfl | rfl | rfl | rfl | rfl | rfl | rfl | rfl | rfl : v = 1 ∨ v = 2 ∨ v = 3 ∨ v = 4 ∨ v = 5 ∨ v = 6 ∨ v = 7 ∨ v = 8 ∨ v = 9 := by omega
  · exact lsayB_1 c k0 k1 k2 hS w ht
  · exact lsayB_2 c k0 k1 k2 hS w ht
  · exact lsayB_3 c k0 k1 k2 hS w ht
  · exact lsayB_4 c k0 k1 k2 hS w ht
  · exact lsayB_5 c k0 k1 k2 hS w ht
  · exact lsayB_6 c k0 k1 k2 hS w ht
  · exact lsayB_7 c k0 k1 k2 hS w ht
  · exact lsayB_8 c k0 k1 k2 hS w ht
  · exact lsayB_9 c k0 k1 k2 hS w ht
/-- What only answers, and how it is held against the command. -/
def OnlyP (v : Nat) (c : CmdA) : Prop := ∃ A : Array Value, (∀ w, Calls Tryz.prog 38 #[.agg #[.int .i64 (v : Int), .string (ba c.text), .string (ba c.box.loc), .string (ba c.box.dom), .int .i64 c.size, .bool c.eight]] w fun e w' => e = .returned (.agg A) ∧ Below w.heap.size w w') ∧
    ∀ w, (Op.equalIn 10000 26 (.agg #[.int .i64 (v : Int), .string (ba c.text), .string (ba c.box.loc), .string (ba c.box.dom), .int .i64 c.size, .bool c.eight]) (.agg A)).run Tryz.prog w = .ok (onlyB v c) w
theorem only_any (v : Nat) (h1 : 1 ≤ v) (h9 : v ≤ 9) (c : CmdA) : OnlyP v c := by
  have key : ∀ (T' L' D' : ByteArray) (E' : Bool), (∀ w, Calls Tryz.prog 38 #[.agg #[.int .i64 (v : Int), .string (ba c.text), .string (ba c.box.loc), .string (ba c.box.dom), .int .i64 c.size, .bool c.eight]] w fun e w' => e = .returned (.agg #[.int .i64 (v : Int), .string T', .string L', .string D', .int .i64 c.size, .bool E']) ∧ Below w.heap.size w w') →
      ((ba c.text).toList == T'.toList && (((ba c.box.loc).toList == L'.toList && (ba c.box.dom).toList == D'.toList) && c.eight == E')) = onlyB v c → OnlyP v c := fun T' L' D' E' hc hq => ⟨_, hc, fun w => by
        rw [cmd_eq, ← hq]
        simp⟩
  obtain rfl | rfl | rfl | rfl | rfl | rfl | rfl | rfl | rfl : v = 1 ∨ v = 2 ∨ v = 3 ∨ v = 4 ∨ v = 5 ∨ v = 6 ∨ v = 7 ∨ v = 8 ∨ v = 9 := by omega
  · exact key _ _ _ _ (fun w => lonly_1 _ _ _ _ _ w) (by rw [onlyB, if_pos (by decide), lit_same, lit_same, bool_not_false]; simp)
  · exact key _ _ _ _ (fun w => lonly_2 _ _ _ _ _ w) (by rw [onlyB, if_pos (by decide), lit_same, lit_same, bool_not_false]; simp)
  · exact key _ _ _ _ (fun w => lonly_3 _ _ _ _ _ w) (by rw [onlyB, if_neg (by decide), if_pos (by decide), lit_same]; simp)
  · exact key _ _ _ _ (fun w => lonly_4 _ _ _ _ _ w) (by rw [onlyB, if_neg (by decide), if_neg (by decide), if_pos (by decide), lit_same, bool_not_false]; simp)
  · exact key _ _ _ _ (fun w => lonly_5 _ _ _ _ _ w) (by rw [onlyB, if_neg (by decide), if_neg (by decide), if_neg (by decide), lit_same, lit_same, lit_same, bool_not_false]; simp [Bool.and_assoc])
  · exact key _ _ _ _ (fun w => lonly_6 _ _ _ _ _ w) (by rw [onlyB, if_neg (by decide), if_neg (by decide), if_neg (by decide), lit_same, lit_same, lit_same, bool_not_false]; simp [Bool.and_assoc])
  · exact key _ _ _ _ (fun w => lonly_7 _ _ _ _ _ w) (by rw [onlyB, if_pos (by decide), lit_same, lit_same, bool_not_false]; simp)
  · exact key _ _ _ _ (fun w => lonly_8 _ _ _ _ _ w) (by rw [onlyB, if_neg (by decide), if_neg (by decide), if_neg (by decide), lit_same, lit_same, lit_same, bool_not_false]; simp [Bool.and_assoc])
  · exact key _ _ _ _ (fun w => lonly_9 _ _ _ _ _ w) (by rw [onlyB, if_pos (by decide), lit_same, lit_same, bool_not_false]; simp)
theorem sayB_len {v : Nat} {c : CmdA} {t : List UInt8} (h : sayB v c = some t) (k0 : c.text.length ≤ 65536) (k1 : c.box.loc.length ≤ 65536) (k2 : c.box.dom.length ≤ 65536) (hS : I64 c.size) : t.length ≤ 1048576 := by
  have h1 := szT_len hS
  have h2 := bodT_len c.eight
  have e5 : froW.length = 5 := rfl
  have e3 : toW.length = 3 := rfl
  rw [sayB] at h
  repeat' split at h
  all_goals first
    | (cases h; done)
    | (have hh := congrArg List.length (Option.some.inj h)
       try (have hp := path_len (b := c.box) (by assumption))
       simp only [List.length_append, List.length_cons, List.length_nil] at hh
       omega)
end Go.Proofs.YtahbbnimoogapaaGreatDoor
