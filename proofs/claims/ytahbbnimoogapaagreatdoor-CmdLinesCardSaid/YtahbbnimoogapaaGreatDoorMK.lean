/- cmd: the plain functions: commands' lines, and what lines are read as. cmd: what follows: a command is read from its line as itself. cmd: what follows: what is read is a command that may be; letters and spaces; replies. cmd, landed: plain facts: letters, words, trims, what a verb says. cmd, landed: plain facts: what Mail says behind its path, word by word. -/
import Derived.Test.YtahbbnimoogapaaGreatDoorME
namespace Go.Proofs.YtahbbnimoogapaaGreatDoor
open Go.RowKit

/-- A command. -/
structure CmdA where
  verb : Int
  text : List UInt8
  box : BoxA
  size : Int
  eight : Bool
/-- The verbs' words. -/
def vbL : List (List UInt8) := [[], [72, 69, 76, 79], [69, 72, 76, 79], [77, 65, 73, 76], [82, 67, 80, 84], [68, 65, 84, 65], [82, 83, 69, 84], [78, 79, 79, 80], [81, 85, 73, 84], [86, 82, 70, 89]]
def vb (k : Nat) : List UInt8 := vbL.getD k []
/-- Great letters. -/
def grB (c : UInt8) : UInt8 := if 97 ≤ c ∧ c ≤ 122 then c - 32 else c
def grL (l : List UInt8) : List UInt8 := l.map grB
/-- Without spaces ahead; behind; at both ends. -/
def spL (l : List UInt8) : List UInt8 := l.dropWhile (· == 32)
def rtL (l : List UInt8) : List UInt8 := (l.reverse.dropWhile (· == 32)).reverse
def trL (l : List UInt8) : List UInt8 := rtL (spL l)
def prC (c : UInt8) : Bool := decide (32 ≤ c) && decide (c ≤ 126)
def prB (l : List UInt8) : Bool := l.all prC
/-- A number's digits. -/
def numL (n : Nat) : List UInt8 := if n < 10 then [UInt8.ofNat (48 + n)] else numL (n / 10) ++ [UInt8.ofNat (48 + n % 10)]
termination_by n
decreasing_by omega
def nonB (c : CmdA) : Bool := decide (c.box.loc.length + c.box.dom.length = 0) && !c.eight
def sizW : List UInt8 := [83, 73, 90, 69, 61]
def bodW : List UInt8 := [66, 79, 68, 89, 61, 56, 66, 73, 84, 77, 73, 77, 69]
def bod7 : List UInt8 := [66, 79, 68, 89, 61, 55, 66, 73, 84]
def froW : List UInt8 := [70, 82, 79, 77, 58]
def toW : List UInt8 := [84, 79, 58]
/-- What Mail says behind its path. -/
def sizT (n : Int) : List UInt8 := if 0 ≤ n then 32 :: (sizW ++ numL n.toNat) else []
def bodT (e : Bool) : List UInt8 := if e then 32 :: bodW else []
/-- A command's line; none: it may not be. -/
def lineC (c : CmdA) : Option (List UInt8) :=
  if c.verb = 1 ∨ c.verb = 2 then (if domB c.text = true ∧ smL c.text = c.text ∧ nonB c = true then some (vb c.verb.toNat ++ 32 :: c.text) else none)
  else if c.verb = 3 then
    match pathL c.box with
    | none => none
    | some p => if c.text = [] ∧ -1 ≤ c.size ∧ c.size ≤ 999999999999 then some (vb 3 ++ 32 :: (froW ++ (p ++ (sizT c.size ++ bodT c.eight)))) else none
  else if c.verb = 4 then
    match pathL c.box with
    | none => none
    | some p => if p ≠ [60, 62] ∧ c.text = [] ∧ c.eight = false then some (vb 4 ++ 32 :: (toW ++ p)) else none
  else if c.verb = 7 ∨ c.verb = 9 then (if prB c.text = true ∧ trL c.text = c.text ∧ nonB c = true ∧ (c.verb = 9 → c.text ≠ []) then some (vb c.verb.toNat ++ if c.text = [] then [] else 32 :: c.text) else none)
  else if c.text = [] ∧ nonB c = true then some (vb c.verb.toNat) else none
/-- Which verb a word is; 0: none. -/
def vbF : Nat → List UInt8 → Nat
  | 0, _ => 0
  | k + 1, g => if g = vb (k + 1) then k + 1 else vbF k g
def begB (l w : List UInt8) : Bool := decide (w.length ≤ l.length) && decide (grL (l.take w.length) = w)
/-- A word and a path. -/
def patL (l w : List UInt8) : Option (BoxA × List UInt8) := if begB l w = true then readL (spL (l.drop w.length)) else none
/-- A text's words, with the one that has begun. -/
def wdF (w : List UInt8) : List UInt8 → List (List UInt8)
  | [] => if w = [] then [] else [w]
  | c :: l => if c = 32 then (if w = [] then wdF [] l else w :: wdF [] l) else wdF (w ++ [c]) l
def digB (c : UInt8) : Bool := decide (48 ≤ c) && decide (c ≤ 57)
def valL (l : List UInt8) : Nat := l.foldl (fun n c => n * 10 + (c.toNat - 48)) 0
/-- A size; none: it is none. -/
def sizC (l : List UInt8) : Option Nat := if l ≠ [] ∧ l.length ≤ 12 ∧ l.all digB = true then some (valL l) else none
/-- What Mail has said so far. -/
structure MaS where
  size : Int
  eight : Bool
  body : Bool
def maF : List (List UInt8) → MaS → Option MaS
  | [], s => some s
  | w :: l, s => if begB w sizW = true then
      match sizC (w.drop 5) with
      | none => none
      | some n => if 0 ≤ s.size then none else maF l ⟨n, s.eight, s.body⟩
    else if s.body = true ∨ (grL w ≠ bodW ∧ grL w ≠ bod7) then none else maF l ⟨s.size, decide (grL w = bodW), true⟩
def maiC (l : List UInt8) : Option CmdA := match patL l froW with
  | none => none
  | some p => if p.2 ≠ [] ∧ p.2[0]? ≠ some 32 then none else match maF (wdF [] p.2) ⟨-1, false, false⟩ with
    | none => none
    | some s => some ⟨3, [], p.1, s.size, s.eight⟩
/-- What stands behind a verb. -/
def bodC (v : Nat) (r : List UInt8) : Option CmdA :=
  if v = 1 ∨ v = 2 then (if domB r = true then some ⟨v, smL r, ⟨[], []⟩, -1, false⟩ else none)
  else if v = 3 then maiC r
  else if v = 4 then match patL r toW with
    | none => none
    | some p => if p.2 = [] ∧ p.1.loc ≠ [] then some ⟨4, [], p.1, -1, false⟩ else none
  else if v = 7 ∨ v = 9 then (if prB r = true ∧ (v = 9 → r ≠ []) then some ⟨v, r, ⟨[], []⟩, -1, false⟩ else none)
  else if r = [] then some ⟨v, [], ⟨[], []⟩, -1, false⟩ else none
/-- The first word, and what follows. -/
def wrd (l : List UInt8) : List UInt8 := l.takeWhile fun c => !(c == 32)
def rst (l : List UInt8) : List UInt8 := l.dropWhile fun c => !(c == 32)
/-- The verb of a line; 0: none. -/
def vbN (l : List UInt8) : Nat := vbF 9 (grL (wrd l))
/-- A line as a command; none: it isn't written as it may be. -/
def parC (l : List UInt8) : Option CmdA := bodC (vbN l) (trL (rst l))
def cmd0 : CmdA := ⟨0, [], ⟨[], []⟩, 0, false⟩

/-- A code's first digit. -/
def clsZ (n : Int) : Int := if n < 200 ∨ 599 < n then 0 else n / 100
def repT (n : List UInt8) : List (List UInt8) → List (List UInt8)
  | [] => []
  | [x] => [n ++ 32 :: x]
  | x :: y :: l => (n ++ 45 :: x) :: repT n (y :: l)
/-- A reply's lines; none: they may not be. -/
def repL (code : Nat) (ls : List (List UInt8)) : Option (List (List UInt8)) := if ls ≠ [] ∧ ls.all prB = true then some (repT (numL code) ls) else none
/-- The codes of lines, each one; none: one has none. -/
def codF : List (List UInt8) → Nat → Option Nat
  | [], n => some n
  | x :: l, _ => if x.length < 4 then none else match sizC (x.take 3) with
    | none => none
    | some n => codF l n
def redL (ls : List (List UInt8)) : Option (Nat × List (List UInt8)) := match codF ls 0 with
  | none => none
  | some n => if 200 ≤ n ∧ n ≤ 599 ∧ repL n (ls.map (·.drop 4)) = some ls then some (n, ls.map (·.drop 4)) else none
def whoL : List (List UInt8) → Nat → Nat
  | [], _ => 0
  | x :: l, k => if 4 ≤ x.length ∧ x[3]? = some 32 then k + 1 else whoL l (k + 1)
end Go.Proofs.YtahbbnimoogapaaGreatDoor
namespace Go.Proofs.YtahbbnimoogapaaGreatDoor
open Go.RowKit

theorem spL_cons (l : List UInt8) : spL (32 :: l) = spL l := by rw [spL, List.dropWhile_cons, if_pos (by decide)]; rfl
theorem spL_id {l : List UInt8} (h : l.head? ≠ some 32) : spL l = l := by
  cases l with
  | nil => rfl
  | cons c l =>
    rw [spL, List.dropWhile_cons, if_neg]
    intro e
    exact h (by rw [beq_iff_eq.1 e]; rfl)
theorem spL_head (l : List UInt8) : (spL l).head? ≠ some 32 := by
  induction l with
  | nil => exact fun h => by cases h
  | cons c l ih =>
    by_cases hc : c = 32
    · subst hc; rw [spL_cons]; exact ih
    · have h1 : (c :: l).head? ≠ some 32 := fun h => hc (Option.some.inj h)
      rw [spL_id h1]; exact h1
theorem rtL_eq (l : List UInt8) : rtL l = (spL l.reverse).reverse := rfl
theorem rtL_id {l : List UInt8} (h : l.getLast? ≠ some 32) : rtL l = l := by
  rw [rtL_eq, spL_id (by rwa [List.head?_reverse]), List.reverse_reverse]
theorem rtL_last (l : List UInt8) : (rtL l).getLast? ≠ some 32 := by
  rw [rtL_eq, List.getLast?_reverse]; exact spL_head _
theorem rtL_pre (l : List UInt8) : ∃ t, l = rtL l ++ t := by
  have h : spL l.reverse <:+ l.reverse := List.dropWhile_suffix _
  obtain ⟨t, ht⟩ := h
  refine ⟨t.reverse, ?_⟩
  have := congrArg List.reverse ht
  rw [List.reverse_append, List.reverse_reverse] at this
  rw [rtL_eq]; exact this.symm
theorem rtL_head {l : List UInt8} (h : l.head? ≠ some 32) : (rtL l).head? ≠ some 32 := by
  obtain ⟨t, ht⟩ := rtL_pre l
  intro e
  apply h
  rw [ht]
  cases hr : rtL l with
  | nil => rw [hr] at e; cases e
  | cons c r => rw [hr] at e; exact e
theorem trL_ends (l : List UInt8) : (trL l).head? ≠ some 32 ∧ (trL l).getLast? ≠ some 32 := ⟨rtL_head (spL_head l), rtL_last _⟩
theorem trL_id {l : List UInt8} (h1 : l.head? ≠ some 32) (h2 : l.getLast? ≠ some 32) : trL l = l := by rw [trL, spL_id h1, rtL_id h2]
theorem trL_trL (l : List UInt8) : trL (trL l) = trL l := trL_id (trL_ends l).1 (trL_ends l).2
theorem trL_cons (l : List UInt8) : trL (32 :: l) = trL l := by rw [trL, spL_cons]; rfl
theorem rtL_snoc (l : List UInt8) : rtL (l ++ [32]) = rtL l := by
  rw [rtL_eq, rtL_eq, List.reverse_append, List.reverse_singleton, List.singleton_append, spL_cons]
theorem spL_snoc (l : List UInt8) : spL (l ++ [32]) = if spL l = [] then [] else spL l ++ [32] := by
  induction l with
  | nil => rfl
  | cons c l ih =>
    by_cases hc : c = 32
    · subst hc; rw [List.cons_append, spL_cons, spL_cons, ih]
    · have h1 : (c :: l).head? ≠ some 32 := fun h => hc (Option.some.inj h)
      rw [spL_id h1, if_neg (List.cons_ne_nil _ _), List.cons_append, spL_id (l := c :: (l ++ [32])) (fun h => hc (Option.some.inj h))]
theorem trL_snoc (l : List UInt8) : trL (l ++ [32]) = trL l := by
  rw [trL, spL_snoc, trL]
  split
  · rename_i h; rw [h]
  · exact rtL_snoc _
theorem trL_spaces (n : Nat) (l : List UInt8) : trL (l ++ List.replicate n 32) = trL l := by
  induction n with
  | zero => rw [List.replicate_zero, List.append_nil]
  | succ n ih => rw [List.replicate_succ', ← List.append_assoc, trL_snoc, ih]

/-- Numbers. -/
theorem numL_small {n : Nat} (h : n < 10) : numL n = [UInt8.ofNat (48 + n)] := by rw [numL, if_pos h]
theorem numL_big {n : Nat} (h : ¬ n < 10) : numL n = numL (n / 10) ++ [UInt8.ofNat (48 + n % 10)] := by rw [numL, if_neg h]
theorem ofNat_dig {n : Nat} (h : n < 10) : (UInt8.ofNat (48 + n)).toNat = 48 + n := by
  rw [UInt8.toNat_ofNat']
  omega
theorem dig_ofNat {n : Nat} (h : n < 10) : digB (UInt8.ofNat (48 + n)) = true := by
  have := ofNat_dig h
  rw [digB, Bool.and_eq_true]
  exact ⟨decide_eq_true (UInt8.le_iff_toNat_le.2 (by rw [this]; show 48 ≤ _; omega)), decide_eq_true (UInt8.le_iff_toNat_le.2 (by rw [this]; show _ ≤ 57; omega))⟩
theorem valL_snoc (l : List UInt8) (c : UInt8) : valL (l ++ [c]) = valL l * 10 + (c.toNat - 48) := by simp [valL]
theorem numL_all (n : Nat) : (numL n).all digB = true ∧ valL (numL n) = n ∧ numL n ≠ [] := by
  induction n using Nat.strongRecOn with
  | _ n ih =>
    by_cases h : n < 10
    · rw [numL_small h]
      refine ⟨by rw [List.all_cons, dig_ofNat h]; rfl, ?_, List.cons_ne_nil _ _⟩
      show 0 * 10 + ((UInt8.ofNat (48 + n)).toNat - 48) = n
      rw [ofNat_dig h]; omega
    · obtain ⟨h1, h2, _⟩ := ih (n / 10) (by omega)
      rw [numL_big h]
      refine ⟨by rw [List.all_append, h1, List.all_cons, dig_ofNat (by omega)]; rfl, ?_, by simp⟩
      rw [valL_snoc, h2, ofNat_dig (by omega)]
      omega
theorem numL_len (k : Nat) : ∀ n, n < 10 ^ (k + 1) → (numL n).length ≤ k + 1 := by
  induction k with
  | zero =>
    intro n hn
    rw [numL_small (by simpa using hn)]; exact Nat.le_refl _
  | succ k ih =>
    intro n hn
    by_cases h : n < 10
    · rw [numL_small h]; simp
    · rw [numL_big h, List.length_append, List.length_singleton]
      have := ih (n / 10) (by rw [Nat.pow_succ] at hn; omega)
      omega
theorem sizC_num {n : Nat} (h : n ≤ 999999999999) : sizC (numL n) = some n := by
  obtain ⟨h1, h2, h3⟩ := numL_all n
  rw [sizC, if_pos ⟨h3, numL_len 11 n (by show n < 1000000000000; omega), h1⟩, h2]
theorem dig_no {c : UInt8} (h : digB c = true) : (c == 32) = false := by
  rw [digB, Bool.and_eq_true] at h
  have := UInt8.le_iff_toNat_le.1 (of_decide_eq_true h.1)
  refine beq_false_of_ne fun e => ?_
  rw [e] at this
  exact absurd this (by decide)
theorem valL_lt (l : List UInt8) (h : l.all digB = true) : valL l < 10 ^ l.length := by
  have key : ∀ r : List UInt8, r.reverse.all digB = true → valL r.reverse < 10 ^ r.length := fun r => by
    induction r with
    | nil => intro _; decide
    | cons c r ih =>
      intro h
      rw [List.reverse_cons, List.all_append, Bool.and_eq_true] at h
      rw [List.reverse_cons, valL_snoc, List.length_cons, Nat.pow_succ]
      have h1 := ih h.1
      have h2 := h.2
      rw [List.all_cons, List.all_nil, Bool.and_true, digB, Bool.and_eq_true] at h2
      have h3 := UInt8.le_iff_toNat_le.1 (of_decide_eq_true h2.2)
      have h4 : (57 : UInt8).toNat = 57 := rfl
      omega
  have := key l.reverse (by rwa [List.reverse_reverse])
  rwa [List.reverse_reverse, List.length_reverse] at this
theorem sizC_le {l : List UInt8} {n : Nat} (h : sizC l = some n) : n ≤ 999999999999 := by
  unfold sizC at h
  split at h
  · rename_i hc
    have h1 := valL_lt l hc.2.2
    have h2 : 10 ^ l.length ≤ 10 ^ 12 := Nat.pow_le_pow_right (by decide) hc.2.1
    have h3 := Option.some.inj h
    have h4 : (10 : Nat) ^ 12 = 1000000000000 := by decide
    omega
  · cases h

/-- Words. -/
theorem wdF_no (l : List UInt8) (h : ∀ c ∈ l, (c == 32) = false) : ∀ w, wdF w l = if w ++ l = [] then [] else [w ++ l] := by
  induction l with
  | nil => intro w; rw [wdF, List.append_nil]
  | cons c l ih =>
    intro w
    have hc : ¬ c = 32 := fun e => by have := h c (List.mem_cons_self ..); rw [e] at this; cases this
    rw [wdF, if_neg hc, ih (fun d hd => h d (List.mem_cons_of_mem _ hd)), List.append_assoc, List.singleton_append]
theorem wdF_sp (x l : List UInt8) (h : ∀ c ∈ x, (c == 32) = false) : ∀ w, w ++ x ≠ [] → wdF w (x ++ 32 :: l) = (w ++ x) :: wdF [] l := by
  induction x with
  | nil =>
    intro w hw
    rw [List.append_nil] at hw
    rw [List.nil_append, wdF, if_pos rfl, if_neg hw, List.append_nil]
  | cons c x ih =>
    intro w hw
    have hc : ¬ c = 32 := fun e => by have := h c (List.mem_cons_self ..); rw [e] at this; cases this
    rw [List.cons_append, wdF, if_neg hc, ih (fun d hd => h d (List.mem_cons_of_mem _ hd)) (w ++ [c]) (by simp), List.append_assoc, List.singleton_append]
theorem siz_no (n : Nat) : ∀ c ∈ sizW ++ numL n, (c == 32) = false := fun c hc => by
  rcases List.mem_append.1 hc with h | h
  · have : ∀ d ∈ sizW, (d == 32) = false := by decide
    exact this c h
  · exact dig_no (List.all_eq_true.1 (numL_all n).1 c h)
theorem bod_no : ∀ c ∈ bodW, (c == 32) = false := by decide
theorem words_of (n : Int) (e : Bool) : wdF [] (sizT n ++ bodT e) = (if 0 ≤ n then [sizW ++ numL n.toNat] else []) ++ (if e = true then [bodW] else []) := by
  have hne : sizW ++ numL n.toNat ≠ [] := by simp [sizW]
  cases e with
  | false =>
    rw [show bodT false = [] from rfl, show (if false = true then [bodW] else []) = ([] : List (List UInt8)) from rfl, List.append_nil, List.append_nil, sizT]
    by_cases hn : 0 ≤ n
    · rw [if_pos hn, if_pos hn, wdF, if_pos rfl, if_pos rfl, wdF_no _ (siz_no _), List.nil_append, if_neg hne]
    · rw [if_neg hn, if_neg hn]; rfl
  | true =>
    rw [bodT, if_pos rfl, if_pos rfl, sizT]
    by_cases hn : 0 ≤ n
    · rw [if_pos hn, if_pos hn, List.cons_append, wdF, if_pos rfl, if_pos rfl, wdF_sp _ _ (siz_no _) [] (by rw [List.nil_append]; exact hne), wdF_no _ bod_no]
      rfl
    · rw [if_neg hn, if_neg hn, List.nil_append, wdF, if_pos rfl, if_pos rfl, wdF_no _ bod_no]
      rfl
theorem beg_siz (l : List UInt8) : begB (sizW ++ l) sizW = true := by
  rw [begB, List.take_left' (by rfl), Bool.and_eq_true]
  exact ⟨decide_eq_true (by rw [List.length_append]; omega), by decide⟩
theorem ma_words {n : Int} (h1 : -1 ≤ n) (h2 : n ≤ 999999999999) (e : Bool) : maF ((if 0 ≤ n then [sizW ++ numL n.toNat] else []) ++ (if e = true then [bodW] else [])) ⟨-1, false, false⟩ = some ⟨n, e, e⟩ := by
  have hb : ∀ m : Int, maF (if e = true then [bodW] else []) ⟨m, false, false⟩ = some ⟨m, e, e⟩ := fun m => by
    cases e with
    | false => rfl
    | true =>
      rw [if_pos rfl, maF, if_neg (show ¬ begB bodW sizW = true by decide)]
      show (if false = true ∨ (grL bodW ≠ bodW ∧ grL bodW ≠ bod7) then none else maF [] ⟨m, decide (grL bodW = bodW), true⟩) = _
      rw [if_neg (by decide)]
      rfl
  by_cases hn : 0 ≤ n
  · rw [if_pos hn, List.singleton_append, maF, if_pos (beg_siz _), List.drop_left' (by rfl), sizC_num (by omega)]
    show (if (0 : Int) ≤ -1 then none else maF _ ⟨((n.toNat : Nat) : Int), false, false⟩) = _
    rw [if_neg (by decide), hb, Int.toNat_of_nonneg hn]
  · have : n = -1 := by omega
    rw [if_neg hn, List.nil_append, hb, this]

/-- Verbs. -/
theorem vb_facts : ∀ k : Fin 10, k.val ≠ 0 → vbF 9 (grL (vb k.val)) = k.val ∧ (∀ c ∈ vb k.val, (!(c == 32)) = true) := by decide
theorem vb_sp {k : Nat} (h1 : 1 ≤ k) (h2 : k ≤ 9) (l : List UInt8) : parC (vb k ++ 32 :: l) = bodC k (trL l) := by
  obtain ⟨hv, hc⟩ := vb_facts ⟨k, by omega⟩ (by show k ≠ 0; omega)
  obtain ⟨t1, t2⟩ := tw_all (p := fun c => !(c == 32)) hc (c := 32) (by decide) l
  rw [parC, vbN, wrd, t1, rst, t2, hv, trL_cons]
theorem vb_end {k : Nat} (h1 : 1 ≤ k) (h2 : k ≤ 9) : parC (vb k) = bodC k [] := by
  obtain ⟨hv, hc⟩ := vb_facts ⟨k, by omega⟩ (by show k ≠ 0; omega)
  have tt : ∀ l : List UInt8, (∀ c ∈ l, (!(c == 32)) = true) → l.takeWhile (fun c => !(c == 32)) = l ∧ l.dropWhile (fun c => !(c == 32)) = [] := fun l hl => by
    induction l with
    | nil => exact ⟨rfl, rfl⟩
    | cons c l ih =>
      have h0 := hl c (List.mem_cons_self ..)
      obtain ⟨i1, i2⟩ := ih fun d hd => hl d (List.mem_cons_of_mem _ hd)
      exact ⟨by rw [List.takeWhile_cons, if_pos h0, i1], by rw [List.dropWhile_cons, if_pos h0, i2]⟩
  obtain ⟨t1, t2⟩ := tt (vb k) hc
  rw [parC, vbN, wrd, t1, rst, t2, hv]; rfl
theorem non_box {c : CmdA} (h : nonB c = true) : c.box = ⟨[], []⟩ ∧ c.eight = false := by
  rw [nonB, Bool.and_eq_true] at h
  have h1 := of_decide_eq_true h.1
  refine ⟨?_, by simpa using h.2⟩
  cases hb : c.box with
  | mk l d =>
    rw [hb] at h1
    simp only at h1
    have e1 : l = [] := List.length_eq_zero_iff.1 (by omega)
    have e2 : d = [] := List.length_eq_zero_iff.1 (by omega)
    rw [e1, e2]
theorem dom_ends {l : List UInt8} (h : domB l = true) : l.head? ≠ some 32 ∧ l.getLast? ≠ some 32 := by
  have hb := dom_bytes h
  have key : ∀ c ∈ l, c ≠ 32 := fun c hc e => by
    have := hb c hc
    rw [e] at this
    cases this
  exact ⟨fun e => key 32 (List.mem_of_mem_head? e) rfl, fun e => key 32 (List.mem_of_getLast? e) rfl⟩
theorem path_first {b : BoxA} {p : List UInt8} (h : pathL b = some p) : (∃ t, p = 60 :: t) ∧ ∃ t, p = t ++ [62] := by
  unfold pathL at h
  split at h
  · obtain rfl := Option.some.inj h
    exact ⟨⟨[62], rfl⟩, ⟨[60], rfl⟩⟩
  · split at h
    · obtain rfl := Option.some.inj h
      exact ⟨⟨_, rfl⟩, ⟨60 :: wrL b, rfl⟩⟩
    · cases h
theorem gl_app {a b : List UInt8} (h : b ≠ []) : (a ++ b).getLast? = b.getLast? := by
  rw [List.getLast?_append]
  cases hb : b.getLast? with
  | none => exact absurd (List.getLast?_eq_none_iff.1 hb) h
  | some x => rfl
theorem mail_last {p : List UInt8} (h : ∃ t, p = t ++ [62]) (n : Int) (e : Bool) : (p ++ (sizT n ++ bodT e)).getLast? ≠ some 32 := by
  cases e with
  | true =>
    rw [bodT, if_pos rfl, ← List.append_assoc, gl_app (by simp)]
    decide
  | false =>
    rw [bodT, if_neg (by decide), List.append_nil, sizT]
    by_cases hn : 0 ≤ n
    · rw [if_pos hn, gl_app (by simp), show (32 : UInt8) :: (sizW ++ numL n.toNat) = (32 :: sizW) ++ numL n.toNat from rfl, gl_app (numL_all _).2.2]
      intro e
      have := dig_no (List.all_eq_true.1 (numL_all n.toNat).1 32 (List.mem_of_getLast? e))
      cases this
    · obtain ⟨t, rfl⟩ := h
      rw [if_neg hn, List.append_nil, gl_app (by simp)]
      decide
theorem beg_self (w l : List UInt8) (h : grL w = w) : begB (w ++ l) w = true := by
  rw [begB, List.take_left' rfl, h, Bool.and_eq_true]
  exact ⟨decide_eq_true (by rw [List.length_append]; omega), decide_eq_true rfl⟩
theorem pat_path {b : BoxA} {p : List UInt8} (hp : pathL b = some p) (w : List UInt8) (hw : grL w = w) (r : List UInt8) : patL (w ++ (p ++ r)) w = some (b, r) := by
  obtain ⟨t, ht⟩ := (path_first hp).1
  rw [patL, if_pos (beg_self w _ hw), List.drop_left' rfl, spL_id (by rw [ht]; exact fun e => by cases e), back_path hp]
/-- What a command is read as. -/
def fixC (c : CmdA) : CmdA := if c.verb = 3 then c else ⟨c.verb, c.text, c.box, -1, c.eight⟩
theorem sizT_head (n : Int) (e : Bool) : ¬ (sizT n ++ bodT e ≠ [] ∧ (sizT n ++ bodT e)[0]? ≠ some 32) := by
  rintro ⟨h1, h2⟩
  unfold sizT at h1 h2
  split at h2
  · exact h2 rfl
  · cases e with
    | true => exact h2 rfl
    | false => rw [if_neg (by assumption)] at h1; exact h1 rfl
theorem path_more {b : BoxA} {p : List UInt8} (h : pathL b = some p) (hne : p ≠ [60, 62]) : b.loc ≠ [] := by
  unfold pathL at h
  split at h
  · exact absurd (Option.some.inj h).symm hne
  · split at h
    · rename_i hm
      intro e
      rw [mayB, e] at hm
      simp [locB] at hm
    · cases h

/-- A command is read from its line as itself. -/
theorem par_line {c : CmdA} {w : List UInt8} (h : lineC c = some w) (hv : 1 ≤ c.verb ∧ c.verb ≤ 9) : parC w = some (fixC c) := by
  obtain ⟨v, t, b, n, e⟩ := c
  obtain ⟨h1, h2⟩ := hv
  unfold lineC at h
  simp only at h h1 h2
  obtain ⟨k, rfl⟩ : ∃ k : Nat, v = k := ⟨v.toNat, by omega⟩
  rw [Int.toNat_natCast] at h
  have hk1 : 1 ≤ k := by omega
  have hk2 : k ≤ 9 := by omega
  split at h
  · rename_i hk
    split at h
    · rename_i hc
      obtain ⟨hd, hs, hn⟩ := hc
      obtain ⟨rfl, rfl⟩ := non_box hn
      rw [← Option.some.inj h, vb_sp hk1 hk2, trL_id (dom_ends hd).1 (dom_ends hd).2, bodC, if_pos (by omega), if_pos hd, hs, fixC, if_neg (by simp only; omega)]
    · cases h
  rename_i hk12
  split at h
  · rename_i hk
    have : k = 3 := by omega
    subst this
    cases hp : pathL b with
    | none => rw [hp] at h; cases h
    | some p =>
      rw [hp] at h
      simp only at h
      split at h
      · rename_i hc
        obtain ⟨rfl, hn1, hn2⟩ := hc
        have hf := path_first hp
        rw [← Option.some.inj h, vb_sp (by decide) (by decide), trL_id (by intro e; cases e) (by rw [gl_app (by obtain ⟨t, ht⟩ := hf.1; rw [ht]; simp)]; exact mail_last hf.2 n e), bodC, if_neg (by decide), if_pos rfl, maiC, pat_path hp froW (by decide)]
        simp only
        rw [if_neg (sizT_head n e), words_of, ma_words hn1 hn2]
        rfl
      · cases h
  rename_i hk3
  split at h
  · rename_i hk
    have : k = 4 := by omega
    subst this
    cases hp : pathL b with
    | none => rw [hp] at h; cases h
    | some p =>
      rw [hp] at h
      simp only at h
      split at h
      · rename_i hc
        obtain ⟨hne, rfl, rfl⟩ := hc
        have hf := path_first hp
        rw [← Option.some.inj h, vb_sp (by decide) (by decide), trL_id (by intro e; cases e) (by
          obtain ⟨t, ht⟩ := hf.2
          rw [ht, ← List.append_assoc, gl_app (by simp)]; decide), bodC, if_neg (by decide), if_neg (by decide), if_pos rfl]
        have := pat_path hp toW (by decide) []
        rw [List.append_nil] at this
        rw [this]
        simp only
        rw [if_pos ⟨trivial, path_more hp hne⟩]
        rfl
      · cases h
  rename_i hk4
  split at h
  · rename_i hk
    split at h
    · rename_i hc
      obtain ⟨hp, htr, hn, h9⟩ := hc
      obtain ⟨rfl, rfl⟩ := non_box hn
      have hres : bodC k t = some (fixC ⟨(k : Int), t, ⟨[], []⟩, n, false⟩) := by
        rw [bodC, if_neg (by omega), if_neg (by omega), if_neg (by omega), if_pos (by omega), if_pos ⟨hp, fun h => h9 (by omega)⟩, fixC, if_neg (by simp only; omega)]
      rw [← Option.some.inj h]
      by_cases ht : t = []
      · subst ht; rw [if_pos rfl, List.append_nil, vb_end hk1 hk2]; exact hres
      · rw [if_neg ht, vb_sp hk1 hk2, htr]; exact hres
    · cases h
  rename_i hk79
  split at h
  · rename_i hc
    obtain ⟨rfl, hn⟩ := hc
    obtain ⟨rfl, rfl⟩ := non_box hn
    rw [← Option.some.inj h, vb_end hk1 hk2, bodC, if_neg (by omega), if_neg (by omega), if_neg (by omega), if_neg (by omega), if_pos rfl, fixC, if_neg (by simp only; omega)]
  · cases h
end Go.Proofs.YtahbbnimoogapaaGreatDoor
namespace Go.Proofs.YtahbbnimoogapaaGreatDoor
open Go.RowKit

theorem vbF_le : ∀ (n : Nat) (g : List UInt8), vbF n g ≤ n
  | 0, _ => Nat.le_refl _
  | n + 1, g => by
    rw [vbF]
    split
    · exact Nat.le_refl _
    · exact Nat.le_succ_of_le (vbF_le n g)
theorem maF_fit : ∀ (l : List (List UInt8)) (s t : MaS), maF l s = some t → -1 ≤ s.size ∧ s.size ≤ 999999999999 → -1 ≤ t.size ∧ t.size ≤ 999999999999
  | [], s, t, h, hs => by rw [maF] at h; rw [← Option.some.inj h]; exact hs
  | w :: l, s, t, h, hs => by
    rw [maF] at h
    split at h
    · split at h
      · cases h
      · rename_i n hn
        split at h
        · cases h
        · exact maF_fit l _ t h ⟨by show (-1 : Int) ≤ (n : Int); omega, by show (n : Int) ≤ _; have := sizC_le hn; omega⟩
    · split at h
      · cases h
      · exact maF_fit l _ t h hs
theorem pat_may {l w r : List UInt8} {b : BoxA} (h : patL l w = some (b, r)) : ∃ p, pathL b = some p := by
  unfold patL at h
  split at h
  · exact may_path (read_back h).1
  · cases h
/-- What is read is a command that may be. -/
theorem line_par {l : List UInt8} {d : CmdA} (h : parC l = some d) (hv : vbN l ≠ 0) : (∃ w, lineC d = some w) ∧ fixC d = d ∧ 1 ≤ d.verb ∧ d.verb ≤ 9 := by
  have h9 : vbN l ≤ 9 := vbF_le 9 _
  rw [parC] at h
  have htr := trL_trL (rst l)
  generalize trL (rst l) = r at *
  generalize vbN l = k at *
  unfold bodC at h
  split at h
  · rename_i hk
    split at h
    · rename_i hd
      obtain rfl := Option.some.inj h
      refine ⟨?_, by rw [fixC]; split <;> rfl, by simp only; omega, by simp only; omega⟩
      unfold lineC
      rw [if_pos (by simp only; omega), if_pos ⟨by show domB (smL r) = true; rw [dom_sm]; exact hd, sm_sm r, rfl⟩]
      exact ⟨_, rfl⟩
    · cases h
  rename_i hk12
  split at h
  · rename_i hk3
    subst hk3
    unfold maiC at h
    split at h
    · cases h
    · rename_i p hp
      split at h
      · cases h
      · split at h
        · cases h
        · rename_i s hs
          obtain rfl := Option.some.inj h
          obtain ⟨q, hq⟩ := pat_may (b := p.1) (r := p.2) hp
          have hf := maF_fit _ _ _ hs ⟨by decide, by decide⟩
          refine ⟨?_, rfl, by simp only; omega, by simp only; omega⟩
          unfold lineC
          rw [if_neg (by simp), if_pos rfl]
          simp only [hq]
          rw [if_pos ⟨trivial, hf⟩]
          exact ⟨_, rfl⟩
  rename_i hk3
  split at h
  · rename_i hk4
    subst hk4
    split at h
    · cases h
    · rename_i p hp
      split at h
      · rename_i hc
        obtain rfl := Option.some.inj h
        obtain ⟨q, hq⟩ := pat_may (b := p.1) (r := p.2) hp
        have hne : q ≠ [60, 62] := fun e => by
          rw [e] at hq
          unfold pathL at hq
          split at hq
          · rename_i h0
            exact hc.2 (List.length_eq_zero_iff.1 (by omega))
          · split at hq
            · have h1 := congrArg List.length (Option.some.inj hq)
              rw [List.length_cons, List.length_append] at h1
              have h2 : 1 ≤ (wrL p.1).length := by
                unfold wrL
                split <;> (simp only [List.length_append, List.length_cons]; omega)
              simp only [List.length_cons, List.length_nil] at h1
              omega
            · cases hq
        refine ⟨?_, rfl, by simp only; omega, by simp only; omega⟩
        unfold lineC
        rw [if_neg (by simp), if_neg (by simp), if_pos rfl]
        simp only [hq]
        rw [if_pos ⟨hne, trivial, trivial⟩]
        exact ⟨_, rfl⟩
      · cases h
  rename_i hk4
  split at h
  · rename_i hk79
    split at h
    · rename_i hc
      obtain rfl := Option.some.inj h
      refine ⟨?_, by rw [fixC]; split <;> rfl, by simp only; omega, by simp only; omega⟩
      unfold lineC
      rw [if_neg (by simp only; omega), if_neg (by simp only; omega), if_neg (by simp only; omega), if_pos (by simp only; omega), if_pos ⟨hc.1, htr, rfl, fun h => hc.2 (by simp only at h; omega)⟩]
      exact ⟨_, rfl⟩
    · cases h
  rename_i hk79
  split at h
  · obtain rfl := Option.some.inj h
    refine ⟨?_, by rw [fixC]; split <;> rfl, by simp only; omega, by simp only; omega⟩
    unfold lineC
    rw [if_neg (by simp only; omega), if_neg (by simp only; omega), if_neg (by simp only; omega), if_neg (by simp only; omega), if_pos ⟨rfl, rfl⟩]
    exact ⟨_, rfl⟩
  · cases h
/-- The line of what was read is read as the same. -/
theorem par_again {l : List UInt8} {d : CmdA} (h : parC l = some d) (hv : vbN l ≠ 0) : ∃ w, lineC d = some w ∧ parC w = some d := by
  obtain ⟨⟨w, hw⟩, hf, h1, h2⟩ := line_par h hv
  exact ⟨w, hw, by rw [par_line hw ⟨h1, h2⟩, hf]⟩

/-- A line begins with its verb. -/
theorem line_verb {c : CmdA} {w : List UInt8} (h : lineC c = some w) (hv : 1 ≤ c.verb ∧ c.verb ≤ 9) : ∃ k : Nat, c.verb = k ∧ 1 ≤ k ∧ k ≤ 9 ∧ (w = vb k ∨ ∃ r, w = vb k ++ 32 :: r) := by
  obtain ⟨v, t, b, n, e⟩ := c
  obtain ⟨h1, h2⟩ := hv
  unfold lineC at h
  simp only at h h1 h2
  obtain ⟨k, rfl⟩ : ∃ k : Nat, v = k := ⟨v.toNat, by omega⟩
  rw [Int.toNat_natCast] at h
  refine ⟨k, rfl, by omega, by omega, ?_⟩
  split at h
  · split at h
    · exact .inr ⟨_, (Option.some.inj h).symm⟩
    · cases h
  split at h
  · have : k = 3 := by omega
    subst this
    split at h
    · cases h
    · split at h
      · exact .inr ⟨_, (Option.some.inj h).symm⟩
      · cases h
  split at h
  · have : k = 4 := by omega
    subst this
    split at h
    · cases h
    · split at h
      · exact .inr ⟨_, (Option.some.inj h).symm⟩
      · cases h
  split at h
  · split at h
    · rw [← Option.some.inj h]
      split
      · exact .inl (List.append_nil _)
      · exact .inr ⟨_, rfl⟩
    · cases h
  split at h
  · exact .inl (Option.some.inj h).symm
  · cases h
theorem vb_four : ∀ k : Fin 10, k.val ≠ 0 → (vb k.val).length = 4 ∧ (∀ c ∈ vb k.val, 65 ≤ c ∧ c ≤ 90) := by decide
theorem grB_low {c : UInt8} (h : 65 ≤ c ∧ c ≤ 90) : grB (c + 32) = c ∧ ((c + 32) == 32) = false := by
  have h1 := UInt8.le_iff_toNat_le.1 h.1
  have h2 := UInt8.le_iff_toNat_le.1 h.2
  rw [show (65 : UInt8).toNat = 65 from rfl] at h1
  rw [show (90 : UInt8).toNat = 90 from rfl] at h2
  have h3 : (c + 32).toNat = c.toNat + 32 := by
    rw [UInt8.toNat_add, show (32 : UInt8).toNat = 32 from rfl]; omega
  refine ⟨?_, ?_⟩
  · rw [grB, if_pos]
    · apply UInt8.toNat_inj.1
      rw [UInt8.toNat_sub_of_le _ _ (UInt8.le_iff_toNat_le.2 (by rw [h3, show (32 : UInt8).toNat = 32 from rfl]; omega)), h3, show (32 : UInt8).toNat = 32 from rfl]
      omega
    · exact ⟨UInt8.le_iff_toNat_le.2 (by rw [h3, show (97 : UInt8).toNat = 97 from rfl]; omega), UInt8.le_iff_toNat_le.2 (by rw [h3, show (122 : UInt8).toNat = 122 from rfl]; omega)⟩
  · refine beq_false_of_ne fun e => ?_
    rw [e, show (32 : UInt8).toNat = 32 from rfl] at h3
    omega
theorem grB_great {c : UInt8} (h : 65 ≤ c ∧ c ≤ 90) : grB c = c ∧ (c == 32) = false := by
  have h1 := UInt8.le_iff_toNat_le.1 h.1
  have h2 := UInt8.le_iff_toNat_le.1 h.2
  rw [show (65 : UInt8).toNat = 65 from rfl] at h1
  rw [show (90 : UInt8).toNat = 90 from rfl] at h2
  refine ⟨?_, ?_⟩
  · rw [grB, if_neg]
    rintro ⟨h3, _⟩
    have := UInt8.le_iff_toNat_le.1 h3
    rw [show (97 : UInt8).toNat = 97 from rfl] at this
    omega
  · refine beq_false_of_ne fun e => ?_
    rw [e, show (32 : UInt8).toNat = 32 from rfl] at h1
    omega
/-- Letters of a word made small, some of them. -/
def lowF : List Bool → List UInt8 → List UInt8
  | [], l => l
  | _ :: _, [] => []
  | z :: zs, c :: l => (if z then c + 32 else c) :: lowF zs l
theorem low_gr : ∀ (zs : List Bool) (v : List UInt8), (∀ c ∈ v, 65 ≤ c ∧ c ≤ 90) → grL (lowF zs v) = grL v ∧ (∀ c ∈ lowF zs v, (!(c == 32)) = true)
  | [], v, h => ⟨rfl, fun c hc => by rw [lowF] at hc; rw [(grB_great (h c hc)).2]; rfl⟩
  | _ :: _, [], _ => ⟨rfl, fun c hc => by rw [lowF] at hc; cases hc⟩
  | z :: zs, c :: v, h => by
    obtain ⟨i1, i2⟩ := low_gr zs v fun d hd => h d (List.mem_cons_of_mem _ hd)
    have hc := h c (List.mem_cons_self ..)
    have g1 : grB (if z = true then c + 32 else c) = grB c ∧ ((if z = true then c + 32 else c) == 32) = false := by
      cases z with
      | true => exact ⟨by rw [if_pos rfl, (grB_low hc).1, (grB_great hc).1], (grB_low hc).2⟩
      | false => exact ⟨rfl, (grB_great hc).2⟩
    refine ⟨?_, fun d hd => ?_⟩
    · rw [lowF, grL, List.map_cons, g1.1, grL, List.map_cons]
      rw [grL, grL] at i1
      rw [i1]
    · rw [lowF] at hd
      rcases List.mem_cons.1 hd with rfl | hd
      · rw [g1.2]; rfl
      · exact i2 d hd
theorem wrd_rst (v r : List UInt8) (hv : ∀ c ∈ v, (!(c == 32)) = true) (hr : r = [] ∨ ∃ t, r = 32 :: t) : wrd (v ++ r) = v ∧ rst (v ++ r) = r := by
  induction v with
  | nil =>
    rcases hr with rfl | ⟨t, rfl⟩
    · exact ⟨rfl, rfl⟩
    · exact ⟨rfl, rfl⟩
  | cons c v ih =>
    obtain ⟨i1, i2⟩ := ih fun d hd => hv d (List.mem_cons_of_mem _ hd)
    have hc := hv c (List.mem_cons_self ..)
    rw [wrd] at i1
    rw [rst] at i2
    exact ⟨by rw [List.cons_append, wrd, List.takeWhile_cons, if_pos hc, i1], by rw [List.cons_append, rst, List.dropWhile_cons, if_pos hc, i2]⟩
/-- In which letters a verb is written, and how many spaces stand behind, doesn't matter. -/
theorem par_letters {c : CmdA} {w : List UInt8} (h : lineC c = some w) (hv : 1 ≤ c.verb ∧ c.verb ≤ 9) (zs : List Bool) (n : Nat) :
    parC (lowF zs (w.take 4) ++ w.drop 4 ++ List.replicate n 32) = parC w ∧ vbN (lowF zs (w.take 4) ++ w.drop 4 ++ List.replicate n 32) = vbN w ∧ vbN w ≠ 0 := by
  obtain ⟨k, hk, h1, h2, hw⟩ := line_verb h hv
  obtain ⟨hl, hc⟩ := vb_four ⟨k, by omega⟩ (by show k ≠ 0; omega)
  simp only at hl hc
  have hcs : ∀ c ∈ vb k, (!(c == 32)) = true := fun c hm => by rw [(grB_great (hc c hm)).2]; rfl
  obtain ⟨r, hr, hwr⟩ : ∃ r, (r = [] ∨ ∃ t, r = 32 :: t) ∧ w = vb k ++ r := by
    rcases hw with rfl | ⟨t, rfl⟩
    · exact ⟨[], .inl rfl, (List.append_nil _).symm⟩
    · exact ⟨32 :: t, .inr ⟨t, rfl⟩, rfl⟩
  have ht : w.take 4 = vb k := by rw [hwr, List.take_left' hl]
  have hd : w.drop 4 = r := by rw [hwr, List.drop_left' hl]
  obtain ⟨g1, g2⟩ := low_gr zs (vb k) hc
  have hr2 : r ++ List.replicate n 32 = [] ∨ ∃ t, r ++ List.replicate n 32 = 32 :: t := by
    rcases hr with rfl | ⟨t, rfl⟩
    · cases n with
      | zero => exact .inl rfl
      | succ n => exact .inr ⟨_, by rw [List.nil_append, List.replicate_succ]⟩
    · exact .inr ⟨_, rfl⟩
  obtain ⟨a1, a2⟩ := wrd_rst (vb k) r hcs hr
  obtain ⟨b1, b2⟩ := wrd_rst (lowF zs (vb k)) (r ++ List.replicate n 32) g2 hr2
  have hvn : vbN w = k := by
    rw [vbN, hwr, a1]; exact (vb_facts ⟨k, by omega⟩ (by show k ≠ 0; omega)).1
  have hvn2 : vbN (lowF zs (vb k) ++ (r ++ List.replicate n 32)) = vbN w := by rw [vbN, vbN, b1, g1, hwr, a1]
  rw [ht, hd, List.append_assoc]
  refine ⟨?_, hvn2, by omega⟩
  rw [parC, parC, hvn2, b2, trL_spaces, hwr, a2]

/-- Replies. -/
theorem num_three {n : Nat} (h1 : 200 ≤ n) (h2 : n ≤ 599) : (numL n).length = 3 := by
  have h3 := numL_len 2 n (by show n < 1000; omega)
  rw [numL_big (by omega), numL_big (by omega), numL_small (by omega)]
  rfl
theorem rep_ne {n : List UInt8} {ls : List (List UInt8)} (h : ls ≠ []) : repT n ls ≠ [] := by
  cases ls with
  | nil => exact absurd rfl h
  | cons x l =>
    cases l with
    | nil => exact List.cons_ne_nil _ _
    | cons y l => exact List.cons_ne_nil _ _
theorem rep_len (n : List UInt8) : ∀ ls : List (List UInt8), (repT n ls).length = ls.length
  | [] => rfl
  | [_] => rfl
  | x :: y :: l => by rw [repT, List.length_cons, rep_len n (y :: l)]; rfl
theorem rep_drop {n : List UInt8} (hn : n.length = 3) : ∀ ls : List (List UInt8), (repT n ls).map (·.drop 4) = ls
  | [] => rfl
  | [x] => by
    rw [repT, List.map_cons, List.map_nil, show n ++ 32 :: x = (n ++ [32]) ++ x by simp, List.drop_left' (by simp [hn])]
  | x :: y :: l => by
    rw [repT, List.map_cons, rep_drop hn (y :: l), show n ++ 45 :: x = (n ++ [45]) ++ x by simp, List.drop_left' (by simp [hn])]
theorem cod_rep {n : Nat} (h1 : 200 ≤ n) (h2 : n ≤ 599) : ∀ (ls : List (List UInt8)) (m : Nat), codF (repT (numL n) ls) m = some (if ls = [] then m else n) := by
  have h3 := num_three h1 h2
  have hs := sizC_num (n := n) (by omega)
  intro ls
  induction ls with
  | nil => intro m; rfl
  | cons x l ih =>
    intro m
    rw [if_neg (List.cons_ne_nil _ _)]
    cases l with
    | nil =>
      rw [repT, codF, if_neg (by rw [List.length_append, List.length_cons]; omega), List.take_left' h3, hs]
      rfl
    | cons y l =>
      rw [repT, codF, if_neg (by rw [List.length_append, List.length_cons]; omega), List.take_left' h3, hs]
      show codF (repT (numL n) (y :: l)) n = _
      rw [ih]; rfl
/-- A reply's lines are read as it. -/
theorem red_rep {n : Nat} (h1 : 200 ≤ n) (h2 : n ≤ 599) {ls w : List (List UInt8)} (h : repL n ls = some w) : redL w = some (n, ls) := by
  have hr := h
  unfold repL at h
  split at h
  · rename_i hc
    have hw := (Option.some.inj h).symm
    rw [redL, hw, cod_rep h1 h2, if_neg hc.1]
    simp only
    rw [rep_drop (num_three h1 h2), if_pos ⟨h1, h2, by rw [hr, hw]⟩]
  · cases h
/-- And are whole. -/
theorem who_rep {n : List UInt8} (hn : n.length = 3) : ∀ (ls : List (List UInt8)), ls ≠ [] → ∀ (more : List (List UInt8)) (k : Nat), whoL (repT n ls ++ more) k = k + ls.length
  | [], h, _, _ => absurd rfl h
  | [x], _, more, k => by
    rw [repT, List.singleton_append, whoL, if_pos]
    · rfl
    · exact ⟨by rw [List.length_append, List.length_cons]; omega, by rw [List.getElem?_append_right (by omega), hn]; rfl⟩
  | x :: y :: l, _, more, k => by
    rw [repT, List.cons_append, whoL, if_neg, who_rep hn (y :: l) (List.cons_ne_nil _ _) more (k + 1)]
    · simp only [List.length_cons]; omega
    · rintro ⟨_, h⟩
      rw [List.getElem?_append_right (by omega), hn] at h
      cases h
theorem rep_init (n : List UInt8) : ∀ ls : List (List UInt8), ls ≠ [] → (repT n ls).take (ls.length - 1) = (ls.take (ls.length - 1)).map fun x => n ++ 45 :: x
  | [], h => absurd rfl h
  | [x], _ => rfl
  | x :: y :: l, _ => by
    have := rep_init n (y :: l) (List.cons_ne_nil _ _)
    simp only [List.length_cons, Nat.add_sub_cancel] at this ⊢
    rw [repT, List.take_succ_cons, this, List.take_succ_cons, List.map_cons]
theorem who_hyph {n : List UInt8} (hn : n.length = 3) : ∀ (ls : List (List UInt8)) (k : Nat), whoL (ls.map fun x => n ++ 45 :: x) k = 0
  | [], _ => rfl
  | x :: l, k => by
    rw [List.map_cons, whoL, if_neg, who_hyph hn l]
    rintro ⟨_, h⟩
    rw [List.getElem?_append_right (by omega), hn] at h
    cases h
theorem rep_space (n : List UInt8) : ∀ ls : List (List UInt8), ls ≠ [] → ∃ x, (repT n ls).getLast? = some (n ++ 32 :: x)
  | [], h => absurd rfl h
  | [x], _ => ⟨x, rfl⟩
  | x :: y :: l, _ => by
    obtain ⟨z, hz⟩ := rep_space n (y :: l) (List.cons_ne_nil _ _)
    refine ⟨z, ?_⟩
    rw [repT]
    have hne : repT n (y :: l) ≠ [] := rep_ne (List.cons_ne_nil _ _)
    cases hr : repT n (y :: l) with
    | nil => exact absurd hr hne
    | cons a t => rw [hr] at hz; rw [List.getLast?_cons_cons]; exact hz
theorem hyph_last (n : List UInt8) (ls : List (List UInt8)) (h : ls ≠ []) : ∃ x, (ls.map fun x => n ++ 45 :: x).getLast? = some (n ++ 45 :: x) := by
  rw [List.getLast?_map]
  cases hl : ls.getLast? with
  | none => exact absurd (List.getLast?_eq_none_iff.1 hl) h
  | some x => exact ⟨x, rfl⟩
/-- One line less isn't a reply. -/
theorem red_less {n : Nat} (h1 : 200 ≤ n) (h2 : n ≤ 599) (ls : List (List UInt8)) : redL (ls.map fun x => numL n ++ 45 :: x) = none := by
  have h3 := num_three h1 h2
  have hs := sizC_num (n := n) (by omega)
  have hc : ∀ (ls : List (List UInt8)) (m : Nat), codF (ls.map fun x => numL n ++ 45 :: x) m = some (if ls = [] then m else n) := fun ls => by
    induction ls with
    | nil => intro m; rfl
    | cons x l ih =>
      intro m
      rw [List.map_cons, codF, if_neg (by rw [List.length_append, List.length_cons]; omega), List.take_left' h3, hs, if_neg (List.cons_ne_nil _ _)]
      show codF (l.map _) n = _
      rw [ih]; split <;> rfl
  rw [redL, hc]
  simp only
  by_cases hl : ls = []
  · rw [if_pos hl, if_neg (by omega)]
  · rw [if_neg hl, if_neg]
    rintro ⟨_, _, h⟩
    unfold repL at h
    split at h
    · rename_i hh
      have he := Option.some.inj h
      obtain ⟨x, hx⟩ := rep_space (numL n) _ hh.1
      obtain ⟨y, hy⟩ := hyph_last (numL n) ls hl
      rw [he, hy] at hx
      have := Option.some.inj hx
      have := List.append_cancel_left this
      injection this with h4
      exact absurd h4 (by decide)
    · cases h
end Go.Proofs.YtahbbnimoogapaaGreatDoor
namespace Go.Proofs.YtahbbnimoogapaaGreatDoor
open Go.RowKit

theorem let_gr (c : UInt8) : grB (smB c) = grB c ∧ smB (grB c) = smB c := by
  revert c
  have : ∀ n : Fin 256, grB (smB (UInt8.ofNat n)) = grB (UInt8.ofNat n) ∧ smB (grB (UInt8.ofNat n)) = smB (UInt8.ofNat n) := by decide +kernel
  intro c
  have h := this ⟨c.toNat, c.toNat_lt⟩
  simpa using h
theorem gr_smL (l : List UInt8) : grL (smL l) = grL l := by
  rw [grL, smL, List.map_map, grL]
  exact List.map_congr_left fun c _ => (let_gr c).1
theorem sm_grL (l : List UInt8) : smL (grL l) = smL l := by
  rw [smL, grL, List.map_map, smL]
  exact List.map_congr_left fun c _ => (let_gr c).2
/-- Texts are the same in small letters just if they are in great ones. -/
theorem sm_gr (a b : List UInt8) : smL a = smL b ↔ grL a = grL b := by
  constructor
  · intro h; rw [← gr_smL a, h, gr_smL]
  · intro h; rw [← sm_grL a, h, sm_grL]
theorem sm_great {a b : List UInt8} (hb : grL b = b) : smL a = smL b ↔ grL a = b := by rw [sm_gr, hb]
/-- Parted at the first space. -/
theorem wrd_all (l : List UInt8) : wrd l ++ rst l = l := List.takeWhile_append_dropWhile
theorem wrd_no (l : List UInt8) : ∀ c ∈ wrd l, (!(c == 32)) = true := fun c hc => by
  have := List.all_takeWhile (p := fun c : UInt8 => !(c == 32)) (l := l)
  exact List.all_eq_true.1 this c hc
theorem rst_head (l : List UInt8) : rst l = [] ∨ ∃ t, rst l = 32 :: t := by
  unfold rst
  induction l with
  | nil => exact .inl rfl
  | cons c l ih =>
    rw [List.dropWhile_cons]
    by_cases h : c = 32
    · subst h
      rw [if_neg (by decide)]
      exact .inr ⟨l, rfl⟩
    · rw [if_pos (by rw [beq_false_of_ne h]; rfl)]
      exact ih
theorem rst_drop (l : List UInt8) : rst l = l.drop (wrd l).length := by
  have h := congrArg (List.drop (wrd l).length) (wrd_all l)
  rwa [List.drop_left] at h
theorem wrd_len (l : List UInt8) : (wrd l).length ≤ l.length := by
  have := congrArg List.length (wrd_all l)
  rw [List.length_append] at this
  omega
theorem spL_len (l : List UInt8) : (spL l).length ≤ l.length := by
  have := congrArg List.length (List.takeWhile_append_dropWhile (p := fun c : UInt8 => c == 32) (l := l))
  rw [List.length_append] at this
  show (l.dropWhile fun c => c == 32).length ≤ _
  omega
theorem spL_less {l : List UInt8} (h : l.head? = some 32) : (spL l).length < l.length := by
  cases l with
  | nil => cases h
  | cons c t =>
    obtain rfl : c = 32 := Option.some.inj h
    rw [spL_cons]
    have := spL_len t
    simp only [List.length_cons]; omega
theorem spL_suf (l : List UInt8) : ∃ p, l = p ++ spL l := ⟨l.takeWhile (· == 32), List.takeWhile_append_dropWhile.symm⟩
theorem suf_last {p r : List UInt8} (h : r ≠ []) : (p ++ r).getLast? = r.getLast? := gl_app h
/-- What ends in no space, from a place on. -/
theorem last_suf {l p r : List UInt8} (hl : l.getLast? ≠ some 32) (h : l = p ++ r) : r.getLast? ≠ some 32 := by
  by_cases hr : r = []
  · subst hr; simp
  · rwa [h, gl_app hr] at hl
theorem rtL_cons (c : UInt8) (t : List UInt8) : rtL (c :: t) = if rtL t = [] then (if c == 32 then [] else [c]) else c :: rtL t := by
  rw [rtL, rtL, List.reverse_cons, List.dropWhile_append]
  cases h : t.reverse.dropWhile (· == 32) with
  | nil =>
    simp only [List.isEmpty_nil, if_true, List.reverse_nil]
    rw [List.dropWhile_cons]
    split <;> rfl
  | cons d u =>
    rw [if_neg (by simp), if_neg (by simp)]
    simp
theorem sp_rt (l : List UInt8) : spL (rtL l) = rtL (spL l) := by
  induction l with
  | nil => rfl
  | cons c t ih =>
    by_cases hc : c = 32
    · subst hc
      rw [spL_cons, rtL_cons]
      split
      · rename_i h
        rw [h] at ih
        rw [if_pos (by decide), ← ih]
      · rw [spL_cons, ih]
    · have h1 : (c :: t).head? ≠ some 32 := by simpa using hc
      rw [spL_id h1, spL_id (rtL_head h1)]
theorem rtL_app (a b : List UInt8) (ha : a.getLast? ≠ some 32) : rtL (a ++ b) = a ++ rtL b := by
  induction a with
  | nil => rfl
  | cons c t ih =>
    rw [List.cons_append, rtL_cons]
    by_cases ht : t = []
    · subst ht
      rw [List.nil_append]
      have hc : (c == 32) = false := beq_false_of_ne fun e => ha (by rw [e]; rfl)
      split
      · rename_i h
        rw [h, hc]; rfl
      · rfl
    · have h2 : t.getLast? ≠ some 32 := last_suf (p := [c]) ha rfl
      rw [ih h2, if_neg (by simp [ht])]
      rfl
theorem wrd_last (l : List UInt8) : (wrd l).getLast? ≠ some 32 := fun h => by
  have := wrd_no l 32 (List.mem_of_getLast? h)
  cases this
/-- A line without the spaces at its end: its first word; what follows it. -/
theorem wrd_rt (l : List UInt8) : wrd (rtL l) = wrd l ∧ spL (rst (rtL l)) = trL (rst l) := by
  have h1 : rtL l = wrd l ++ rtL (rst l) := by
    have h := rtL_app (wrd l) (rst l) (wrd_last l)
    rwa [wrd_all] at h
  have h2 : rtL (rst l) = [] ∨ ∃ t, rtL (rst l) = 32 :: t := by
    rcases rst_head l with h | ⟨t, h⟩
    · rw [h]; exact .inl rfl
    · rw [h, rtL_cons]
      split
      · rw [if_pos (by decide)]; exact .inl rfl
      · exact .inr ⟨_, rfl⟩
  have h3 := wrd_rst (wrd l) (rtL (rst l)) (wrd_no l) h2
  rw [h1]
  exact ⟨h3.1, by rw [h3.2, sp_rt]; rfl⟩
theorem vbN_rt (l : List UInt8) : vbN (rtL l) = vbN l := by rw [vbN, (wrd_rt l).1]; rfl
/-- What stands behind a verb, no spaces ahead, as it is taken. -/
def sayC (v : Nat) (r : List UInt8) : Option (CmdA × List UInt8) :=
  if v = 1 ∨ v = 2 then (if domB (wrd r) = true then some (⟨v, smL (wrd r), ⟨[], []⟩, -1, false⟩, rst r) else none)
  else if v = 3 then match patL r froW with
    | none => none
    | some p => if p.2 ≠ [] ∧ p.2[0]? ≠ some 32 then some (⟨3, [], p.1, -1, false⟩, p.2) else match maF (wdF [] p.2) ⟨-1, false, false⟩ with
      | none => none
      | some s => some (⟨3, [], p.1, s.size, s.eight⟩, [])
  else if v = 4 then match patL r toW with
    | none => none
    | some p => some (⟨4, [], p.1, -1, false⟩, p.2)
  else if v = 7 ∨ v = 9 then some (⟨v, r, ⟨[], []⟩, -1, false⟩, [])
  else some (⟨v, [], ⟨[], []⟩, -1, false⟩, r)
theorem dom_wrd {l : List UInt8} (h : domB l = true) : wrd l = l ∧ rst l = [] := by
  have h1 : ∀ c ∈ l, (!(c == 32)) = true := fun c hc => by
    have := dom_bytes h c hc
    by_cases e : c = 32
    · subst e; exact absurd this (by decide)
    · rw [beq_false_of_ne e]; rfl
  have := wrd_rst l [] h1 (.inl rfl)
  rwa [List.append_nil] at this
theorem non_zero (v : Int) (t : List UInt8) : nonB ⟨v, t, ⟨[], []⟩, -1, false⟩ = true := rfl
theorem loc_path {b : BoxA} {p : List UInt8} (h : pathL b = some p) (hl : b.loc ≠ []) : p ≠ [60, 62] := by
  rw [pathL] at h
  have : 0 < b.loc.length := List.length_pos_iff.2 hl
  rw [if_neg (by omega)] at h
  split at h
  · rw [← Option.some.inj h]
    intro e
    have hw : wrL b ≠ [] := by
      rw [wrL]; split
      · intro e2; rw [List.append_eq_nil_iff] at e2; exact hl e2.1
      · exact List.cons_ne_nil _ _
    have e3 := (List.cons.inj e).2
    have h4 := congrArg List.length e3
    simp only [List.length_append, List.length_cons, List.length_nil] at h4
    have h5 := List.length_pos_iff.2 hw
    omega
  · cases h
/-- A verb's command, taken and held against what may be said. -/
theorem say_par {v : Nat} (hv : 1 ≤ v ∧ v ≤ 9) {r : List UInt8} (hr : trL r = r) :
    bodC v r = match sayC v r with
      | none => none
      | some p => if p.2 = [] ∧ lineC p.1 ≠ none then some p.1 else none := by
  rw [bodC, sayC]
  by_cases h12 : v = 1 ∨ v = 2
  · rw [if_pos h12, if_pos h12]
    by_cases hd : domB r = true
    · obtain ⟨e1, e2⟩ := dom_wrd hd
      rw [e1, e2, if_pos hd, if_pos hd]
      simp only
      rw [if_pos]
      refine ⟨by trivial, ?_⟩
      rw [lineC, if_pos (show (v : Int) = 1 ∨ (v : Int) = 2 by omega), if_pos]
      · simp
      · exact ⟨by show domB (smL r) = true; rw [dom_sm]; exact hd, sm_sm r, rfl⟩
    · rw [if_neg hd]
      by_cases hw : domB (wrd r) = true
      · rw [if_pos hw]
        simp only
        rw [if_neg]
        rintro ⟨h, _⟩
        have := wrd_all r
        rw [h, List.append_nil] at this
        rw [this] at hw
        exact hd hw
      · rw [if_neg hw]
  rw [if_neg h12, if_neg h12]
  by_cases h3 : v = 3
  · subst h3
    rw [if_pos rfl, if_pos rfl, maiC]
    cases hp : patL r froW with
    | none => rfl
    | some p =>
      simp only
      by_cases hc : p.2 ≠ [] ∧ p.2[0]? ≠ some 32
      · rw [if_pos hc, if_pos hc]
        simp only
        rw [if_neg fun e => hc.1 e.1]
      · rw [if_neg hc, if_neg hc]
        cases hm : maF (wdF [] p.2) ⟨-1, false, false⟩ with
        | none => rfl
        | some s =>
          simp only
          obtain ⟨b, q⟩ := p
          obtain ⟨x, hx⟩ := pat_may hp
          have hs := maF_fit _ _ _ hm ⟨by decide, by decide⟩
          rw [if_pos]
          refine ⟨by trivial, ?_⟩
          rw [lineC, if_neg (by simp), if_pos rfl]
          simp only [hx]
          rw [if_pos ⟨trivial, hs.1, hs.2⟩]
          simp
  rw [if_neg h3, if_neg h3]
  by_cases h4 : v = 4
  · subst h4
    rw [if_pos rfl, if_pos rfl]
    cases hp : patL r toW with
    | none => rfl
    | some p =>
      simp only
      obtain ⟨b, q⟩ := p
      obtain ⟨x, hx⟩ := pat_may hp
      have hl : lineC ⟨4, [], b, -1, false⟩ = if x ≠ [60, 62] ∧ ([] : List UInt8) = [] ∧ false = false then some (vb 4 ++ 32 :: (toW ++ x)) else none := by
        rw [lineC, if_neg (by simp), if_neg (by simp), if_pos rfl]
        simp only [hx]
      by_cases hq : q = []
      · by_cases hb : b.loc = []
        · rw [if_neg fun e => e.2 hb, if_neg]
          rintro ⟨_, h⟩
          apply h
          rw [hl, if_neg]
          rintro ⟨h60, _⟩
          exact path_more hx h60 hb
        · rw [if_pos ⟨hq, hb⟩, if_pos]
          refine ⟨hq, ?_⟩
          rw [hl, if_pos ⟨loc_path hx hb, rfl, rfl⟩]
          simp
      · rw [if_neg fun e => hq e.1, if_neg fun e => hq e.1]
  rw [if_neg h4, if_neg h4]
  by_cases h79 : v = 7 ∨ v = 9
  · rw [if_pos h79, if_pos h79]
    simp only
    have hl : lineC ⟨v, r, ⟨[], []⟩, -1, false⟩ = if prB r = true ∧ trL r = r ∧ nonB ⟨v, r, ⟨[], []⟩, -1, false⟩ = true ∧ ((v : Int) = 9 → r ≠ []) then some (vb (v : Int).toNat ++ if r = [] then [] else 32 :: r) else none := by
      rw [lineC, if_neg (by simp only; omega), if_neg (by simp only; omega), if_neg (by simp only; omega), if_pos (by simp only; omega)]
    by_cases h : prB r = true ∧ (v = 9 → r ≠ [])
    · rw [if_pos h, if_pos]
      refine ⟨trivial, ?_⟩
      rw [hl, if_pos ⟨h.1, hr, rfl, fun e => h.2 (by omega)⟩]
      simp
    · rw [if_neg h, if_neg]
      rintro ⟨_, h2⟩
      apply h2
      rw [hl, if_neg]
      rintro ⟨a, _, _, b⟩
      exact h ⟨a, fun e => b (by omega)⟩
  · rw [if_neg h79, if_neg h79]
    simp only
    by_cases h : r = []
    · rw [if_pos h, if_pos]
      refine ⟨h, ?_⟩
      rw [lineC, if_neg (by simp only; omega), if_neg (by simp only; omega), if_neg (by simp only; omega), if_neg (by simp only; omega), if_pos ⟨rfl, rfl⟩]
      simp
    · rw [if_neg h, if_neg fun e => h e.1]
/-- A line's command by what is taken of it. -/
theorem par_say {l : List UInt8} (hv : vbN l ≠ 0) :
    parC l = match sayC (vbN (rtL l)) (spL (rst (rtL l))) with
      | none => none
      | some p => if p.2 = [] ∧ lineC p.1 ≠ none then some p.1 else none := by
  rw [parC, vbN_rt, (wrd_rt l).2]
  exact say_par (v := vbN l) ⟨by omega, vbF_le 9 _⟩ (trL_trL _)
end Go.Proofs.YtahbbnimoogapaaGreatDoor
namespace Go.Proofs.YtahbbnimoogapaaGreatDoor
open Go.RowKit

def bodP : List UInt8 := [66, 79, 68, 89, 61]
def eigW : List UInt8 := [56, 66, 73, 84, 77, 73, 77, 69]
def sevW : List UInt8 := [55, 66, 73, 84]
theorem grL_len (l : List UInt8) : (grL l).length = l.length := by simp [grL]
theorem grL_take (n : Nat) (l : List UInt8) : grL (l.take n) = (grL l).take n := by simp [grL]
theorem grL_drop (n : Nat) (l : List UInt8) : grL (l.drop n) = (grL l).drop n := by simp [grL]
theorem grL_app (a b : List UInt8) : grL (a ++ b) = grL a ++ grL b := by simp [grL]
theorem beg_iff {l w : List UInt8} : begB l w = true ↔ w.length ≤ l.length ∧ grL (l.take w.length) = w := by
  rw [begB, Bool.and_eq_true, decide_eq_true_eq, decide_eq_true_eq]
theorem gr_space {c : UInt8} (h : grB c = 32) : c = 32 := by
  revert c
  have : ∀ n : Fin 256, grB (UInt8.ofNat n) = 32 → UInt8.ofNat n = 32 := by decide +kernel
  intro c
  have h := this ⟨c.toNat, c.toNat_lt⟩
  simpa using h
theorem wrd_app (p r : List UInt8) (hp : ∀ c ∈ p, (!(c == 32)) = true) : wrd (p ++ r) = p ++ wrd r ∧ rst (p ++ r) = rst r := by
  induction p with
  | nil => exact ⟨rfl, rfl⟩
  | cons c t ih =>
    obtain ⟨h1, h2⟩ := ih fun x hx => hp x (List.mem_cons_of_mem _ hx)
    have hc := hp c (List.mem_cons_self ..)
    constructor
    · show (c :: (t ++ r)).takeWhile (fun c => !(c == 32)) = _
      rw [List.takeWhile_cons, if_pos hc]
      exact congrArg (c :: ·) h1
    · show (c :: (t ++ r)).dropWhile (fun c => !(c == 32)) = _
      rw [List.dropWhile_cons, if_pos hc]
      exact h2
/-- A word that is looked for begins a text just if it begins the text's first word. -/
theorem beg_wrd {l w : List UInt8} (hw : ∀ c ∈ w, (!(c == 32)) = true) : begB l w = begB (wrd l) w ∧ (begB l w = true → wrd (l.drop w.length) = (wrd l).drop w.length ∧ rst (l.drop w.length) = rst l) := by
  have key : begB l w = true → (∀ c ∈ l.take w.length, (!(c == 32)) = true) ∧ (l.take w.length).length = w.length := by
    intro h
    obtain ⟨h1, h2⟩ := beg_iff.1 h
    refine ⟨fun c hc => ?_, by rw [List.length_take]; omega⟩
    by_cases e : c = 32
    · subst e
      have : (32 : UInt8) ∈ w := by
        rw [← h2]
        exact List.mem_map.2 ⟨32, hc, by decide⟩
      exact absurd (hw 32 this) (by decide)
    · rw [beq_false_of_ne e]; rfl
  constructor
  · cases h : begB l w with
    | true =>
      obtain ⟨k1, k2⟩ := key h
      obtain ⟨h1, h2⟩ := beg_iff.1 h
      have e := (wrd_app (l.take w.length) (l.drop w.length) k1).1
      rw [List.take_append_drop] at e
      symm
      rw [beg_iff, e]
      refine ⟨by rw [List.length_append, k2]; omega, ?_⟩
      rw [List.take_append_of_le_length (by omega), List.take_of_length_le (by omega)]
      exact h2
    | false =>
      cases hb : begB (wrd l) w with
      | false => rfl
      | true =>
        obtain ⟨h1, h2⟩ := beg_iff.1 hb
        have hl := wrd_len l
        have : begB l w = true := by
          rw [beg_iff]
          refine ⟨by omega, ?_⟩
          have e := List.take_append_of_le_length (l₂ := rst l) h1
          rw [wrd_all] at e
          rw [e]; exact h2
        rw [h] at this; cases this
  · intro h
    obtain ⟨k1, k2⟩ := key h
    obtain ⟨e1, e2⟩ := wrd_app (l.take w.length) (l.drop w.length) k1
    rw [List.take_append_drop] at e1 e2
    rw [e1, e2]
    refine ⟨?_, rfl⟩
    have h3 := List.drop_left (l₁ := l.take w.length) (l₂ := wrd (l.drop w.length))
    rw [k2] at h3
    exact h3.symm
theorem wdF_go (l : List UInt8) : ∀ w, w ≠ [] → wdF w l = (w ++ wrd l) :: wdF [] (rst l) := by
  induction l with
  | nil => intro w hw; rw [wdF, if_neg hw, wrd, rst]; simp [wdF]
  | cons c t ih =>
    intro w hw
    rw [wdF]
    by_cases hc : c = 32
    · subst hc
      rw [if_pos rfl, if_neg hw, wrd, rst, List.takeWhile_cons, List.dropWhile_cons, if_neg (by decide), if_neg (by decide), List.append_nil, wdF, if_pos rfl, if_pos rfl]
    · have h1 : (!(c == 32)) = true := by rw [beq_false_of_ne hc]; rfl
      rw [if_neg hc, ih _ (by simp)]
      have e1 : wrd (c :: t) = c :: wrd t := by rw [wrd, List.takeWhile_cons, if_pos h1]; rfl
      have e2 : rst (c :: t) = rst t := by rw [rst, List.dropWhile_cons, if_pos h1]; rfl
      rw [e1, e2]; simp
theorem wdF_spL (l : List UInt8) : wdF [] l = wdF [] (spL l) := by
  induction l with
  | nil => rfl
  | cons c t ih =>
    by_cases hc : c = 32
    · subst hc
      rw [spL_cons, ← ih, wdF, if_pos rfl, if_pos rfl]
    · rw [spL_id (by simpa using hc)]
/-- The next word. -/
theorem wdF_next {r : List UInt8} (h1 : r.head? = some 32) (h2 : r.getLast? ≠ some 32) :
    spL r ≠ [] ∧ (spL r).head? ≠ some 32 ∧ wdF [] r = wrd (spL r) :: wdF [] (rst (spL r)) ∧ (rst (spL r)).getLast? ≠ some 32 ∧ (rst (spL r) = [] ∨ (rst (spL r)).head? = some 32) ∧ (rst (spL r)).length < r.length := by
  obtain ⟨p, hp⟩ := spL_suf r
  have hne : spL r ≠ [] := fun e => by
    have : r = rtL r := (rtL_id h2).symm
    have h3 := sp_rt r
    rw [← this, e] at h3
    cases r with
    | nil => cases h1
    | cons c t =>
      obtain rfl : c = 32 := Option.some.inj h1
      have h4 : ∀ l : List UInt8, spL l = [] → rtL l = [] := fun l => by
        induction l with
        | nil => intro _; rfl
        | cons d u ih =>
          intro hd
          by_cases e2 : d = 32
          · subst e2
            rw [spL_cons] at hd
            rw [rtL_cons, if_pos (ih hd), if_pos (by decide)]
          · rw [spL_id (by simpa using e2)] at hd; cases hd
      have := h4 _ e
      rw [rtL_id h2] at this; cases this
  have hl2 := last_suf h2 hp
  have hh := spL_head r
  have e3 : spL r = wrd (spL r) ++ rst (spL r) := (wrd_all _).symm
  refine ⟨hne, hh, ?_, last_suf hl2 e3, ?_, ?_⟩
  · rw [wdF_spL]
    cases hs : spL r with
    | nil => exact absurd hs hne
    | cons c t =>
      rw [hs] at hh
      have hc : c ≠ 32 := fun e => hh (by rw [e]; rfl)
      have h1 : (!(c == 32)) = true := by rw [beq_false_of_ne hc]; rfl
      rw [wdF, if_neg hc, wdF_go _ _ (by simp)]
      have e1 : wrd (c :: t) = c :: wrd t := by rw [wrd, List.takeWhile_cons, if_pos h1]; rfl
      have e2 : rst (c :: t) = rst t := by rw [rst, List.dropWhile_cons, if_pos h1]; rfl
      rw [e1, e2]; rfl
  · rcases rst_head (spL r) with h | ⟨t, h⟩
    · exact .inl h
    · rw [h]; exact .inr rfl
  · have := spL_less h1
    have h5 := congrArg List.length e3
    rw [List.length_append] at h5
    omega
theorem bod_split {w : List UInt8} : (grL w = bodW ↔ begB w bodP = true ∧ grL (w.drop 5) = eigW) ∧ (grL w = bod7 ↔ begB w bodP = true ∧ grL (w.drop 5) = sevW) := by
  have key : ∀ t : List UInt8, grL w = bodP ++ t ↔ begB w bodP = true ∧ grL (w.drop 5) = t := by
    intro t
    rw [beg_iff]
    show _ ↔ (5 ≤ w.length ∧ grL (w.take 5) = bodP) ∧ _
    constructor
    · intro h
      have hl := congrArg List.length h
      rw [grL_len, List.length_append] at hl
      have h5 : bodP.length = 5 := rfl
      refine ⟨⟨by omega, ?_⟩, ?_⟩
      · rw [grL_take, h]; rfl
      · rw [grL_drop, h]; rfl
    · rintro ⟨⟨_, h1⟩, h2⟩
      rw [← List.take_append_drop 5 w, grL_app, h1, h2]
  exact ⟨key eigW, key sevW⟩
theorem siz_bod {w : List UInt8} (h : begB w sizW = true) : begB w bodP = false := by
  cases h2 : begB w bodP with
  | false => rfl
  | true =>
    have e1 := (beg_iff.1 h).2
    have e2 := (beg_iff.1 h2).2
    have : sizW = bodP := e1.symm.trans e2
    exact absurd this (by decide)
/-- What a next word does: a size; a body; something else. -/
theorem ma_siz {w : List UInt8} {ws : List (List UInt8)} {s : MaS} (h : begB w sizW = true) :
    maF (w :: ws) s = if 0 ≤ s.size then none else match sizC (w.drop 5) with
      | none => none
      | some n => maF ws ⟨n, s.eight, s.body⟩ := by
  rw [maF, if_pos h]
  cases sizC (w.drop 5) with
  | none => simp
  | some n => rfl
theorem ma_bod {w : List UInt8} {ws : List (List UInt8)} {s : MaS} (h : begB w bodP = true) :
    maF (w :: ws) s = if s.body = true then none else if grL (w.drop 5) = eigW then maF ws ⟨s.size, true, true⟩ else if grL (w.drop 5) = sevW then maF ws ⟨s.size, false, true⟩ else none := by
  have hs : ¬ begB w sizW = true := fun e => by rw [siz_bod e] at h; cases h
  rw [maF, if_neg hs]
  obtain ⟨k1, k2⟩ := bod_split (w := w)
  by_cases hb : s.body = true
  · rw [if_pos (.inl hb), if_pos hb]
  rw [if_neg hb]
  by_cases h8 : grL (w.drop 5) = eigW
  · have := k1.2 ⟨h, h8⟩
    rw [if_neg, if_pos h8, decide_eq_true this]
    rintro (e | e)
    · exact hb e
    · exact e.1 this
  rw [if_neg h8]
  have n8 : grL w ≠ bodW := fun e => h8 (k1.1 e).2
  by_cases h7 : grL (w.drop 5) = sevW
  · have := k2.2 ⟨h, h7⟩
    rw [if_neg, if_pos h7, decide_eq_false n8]
    rintro (e | e)
    · exact hb e
    · exact e.2 this
  · rw [if_neg h7, if_pos]
    exact .inr ⟨n8, fun e => h7 (k2.1 e).2⟩
theorem ma_no {w : List UInt8} {ws : List (List UInt8)} {s : MaS} (h1 : begB w sizW = false) (h2 : begB w bodP = false) : maF (w :: ws) s = none := by
  rw [maF, if_neg (by rw [h1]; decide), if_pos]
  refine .inr ⟨fun e => ?_, fun e => ?_⟩
  · rw [(bod_split.1.1 e).1] at h2; cases h2
  · rw [(bod_split.2.1 e).1] at h2; cases h2
end Go.Proofs.YtahbbnimoogapaaGreatDoor
