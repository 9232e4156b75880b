/- addr: the plain functions: letters, labels, domains, local parts. addr: what follows of the plain functions: a path is read as its mailbox. -/
import Derived.Test.YtahbbnimoogapaaGreatDoorM1
namespace Go.Proofs.YtahbbnimoogapaaGreatDoor
open Go.RowKit

/-- A letter, or a digit. -/
def letB (c : UInt8) : Bool := (decide (97 ≤ c) && decide (c ≤ 122)) || (decide (65 ≤ c) && decide (c ≤ 90)) || (decide (48 ≤ c) && decide (c ≤ 57))
def signS : List UInt8 := [33, 35, 36, 37, 38, 39, 42, 43, 45, 47, 61, 63, 94, 95, 96, 123, 124, 125, 126]
def sigB (c : UInt8) : Bool := signS.contains c
def smB (c : UInt8) : UInt8 := if 65 ≤ c ∧ c ≤ 90 then c + 32 else c
def smL (l : List UInt8) : List UInt8 := l.map smB
/-- A text's parts, parted by dots. -/
def partsL : List UInt8 → List (List UInt8)
  | [] => [[]]
  | b :: l => if b = 46 then [] :: partsL l else match partsL l with
    | [] => [[b]]
    | p :: ps => (b :: p) :: ps
theorem partsL_ne (l : List UInt8) : partsL l ≠ [] := by
  cases l with
  | nil => intro h; cases h
  | cons b l =>
    rw [partsL]
    split
    · intro h; cases h
    · split <;> (intro h; cases h)
/-- A label. -/
def labB (p : List UInt8) : Bool := decide (1 ≤ p.length) && decide (p.length ≤ 63) && !(p[0]? == some 45) && !(p[p.length - 1]? == some 45) && p.all fun c => letB c || c == 45
def domB (l : List UInt8) : Bool := (partsL l).all labB && decide (l.length ≤ 255)
def locB (l : List UInt8) : Bool := (l.all fun c => decide (32 ≤ c) && decide (c ≤ 126)) && decide (1 ≤ l.length) && decide (l.length ≤ 64)
/-- An atom's byte. -/
def atB (c : UInt8) : Bool := letB c || sigB c
def plaB (l : List UInt8) : Bool := ((partsL l).all fun p => decide (1 ≤ p.length) && p.all atB) && locB l
/-- A mailbox. -/
structure BoxA where
  loc : List UInt8
  dom : List UInt8
def mayB (b : BoxA) : Bool := domB b.dom && decide (smL b.dom = b.dom) && locB b.loc
/-- In quotes, with a sign ahead of a quote and a sign. -/
def escL : List UInt8 → List UInt8
  | [] => []
  | c :: l => if c = 34 ∨ c = 92 then 92 :: c :: escL l else c :: escL l
def wrL (b : BoxA) : List UInt8 := if plaB b.loc = true then b.loc ++ 64 :: b.dom else 34 :: (escL b.loc ++ 34 :: 64 :: b.dom)
def pathL (b : BoxA) : Option (List UInt8) := if b.loc.length + b.dom.length = 0 then some [60, 62] else if mayB b = true then some (60 :: (wrL b ++ [62])) else none
/-- A domain's byte. -/
def dcB (c : UInt8) : Bool := letB c || c == 45 || c == 46
/-- What stands behind a route; none: there is something else. (n: at most so many domains) -/
def routeF : Nat → List UInt8 → Option (List UInt8)
  | 0, _ => none
  | n + 1, l => if l[0]? = some 64 then
      if domB ((l.drop 1).takeWhile dcB) = true then
        match (l.drop 1).dropWhile dcB with
        | 58 :: r => some r
        | 44 :: 64 :: r => routeF n (64 :: r)
        | _ => none
      else none
    else some l
def routeL (l : List UInt8) : Option (List UInt8) := routeF (l.length + 1) l
/-- In quotes: the bytes up to the end quote, and what stands behind that. -/
def quoL : List UInt8 → Option (List UInt8 × List UInt8)
  | [] => none
  | c :: l => if c = 34 then some ([], l) else if c = 92 then
      match l with
      | [] => none
      | d :: r => (quoL r).map fun p => (d :: p.1, p.2)
    else (quoL l).map fun p => (c :: p.1, p.2)
/-- A local part that stands at the beginning, and what follows. -/
def locL (l : List UInt8) : Option (List UInt8 × List UInt8) :=
  if l[0]? = some 34 then
    match quoL (l.drop 1) with
    | none => none
    | some p => if locB p.1 = true then some p else none
  else if plaB (l.takeWhile fun c => atB c || c == 46) = true then some (l.takeWhile fun c => atB c || c == 46, l.dropWhile fun c => atB c || c == 46) else none
/-- A path at the beginning. -/
def readL (l : List UInt8) : Option (BoxA × List UInt8) :=
  match l with
  | 60 :: 62 :: r => some (⟨[], []⟩, r)
  | 60 :: r => match routeL r with
    | none => none
    | some r2 => match locL r2 with
      | some (x, 64 :: r3) => if domB (r3.takeWhile dcB) = true then
          match r3.dropWhile dcB with
          | 62 :: r4 => some (⟨x, smL (r3.takeWhile dcB)⟩, r4)
          | _ => none
        else none
      | _ => none
  | _ => none
def parseL (l : List UInt8) : Option BoxA := match readL l with
  | some (b, []) => some b
  | _ => none
end Go.Proofs.YtahbbnimoogapaaGreatDoor
namespace Go.Proofs.YtahbbnimoogapaaGreatDoor
open Go.RowKit

theorem parts_mem : ∀ (l : List UInt8), ∀ b ∈ l, b = 46 ∨ ∃ p ∈ partsL l, b ∈ p
  | [], b, h => by cases h
  | a :: l, b, h => by
    rw [partsL]
    rcases List.mem_cons.1 h with rfl | h
    · by_cases hb : b = 46
      · exact .inl hb
      · right
        rw [if_neg hb]
        cases hp : partsL l with
        | nil => exact ⟨[b], List.mem_singleton.2 rfl, List.mem_singleton.2 rfl⟩
        | cons p ps => exact ⟨b :: p, List.mem_cons_self, List.mem_cons_self⟩
    · rcases parts_mem l b h with e | ⟨p, hp, hbp⟩
      · exact .inl e
      · right
        split
        · exact ⟨p, List.mem_cons_of_mem _ hp, hbp⟩
        · cases hpl : partsL l with
          | nil => exact absurd hpl (partsL_ne l)
          | cons q qs =>
            rw [hpl] at hp
            rcases List.mem_cons.1 hp with rfl | hp
            · exact ⟨a :: p, List.mem_cons_self, List.mem_cons_of_mem _ hbp⟩
            · exact ⟨p, List.mem_cons_of_mem _ hp, hbp⟩
theorem dom_bytes {l : List UInt8} (h : domB l = true) : ∀ b ∈ l, dcB b = true := fun b hb => by
  rw [domB, Bool.and_eq_true] at h
  rcases parts_mem l b hb with rfl | ⟨p, hp, hbp⟩
  · decide
  · have h1 := List.all_eq_true.1 h.1 p hp
    simp only [labB, Bool.and_eq_true] at h1
    have h2 := List.all_eq_true.1 h1.2 b hbp
    rw [dcB, h2]
    rfl
theorem pla_bytes {l : List UInt8} (h : plaB l = true) : ∀ b ∈ l, (atB b || b == 46) = true := fun b hb => by
  rw [plaB, Bool.and_eq_true] at h
  rcases parts_mem l b hb with rfl | ⟨p, hp, hbp⟩
  · decide
  · have h1 := List.all_eq_true.1 h.1 p hp
    rw [Bool.and_eq_true] at h1
    rw [List.all_eq_true.1 h1.2 b hbp]
    rfl
theorem pla_first {l : List UInt8} (h : plaB l = true) : ∃ b r, l = b :: r ∧ atB b = true := by
  have h0 := h
  rw [plaB, Bool.and_eq_true] at h
  cases l with
  | nil => exact absurd h.2 (by decide)
  | cons b r =>
    refine ⟨b, r, rfl, ?_⟩
    by_cases hb : b = 46
    · have h1 := h.1
      rw [partsL, if_pos hb, List.all_cons, Bool.and_eq_true] at h1
      exact absurd h1.1 (by decide)
    · have := pla_bytes h0 b List.mem_cons_self
      rcases Bool.or_eq_true _ _ ▸ this with h1 | h1
      · exact h1
      · exact absurd (by simpa using h1) hb
theorem at_no {b : UInt8} (h : atB b = true) : b ≠ 64 ∧ b ≠ 62 ∧ b ≠ 34 := by
  refine ⟨?_, ?_, ?_⟩ <;> (rintro rfl; exact absurd h (by decide))
theorem tw_all {p : UInt8 → Bool} {l : List UInt8} (h : ∀ b ∈ l, p b = true) {c : UInt8} (hc : p c = false) (r : List UInt8) : (l ++ c :: r).takeWhile p = l ∧ (l ++ c :: r).dropWhile p = c :: r := by
  induction l with
  | nil => simp [hc]
  | cons b l ih =>
    have hb := h b List.mem_cons_self
    have := ih fun x hx => h x (List.mem_cons_of_mem _ hx)
    simp only [List.cons_append, List.takeWhile_cons, List.dropWhile_cons, hb, if_true]
    exact ⟨by rw [this.1], this.2⟩

/-- What stands ahead of a written mailbox's domain. -/
def wrP (b : BoxA) : List UInt8 := if plaB b.loc = true then b.loc ++ [64] else 34 :: (escL b.loc ++ [34, 64])
theorem wr_split (b : BoxA) : wrL b = wrP b ++ b.dom := by
  unfold wrL wrP
  split <;> simp
/-- In quotes with signs ahead of some bytes. -/
inductive EscR : List UInt8 → List UInt8 → Prop
  | nil : EscR [] []
  | sign (c : UInt8) {l e : List UInt8} : EscR l e → EscR (c :: l) (92 :: c :: e)
  | plain (c : UInt8) {l e : List UInt8} : c ≠ 34 → c ≠ 92 → EscR l e → EscR (c :: l) (c :: e)
theorem escL_R : ∀ l : List UInt8, EscR l (escL l)
  | [] => .nil
  | c :: l => by
    rw [escL]
    split
    · exact .sign c (escL_R l)
    · rename_i h
      exact .plain c (fun e => h (.inl e)) (fun e => h (.inr e)) (escL_R l)
theorem quoL_end (r : List UInt8) : quoL (34 :: r) = some ([], r) := by rw [quoL.eq_def]; exact if_pos rfl
theorem quoL_sign (d : UInt8) (r : List UInt8) : quoL (92 :: d :: r) = (quoL r).map fun p => (d :: p.1, p.2) := by
  rw [quoL.eq_def]
  dsimp only
  rw [if_neg (by decide), if_pos rfl]
theorem quoL_other {c : UInt8} (h1 : c ≠ 34) (h2 : c ≠ 92) (r : List UInt8) : quoL (c :: r) = (quoL r).map fun p => (c :: p.1, p.2) := by
  rw [quoL.eq_def]
  dsimp only
  rw [if_neg h1, if_neg h2]
theorem quo_esc {l e : List UInt8} (h : EscR l e) (r : List UInt8) : quoL (e ++ 34 :: r) = some (l, r) := by
  induction h with
  | nil => exact quoL_end r
  | sign c _ ih =>
    rw [List.cons_append, List.cons_append, quoL_sign, ih]
    rfl
  | plain c h1 h2 _ ih =>
    rw [List.cons_append, quoL_other h1 h2, ih]
    rfl
/-- A local part, plain, or in quotes. -/
inductive LocW : List UInt8 → List UInt8 → Prop
  | plain {l : List UInt8} : plaB l = true → LocW l l
  | quoted {l e : List UInt8} : locB l = true → EscR l e → LocW l (34 :: (e ++ [34]))
theorem pla_loc {l : List UInt8} (h : plaB l = true) : locB l = true := by rw [plaB, Bool.and_eq_true] at h; exact h.2
theorem LocW.read {l w : List UInt8} (h : LocW l w) (r : List UInt8) : locL (w ++ 64 :: r) = some (l, 64 :: r) := by
  cases h with
  | plain hp =>
    obtain ⟨b, t, rfl, hb⟩ := pla_first hp
    have hn := at_no hb
    have h1 := tw_all (p := fun c => atB c || c == 46) (pla_bytes hp) (c := 64) (by decide) r
    rw [locL, if_neg (by rw [List.cons_append, List.getElem?_cons_zero]; exact fun e => hn.2.2 (Option.some.inj e)), h1.1, if_pos hp, h1.2]
  | quoted hl he =>
    rw [locL, if_pos (by rfl)]
    rw [List.cons_append, List.drop_succ_cons, List.drop_zero, List.append_assoc, List.singleton_append, quo_esc he]
    exact if_pos hl
theorem LocW.first {l w : List UInt8} (h : LocW l w) : ∃ b t, w = b :: t ∧ b ≠ 64 ∧ b ≠ 62 := by
  cases h with
  | plain hp =>
    obtain ⟨b, t, rfl, hb⟩ := pla_first hp
    exact ⟨b, t, rfl, (at_no hb).1, (at_no hb).2.1⟩
  | quoted _ _ => exact ⟨34, _, rfl, by decide, by decide⟩
theorem wrP_W {b : BoxA} (h : locB b.loc = true) : ∃ w, LocW b.loc w ∧ wrP b = w ++ [64] := by
  unfold wrP
  split
  · rename_i hp
    exact ⟨_, .plain hp, rfl⟩
  · exact ⟨_, .quoted h (escL_R _), by simp⟩

/-- A route's text. -/
def rouT : List (List UInt8) → List UInt8
  | [] => []
  | [d] => 64 :: (d ++ [58])
  | d :: ds => 64 :: (d ++ 44 :: rouT ds)
theorem route_read : ∀ (ds : List (List UInt8)), ds ≠ [] → (∀ d ∈ ds, domB d = true) → ∀ (n : Nat), ds.length ≤ n → ∀ r, routeF n (rouT ds ++ r) = some r
  | [], h, _, _, _, _ => absurd rfl h
  | [d], _, hd, n, hn, r => by
    obtain ⟨n, rfl⟩ : ∃ m, n = m + 1 := ⟨n - 1, by simp at hn; omega⟩
    have h1 := tw_all (dom_bytes (hd d List.mem_cons_self)) (c := 58) (by decide) r
    have e : rouT [d] ++ r = 64 :: (d ++ 58 :: r) := by simp [rouT]
    rw [e, routeF, if_pos (show (64 :: _ : List UInt8)[0]? = some 64 from rfl), List.drop_succ_cons, List.drop_zero, h1.1, if_pos (hd d List.mem_cons_self), h1.2]
    rfl
  | d :: d2 :: ds, _, hd, n, hn, r => by
    obtain ⟨n, rfl⟩ : ∃ m, n = m + 1 := ⟨n - 1, by simp at hn; omega⟩
    obtain ⟨t, ht⟩ : ∃ t, rouT (d2 :: ds) = 64 :: t := by cases ds <;> exact ⟨_, rfl⟩
    have h1 := tw_all (dom_bytes (hd d List.mem_cons_self)) (c := 44) (by decide) (rouT (d2 :: ds) ++ r)
    have ih := route_read (d2 :: ds) (by simp) (fun x hx => hd x (List.mem_cons_of_mem _ hx)) n (by simp at hn ⊢; omega) r
    have e : rouT (d :: d2 :: ds) ++ r = 64 :: (d ++ 44 :: (rouT (d2 :: ds) ++ r)) := by simp [rouT]
    rw [e, routeF, if_pos (show (64 :: _ : List UInt8)[0]? = some 64 from rfl), List.drop_succ_cons, List.drop_zero, h1.1, if_pos (hd d List.mem_cons_self), h1.2]
    rw [ht] at ih ⊢
    exact ih
theorem route_len (ds : List (List UInt8)) : ds.length ≤ (rouT ds).length := by
  induction ds with
  | nil => exact Nat.le_refl _
  | cons d ds ih =>
    cases ds with
    | nil => simp [rouT]
    | cons d2 ds => simp only [rouT, List.length_cons, List.length_append] at ih ⊢; omega
theorem route_any (ds : List (List UInt8)) (hd : ∀ d ∈ ds, domB d = true) (r : List UInt8) (hr : r[0]? ≠ some 64) : routeL (rouT ds ++ r) = some r := by
  cases ds with
  | nil => rw [routeL, routeF]; exact if_neg hr
  | cons d ds => exact route_read (d :: ds) (by simp) hd _ (by have := route_len (d :: ds); rw [List.length_append]; omega) r
theorem rouT_first (ds : List (List UInt8)) (h : ds ≠ []) : ∃ t, rouT ds = 64 :: t := by
  cases ds with
  | nil => exact absurd rfl h
  | cons d ds => cases ds <;> exact ⟨_, rfl⟩

/-- Whatever way it is written: a path is read as its mailbox. -/
theorem read_any (ds : List (List UInt8)) (hd : ∀ d ∈ ds, domB d = true) {l w : List UInt8} (hw : LocW l w) {d : List UInt8} (hdo : domB d = true) (s : List UInt8) :
    readL (60 :: (rouT ds ++ (w ++ 64 :: (d ++ 62 :: s)))) = some (⟨l, smL d⟩, s) := by
  obtain ⟨b, t, hb, h64, h62⟩ := hw.first
  have hr := route_any ds hd (w ++ 64 :: (d ++ 62 :: s)) (by rw [hb, List.cons_append, List.getElem?_cons_zero]; exact fun e => h64 (Option.some.inj e))
  have hl := hw.read (d ++ 62 :: s)
  have hdd := tw_all (dom_bytes hdo) (c := 62) (by decide) s
  have hne : ∃ c t2, rouT ds ++ (w ++ 64 :: (d ++ 62 :: s)) = c :: t2 ∧ c ≠ 62 := by
    by_cases hds : ds = []
    · subst hds; exact ⟨b, t ++ 64 :: (d ++ 62 :: s), by rw [hb]; rfl, h62⟩
    · obtain ⟨t3, ht⟩ := rouT_first ds hds
      exact ⟨64, _, by rw [ht, List.cons_append], by decide⟩
  obtain ⟨c, t2, hc, hc62⟩ := hne
  rw [hc] at hr ⊢
  have e : readL (60 :: c :: t2) = match routeL (c :: t2) with
    | none => none
    | some r2 => match locL r2 with
      | some (x, 64 :: r3) => if domB (r3.takeWhile dcB) = true then
          match r3.dropWhile dcB with
          | 62 :: r4 => some (⟨x, smL (r3.takeWhile dcB)⟩, r4)
          | _ => none
        else none
      | _ => none := by
    unfold readL
    split
    · rename_i h; injection h with _ h; injection h with h _; exact absurd h hc62
    · rename_i h; injection h with _ h; subst h; rfl
    · rename_i h; exact absurd rfl (h (c :: t2))
  rw [e, hr]
  show (match locL (w ++ 64 :: (d ++ 62 :: s)) with
      | some (x, 64 :: r3) => if domB (r3.takeWhile dcB) = true then
          match r3.dropWhile dcB with
          | 62 :: r4 => some ((⟨x, smL (r3.takeWhile dcB)⟩ : BoxA), r4)
          | _ => none
        else none
      | _ => none) = _
  rw [hl]
  show (if domB ((d ++ 62 :: s).takeWhile dcB) = true then
          match (d ++ 62 :: s).dropWhile dcB with
          | 62 :: r4 => some ((⟨l, smL ((d ++ 62 :: s).takeWhile dcB)⟩ : BoxA), r4)
          | _ => none
        else none) = _
  rw [hdd.1, if_pos hdo, hdd.2]
  rfl

/-- In which letters a domain is written doesn't matter. -/
theorem let_sm (c : UInt8) : letB (smB c) = letB c ∧ (smB c == 45) = (c == 45) ∧ (smB c = 46 ↔ c = 46) ∧ smB (smB c) = smB c := by
  revert c
  have : ∀ n : Fin 256, letB (smB (UInt8.ofNat n)) = letB (UInt8.ofNat n) ∧ (smB (UInt8.ofNat n) == 45) = (UInt8.ofNat n == 45) ∧ (smB (UInt8.ofNat n) = 46 ↔ UInt8.ofNat n = 46) ∧ smB (smB (UInt8.ofNat n)) = smB (UInt8.ofNat n) := by decide +kernel
  intro c
  have h := this ⟨c.toNat, c.toNat_lt⟩
  simpa using h
theorem parts_sm : ∀ l : List UInt8, partsL (smL l) = (partsL l).map smL
  | [] => rfl
  | b :: l => by
    have ih := parts_sm l
    show partsL (smB b :: smL l) = _
    rw [partsL, partsL]
    by_cases hb : b = 46
    · rw [if_pos hb, if_pos ((let_sm b).2.2.1.2 hb), ih]; rfl
    · rw [if_neg hb, if_neg (fun e => hb ((let_sm b).2.2.1.1 e)), ih]
      cases partsL l <;> rfl
theorem sm_len (l : List UInt8) : (smL l).length = l.length := by simp [smL]
theorem eq45 {o : Option UInt8} : (o.map smB == some 45) = (o == some 45) := by
  cases o with
  | none => rfl
  | some c =>
    have := (let_sm c).2.1
    show (some (smB c) == some 45) = (some c == some 45)
    simpa using this
theorem lab_sm (p : List UInt8) : labB (smL p) = labB p := by
  unfold labB
  rw [sm_len]
  have e0 : (smL p)[0]? = p[0]?.map smB := by simp [smL]
  have e1 : (smL p)[p.length - 1]? = p[p.length - 1]?.map smB := by simp [smL]
  rw [e0, e1, eq45, eq45]
  congr 1
  unfold smL
  rw [List.all_map]
  congr 1
  funext c
  simp only [Function.comp, (let_sm c).1, (let_sm c).2.1]
theorem dom_sm (l : List UInt8) : domB (smL l) = domB l := by
  unfold domB
  rw [parts_sm, sm_len, List.all_map]
  congr 2
  funext p
  exact lab_sm p
theorem sm_sm (l : List UInt8) : smL (smL l) = smL l := by
  unfold smL
  rw [List.map_map]
  congr 1
  funext c
  exact (let_sm c).2.2.2
theorem dom_other {d e : List UInt8} (h : domB d = true) (he : smL e = d) : domB e = true := by rw [← dom_sm, he, h]

/-- A path is read as its mailbox, whatever follows. -/
theorem back_path {b : BoxA} {p : List UInt8} (h : pathL b = some p) (s : List UInt8) : readL (p ++ s) = some (b, s) := by
  unfold pathL at h
  split at h
  · rename_i h0
    injection h with h
    subst h
    obtain ⟨l, d⟩ := b
    have h1 : l = [] := List.length_eq_zero_iff.1 (by simp at h0; simp [h0.1])
    have h2 : d = [] := List.length_eq_zero_iff.1 (by simp at h0; simp [h0.2])
    subst h1 h2
    rfl
  · split at h
    · rename_i hm
      injection h with h
      subst h
      rw [mayB, Bool.and_eq_true, Bool.and_eq_true] at hm
      obtain ⟨w, hw, hp⟩ := wrP_W hm.2
      have := read_any [] (fun _ h => by cases h) hw hm.1.1 s
      rw [of_decide_eq_true hm.1.2] at this
      rw [wr_split, hp]
      simpa [rouT] using this
    · cases h
theorem back_parse {b : BoxA} {p : List UInt8} (h : pathL b = some p) : parseL p = some b := by
  have := back_path h []
  rw [List.append_nil] at this
  rw [parseL, this]

theorem routeF_suf : ∀ (n : Nat) (l r : List UInt8), routeF n l = some r → ∃ p, l = p ++ r
  | 0, l, r, h => by cases h
  | n + 1, l, r, h => by
    rw [routeF] at h
    split at h
    · rename_i h0
      cases l with
      | nil => cases h0
      | cons c l =>
        split at h
        · rw [List.drop_succ_cons, List.drop_zero] at h
          have e := List.takeWhile_append_dropWhile (p := dcB) (l := l)
          split at h
          · rename_i r2 hd
            injection h with h
            subst h
            refine ⟨c :: (l.takeWhile dcB ++ [58]), ?_⟩
            rw [hd] at e
            generalize l.takeWhile dcB = T at *
            rw [← e]
            simp
          · rename_i r2 hd
            obtain ⟨p, hp⟩ := routeF_suf n (64 :: r2) r h
            refine ⟨c :: (l.takeWhile dcB ++ 44 :: p), ?_⟩
            rw [hd, hp] at e
            generalize l.takeWhile dcB = T at *
            rw [← e]
            simp
          · cases h
        · cases h
    · injection h with h
      subst h
      exact ⟨[], rfl⟩
theorem quoL_suf : ∀ (n : Nat) (l : List UInt8), l.length ≤ n → ∀ p, quoL l = some p → ∃ q, l = q ++ p.2
  | n, [], _, p, h => by cases h
  | 0, c :: l, hn, p, h => by simp at hn
  | n + 1, c :: l, hn, p, h => by
    by_cases h1 : c = 34
    · subst h1
      rw [quoL_end] at h
      cases h
      exact ⟨[34], rfl⟩
    · by_cases h2 : c = 92
      · subst h2
        cases l with
        | nil => rw [quoL.eq_def] at h; simp at h
        | cons d r =>
          rw [quoL_sign] at h
          cases hq : quoL r with
          | none => rw [hq] at h; cases h
          | some q =>
            rw [hq] at h
            cases h
            obtain ⟨t, ht⟩ := quoL_suf n r (by simp at hn; omega) q hq
            exact ⟨92 :: d :: t, by rw [ht]; rfl⟩
      · rw [quoL_other h1 h2] at h
        cases hq : quoL l with
        | none => rw [hq] at h; cases h
        | some q =>
          rw [hq] at h
          cases h
          obtain ⟨t, ht⟩ := quoL_suf n l (by simp at hn; omega) q hq
          exact ⟨c :: t, by rw [ht]; rfl⟩
theorem locL_suf {l x r : List UInt8} (h : locL l = some (x, r)) : locB x = true ∧ ∃ p, l = p ++ r := by
  unfold locL at h
  split at h
  · cases l with
    | nil => rename_i h0; cases h0
    | cons c l =>
      rw [List.drop_succ_cons, List.drop_zero] at h
      cases hq : quoL l with
      | none => rw [hq] at h; cases h
      | some q =>
        rw [hq] at h
        dsimp only at h
        split at h
        · rename_i hl
          injection h with h
          subst h
          obtain ⟨t, ht⟩ := quoL_suf _ l (Nat.le_refl _) _ hq
          exact ⟨hl, c :: t, by rw [ht]; rfl⟩
        · cases h
  · split at h
    · rename_i hp
      injection h with h
      injection h with h1 h2
      subst h1 h2
      exact ⟨pla_loc hp, _, (List.takeWhile_append_dropWhile).symm⟩
    · cases h
/-- What is read is a mailbox that may be, or none; and what follows is the text's end. -/
theorem read_back {s rest : List UInt8} {c : BoxA} (h : readL s = some (c, rest)) : (c = ⟨[], []⟩ ∨ mayB c = true) ∧ ∃ p, p ≠ [] ∧ s = p ++ rest := by
  unfold readL at h
  split at h
  · injection h with h
    injection h with h1 h2
    subst h1 h2
    exact ⟨.inl rfl, [60, 62], by simp, rfl⟩
  · rename_i r _
    cases hr : routeL r with
    | none => rw [hr] at h; cases h
    | some r2 =>
      rw [hr] at h
      dsimp only at h
      obtain ⟨p1, hp1⟩ := routeF_suf _ _ _ hr
      split at h
      · rename_i x r3 hl
        obtain ⟨hx, p2, hp2⟩ := locL_suf hl
        split at h
        · rename_i hd
          split at h
          · rename_i r4 h4
            injection h with h
            injection h with h1 h2
            subst h1 h2
            have e := List.takeWhile_append_dropWhile (p := dcB) (l := r3)
            refine ⟨.inr ?_, 60 :: (p1 ++ p2 ++ 64 :: (r3.takeWhile dcB ++ [62])), by simp, ?_⟩
            · show (domB (smL _) && decide (smL (smL _) = smL _) && locB x) = true
              rw [dom_sm, hd, sm_sm, decide_eq_true rfl, hx]
              rfl
            · rw [h4] at e
              rw [hp1, hp2]
              generalize r3.takeWhile dcB = T at *
              rw [← e]
              simp
          · cases h
        · cases h
      · cases h
  · cases h
theorem may_path {c : BoxA} (h : c = ⟨[], []⟩ ∨ mayB c = true) : ∃ p, pathL c = some p := by
  rcases h with rfl | h
  · exact ⟨_, rfl⟩
  · unfold pathL
    split
    · exact ⟨_, rfl⟩
    · exact ⟨_, rfl⟩
end Go.Proofs.YtahbbnimoogapaaGreatDoor
