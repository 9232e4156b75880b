/- addr, landed: plain: what the library's words are in those of layer 9. addr, landed: the library's contracts that it leans on. addr, landed: letters, bytes, cut, all. addr, landed: labels, domains, local parts, plain ones. addr, landed: May, quoted, Write, Path. -/
import Derived.Test.YtahbbnimoogapaaGreatDoorME
import Derived.Test.YtahbbnimoogapaaGreatDoorMG
import Derived.Lib.SplitLaws
import Derived.Lib.Case
import Derived.Lib.IndexBytes
import Derived.Test.YtahbbnimoogapaaGreatDoorBas
import Derived.Test.YtahbbnimoogapaaGreatDoorOs
import Derived.Test.YtahbbnimoogapaaGreatDoorMF
import Derived.Test.YtahbbnimoogapaaGreatDoorShelf
import Derived.Shelf.Strings.SplitCore
import Derived.Test.YtahbbnimoogapaaGreatDoorLnN
import Derived.OwnWalk
import Derived.WalkMore
import Derived.Deep.QuietTactic
import Derived.BigQuiet
import Derived.BigRegion
import Derived.Test.YtahbbnimoogapaaGreatDoorBlw
namespace Go.Proofs.YtahbbnimoogapaaGreatDoor
open Go.RowKit

theorem index_cons (b c : UInt8) (l : List UInt8) : Lib.index (b :: l) [c] = if b = c then 0 else if Lib.index l [c] = -1 then -1 else Lib.index l [c] + 1 := by
  rw [Lib.index]
  by_cases h : b = c
  · subst h; simp [List.isPrefixOf]
  · have : ([c] : List UInt8).isPrefixOf (b :: l) = false := by simp [List.isPrefixOf, Ne.symm h]
    rw [this, if_neg (by decide), if_neg h]
    by_cases hm : Lib.index l [c] = -1
    · rw [if_pos hm, if_pos (beq_iff_eq.2 hm)]
    · rw [if_neg hm, if_neg (fun e => hm (beq_iff_eq.1 e))]
theorem split_parts : ∀ l : List UInt8, Lib.splitK [46] 0 (Lib.count l [46]) l = partsL l
  | [] => rfl
  | b :: l => by
    have ih := split_parts l
    by_cases hb : b = 46
    · subst hb
      rw [Lib.count_cons_eq, Nat.add_comm, Lib.splitK, index_cons, if_pos rfl, if_neg (by decide), partsL, if_pos rfl]
      show [] :: Lib.splitK [46] 0 (Lib.count l [46]) l = _
      rw [ih]
    · rw [Lib.count_cons_ne _ _ _ hb, partsL, if_neg hb, ← ih]
      cases hk : Lib.count l [46] with
      | zero => rfl
      | succ k =>
        rw [Lib.splitK, Lib.splitK, index_cons, if_neg hb]
        by_cases hm : Lib.index l [46] = -1
        · rw [if_pos hm, hm]; rfl
        · rw [if_neg hm]
          have hge := Lib.index_ge l [46]
          obtain ⟨i, hi⟩ : ∃ i : Nat, Lib.index l [46] = i := ⟨(Lib.index l [46]).toNat, by omega⟩
          rw [hi, if_neg (by rw [beq_iff_eq]; omega), if_neg (by rw [beq_iff_eq]; omega)]
          have e1 : ((i : Int) + 1).toNat = i + 1 := by omega
          have e2 : (i : Int).toNat = i := by omega
          rw [e1, e2]
          rfl
theorem lower_sm (c : UInt8) : Lib.lowerB c = smB c := by
  rw [Lib.lowerB, smB]
  by_cases h : 65 ≤ c ∧ c ≤ 90
  · rw [if_pos h, if_pos (by simp [Lib.isUpperB, h.1, h.2])]
  · rw [if_neg h, if_neg (fun e => h (by simpa [Lib.isUpperB] using e))]
theorem lowerA_sm (l : List UInt8) : Lib.toLowerA l = smL l := by
  rw [Lib.toLowerA, smL]
  exact List.map_congr_left fun c _ => lower_sm c
theorem pre_one (l : List UInt8) (c : UInt8) : Lib.hasPrefix l [c] = (l[0]? == some c) := by
  cases l with
  | nil => rfl
  | cons b l =>
    show ((c == b) && ([] : List UInt8).isPrefixOf l) = (some b == some c)
    by_cases h : b = c
    · subst h; simp
    · have h2 : (c == b) = false := beq_false_of_ne (Ne.symm h)
      rw [h2]
      simp [h]
theorem suf_one (l : List UInt8) (c : UInt8) : Lib.hasSuffix l [c] = (l[l.length - 1]? == some c) := by
  rw [← Lib.hasSuffix_of_drop]
  cases l with
  | nil => rfl
  | cons b l =>
    have h1 : ((b :: l).drop ((b :: l).length - 1)) = [(b :: l)[(b :: l).length - 1]'(by simp)] := by
      rw [List.drop_eq_getElem_cons (by simp)]
      simp
    rw [List.length_singleton, h1, List.getElem?_eq_getElem (by simp)]
    simp
theorem trim_one (l : List UInt8) (c : UInt8) : Lib.trimPrefix l [c] = if l[0]? = some c then l.drop 1 else l := by
  rw [Lib.trimPrefix, pre_one]
  by_cases h : l[0]? = some c <;> simp [h]
theorem sign_index (c : UInt8) : decide (0 ≤ Lib.indexByte signS c) = sigB c := by
  have key : ∀ l : List UInt8, decide (0 ≤ Lib.indexByte l c) = l.contains c := fun l => by
    induction l with
    | nil => rfl
    | cons b l ih =>
      have hge := Lib.indexByte_ge l c
      rw [Lib.indexByte]
      by_cases h : b = c
      · subst h; simp
      · have hc : (b == c) = false := beq_false_of_ne h
        rw [hc, List.contains_cons, ← ih]
        have hc2 : (c == b) = false := beq_false_of_ne (Ne.symm h)
        rw [hc2]
        by_cases hm : Lib.indexByte l c = -1
        · rw [hm]; rfl
        · have : ¬ (Lib.indexByte l c == -1) = true := fun e => hm (beq_iff_eq.1 e)
          simp only [Bool.false_eq_true, if_false, this, Bool.false_or]
          apply Bool.eq_iff_iff.2
          simp only [decide_eq_true_eq]
          omega
  exact key signS
theorem all_drop (p : UInt8 → Bool) (l : List UInt8) : (l.dropWhile p).isEmpty = l.all p := by
  induction l with
  | nil => rfl
  | cons b l ih =>
    cases h : p b
    · simp [h]
    · simp [h, ih]
theorem lab_eq (p : List UInt8) : labB p = (!(p.isEmpty) && decide (p.length ≤ 63) && (p.all lcB) && (!(Lib.hasPrefix p [45]) && !(Lib.hasSuffix p [45]))) := by
  rw [labB_eq, pre_one, suf_one]
  cases p with
  | nil => rfl
  | cons b l =>
    apply Bool.eq_iff_iff.2
    simp
    constructor
    · rintro ⟨⟨⟨h2, h3⟩, h4⟩, h5⟩; exact ⟨⟨h2, h5⟩, h3, h4⟩
    · rintro ⟨⟨h2, h5⟩, h3, h4⟩; exact ⟨⟨⟨h2, h3⟩, h4⟩, h5⟩
/-- What follows a sign. -/
def eatL (c : UInt8) (l : List UInt8) : Option (List UInt8) := if l[0]? = some c then some (l.drop 1) else none
/-- A domain, small, and what follows it. -/
def domL (l : List UInt8) : Option (List UInt8 × List UInt8) := if domB (l.takeWhile dcB) = true then some (smL (l.takeWhile dcB), l.dropWhile dcB) else none
theorem dom_ascii {l : List UInt8} (h : domB l = true) : ∀ (j : Nat) (b : UInt8), l[j]? = some b → b.toNat < 128 := fun j b hj => by
  have := dom_bytes h b (List.mem_of_getElem? hj)
  rw [dcB, Bool.or_eq_true, Bool.or_eq_true, letB_nat] at this
  rcases this with (h1 | h1) | h1
  · have := of_decide_eq_true h1; omega
  · rw [beq_iff_eq.1 h1]; decide
  · rw [beq_iff_eq.1 h1]; decide
end Go.Proofs.YtahbbnimoogapaaGreatDoor
namespace Go.Proofs.YtahbbnimoogapaaGreatDoor
open Go.RowKit

theorem byte_byte (c : UInt8) : ((c.toNat : Int)).toNat.toUInt8 = c := by simp
theorem lib_indexByte (c : UInt8) (w : World) : Calls Tryz.prog 132 #[.string ⟨#[33, 35, 36, 37, 38, 39, 42, 43, 45, 47, 61, 63, 94, 95, 96, 123, 124, 125, 126]⟩, .int .u8 (c.toNat : Int)] w fun e w' => e = .returned (.int .i64 (Lib.indexByte signS c)) ∧ w = w' :=
  (Tryz.strings_IndexByte ⟨#[33, 35, 36, 37, 38, 39, 42, 43, 45, 47, 61, 63, 94, 95, 96, 123, 124, 125, 126]⟩ (c.toNat : Int) w).mono fun e w' h => ⟨by rw [h.1, byte_byte]; rfl, h.2.symm⟩
theorem lib_hasPrefix (s : ByteArray) (c : UInt8) (w : World) : Calls Tryz.prog 108 #[.string s, .string ⟨#[c]⟩] w fun e w' => e = .returned (.bool (Lib.hasPrefix s.data.toList [c])) ∧ w = w' :=
  (Tryz.strings_HasPrefix s ⟨#[c]⟩ w).mono fun _ _ h => ⟨h.1, h.2.symm⟩
theorem lib_hasSuffix (s : ByteArray) (hs : s.size ≤ 1048576) (c : UInt8) (w : World) : Calls Tryz.prog 109 #[.string s, .string ⟨#[c]⟩] w fun e w' => e = .returned (.bool (Lib.hasSuffix s.data.toList [c])) ∧ w = w' :=
  (Tryz.strings_HasSuffix s ⟨#[c]⟩ w (Nat.le_trans hs (by decide))).mono fun _ _ h => ⟨h.1, h.2.symm⟩
theorem lib_cutPrefix (s : ByteArray) (c : UInt8) (w : World) : Calls Tryz.prog 151 #[.string s, .string ⟨#[c]⟩] w fun e w' => e = .returned (.tuple #[.string (ba (Lib.trimPrefix s.data.toList [c])), .bool (Lib.hasPrefix s.data.toList [c])]) ∧ w = w' :=
  (Tryz.strings_CutPrefix s ⟨#[c]⟩ w).mono fun _ _ h => ⟨h.1, h.2.symm⟩
theorem lib_lower (s : ByteArray) (hs : s.size ≤ 1048576) (ha : ∀ (j : Nat) (b : UInt8), s.data.toList[j]? = some b → b.toNat < 128) (w : World) : Calls Tryz.prog 79 #[.string s] w fun e w' => e = .returned (.string (ba (smL s.data.toList))) ∧ Below w.heap.size w w' :=
  (Tryz.strings_ToLower_ascii s w (Nat.le_trans hs (by decide)) ha).mono fun e w' h => ⟨by rw [h.1, lowerA_sm]; rfl, h.2⟩
theorem split_texts (s : ByteArray) : Lib.splitB ⟨#[46]⟩ 0 (Lib.countB s ⟨#[46]⟩) s = bas (partsL s.data.toList) := by
  have h := Lib.splitB_data ⟨#[46]⟩ 0 (Lib.countB s ⟨#[46]⟩) s
  have h2 : Lib.splitK [46] 0 (Lib.countB s ⟨#[46]⟩) s.data.toList = partsL s.data.toList := split_parts _
  rw [← h2]
  have h3 : lsB (Lib.splitB ⟨#[46]⟩ 0 (Lib.countB s ⟨#[46]⟩) s) = Lib.splitK [46] 0 (Lib.countB s ⟨#[46]⟩) s.data.toList := h
  rw [← h3, bas_lsB]
theorem IsTexts.made (w : World) (ss : List ByteArray) (t : TypeId) (hm : ss.length ≤ maxLen) (hs : ∀ s ∈ ss, s.size ≤ 140737488355328) : IsTexts (w.alloc (.cells (strV ss).toArray t)) (some ⟨w.heap.size, 0, none⟩) ss.length ss.length ss :=
  .inr ⟨_, rfl, Nat.le_refl _, hm, rfl, fun i hi => by
    rw [addr_add, Nat.zero_add]
    exact (Arr.new w _ _).cell (by rw [List.getElem?_toArray, strV_get ss i hi]), hs⟩
theorem lib_gen (s : ByteArray) (hs : s.size ≤ 1048576) (w : World) : Calls Tryz.prog 105 #[.string s, .string ⟨#[46]⟩, .int .i64 0, .int .i64 (-1)] w fun e w' => e = .returned (.slice (some ⟨w.heap.size, 0, none⟩) (partsL s.data.toList).length (partsL s.data.toList).length) ∧ w' = w.alloc (.cells (strV (bas (partsL s.data.toList))).toArray 9) := by
  have h1 : 1 ≤ (⟨#[46]⟩ : ByteArray).size := Nat.le_refl _
  have hle := Lib.countB_le ⟨#[46]⟩ h1 s.size s (Nat.le_refl _)
  have hlen := Lib.splitB_all ⟨#[46]⟩ h1 0 _ s rfl
  have hI : ∀ (x : ByteArray) (c : Array Value), x.size ≤ s.size → Calls Tryz.prog 139 #[.string x, .string ⟨#[46]⟩] (w.alloc (.cells c 9)) fun e w' => e = .returned (.int .i64 (Lib.indexB x ⟨#[46]⟩)) ∧ w' = w.alloc (.cells c 9) := fun x c _ =>
    (Tryz.strings_Index_one x 46 _).mono fun e w' h => ⟨by rw [h.1, ← Lib.index_one], h.2⟩
  have hC : Calls Tryz.prog 138 #[.string s, .string ⟨#[46]⟩] w fun e w' => e = .returned (.int .i64 (Lib.countB s ⟨#[46]⟩)) ∧ w' = w :=
    (Tryz.strings_Count_one s 46 _).mono fun e w' h => ⟨by
      rw [h.1]
      show _ = Ending.returned (Value.int .i64 ((Lib.count s.data.toList [46] : Nat) : Int))
      rw [Lib.count_one]; rfl, h.2⟩
  have c := Any.strings_genSplit_core Tryz.lays221 (by kernel_rfl) s ⟨#[46]⟩ 0 (-1) (Lib.countB s ⟨#[46]⟩ + 1) w (by omega) h1 (Nat.zero_le _) hI hC (by decide) (by decide) (by rw [if_pos (by decide)]; omega)
  rw [Nat.add_sub_cancel, hlen] at c
  have e2 : Lib.cellsOf (Lib.splitB ⟨#[46]⟩ 0 (Lib.countB s ⟨#[46]⟩) s) (Lib.countB s ⟨#[46]⟩ + 1) = ((Lib.splitB ⟨#[46]⟩ 0 (Lib.countB s ⟨#[46]⟩) s).map Value.string).toArray := by rw [← hlen]; exact Lib.cellsOf_full _
  rw [e2, split_texts] at c
  rw [split_texts, bas_len] at hlen
  rw [hlen]
  exact c
theorem lib_split (s : ByteArray) (hs : s.size ≤ 1048576) (w : World) : Calls Tryz.prog 77 #[.string s, .string ⟨#[46]⟩] w fun e w' => ∃ (a : Option Addr) (len cap : Nat), e = .returned (.slice a len cap) ∧ IsTexts w' a len cap (bas (partsL s.data.toList)) ∧ Below w.heap.size w w' := by
  have hll : s.data.toList.length = s.size := by simp
  have HC := Lib.hid (lib_gen s hs w)
  have hcnt := parts_count s.data.toList
  have ht := IsTexts.made w (bas (partsL s.data.toList)) 9 (by rw [bas_len]; exact Nat.le_trans (by omega : _ ≤ 2097152) (by decide)) (mem_bas (n := 1048576) (by decide) fun x hx => by have := parts_len _ x hx; omega)
  rw [bas_len] at ht
  have HT := Lib.hid ht
  have HB := Lib.hid ((Below.refl w.heap.size w).alloc (Nat.le_refl _) (.cells (strV (bas (partsL s.data.toList))).toArray 9))
  clear ht hcnt hll
  generalize partsL s.data.toList = P at *
  go_enter Tryz.func77, Tryz.ntmps77
  go_wp2_with (first
    | (go_at_call 105; (with_reducible refine HC.out.mono ?_); rintro e w1 ⟨rfl, rfl⟩))
  go_ret
  exact ⟨_, _, _, rfl, HT.out, HB.out⟩
end Go.Proofs.YtahbbnimoogapaaGreatDoor
namespace Go.Proofs.YtahbbnimoogapaaGreatDoor
open Go.RowKit

theorem lalnum_any (c : UInt8) (w : World) :
    Calls Tryz.prog 141 #[.int .u8 (c.toNat : Int)] w fun e w' => e = .returned (.bool (letB c)) ∧ w = w' := by
  rw [letB_nat]
  obtain ⟨B, hB⟩ : ∃ B, B = decide ((97 ≤ c.toNat ∧ c.toNat ≤ 122) ∨ (65 ≤ c.toNat ∧ c.toNat ≤ 90) ∨ (48 ≤ c.toNat ∧ c.toNat ≤ 57)) := ⟨_, rfl⟩
  rw [← hB]
  have HB := Lib.hid hB
  clear hB
  generalize c.toNat = n at *
  go_enter Tryz.func141, Tryz.ntmps141
  go_wp2
  all_goals
    go_ret
    refine ⟨ret_bool ?_, rfl⟩
    rw [HB.out]
    clear HB
    apply Bool.eq_iff_iff.2
    simp only [Bool.or_eq_true, decide_eq_true_eq, true_iff, Bool.false_eq_true, false_iff]
    omega
theorem llocal_any (c : UInt8) (w : World) :
    Calls Tryz.prog 123 #[.int .u8 (c.toNat : Int)] w fun e w' => e = .returned (.bool (okc c)) ∧ w = w' := by
  rw [okc_nat]
  obtain ⟨B, hB⟩ : ∃ B, B = decide (32 ≤ c.toNat ∧ c.toNat ≤ 126) := ⟨_, rfl⟩
  rw [← hB]
  have HB := Lib.hid hB
  clear hB
  generalize c.toNat = n at *
  go_enter Tryz.func123, Tryz.ntmps123
  go_wp2
  all_goals
    go_ret
    refine ⟨ret_bool ?_, rfl⟩
    rw [HB.out]
    clear HB
    apply Bool.eq_iff_iff.2
    simp only [decide_eq_true_eq, Bool.false_eq_true, false_iff]
    omega
theorem b45_eq (c : UInt8) : ((c.toNat : Int) == (((⟨#[45]⟩ : ByteArray)[0]'(by decide)).toNat : Int)) = (c == 45) := by
  show ((c.toNat : Int) == ((45 : Nat) : Int)) = _
  rw [byte_is (by decide)]; rfl
theorem b46_eq (c : UInt8) : ((c.toNat : Int) == (((⟨#[46]⟩ : ByteArray)[0]'(by decide)).toNat : Int)) = (c == 46) := by
  show ((c.toNat : Int) == ((46 : Nat) : Int)) = _
  rw [byte_is (by decide)]; rfl
theorem llabel_any (c : UInt8) (w : World) :
    Calls Tryz.prog 107 #[.int .u8 (c.toNat : Int)] w fun e w' => e = .returned (.bool (lcB c)) ∧ w = w' := by
  have HL := Lib.hid (lalnum_any c w)
  have hb := b45_eq c
  have HE := Lib.hid (show lcB c = (letB c || c == 45) from rfl)
  generalize lcB c = R at *
  cases hl : letB c with
  | true =>
    rw [hl] at HL HE
    clear hl
    go_enter Tryz.func107, Tryz.ntmps107
    go_wp2_with (first
      | (go_at_call 141; (with_reducible refine HL.out.mono ?_); rintro e w1 ⟨rfl, rfl⟩))
    go_ret
    exact ⟨by rw [HE.out]; rfl, rfl⟩
  | false =>
    rw [hl] at HL HE
    clear hl
    generalize (c == 45) = T at *
    go_enter Tryz.func107, Tryz.ntmps107
    go_wp2_with (first
      | (go_at_call 141; (with_reducible refine HL.out.mono ?_); rintro e w1 ⟨rfl, rfl⟩))
    go_ret
    exact ⟨by rw [HE.out]; rfl, rfl⟩
theorem latom_any (c : UInt8) (w : World) :
    Calls Tryz.prog 155 #[.int .u8 (c.toNat : Int)] w fun e w' => e = .returned (.bool (atB c)) ∧ w = w' := by
  have HL := Lib.hid (lalnum_any c w)
  have HI := Lib.hid (lib_indexByte c w)
  have HE := Lib.hid (show atB c = (letB c || sigB c) from rfl)
  have hs := sign_index c
  generalize atB c = R at *
  generalize sigB c = S at *
  generalize Lib.indexByte signS c = I at *
  cases hl : letB c with
  | true =>
    rw [hl] at HL HE
    clear hl hs
    go_enter Tryz.func155, Tryz.ntmps155
    go_wp2_with (first
      | (go_at_call 141; (with_reducible refine HL.out.mono ?_); rintro e w1 ⟨rfl, rfl⟩))
    go_ret
    exact ⟨by rw [HE.out]; rfl, rfl⟩
  | false =>
    rw [hl] at HL HE
    clear hl
    have HS := Lib.hid hs
    clear hs
    go_enter Tryz.func155, Tryz.ntmps155
    go_wp2_with (first
      | (go_at_call 141; (with_reducible refine HL.out.mono ?_); rintro e w1 ⟨rfl, rfl⟩)
      | (go_at_call 132; (with_reducible refine HI.out.mono ?_); rintro e w1 ⟨rfl, rfl⟩))
    go_ret
    exact ⟨by rw [HE.out, ← HS.out]; rfl, rfl⟩
theorem lplain_any (c : UInt8) (w : World) :
    Calls Tryz.prog 173 #[.int .u8 (c.toNat : Int)] w fun e w' => e = .returned (.bool (pcB c)) ∧ w = w' := by
  have HL := Lib.hid (latom_any c w)
  have hb := b46_eq c
  have HE := Lib.hid (show pcB c = (atB c || c == 46) from rfl)
  generalize pcB c = R at *
  cases hl : c == 46 with
  | true =>
    rw [hl] at hb HE
    clear hl
    go_enter Tryz.func173, Tryz.ntmps173
    go_wp2
    go_ret
    exact ⟨by rw [HE.out]; simp, rfl⟩
  | false =>
    rw [hl] at hb HE
    clear hl
    go_enter Tryz.func173, Tryz.ntmps173
    go_wp2_with (first
      | (go_at_call 155; (with_reducible refine HL.out.mono ?_); rintro e w1 ⟨rfl, rfl⟩))
    go_ret
    exact ⟨by rw [HE.out]; simp, rfl⟩
theorem ldomain_any (c : UInt8) (w : World) :
    Calls Tryz.prog 174 #[.int .u8 (c.toNat : Int)] w fun e w' => e = .returned (.bool (dcB c)) ∧ w = w' := by
  have HL := Lib.hid (llabel_any c w)
  have hb := b46_eq c
  have HE := Lib.hid (show dcB c = (lcB c || c == 46) from rfl)
  generalize dcB c = R at *
  cases hl : c == 46 with
  | true =>
    rw [hl] at hb HE
    clear hl
    go_enter Tryz.func174, Tryz.ntmps174
    go_wp2
    go_ret
    exact ⟨by rw [HE.out]; simp, rfl⟩
  | false =>
    rw [hl] at hb HE
    clear hl
    go_enter Tryz.func174, Tryz.ntmps174
    go_wp2_with (first
      | (go_at_call 107; (with_reducible refine HL.out.mono ?_); rintro e w1 ⟨rfl, rfl⟩))
    go_ret
    exact ⟨by rw [HE.out]; simp, rfl⟩

theorem all_empty (p : UInt8 → Bool) (l : List UInt8) : ((ba (l.dropWhile p)).toList == []) = l.all p := by
  rw [Lib.toList_data, ba_list, ← all_drop]
  cases l.dropWhile p <;> rfl

set_option maxHeartbeats 1000000 in
theorem cut_ofLocal (s : ByteArray) (hs : s.size ≤ 1048576) (w : World) :
    Calls Tryz.prog 140 #[.string s, .func (.func 123) #[] #[]] w fun e w' => e = .returned (.tuple #[.string (ba (s.data.toList.takeWhile okc)), .string (ba (s.data.toList.dropWhile okc))]) ∧ Below w.heap.size w w' := by
  have HP := Lib.hid (fun c w => llocal_any c w)
  have HAt := Lib.hid (fun k (h : k < s.size) => byte_at (s := s) h)
  have HX := Lib.hid (fun k => ext_ba s 0 k)
  have HY := Lib.hid (fun k => ext_all s k)
  have HBa := Lib.hid (ba_of s)
  have hll : s.data.toList.length = s.size := by simp
  have HTw := Lib.hid (tw_take okc s.data.toList)
  generalize hl : s.data.toList = l at *
  clear hl
  have HTD := Lib.hid (And.intro (rfl : ba (l.takeWhile okc) = ba (l.takeWhile okc)) (rfl : ba (l.dropWhile okc) = ba (l.dropWhile okc)))
  generalize hT0 : ba (l.takeWhile okc) = T at HTD ⊢
  generalize hD0 : ba (l.dropWhile okc) = D at HTD ⊢
  have HT := Lib.hid hT0
  have HD := Lib.hid hD0
  clear HTD hT0 hD0
  go_enter Tryz.func140, Tryz.ntmps140
  go_wp2
  go_loopw [9] (fun i wr => ∃ k : Nat, i = .int .i64 (k : Int) ∧ k ≤ s.size ∧ k ≤ (l.takeWhile okc).length ∧ w = wr) (fun i _ => 1048577 - (intOf i).toNat)
  case atStart => exact ⟨0, rfl, Nat.zero_le _, Nat.zero_le _, rfl⟩
  case round =>
    obtain ⟨k, rfl, hk, hkn, rfl⟩ := hrel
    have HKN := Lib.hid hkn
    clear hkn
    have hk0 : (0 : Int) ≤ (k : Int) := by omega
    by_cases hlt : k < s.size
    · have hli : (k : Int) < (s.size : Int) := by omega
      have hat := HAt.out k hlt
      cases hp : okc s[k] with
      | true =>
        have hc := HP.out s[k]
        rw [hp] at hc
        have HC := Lib.hid hc
        have HK2 := Lib.hid (tw_step' (p := okc) (i := 0) (l := l) (Nat.zero_add k).symm hat hp HKN.out)
        clear hc hp hat
        go_wp2_with (first
          | (go_at_call 123; (with_reducible refine (HC.out _).mono ?_); rintro e w1 ⟨rfl, rfl⟩))
        go_roundw
        case rel => exact ⟨k + 1, by go_num, by omega, HK2.out, trivial⟩
        case measure => simp only [intOf]; omega
      | false =>
        have hc := HP.out s[k]
        rw [hp] at hc
        have HC := Lib.hid hc
        have HE := Lib.hid (tw_end' (p := okc) (i := 0) (l := l) (Nat.zero_add k).symm HKN.out (.inr ⟨_, hat, hp⟩))
        have h1 := slice_to s k (by omega)
        have h2 := slice_from s k (by omega)
        rw [show s.extract 0 k = T by rw [HX.out k, List.drop_zero, Nat.sub_zero, HE.out, ← HT.out]; exact congrArg ba HTw.out.1] at h1
        rw [show s.extract k s.size = D by rw [HY.out k, HE.out, ← HD.out]; exact congrArg ba HTw.out.2] at h2
        clear hc hp hat HE HT HD HTw HX HY
        go_wp2_with (first
          | (go_at_call 123; (with_reducible refine (HC.out _).mono ?_); rintro e w1 ⟨rfl, rfl⟩))
        go_quiet (fail)
        go_wp2
        go_ret2
        exact ⟨rfl, Below_drewN (Below.refl _ _) _⟩
    · have hli : ¬ (k : Int) < (s.size : Int) := by omega
      have hkl : k = (l.takeWhile okc).length := tw_end' (p := okc) (i := 0) (l := l) (Nat.zero_add k).symm HKN.out (.inl (List.getElem?_eq_none (by omega)))
      have HTs := Lib.hid (show T = s by
        have := HTw.out.1
        rw [← hkl, List.take_of_length_le (by omega)] at this
        rw [← HT.out, ← this]; exact HBa.out)
      have HDs := Lib.hid (show D = ⟨#[]⟩ by
        have := HTw.out.2
        rw [← hkl, List.drop_of_length_le (by omega)] at this
        rw [← HD.out, ← this]; rfl)
      clear hkl
      go_wp2
      go_ret2
      exact ⟨by rw [HTs.out, HDs.out]; rfl, Below.refl _ _⟩
theorem all_ofLocal (s : ByteArray) (hs : s.size ≤ 1048576) (w : World) :
    Calls Tryz.prog 106 #[.string s, .func (.func 123) #[] #[]] w fun e w' => e = .returned (.bool (s.data.toList.all okc)) ∧ Below w.heap.size w w' := by
  have HC := Lib.hid (cut_ofLocal s hs w)
  have hq := all_empty okc s.data.toList
  generalize s.data.toList.all okc = A at *
  generalize ba (s.data.toList.takeWhile okc) = T at *
  generalize ba (s.data.toList.dropWhile okc) = D at *
  go_enter Tryz.func106, Tryz.ntmps106
  go_wp2_with (first
    | (go_at_call 140; (with_reducible refine HC.out.mono ?_); rintro e w1 ⟨rfl, hb1⟩))
  go_ret
  exact ⟨rfl, hb1⟩

set_option maxHeartbeats 1000000 in
theorem cut_ofLabel (s : ByteArray) (hs : s.size ≤ 1048576) (w : World) :
    Calls Tryz.prog 140 #[.string s, .func (.func 107) #[] #[]] w fun e w' => e = .returned (.tuple #[.string (ba (s.data.toList.takeWhile lcB)), .string (ba (s.data.toList.dropWhile lcB))]) ∧ Below w.heap.size w w' := by
  have HP := Lib.hid (fun c w => llabel_any c w)
  have HAt := Lib.hid (fun k (h : k < s.size) => byte_at (s := s) h)
  have HX := Lib.hid (fun k => ext_ba s 0 k)
  have HY := Lib.hid (fun k => ext_all s k)
  have HBa := Lib.hid (ba_of s)
  have hll : s.data.toList.length = s.size := by simp
  have HTw := Lib.hid (tw_take lcB s.data.toList)
  generalize hl : s.data.toList = l at *
  clear hl
  have HTD := Lib.hid (And.intro (rfl : ba (l.takeWhile lcB) = ba (l.takeWhile lcB)) (rfl : ba (l.dropWhile lcB) = ba (l.dropWhile lcB)))
  generalize hT0 : ba (l.takeWhile lcB) = T at HTD ⊢
  generalize hD0 : ba (l.dropWhile lcB) = D at HTD ⊢
  have HT := Lib.hid hT0
  have HD := Lib.hid hD0
  clear HTD hT0 hD0
  go_enter Tryz.func140, Tryz.ntmps140
  go_wp2
  go_loopw [9] (fun i wr => ∃ k : Nat, i = .int .i64 (k : Int) ∧ k ≤ s.size ∧ k ≤ (l.takeWhile lcB).length ∧ w = wr) (fun i _ => 1048577 - (intOf i).toNat)
  case atStart => exact ⟨0, rfl, Nat.zero_le _, Nat.zero_le _, rfl⟩
  case round =>
    obtain ⟨k, rfl, hk, hkn, rfl⟩ := hrel
    have HKN := Lib.hid hkn
    clear hkn
    have hk0 : (0 : Int) ≤ (k : Int) := by omega
    by_cases hlt : k < s.size
    · have hli : (k : Int) < (s.size : Int) := by omega
      have hat := HAt.out k hlt
      cases hp : lcB s[k] with
      | true =>
        have hc := HP.out s[k]
        rw [hp] at hc
        have HC := Lib.hid hc
        have HK2 := Lib.hid (tw_step' (p := lcB) (i := 0) (l := l) (Nat.zero_add k).symm hat hp HKN.out)
        clear hc hp hat
        go_wp2_with (first
          | (go_at_call 107; (with_reducible refine (HC.out _).mono ?_); rintro e w1 ⟨rfl, rfl⟩))
        go_roundw
        case rel => exact ⟨k + 1, by go_num, by omega, HK2.out, trivial⟩
        case measure => simp only [intOf]; omega
      | false =>
        have hc := HP.out s[k]
        rw [hp] at hc
        have HC := Lib.hid hc
        have HE := Lib.hid (tw_end' (p := lcB) (i := 0) (l := l) (Nat.zero_add k).symm HKN.out (.inr ⟨_, hat, hp⟩))
        have h1 := slice_to s k (by omega)
        have h2 := slice_from s k (by omega)
        rw [show s.extract 0 k = T by rw [HX.out k, List.drop_zero, Nat.sub_zero, HE.out, ← HT.out]; exact congrArg ba HTw.out.1] at h1
        rw [show s.extract k s.size = D by rw [HY.out k, HE.out, ← HD.out]; exact congrArg ba HTw.out.2] at h2
        clear hc hp hat HE HT HD HTw HX HY
        go_wp2_with (first
          | (go_at_call 107; (with_reducible refine (HC.out _).mono ?_); rintro e w1 ⟨rfl, rfl⟩))
        go_quiet (fail)
        go_wp2
        go_ret2
        exact ⟨rfl, Below_drewN (Below.refl _ _) _⟩
    · have hli : ¬ (k : Int) < (s.size : Int) := by omega
      have hkl : k = (l.takeWhile lcB).length := tw_end' (p := lcB) (i := 0) (l := l) (Nat.zero_add k).symm HKN.out (.inl (List.getElem?_eq_none (by omega)))
      have HTs := Lib.hid (show T = s by
        have := HTw.out.1
        rw [← hkl, List.take_of_length_le (by omega)] at this
        rw [← HT.out, ← this]; exact HBa.out)
      have HDs := Lib.hid (show D = ⟨#[]⟩ by
        have := HTw.out.2
        rw [← hkl, List.drop_of_length_le (by omega)] at this
        rw [← HD.out, ← this]; rfl)
      clear hkl
      go_wp2
      go_ret2
      exact ⟨by rw [HTs.out, HDs.out]; rfl, Below.refl _ _⟩
theorem all_ofLabel (s : ByteArray) (hs : s.size ≤ 1048576) (w : World) :
    Calls Tryz.prog 106 #[.string s, .func (.func 107) #[] #[]] w fun e w' => e = .returned (.bool (s.data.toList.all lcB)) ∧ Below w.heap.size w w' := by
  have HC := Lib.hid (cut_ofLabel s hs w)
  have hq := all_empty lcB s.data.toList
  generalize s.data.toList.all lcB = A at *
  generalize ba (s.data.toList.takeWhile lcB) = T at *
  generalize ba (s.data.toList.dropWhile lcB) = D at *
  go_enter Tryz.func106, Tryz.ntmps106
  go_wp2_with (first
    | (go_at_call 140; (with_reducible refine HC.out.mono ?_); rintro e w1 ⟨rfl, hb1⟩))
  go_ret
  exact ⟨rfl, hb1⟩

set_option maxHeartbeats 1000000 in
theorem cut_ofAtom (s : ByteArray) (hs : s.size ≤ 1048576) (w : World) :
    Calls Tryz.prog 140 #[.string s, .func (.func 155) #[] #[]] w fun e w' => e = .returned (.tuple #[.string (ba (s.data.toList.takeWhile atB)), .string (ba (s.data.toList.dropWhile atB))]) ∧ Below w.heap.size w w' := by
  have HP := Lib.hid (fun c w => latom_any c w)
  have HAt := Lib.hid (fun k (h : k < s.size) => byte_at (s := s) h)
  have HX := Lib.hid (fun k => ext_ba s 0 k)
  have HY := Lib.hid (fun k => ext_all s k)
  have HBa := Lib.hid (ba_of s)
  have hll : s.data.toList.length = s.size := by simp
  have HTw := Lib.hid (tw_take atB s.data.toList)
  generalize hl : s.data.toList = l at *
  clear hl
  have HTD := Lib.hid (And.intro (rfl : ba (l.takeWhile atB) = ba (l.takeWhile atB)) (rfl : ba (l.dropWhile atB) = ba (l.dropWhile atB)))
  generalize hT0 : ba (l.takeWhile atB) = T at HTD ⊢
  generalize hD0 : ba (l.dropWhile atB) = D at HTD ⊢
  have HT := Lib.hid hT0
  have HD := Lib.hid hD0
  clear HTD hT0 hD0
  go_enter Tryz.func140, Tryz.ntmps140
  go_wp2
  go_loopw [9] (fun i wr => ∃ k : Nat, i = .int .i64 (k : Int) ∧ k ≤ s.size ∧ k ≤ (l.takeWhile atB).length ∧ w = wr) (fun i _ => 1048577 - (intOf i).toNat)
  case atStart => exact ⟨0, rfl, Nat.zero_le _, Nat.zero_le _, rfl⟩
  case round =>
    obtain ⟨k, rfl, hk, hkn, rfl⟩ := hrel
    have HKN := Lib.hid hkn
    clear hkn
    have hk0 : (0 : Int) ≤ (k : Int) := by omega
    by_cases hlt : k < s.size
    · have hli : (k : Int) < (s.size : Int) := by omega
      have hat := HAt.out k hlt
      cases hp : atB s[k] with
      | true =>
        have hc := HP.out s[k]
        rw [hp] at hc
        have HC := Lib.hid hc
        have HK2 := Lib.hid (tw_step' (p := atB) (i := 0) (l := l) (Nat.zero_add k).symm hat hp HKN.out)
        clear hc hp hat
        go_wp2_with (first
          | (go_at_call 155; (with_reducible refine (HC.out _).mono ?_); rintro e w1 ⟨rfl, rfl⟩))
        go_roundw
        case rel => exact ⟨k + 1, by go_num, by omega, HK2.out, trivial⟩
        case measure => simp only [intOf]; omega
      | false =>
        have hc := HP.out s[k]
        rw [hp] at hc
        have HC := Lib.hid hc
        have HE := Lib.hid (tw_end' (p := atB) (i := 0) (l := l) (Nat.zero_add k).symm HKN.out (.inr ⟨_, hat, hp⟩))
        have h1 := slice_to s k (by omega)
        have h2 := slice_from s k (by omega)
        rw [show s.extract 0 k = T by rw [HX.out k, List.drop_zero, Nat.sub_zero, HE.out, ← HT.out]; exact congrArg ba HTw.out.1] at h1
        rw [show s.extract k s.size = D by rw [HY.out k, HE.out, ← HD.out]; exact congrArg ba HTw.out.2] at h2
        clear hc hp hat HE HT HD HTw HX HY
        go_wp2_with (first
          | (go_at_call 155; (with_reducible refine (HC.out _).mono ?_); rintro e w1 ⟨rfl, rfl⟩))
        go_quiet (fail)
        go_wp2
        go_ret2
        exact ⟨rfl, Below_drewN (Below.refl _ _) _⟩
    · have hli : ¬ (k : Int) < (s.size : Int) := by omega
      have hkl : k = (l.takeWhile atB).length := tw_end' (p := atB) (i := 0) (l := l) (Nat.zero_add k).symm HKN.out (.inl (List.getElem?_eq_none (by omega)))
      have HTs := Lib.hid (show T = s by
        have := HTw.out.1
        rw [← hkl, List.take_of_length_le (by omega)] at this
        rw [← HT.out, ← this]; exact HBa.out)
      have HDs := Lib.hid (show D = ⟨#[]⟩ by
        have := HTw.out.2
        rw [← hkl, List.drop_of_length_le (by omega)] at this
        rw [← HD.out, ← this]; rfl)
      clear hkl
      go_wp2
      go_ret2
      exact ⟨by rw [HTs.out, HDs.out]; rfl, Below.refl _ _⟩
theorem all_ofAtom (s : ByteArray) (hs : s.size ≤ 1048576) (w : World) :
    Calls Tryz.prog 106 #[.string s, .func (.func 155) #[] #[]] w fun e w' => e = .returned (.bool (s.data.toList.all atB)) ∧ Below w.heap.size w w' := by
  have HC := Lib.hid (cut_ofAtom s hs w)
  have hq := all_empty atB s.data.toList
  generalize s.data.toList.all atB = A at *
  generalize ba (s.data.toList.takeWhile atB) = T at *
  generalize ba (s.data.toList.dropWhile atB) = D at *
  go_enter Tryz.func106, Tryz.ntmps106
  go_wp2_with (first
    | (go_at_call 140; (with_reducible refine HC.out.mono ?_); rintro e w1 ⟨rfl, hb1⟩))
  go_ret
  exact ⟨rfl, hb1⟩

set_option maxHeartbeats 1000000 in
theorem cut_ofPlain (s : ByteArray) (hs : s.size ≤ 1048576) (w : World) :
    Calls Tryz.prog 140 #[.string s, .func (.func 173) #[] #[]] w fun e w' => e = .returned (.tuple #[.string (ba (s.data.toList.takeWhile pcB)), .string (ba (s.data.toList.dropWhile pcB))]) ∧ Below w.heap.size w w' := by
  have HP := Lib.hid (fun c w => lplain_any c w)
  have HAt := Lib.hid (fun k (h : k < s.size) => byte_at (s := s) h)
  have HX := Lib.hid (fun k => ext_ba s 0 k)
  have HY := Lib.hid (fun k => ext_all s k)
  have HBa := Lib.hid (ba_of s)
  have hll : s.data.toList.length = s.size := by simp
  have HTw := Lib.hid (tw_take pcB s.data.toList)
  generalize hl : s.data.toList = l at *
  clear hl
  have HTD := Lib.hid (And.intro (rfl : ba (l.takeWhile pcB) = ba (l.takeWhile pcB)) (rfl : ba (l.dropWhile pcB) = ba (l.dropWhile pcB)))
  generalize hT0 : ba (l.takeWhile pcB) = T at HTD ⊢
  generalize hD0 : ba (l.dropWhile pcB) = D at HTD ⊢
  have HT := Lib.hid hT0
  have HD := Lib.hid hD0
  clear HTD hT0 hD0
  go_enter Tryz.func140, Tryz.ntmps140
  go_wp2
  go_loopw [9] (fun i wr => ∃ k : Nat, i = .int .i64 (k : Int) ∧ k ≤ s.size ∧ k ≤ (l.takeWhile pcB).length ∧ w = wr) (fun i _ => 1048577 - (intOf i).toNat)
  case atStart => exact ⟨0, rfl, Nat.zero_le _, Nat.zero_le _, rfl⟩
  case round =>
    obtain ⟨k, rfl, hk, hkn, rfl⟩ := hrel
    have HKN := Lib.hid hkn
    clear hkn
    have hk0 : (0 : Int) ≤ (k : Int) := by omega
    by_cases hlt : k < s.size
    · have hli : (k : Int) < (s.size : Int) := by omega
      have hat := HAt.out k hlt
      cases hp : pcB s[k] with
      | true =>
        have hc := HP.out s[k]
        rw [hp] at hc
        have HC := Lib.hid hc
        have HK2 := Lib.hid (tw_step' (p := pcB) (i := 0) (l := l) (Nat.zero_add k).symm hat hp HKN.out)
        clear hc hp hat
        go_wp2_with (first
          | (go_at_call 173; (with_reducible refine (HC.out _).mono ?_); rintro e w1 ⟨rfl, rfl⟩))
        go_roundw
        case rel => exact ⟨k + 1, by go_num, by omega, HK2.out, trivial⟩
        case measure => simp only [intOf]; omega
      | false =>
        have hc := HP.out s[k]
        rw [hp] at hc
        have HC := Lib.hid hc
        have HE := Lib.hid (tw_end' (p := pcB) (i := 0) (l := l) (Nat.zero_add k).symm HKN.out (.inr ⟨_, hat, hp⟩))
        have h1 := slice_to s k (by omega)
        have h2 := slice_from s k (by omega)
        rw [show s.extract 0 k = T by rw [HX.out k, List.drop_zero, Nat.sub_zero, HE.out, ← HT.out]; exact congrArg ba HTw.out.1] at h1
        rw [show s.extract k s.size = D by rw [HY.out k, HE.out, ← HD.out]; exact congrArg ba HTw.out.2] at h2
        clear hc hp hat HE HT HD HTw HX HY
        go_wp2_with (first
          | (go_at_call 173; (with_reducible refine (HC.out _).mono ?_); rintro e w1 ⟨rfl, rfl⟩))
        go_quiet (fail)
        go_wp2
        go_ret2
        exact ⟨rfl, Below_drewN (Below.refl _ _) _⟩
    · have hli : ¬ (k : Int) < (s.size : Int) := by omega
      have hkl : k = (l.takeWhile pcB).length := tw_end' (p := pcB) (i := 0) (l := l) (Nat.zero_add k).symm HKN.out (.inl (List.getElem?_eq_none (by omega)))
      have HTs := Lib.hid (show T = s by
        have := HTw.out.1
        rw [← hkl, List.take_of_length_le (by omega)] at this
        rw [← HT.out, ← this]; exact HBa.out)
      have HDs := Lib.hid (show D = ⟨#[]⟩ by
        have := HTw.out.2
        rw [← hkl, List.drop_of_length_le (by omega)] at this
        rw [← HD.out, ← this]; rfl)
      clear hkl
      go_wp2
      go_ret2
      exact ⟨by rw [HTs.out, HDs.out]; rfl, Below.refl _ _⟩
theorem all_ofPlain (s : ByteArray) (hs : s.size ≤ 1048576) (w : World) :
    Calls Tryz.prog 106 #[.string s, .func (.func 173) #[] #[]] w fun e w' => e = .returned (.bool (s.data.toList.all pcB)) ∧ Below w.heap.size w w' := by
  have HC := Lib.hid (cut_ofPlain s hs w)
  have hq := all_empty pcB s.data.toList
  generalize s.data.toList.all pcB = A at *
  generalize ba (s.data.toList.takeWhile pcB) = T at *
  generalize ba (s.data.toList.dropWhile pcB) = D at *
  go_enter Tryz.func106, Tryz.ntmps106
  go_wp2_with (first
    | (go_at_call 140; (with_reducible refine HC.out.mono ?_); rintro e w1 ⟨rfl, hb1⟩))
  go_ret
  exact ⟨rfl, hb1⟩

set_option maxHeartbeats 1000000 in
theorem cut_ofDomain (s : ByteArray) (hs : s.size ≤ 1048576) (w : World) :
    Calls Tryz.prog 140 #[.string s, .func (.func 174) #[] #[]] w fun e w' => e = .returned (.tuple #[.string (ba (s.data.toList.takeWhile dcB)), .string (ba (s.data.toList.dropWhile dcB))]) ∧ Below w.heap.size w w' := by
  have HP := Lib.hid (fun c w => ldomain_any c w)
  have HAt := Lib.hid (fun k (h : k < s.size) => byte_at (s := s) h)
  have HX := Lib.hid (fun k => ext_ba s 0 k)
  have HY := Lib.hid (fun k => ext_all s k)
  have HBa := Lib.hid (ba_of s)
  have hll : s.data.toList.length = s.size := by simp
  have HTw := Lib.hid (tw_take dcB s.data.toList)
  generalize hl : s.data.toList = l at *
  clear hl
  have HTD := Lib.hid (And.intro (rfl : ba (l.takeWhile dcB) = ba (l.takeWhile dcB)) (rfl : ba (l.dropWhile dcB) = ba (l.dropWhile dcB)))
  generalize hT0 : ba (l.takeWhile dcB) = T at HTD ⊢
  generalize hD0 : ba (l.dropWhile dcB) = D at HTD ⊢
  have HT := Lib.hid hT0
  have HD := Lib.hid hD0
  clear HTD hT0 hD0
  go_enter Tryz.func140, Tryz.ntmps140
  go_wp2
  go_loopw [9] (fun i wr => ∃ k : Nat, i = .int .i64 (k : Int) ∧ k ≤ s.size ∧ k ≤ (l.takeWhile dcB).length ∧ w = wr) (fun i _ => 1048577 - (intOf i).toNat)
  case atStart => exact ⟨0, rfl, Nat.zero_le _, Nat.zero_le _, rfl⟩
  case round =>
    obtain ⟨k, rfl, hk, hkn, rfl⟩ := hrel
    have HKN := Lib.hid hkn
    clear hkn
    have hk0 : (0 : Int) ≤ (k : Int) := by omega
    by_cases hlt : k < s.size
    · have hli : (k : Int) < (s.size : Int) := by omega
      have hat := HAt.out k hlt
      cases hp : dcB s[k] with
      | true =>
        have hc := HP.out s[k]
        rw [hp] at hc
        have HC := Lib.hid hc
        have HK2 := Lib.hid (tw_step' (p := dcB) (i := 0) (l := l) (Nat.zero_add k).symm hat hp HKN.out)
        clear hc hp hat
        go_wp2_with (first
          | (go_at_call 174; (with_reducible refine (HC.out _).mono ?_); rintro e w1 ⟨rfl, rfl⟩))
        go_roundw
        case rel => exact ⟨k + 1, by go_num, by omega, HK2.out, trivial⟩
        case measure => simp only [intOf]; omega
      | false =>
        have hc := HP.out s[k]
        rw [hp] at hc
        have HC := Lib.hid hc
        have HE := Lib.hid (tw_end' (p := dcB) (i := 0) (l := l) (Nat.zero_add k).symm HKN.out (.inr ⟨_, hat, hp⟩))
        have h1 := slice_to s k (by omega)
        have h2 := slice_from s k (by omega)
        rw [show s.extract 0 k = T by rw [HX.out k, List.drop_zero, Nat.sub_zero, HE.out, ← HT.out]; exact congrArg ba HTw.out.1] at h1
        rw [show s.extract k s.size = D by rw [HY.out k, HE.out, ← HD.out]; exact congrArg ba HTw.out.2] at h2
        clear hc hp hat HE HT HD HTw HX HY
        go_wp2_with (first
          | (go_at_call 174; (with_reducible refine (HC.out _).mono ?_); rintro e w1 ⟨rfl, rfl⟩))
        go_quiet (fail)
        go_wp2
        go_ret2
        exact ⟨rfl, Below_drewN (Below.refl _ _) _⟩
    · have hli : ¬ (k : Int) < (s.size : Int) := by omega
      have hkl : k = (l.takeWhile dcB).length := tw_end' (p := dcB) (i := 0) (l := l) (Nat.zero_add k).symm HKN.out (.inl (List.getElem?_eq_none (by omega)))
      have HTs := Lib.hid (show T = s by
        have := HTw.out.1
        rw [← hkl, List.take_of_length_le (by omega)] at this
        rw [← HT.out, ← this]; exact HBa.out)
      have HDs := Lib.hid (show D = ⟨#[]⟩ by
        have := HTw.out.2
        rw [← hkl, List.drop_of_length_le (by omega)] at this
        rw [← HD.out, ← this]; rfl)
      clear hkl
      go_wp2
      go_ret2
      exact ⟨by rw [HTs.out, HDs.out]; rfl, Below.refl _ _⟩
theorem all_ofDomain (s : ByteArray) (hs : s.size ≤ 1048576) (w : World) :
    Calls Tryz.prog 106 #[.string s, .func (.func 174) #[] #[]] w fun e w' => e = .returned (.bool (s.data.toList.all dcB)) ∧ Below w.heap.size w w' := by
  have HC := Lib.hid (cut_ofDomain s hs w)
  have hq := all_empty dcB s.data.toList
  generalize s.data.toList.all dcB = A at *
  generalize ba (s.data.toList.takeWhile dcB) = T at *
  generalize ba (s.data.toList.dropWhile dcB) = D at *
  go_enter Tryz.func106, Tryz.ntmps106
  go_wp2_with (first
    | (go_at_call 140; (with_reducible refine HC.out.mono ?_); rintro e w1 ⟨rfl, hb1⟩))
  go_ret
  exact ⟨rfl, hb1⟩
end Go.Proofs.YtahbbnimoogapaaGreatDoor
namespace Go.Proofs.YtahbbnimoogapaaGreatDoor
open Go.RowKit

theorem size_nil (s : ByteArray) : (s.toList == []) = s.data.toList.isEmpty := by
  rw [Lib.toList_data]
  cases s.data.toList <;> rfl
set_option maxHeartbeats 1000000 in
set_option maxRecDepth 100000 in
theorem lisLabel_any (s : ByteArray) (hs : s.size ≤ 1048576) (w : World) :
    Calls Tryz.prog 78 #[.string s] w fun e w' => e = .returned (.bool (labB s.data.toList)) ∧ Below w.heap.size w w' := by
  have HA := Lib.hid (fun w => all_ofLabel s hs w)
  have HP := Lib.hid (fun w => lib_hasPrefix s 45 w)
  have HS := Lib.hid (fun w => lib_hasSuffix s hs 45 w)
  have HE := Lib.hid (lab_eq s.data.toList)
  have hll : s.data.toList.length = s.size := by simp
  have hz := size_nil s
  rw [hll] at HE
  generalize labB s.data.toList = R at *
  generalize s.data.toList.all lcB = A at *
  generalize Lib.hasPrefix s.data.toList [45] = P at *
  generalize Lib.hasSuffix s.data.toList [45] = S at *
  generalize s.data.toList.isEmpty = Z at *
  clear hll
  cases Z with
  | true =>
    go_enter Tryz.func78, Tryz.ntmps78
    go_wp2
    go_ret
    exact ⟨by rw [HE.out]; rfl, Below.refl _ _⟩
  | false =>
    by_cases h2 : s.size ≤ 63
    · have b2 : ¬ (63 : Int) < (s.size : Int) := by omega
      cases A with
      | false =>
        have HR := Lib.hid (show R = false by rw [HE.out]; simp)
        clear HE h2
        go_enter Tryz.func78, Tryz.ntmps78
        go_wp2_with (first
          | (go_at_call 106; (with_reducible refine (HA.out _).mono ?_); rintro e w1 ⟨rfl, hb1⟩))
        go_ret
        exact ⟨by rw [HR.out]; rfl, hb1⟩
      | true =>
        have HR := Lib.hid (show R = (!P && !S) by rw [HE.out, decide_eq_true h2]; rfl)
        clear HE h2
        cases P with
        | true =>
          go_enter Tryz.func78, Tryz.ntmps78
          go_wp2_with (first
            | (go_at_call 106; (with_reducible refine (HA.out _).mono ?_); rintro e w1 ⟨rfl, hb1⟩)
            | (go_at_call 108; (with_reducible refine (HP.out _).mono ?_); rintro e w2 ⟨rfl, rfl⟩))
          go_ret
          exact ⟨by rw [HR.out]; rfl, hb1⟩
        | false =>
          go_enter Tryz.func78, Tryz.ntmps78
          go_wp2_with (first
            | (go_at_call 106; (with_reducible refine (HA.out _).mono ?_); rintro e w1 ⟨rfl, hb1⟩)
            | (go_at_call 108; (with_reducible refine (HP.out _).mono ?_); rintro e w2 ⟨rfl, rfl⟩)
            | (go_at_call 109; (with_reducible refine (HS.out _).mono ?_); rintro e w3 ⟨rfl, rfl⟩))
          go_ret
          exact ⟨by rw [HR.out]; rfl, hb1⟩
    · have b2 : (63 : Int) < (s.size : Int) := by omega
      have HR := Lib.hid (show R = false by rw [HE.out, decide_eq_false h2]; simp)
      clear HE h2
      go_enter Tryz.func78, Tryz.ntmps78
      go_wp2
      go_ret
      exact ⟨by rw [HR.out]; rfl, Below.refl _ _⟩

set_option maxHeartbeats 1000000 in
set_option maxRecDepth 100000 in
theorem lLocal_any (s : ByteArray) (hs : s.size ≤ 1048576) (w : World) :
    Calls Tryz.prog 88 #[.string s] w fun e w' => e = .returned (.bool (locB s.data.toList)) ∧ Below w.heap.size w w' := by
  have HA := Lib.hid (fun w => all_ofLocal s hs w)
  have HE := Lib.hid (locB_eq s.data.toList)
  have hll : s.data.toList.length = s.size := by simp
  rw [hll] at HE
  generalize locB s.data.toList = R at *
  generalize s.data.toList.all okc = A at *
  clear hll
  by_cases h1 : 1 ≤ s.size
  · have b1 : (0 : Int) < (s.size : Int) := by omega
    by_cases h2 : s.size ≤ 64
    · have b2 : (s.size : Int) ≤ 64 := by omega
      have HR := Lib.hid (show R = A by rw [HE.out, decide_eq_true h1, decide_eq_true h2]; simp)
      clear HE h1 h2
      go_enter Tryz.func88, Tryz.ntmps88
      go_wp2_with (first
        | (go_at_call 106; (with_reducible refine (HA.out _).mono ?_); rintro e w1 ⟨rfl, hb1⟩))
      go_ret
      exact ⟨by rw [HR.out]; rfl, hb1⟩
    · have b2 : ¬ (s.size : Int) ≤ 64 := by omega
      have HR := Lib.hid (show R = false by rw [HE.out, decide_eq_false h2]; simp)
      clear HE h1 h2
      go_enter Tryz.func88, Tryz.ntmps88
      go_wp2
      go_ret
      exact ⟨by rw [HR.out]; rfl, Below.refl _ _⟩
  · have b1 : ¬ (0 : Int) < (s.size : Int) := by omega
    have HR := Lib.hid (show R = false by rw [HE.out, decide_eq_false h1]; simp)
    clear HE h1
    go_enter Tryz.func88, Tryz.ntmps88
    go_wp2
    go_ret
    exact ⟨by rw [HR.out]; rfl, Below.refl _ _⟩

set_option maxHeartbeats 2000000 in
set_option maxRecDepth 100000 in
theorem lDomain_any (s : ByteArray) (w : World) :
    Calls Tryz.prog 54 #[.string s] w fun e w' => e = .returned (domR s.data.toList) ∧ Below w.heap.size w w' := by
  have hll : s.data.toList.length = s.size := by simp
  by_cases h255 : s.size ≤ 255
  case neg =>
    have hi : (255 : Int) < (s.size : Int) := by omega
    have hd : domB s.data.toList = false := by
      rw [domB, Bool.and_eq_false_iff]
      exact .inr (decide_eq_false (by omega))
    have HR := Lib.hid (show domR s.data.toList = .tuple #[.string ⟨#[]⟩, .int .i64 2] by rw [domR, if_neg (by rw [hd]; decide)])
    generalize domR s.data.toList = R at *
    clear hll h255 hd
    go_enter Tryz.func54, Tryz.ntmps54
    go_wp2
    go_ret2
    exact ⟨by rw [HR.out]; rfl, Below.refl _ _⟩
  have h255i : ¬ (255 : Int) < (s.size : Int) := by omega
  have HSp := Lib.hid (fun w => lib_split s (by omega) w)
  have HLo := Lib.hid (fun (h : domB s.data.toList = true) w => lib_lower s (by omega) (dom_ascii h) w)
  have hdl : (partsL s.data.toList).all labB = true → domB s.data.toList = true := fun h => by
    rw [domB, h]; exact decide_eq_true (by omega)
  generalize s.data.toList = l at *
  have HRn := Lib.hid (fun (h : domB l = false) => show domR l = .tuple #[.string ⟨#[]⟩, .int .i64 2] by rw [domR, if_neg (by rw [h]; decide)])
  have HRy := Lib.hid (fun (h : domB l = true) => show domR l = .tuple #[.string (ba (smL l)), .int .i64 0] by rw [domR, if_pos h])
  generalize domR l = R at *
  have HPl := Lib.hid (show ∀ p ∈ partsL l, p.length ≤ 1048576 from fun p hp => by have := parts_len l p hp; omega)
  have hcnt := parts_count l
  have HD := Lib.hid hdl
  clear hdl
  go_enter Tryz.func54, Tryz.ntmps54
  go_wp2_with (first
    | (go_at_call 77; (with_reducible refine (HSp.out _).mono ?_); rintro e w1 ⟨a, len, cap, rfl, ht1, hb1⟩))
  have HT := Lib.hid ht1
  have HB1 := Lib.hid hb1
  have hlen := ht1.len.1
  rw [bas_len] at hlen
  have hlb : len ≤ 1048577 := by omega
  clear ht1 HSp hb1
  go_loopw [12] (fun i wr => ∃ k : Nat, i = .int .i64 (k : Int) ∧ k ≤ len ∧ (∀ (j : Nat) (p : List UInt8), j < k → (partsL l)[j]? = some p → labB p = true) ∧ Below w1.heap.size w1 wr) (fun i _ => 1048578 - (intOf i).toNat)
  case atStart => exact ⟨0, rfl, Nat.zero_le _, fun j p hj => absurd hj (by omega), Below.refl _ _⟩
  case round =>
    obtain ⟨k, rfl, hk, hno, hbr⟩ := hrel
    have HNo := Lib.hid hno
    have HBr := Lib.hid hbr
    clear hno hbr
    have hk0 : (0 : Int) ≤ (k : Int) := by omega
    by_cases hlt : k < len
    · have hli : (k : Int) < (len : Int) := by omega
      obtain ⟨x, rfl, c1, _⟩ := (HT.out.next HBr.out).at hlt
      obtain ⟨p, hp⟩ : ∃ p, (partsL l)[k]? = some p := ⟨_, List.getElem?_eq_getElem (by omega)⟩
      have hpm := List.mem_of_getElem? hp
      have hps := HPl.out p hpm
      have hX : (bas (partsL l)).getD k ByteArray.empty = ba p := by rw [List.getD_eq_getElem?_getD, bas, List.getElem?_map, hp]; rfl
      rw [hX] at c1
      have hlab := fun w => lisLabel_any (ba p) (by rw [ba_size]; exact hps) w
      rw [ba_list] at hlab
      cases hlp : labB p with
      | true =>
        rw [hlp] at hlab
        have HLab := Lib.hid hlab
        have HN2 := Lib.hid (show ∀ (j : Nat) (q : List UInt8), j < k + 1 → (partsL l)[j]? = some q → labB q = true from fun j q hj hq => by
          by_cases hjk : j = k
          · subst hjk
            rw [hp] at hq
            rw [← Option.some.inj hq]; exact hlp
          · exact HNo.out j q (by omega) hq)
        clear hlab hlp hX hps hpm hp HNo
        generalize ba p = X at *
        go_wp2_with (first
          | (go_at_call 78; (with_reducible refine (HLab.out _).mono ?_); rintro e w2 ⟨rfl, hb2⟩))
        go_roundw
        case rel => exact ⟨k + 1, by go_num, by omega, HN2.out, Below_next HBr.out hb2⟩
        case measure => simp only [intOf]; omega
      | false =>
        rw [hlp] at hlab
        have HLab := Lib.hid hlab
        have HR := Lib.hid (HRn.out (domB_no hpm hlp))
        clear hlab hlp hX hps hpm hp HNo
        generalize ba p = X at *
        go_wp2_with (first
          | (go_at_call 78; (with_reducible refine (HLab.out _).mono ?_); rintro e w2 ⟨rfl, hb2⟩))
        go_ret2
        exact ⟨by rw [HR.out]; rfl, Below_next (Below_next HB1.out HBr.out) hb2⟩
    · have hli : ¬ (k : Int) < (len : Int) := by omega
      have hd : domB l = true := HD.out (List.all_eq_true.2 fun p hp => by
        obtain ⟨j, hj, rfl⟩ := List.getElem_of_mem hp
        exact HNo.out j _ (by omega) (List.getElem?_eq_getElem hj))
      have HR := Lib.hid (HRy.out hd)
      have HL2 := Lib.hid (HLo.out hd)
      clear hd HNo
      go_wp2_with (first
        | (go_at_call 79; (with_reducible refine (HL2.out _).mono ?_); rintro e w2 ⟨rfl, hb2⟩))
      go_ret2
      exact ⟨by rw [HR.out]; rfl, Below_next (Below_next HB1.out HBr.out) hb2⟩

theorem lit_nil {l : List UInt8} {s : ByteArray} (hs : s = ba l) : (s.toList == []) = l.isEmpty := by
  rw [hs, size_nil, ba_list]
set_option maxHeartbeats 2000000 in
set_option maxRecDepth 100000 in
theorem lPlain_any (s : ByteArray) (hs : s.size ≤ 1048576) (w : World) :
    Calls Tryz.prog 121 #[.string s] w fun e w' => e = .returned (.bool (plaB s.data.toList)) ∧ Below w.heap.size w w' := by
  have hll : s.data.toList.length = s.size := by simp
  have HSp := Lib.hid (fun w => lib_split s hs w)
  have hL := fun w => lLocal_any s hs w
  have hE := plaB_eq s.data.toList
  have HNop := Lib.hid (fun (p : List UInt8) (h1 : p ∈ partsL s.data.toList) (h2 : atomB p = false) => plaB_no h1 h2)
  generalize s.data.toList = l at *
  generalize plaB l = R at *
  cases hlo : locB l with
  | false =>
    rw [hlo] at hL hE
    have HL := Lib.hid hL
    have HR := Lib.hid (show R = false by rw [hE, Bool.and_false])
    clear hL hE hlo HNop HSp hll
    go_enter Tryz.func121, Tryz.ntmps121
    go_wp2_with (first
      | (go_at_call 88; (with_reducible refine (HL.out _).mono ?_); rintro e w1 ⟨rfl, hb1⟩))
    go_ret
    exact ⟨by rw [HR.out]; rfl, hb1⟩
  | true =>
    rw [hlo, Bool.and_true] at hE
    rw [hlo] at hL
    have HL := Lib.hid hL
    have HE := Lib.hid hE
    have HPl := Lib.hid (show ∀ p ∈ partsL l, p.length ≤ 1048576 from fun p hp => by have := parts_len l p hp; omega)
    have hcnt := parts_count l
    clear hL hE hlo
    go_enter Tryz.func121, Tryz.ntmps121
    go_wp2_with (first
      | (go_at_call 88; (with_reducible refine (HL.out _).mono ?_); rintro e w0 ⟨rfl, hb0⟩; have HB0 := Lib.hid hb0)
      | (go_at_call 77; (with_reducible refine (HSp.out _).mono ?_); rintro e w1 ⟨a, len, cap, rfl, ht1, hb1⟩))
    have HT := Lib.hid ht1
    have HB1 := Lib.hid (Below_next HB0.out hb1)
    have hlen := ht1.len.1
    rw [bas_len] at hlen
    have hlb : len ≤ 1048577 := by omega
    clear ht1 HSp hb1 hb0 HL
    go_loopw [11] (fun i wr => ∃ k : Nat, i = .int .i64 (k : Int) ∧ k ≤ len ∧ (∀ (j : Nat) (p : List UInt8), j < k → (partsL l)[j]? = some p → atomB p = true) ∧ Below w1.heap.size w1 wr) (fun i _ => 1048578 - (intOf i).toNat)
    case atStart => exact ⟨0, rfl, Nat.zero_le _, fun j p hj => absurd hj (by omega), Below.refl _ _⟩
    case round =>
      obtain ⟨k, rfl, hk, hno, hbr⟩ := hrel
      have HNo := Lib.hid hno
      have HBr := Lib.hid hbr
      clear hno hbr
      have hk0 : (0 : Int) ≤ (k : Int) := by omega
      by_cases hlt : k < len
      · have hli : (k : Int) < (len : Int) := by omega
        obtain ⟨x, rfl, c1, _⟩ := (HT.out.next HBr.out).at hlt
        obtain ⟨p, hp⟩ : ∃ p, (partsL l)[k]? = some p := ⟨_, List.getElem?_eq_getElem (by omega)⟩
        have hpm := List.mem_of_getElem? hp
        have hps := HPl.out p hpm
        have hX : (bas (partsL l)).getD k ByteArray.empty = ba p := by rw [List.getD_eq_getElem?_getD, bas, List.getElem?_map, hp]; rfl
        rw [hX] at c1
        have hz := lit_nil (l := p) (s := ba p) rfl
        have hall := fun w => all_ofAtom (ba p) (by rw [ba_size]; exact hps) w
        rw [ba_list] at hall
        have hat : atomB p = (!p.isEmpty && p.all atB) := by
          rw [atomB]; cases p <;> simp
        cases hpe : p.isEmpty with
        | true =>
          rw [hpe] at hz hat
          have HR := Lib.hid (HNop.out p hpm (by rw [hat]; rfl))
          clear hall hat hpe hX hps hpm hp HNo
          generalize ba p = X at *
          go_wp2
          go_ret
          exact ⟨by rw [HR.out]; rfl, Below_next HB1.out HBr.out⟩
        | false =>
          rw [hpe] at hz hat
          cases hpa : p.all atB with
          | true =>
            rw [hpa] at hall hat
            have HAll := Lib.hid hall
            have HN2 := Lib.hid (show ∀ (j : Nat) (q : List UInt8), j < k + 1 → (partsL l)[j]? = some q → atomB q = true from fun j q hj hq => by
              by_cases hjk : j = k
              · subst hjk
                rw [hp] at hq
                rw [← Option.some.inj hq]; exact hat
              · exact HNo.out j q (by omega) hq)
            clear hall hat hpe hpa hX hps hpm hp HNo
            generalize ba p = X at *
            go_wp2_with (first
              | (go_at_call 106; (with_reducible refine (HAll.out _).mono ?_); rintro e w2 ⟨rfl, hb2⟩))
            go_roundw
            case rel => exact ⟨k + 1, by go_num, by omega, HN2.out, Below_next HBr.out hb2⟩
            case measure => simp only [intOf]; omega
          | false =>
            rw [hpa] at hall hat
            have HAll := Lib.hid hall
            have HR := Lib.hid (HNop.out p hpm hat)
            clear hall hat hpe hpa hX hps hpm hp HNo
            generalize ba p = X at *
            go_wp2_with (first
              | (go_at_call 106; (with_reducible refine (HAll.out _).mono ?_); rintro e w2 ⟨rfl, hb2⟩))
            go_ret
            exact ⟨by rw [HR.out]; rfl, Below_next (Below_next HB1.out HBr.out) hb2⟩
      · have hli : ¬ (k : Int) < (len : Int) := by omega
        have HR := Lib.hid (show R = true from HE.out.trans (List.all_eq_true.2 fun p hp => by
          obtain ⟨j, hj, rfl⟩ := List.getElem_of_mem hp
          exact HNo.out j _ (by omega) (List.getElem?_eq_getElem hj)))
        clear HNo
        go_wp2
        go_ret
        exact ⟨by rw [HR.out]; rfl, Below_next HB1.out HBr.out⟩
end Go.Proofs.YtahbbnimoogapaaGreatDoor
namespace Go.Proofs.YtahbbnimoogapaaGreatDoor
open Go.RowKit

set_option maxHeartbeats 1000000 in
set_option maxRecDepth 100000 in
theorem lmay_any (b : BoxA) (h1 : b.loc.length ≤ 1048576)  (w : World) :
    Calls Tryz.prog 66 #[boxV b] w fun e w' => e = .returned (.bool (mayB b)) ∧ Below w.heap.size w w' := by
  have HD := Lib.hid (fun w => lDomain_any (ba b.dom) w)
  have HL := Lib.hid (fun w => lLocal_any (ba b.loc) (by rw [ba_size]; exact h1) w)
  rw [ba_list] at HD HL
  have q := tl8 (a := ba (smL b.dom)) (b := ba b.dom)
  have hq : decide (ba (smL b.dom) = ba b.dom) = decide (smL b.dom = b.dom) := by
    by_cases h : smL b.dom = b.dom
    · rw [h, decide_eq_true rfl, decide_eq_true rfl]
    · rw [decide_eq_false h, decide_eq_false fun e => h (ba_inj e)]
  rw [hq] at q
  have HM := Lib.hid (show mayB b = (domB b.dom && decide (smL b.dom = b.dom) && locB b.loc) from rfl)
  rw [boxV]
  generalize mayB b = M at *
  have hA0 := Lib.hid (Arr.new w #[.string (ba b.loc), .string (ba b.dom)] 24)
  have hb0 := Lib.hid ((Below.refl w.heap.size w).alloc (Nat.le_refl _) (.cells #[.string (ba b.loc), .string (ba b.dom)] 24))
  clear h1 hq
  cases hd : domB b.dom with
  | false =>
    rw [domR, if_neg (by rw [hd]; decide)] at HD
    have HMf := Lib.hid (show M = false by rw [HM.out, hd]; rfl)
    clear hd q HM
    generalize ba b.dom = DD at *
    generalize ba b.loc = LL at *
    go_enter Tryz.func66, Tryz.ntmps66
    go_wp2_with (first
      | (go_at_call 54; (with_reducible refine (HD.out _).mono ?_); rintro e w2 ⟨rfl, hb2⟩))
    go_ret
    exact ⟨by rw [HMf.out]; rfl, Below_next hb0.out hb2⟩
  | true =>
    rw [domR, if_pos hd] at HD
    cases hs : decide (smL b.dom = b.dom) with
    | false =>
      rw [hs] at q
      have HMf := Lib.hid (show M = false by rw [HM.out, hd, hs]; rfl)
      clear hd HM hs
      generalize ba (smL b.dom) = SS at *
      generalize ba b.dom = DD at *
      generalize ba b.loc = LL at *
      go_enter Tryz.func66, Tryz.ntmps66
      go_wp2_with (first
        | (go_at_call 54; (with_reducible refine (HD.out _).mono ?_); rintro e w2 ⟨rfl, hb2⟩; have c1 := (hA0.out.next hb2).cell (j := 1) rfl))
      go_ret
      exact ⟨by rw [HMf.out]; rfl, Below_next hb0.out hb2⟩
    | true =>
      rw [hs] at q
      have HMf := Lib.hid (show M = locB b.loc by rw [HM.out, hd, hs]; rfl)
      clear hd HM hs
      generalize ba (smL b.dom) = SS at *
      generalize ba b.dom = DD at *
      generalize ba b.loc = LL at *
      generalize locB b.loc = LB at *
      go_enter Tryz.func66, Tryz.ntmps66
      go_wp2_with (first
        | (go_at_call 54; (with_reducible refine (HD.out _).mono ?_); rintro e w2 ⟨rfl, hb2⟩; have c1 := (hA0.out.next hb2).cell (j := 1) rfl; have c0 := (hA0.out.next hb2).cell (j := 0) rfl)
        | (go_at_call 88; (with_reducible refine (HL.out _).mono ?_); rintro e w3 ⟨rfl, hb3⟩))
      go_ret
      exact ⟨by rw [HMf.out]; rfl, Below_next (Below_next hb0.out hb2) hb3⟩

theorem esc_yes {l : List UInt8} {k : Nat} {c : UInt8} (h : l[k]? = some c) (hc : c = 34 ∨ c = 92) : (34 :: escL (l.take k)) ++ [92] ++ [c] = 34 :: escL (l.take (k + 1)) := by
  rw [escL_take h, if_pos hc]; simp
theorem esc_no {l : List UInt8} {k : Nat} {c : UInt8} (h : l[k]? = some c) (hc : ¬ (c = 34 ∨ c = 92)) : (34 :: escL (l.take k)) ++ [c] = 34 :: escL (l.take (k + 1)) := by
  rw [escL_take h, if_neg hc]; simp

set_option maxHeartbeats 2000000 in
set_option maxRecDepth 100000 in
theorem lquoted_any (s : ByteArray) (hs : s.size ≤ 1048576) (w : World) :
    Calls Tryz.prog 122 #[.string s] w fun e w' => e = .returned (.string (ba (34 :: (escL s.data.toList ++ [34])))) ∧ Below w.heap.size w w' := by
  have HAt := Lib.hid (fun k (h : k < s.size) => byte_at (s := s) h)
  have hll : s.data.toList.length = s.size := by simp
  have h0 := Lib.hid ((Below.refl w.heap.size w).alloc (Nat.le_refl _) (.cells #[.int .u8 34] 5))
  have HO := Lib.hid (ob_one w w.heap.size (Nat.le_refl _) 34 34 rfl)
  generalize s.data.toList = l at *
  have HF := Lib.hid (show ba (34 :: (escL l ++ [34])) = (⟨((34 :: escL l) ++ [34]).toArray⟩ : ByteArray) from rfl)
  generalize ba (34 :: (escL l ++ [34])) = R at *
  go_enter Tryz.func122, Tryz.ntmps122
  go_wp2
  go_loopw [3, 8] (fun o i wr => ∃ k : Nat, i = .int .i64 (k : Int) ∧ k ≤ s.size ∧ Ob wr w.heap.size o (34 :: escL (l.take k)) ∧ Below w.heap.size w wr) (fun _ i _ => 1048577 - (intOf i).toNat)
  case atStart => exact ⟨0, rfl, Nat.zero_le _, HO.out, h0.out⟩
  case round =>
    obtain ⟨k, rfl, hk, hown, hbel⟩ := hrel
    have HOw := Lib.hid hown
    have HL := Lib.hid (show (34 :: escL (l.take k)).length ≤ 2 * k + 1 by have := escL_len (l.take k); rw [List.length_take] at this; rw [List.length_cons]; omega)
    have hk0 : (0 : Int) ≤ (k : Int) := by omega
    clear hown
    by_cases hlt : k < s.size
    · have hli : (k : Int) < (s.size : Int) := by omega
      have hat := HAt.out k hlt
      have q1 : ((s[k].toNat : Int) == 34) = decide (s[k] = 34) := by rw [show (34 : Int) = ((34 : Nat) : Int) from rfl, byte_is (by decide)]; rfl
      have q2 : ((s[k].toNat : Int) == 92) = decide (s[k] = 92) := by rw [show (92 : Int) = ((92 : Nat) : Int) from rfl, byte_is (by decide)]; rfl
      by_cases hc : s[k] = 34 ∨ s[k] = 92
      · have HN := Lib.hid (esc_yes hat hc)
        by_cases h3 : s[k] = 34
        all_goals
          (first | (rw [decide_eq_true h3] at q1) | (rw [decide_eq_false h3] at q1; rw [decide_eq_true (hc.resolve_left h3)] at q2))
          clear hat hc h3
          go_wp2_with (first
            | (at_builtin; refine wpList_push2 wr HOw.out rfl _ _ rfl rfl rfl 92 rfl (by have := HL.out; omega) hbel.size ?_; intro v5 w5 h5 hb5; have HO5 := Lib.hid h5; have hbel5 := hbel.trans hb5; clear h5)
            | (at_builtin; refine wpList_push2 w5 HO5.out rfl _ _ rfl rfl rfl s[k] rfl (by have := HL.out; rw [List.length_append, List.length_singleton]; omega) hbel5.size ?_; intro v6 w6 h6 hb6; rw [HN.out] at h6))
          go_roundw
          case rel => exact ⟨k + 1, by go_num, by omega, h6, hbel5.trans hb6⟩
          case measure => simp only [intOf]; omega
      · have HN := Lib.hid (esc_no hat hc)
        rw [decide_eq_false (fun h => hc (.inl h))] at q1
        rw [decide_eq_false (fun h => hc (.inr h))] at q2
        clear hat hc
        go_wp2_with (first
          | (at_builtin; refine wpList_push2 wr HOw.out rfl _ _ rfl rfl rfl s[k] rfl (by have := HL.out; omega) hbel.size ?_; intro v6 w6 h6 hb6; rw [HN.out] at h6))
        go_roundw
        case rel => exact ⟨k + 1, by go_num, by omega, h6, hbel.trans hb6⟩
        case measure => simp only [intOf]; omega
    · have hli : ¬ (k : Int) < (s.size : Int) := by omega
      have HT := Lib.hid (show l.take k = l from List.take_of_length_le (by omega))
      go_wp2_with (first
        | (at_builtin; refine wpList_push2 wr HOw.out rfl _ _ rfl rfl rfl 34 rfl (by have := HL.out; omega) hbel.size ?_; intro v5 w5 h5 hb5; rw [HT.out] at h5; have HO5 := Lib.hid h5; have hbel5 := hbel.trans hb5; clear h5)
        | (refine wpList_ob_string w5 rfl _ rfl HO5.out rfl ?_; rw [← HF.out]))
      go_ret
      exact ⟨rfl, hbel5⟩

set_option maxHeartbeats 2000000 in
set_option maxRecDepth 100000 in
theorem lwrite_any (b : BoxA) (h1 : b.loc.length ≤ 1048576) (h2 : b.dom.length ≤ 1048576) (w : World) :
    Calls Tryz.prog 86 #[boxV b] w fun e w' => e = .returned (wrR b) ∧ Below w.heap.size w w' := by
  have HMy := Lib.hid (fun w => lmay_any b h1 w)
  have HP := Lib.hid (fun w => lPlain_any (ba b.loc) (by rw [ba_size]; exact h1) w)
  have HQ := Lib.hid (fun w => lquoted_any (ba b.loc) (by rw [ba_size]; exact h1) w)
  rw [ba_list] at HP HQ
  have HW := Lib.hid (show wrR b = if mayB b = true then .tuple #[.string (ba (wrL b)), .int .i64 0] else .tuple #[.string ⟨#[]⟩, .int .i64 2] from rfl)
  have HWl := Lib.hid (show wrL b = if plaB b.loc = true then b.loc ++ 64 :: b.dom else 34 :: (escL b.loc ++ 34 :: 64 :: b.dom) from rfl)
  have hA0 := Lib.hid (Arr.new w #[.string (ba b.loc), .string (ba b.dom)] 24)
  have hb0 := Lib.hid ((Below.refl w.heap.size w).alloc (Nat.le_refl _) (.cells #[.string (ba b.loc), .string (ba b.dom)] 24))
  have hsl := ba_size b.loc
  have hsd := ba_size b.dom
  have hel := escL_len b.loc
  have e1 : (⟨#[64]⟩ : ByteArray).size = 1 := rfl
  rw [boxV] at HMy ⊢
  generalize wrR b = R at *
  generalize wrL b = WL at *
  cases hm : mayB b with
  | false =>
    rw [hm] at HMy
    have HR := Lib.hid (show R = .tuple #[.string ⟨#[]⟩, .int .i64 2] by rw [HW.out, if_neg (by rw [hm]; decide)])
    clear hm hsl hsd HP HQ h1 h2 HW HWl hel e1
    generalize ba b.dom = DD at *
    generalize ba b.loc = LL at *
    have c0 : (w.alloc (.cells #[.string LL, .string DD] 24)).cell? ⟨w.heap.size, 0, none⟩ = some (.string LL) := hA0.out.cell rfl
    have c1 : (w.alloc (.cells #[.string LL, .string DD] 24)).cell? ⟨w.heap.size, 1, none⟩ = some (.string DD) := hA0.out.cell rfl
    go_enter Tryz.func86, Tryz.ntmps86
    go_wp2_with (first
      | (go_at_call 66; (with_reducible refine (HMy.out _).mono ?_); rintro e w2 ⟨rfl, hb2⟩))
    go_ret2
    exact ⟨by rw [HR.out]; rfl, Below_next hb0.out hb2⟩
  | true =>
    rw [hm] at HMy
    have HR := Lib.hid (show R = .tuple #[.string (ba WL), .int .i64 0] by rw [HW.out, if_pos hm])
    cases hp : plaB b.loc with
    | true =>
      rw [hp] at HP
      have hW2 : ba WL = (ba b.loc ++ ⟨#[64]⟩) ++ ba b.dom := by
        rw [HWl.out, if_pos hp]
        apply ByteArray.ext
        simp [ba]
      have s1 := cat_run (ba b.loc) ⟨#[64]⟩ (by omega)
      have s2 := cat_run (ba b.loc ++ ⟨#[64]⟩) (ba b.dom) (by rw [ByteArray.size_append]; omega)
      rw [← hW2] at s2
      clear hm hp hW2 HW HWl hsl hsd e1 h1 h2 hel HQ
      generalize ba WL = W2 at *
      generalize ba b.loc ++ ⟨#[64]⟩ = L2 at *
      generalize ba b.dom = DD at *
      generalize ba b.loc = LL at *
      have c0 : (w.alloc (.cells #[.string LL, .string DD] 24)).cell? ⟨w.heap.size, 0, none⟩ = some (.string LL) := hA0.out.cell rfl
      have c1 : (w.alloc (.cells #[.string LL, .string DD] 24)).cell? ⟨w.heap.size, 1, none⟩ = some (.string DD) := hA0.out.cell rfl
      go_enter Tryz.func86, Tryz.ntmps86
      go_wp2_with (first
        | (go_at_call 66; (with_reducible refine (HMy.out _).mono ?_); rintro e w2 ⟨rfl, hb2⟩; have hA2 := Lib.hid (hA0.out.next hb2); have c20 := hA2.out.cell (j := 0) rfl)
        | (go_at_call 121; (with_reducible refine (HP.out _).mono ?_); rintro e w3 ⟨rfl, hb3⟩; have c30 := (hA2.out.next hb3).cell (j := 0) rfl; have c31 := (hA2.out.next hb3).cell (j := 1) rfl))
      go_ret2
      exact ⟨by rw [HR.out]; rfl, Below_next (Below_next hb0.out hb2) hb3⟩
    | false =>
      rw [hp] at HP
      have hqs := ba_size (34 :: (escL b.loc ++ [34]))
      rw [List.length_cons, List.length_append, List.length_singleton] at hqs
      have hW2 : ba WL = (ba (34 :: (escL b.loc ++ [34])) ++ ⟨#[64]⟩) ++ ba b.dom := by
        rw [HWl.out, if_neg (by rw [hp]; decide)]
        apply ByteArray.ext
        simp [ba]
      have s1 := cat_run (ba (34 :: (escL b.loc ++ [34]))) ⟨#[64]⟩ (by omega)
      have s2 := cat_run (ba (34 :: (escL b.loc ++ [34])) ++ ⟨#[64]⟩) (ba b.dom) (by rw [ByteArray.size_append]; omega)
      rw [← hW2] at s2
      clear hm hp hW2 HW HWl hsl hsd e1 h1 h2 hel hqs
      generalize ba WL = W2 at *
      generalize ba (34 :: (escL b.loc ++ [34])) ++ ⟨#[64]⟩ = L2 at *
      generalize ba (34 :: (escL b.loc ++ [34])) = QQ at *
      generalize ba b.dom = DD at *
      generalize ba b.loc = LL at *
      have c0 : (w.alloc (.cells #[.string LL, .string DD] 24)).cell? ⟨w.heap.size, 0, none⟩ = some (.string LL) := hA0.out.cell rfl
      have c1 : (w.alloc (.cells #[.string LL, .string DD] 24)).cell? ⟨w.heap.size, 1, none⟩ = some (.string DD) := hA0.out.cell rfl
      go_enter Tryz.func86, Tryz.ntmps86
      go_wp2_with (first
        | (go_at_call 66; (with_reducible refine (HMy.out _).mono ?_); rintro e w2 ⟨rfl, hb2⟩; have hA2 := Lib.hid (hA0.out.next hb2); have c20 := hA2.out.cell (j := 0) rfl)
        | (go_at_call 121; (with_reducible refine (HP.out _).mono ?_); rintro e w3 ⟨rfl, hb3⟩; have hA3 := Lib.hid (hA2.out.next hb3); have c30 := hA3.out.cell (j := 0) rfl)
        | (go_at_call 122; (with_reducible refine (HQ.out _).mono ?_); rintro e w4 ⟨rfl, hb4⟩; have c41 := (hA3.out.next hb4).cell (j := 1) rfl))
      go_ret2
      exact ⟨by rw [HR.out]; rfl, Below_next (Below_next (Below_next hb0.out hb2) hb3) hb4⟩

set_option maxHeartbeats 1000000 in
set_option maxRecDepth 100000 in
theorem lpath_any (b : BoxA) (h1 : b.loc.length ≤ 1048576) (h2 : b.dom.length ≤ 1048576) (w : World) :
    Calls Tryz.prog 64 #[boxV b] w fun e w' => e = .returned (pathR b) ∧ Below w.heap.size w w' := by
  have HWr := Lib.hid (fun w => lwrite_any b h1 h2 w)
  have HR0 := Lib.hid (show pathR b = match pathL b with
    | some p => .tuple #[.string (ba p), .int .i64 0]
    | none => .tuple #[.string ⟨#[]⟩, .int .i64 2] from rfl)
  have HW := Lib.hid (show wrR b = if mayB b = true then .tuple #[.string (ba (wrL b)), .int .i64 0] else .tuple #[.string ⟨#[]⟩, .int .i64 2] from rfl)
  have HP := Lib.hid (show pathL b = if b.loc.length + b.dom.length = 0 then some [60, 62] else if mayB b = true then some (60 :: (wrL b ++ [62])) else none from rfl)
  have hwl := wrL_len b
  have hA0 := Lib.hid (Arr.new w #[.string (ba b.loc), .string (ba b.dom)] 24)
  have hb0 := Lib.hid ((Below.refl w.heap.size w).alloc (Nat.le_refl _) (.cells #[.string (ba b.loc), .string (ba b.dom)] 24))
  have zl := lit_nil (l := b.loc) (s := ba b.loc) rfl
  have zd := lit_nil (l := b.dom) (s := ba b.dom) rfl
  rw [boxV] at HWr ⊢
  generalize pathR b = R at *
  generalize wrR b = RW at *
  by_cases h0 : b.loc.length + b.dom.length = 0
  · have HR := Lib.hid (show R = .tuple #[.string (ba [60, 62]), .int .i64 0] by rw [HR0.out, HP.out, if_pos h0])
    have l0 : b.loc = [] := List.length_eq_zero_iff.1 (by omega)
    have d0 : b.dom = [] := List.length_eq_zero_iff.1 (by omega)
    rw [l0] at zl
    rw [d0] at zd
    rw [l0] at hA0 hb0 HWr ⊢
    rw [d0] at hA0 hb0 HWr ⊢
    generalize ba [] = E at *
    have c0 : (w.alloc (.cells #[.string E, .string E] 24)).cell? ⟨w.heap.size, 0, none⟩ = some (.string E) := hA0.out.cell rfl
    have c1 : (w.alloc (.cells #[.string E, .string E] 24)).cell? ⟨w.heap.size, 1, none⟩ = some (.string E) := hA0.out.cell rfl
    clear h0 hwl h1 h2 l0 d0
    have z : (E.toList == []) = true := zl
    clear zl zd
    go_enter Tryz.func64, Tryz.ntmps64
    go_wp2
    go_ret2
    exact ⟨by rw [HR.out]; rfl, hb0.out⟩
  · have hz : ((ba b.loc).toList == []) = false ∨ (((ba b.loc).toList == []) = true ∧ ((ba b.dom).toList == []) = false) := by
      rw [zl, zd]
      cases hl : b.loc with
      | cons _ _ => exact .inl rfl
      | nil =>
        cases hd : b.dom with
        | cons _ _ => exact .inr ⟨rfl, rfl⟩
        | nil => rw [hl, hd] at h0; exact absurd rfl h0
    clear zl zd
    cases hm : mayB b with
    | false =>
      have HR := Lib.hid (show R = .tuple #[.string ⟨#[]⟩, .int .i64 2] by rw [HR0.out, HP.out, if_neg h0, if_neg (by rw [hm]; decide)])
      have hrw : RW = .tuple #[.string ⟨#[]⟩, .int .i64 2] := by rw [HW.out, if_neg (by rw [hm]; decide)]
      rw [hrw] at HWr
      clear hrw hm h0 hwl h1 h2
      generalize ba b.dom = DD at *
      generalize ba b.loc = LL at *
      have c0 : (w.alloc (.cells #[.string LL, .string DD] 24)).cell? ⟨w.heap.size, 0, none⟩ = some (.string LL) := hA0.out.cell rfl
      have c1 : (w.alloc (.cells #[.string LL, .string DD] 24)).cell? ⟨w.heap.size, 1, none⟩ = some (.string DD) := hA0.out.cell rfl
      rcases hz with z | ⟨z, y⟩
      all_goals
        go_enter Tryz.func64, Tryz.ntmps64
        go_wp2_with (first
          | (go_at_call 86; (with_reducible refine (HWr.out _).mono ?_); rintro e w2 ⟨rfl, hb2⟩))
        go_ret2
        exact ⟨by rw [HR.out]; rfl, Below_next hb0.out hb2⟩
    | true =>
      have HR := Lib.hid (show R = .tuple #[.string (ba (60 :: (wrL b ++ [62]))), .int .i64 0] by rw [HR0.out, HP.out, if_neg h0, if_pos hm])
      have hrw : RW = .tuple #[.string (ba (wrL b)), .int .i64 0] := by rw [HW.out, if_pos hm]
      rw [hrw] at HWr
      have e1 : (⟨#[60]⟩ : ByteArray).size = 1 := rfl
      have e2 : (⟨#[62]⟩ : ByteArray).size = 1 := rfl
      have hws := ba_size (wrL b)
      have s1 := cat_run ⟨#[60]⟩ (ba (wrL b)) (by omega)
      have s2 := cat_run (⟨#[60]⟩ ++ ba (wrL b)) ⟨#[62]⟩ (by rw [ByteArray.size_append]; omega)
      have hN : (⟨#[60]⟩ ++ ba (wrL b)) ++ ⟨#[62]⟩ = ba (60 :: (wrL b ++ [62])) := by
        apply ByteArray.ext
        simp [ba]
      rw [hN] at s2
      clear hrw hm h0 hwl h1 h2 hN hws e1 e2
      generalize ba (60 :: (wrL b ++ [62])) = PP at *
      generalize (⟨#[60]⟩ ++ ba (wrL b) : ByteArray) = P1 at *
      generalize ba (wrL b) = WW at *
      generalize ba b.dom = DD at *
      generalize ba b.loc = LL at *
      have c0 : (w.alloc (.cells #[.string LL, .string DD] 24)).cell? ⟨w.heap.size, 0, none⟩ = some (.string LL) := hA0.out.cell rfl
      have c1 : (w.alloc (.cells #[.string LL, .string DD] 24)).cell? ⟨w.heap.size, 1, none⟩ = some (.string DD) := hA0.out.cell rfl
      rcases hz with z | ⟨z, y⟩
      all_goals
        go_enter Tryz.func64, Tryz.ntmps64
        go_wp2_with (first
          | (go_at_call 86; (with_reducible refine (HWr.out _).mono ?_); rintro e w2 ⟨rfl, hb2⟩))
        go_ret2
        exact ⟨by rw [HR.out]; rfl, Below_next hb0.out hb2⟩
end Go.Proofs.YtahbbnimoogapaaGreatDoor
