/- cmd, landed: letters, texts that are alike; a line that is read: spaces, words, words that are looked for. cmd, landed: the library's contracts that it leans on; a line that is read: spaces, words, words that are looked for. -/
import Derived.Test.YtahbbnimoogapaaGreatDoorMK
import Derived.Test.YtahbbnimoogapaaGreatDoorBas
import Derived.Test.YtahbbnimoogapaaGreatDoorFro
import Derived.Test.YtahbbnimoogapaaGreatDoorShelf
import Derived.Deep.QuietTactic
import Derived.BigQuiet
import Derived.StillTailTactics
namespace Go.Proofs.YtahbbnimoogapaaGreatDoor
open Go.RowKit

theorem llow_any (c : UInt8) (w : World) :
    Calls Tryz.prog 51 #[.int .u8 (c.toNat : Int)] w fun e w' => e = .returned (.int .u8 ((smB c).toNat : Int)) ∧ w' = w := by
  by_cases h1 : 65 ≤ c.toNat
  · have b1 : (65 : Int) ≤ (c.toNat : Int) := by omega
    by_cases h2 : c.toNat ≤ 90
    · have b2 : (c.toNat : Int) ≤ 90 := by omega
      have e3 : ((c.toNat : Int) + 32) = ((smB c).toNat : Int) := by
        rw [smB, if_pos ⟨UInt8.le_iff_toNat_le.2 h1, UInt8.le_iff_toNat_le.2 h2⟩, UInt8.toNat_add, show (32 : UInt8).toNat = 32 from rfl]
        omega
      have w1 : IntKind.u8.wrap ((c.toNat : Int) + 97) = (c.toNat : Int) + 97 := by rw [IntKind.wrap_u8]; omega
      have w2 : IntKind.u8.wrap ((c.toNat : Int) + 97 - 65) = (c.toNat : Int) + 32 := by rw [IntKind.wrap_u8]; omega
      have HE := Lib.hid e3
      clear h1 h2 e3
      generalize c.toNat = X at *
      go_enter Tryz.func51, Tryz.ntmps51
      go_wp2
      go_ret
      exact ⟨by rw [← HE.out]; rfl, rfl⟩
    · have b2 : ¬ (c.toNat : Int) ≤ 90 := by omega
      have e3 : smB c = c := by
        rw [smB, if_neg]
        rintro ⟨_, h⟩
        exact h2 (UInt8.le_iff_toNat_le.1 h)
      rw [e3]
      clear h1 h2 e3
      generalize c.toNat = X at *
      go_enter Tryz.func51, Tryz.ntmps51
      go_wp2
      go_ret
      exact ⟨rfl, rfl⟩
  · have b1 : ¬ (65 : Int) ≤ (c.toNat : Int) := by omega
    have e3 : smB c = c := by
      rw [smB, if_neg]
      rintro ⟨h, _⟩
      exact h1 (UInt8.le_iff_toNat_le.1 h)
    rw [e3]
    clear h1 e3
    generalize c.toNat = X at *
    go_enter Tryz.func51, Tryz.ntmps51
    go_wp2
    go_ret
    exact ⟨rfl, rfl⟩

theorem sm_step {a b : List UInt8} {k : Nat} {x y : UInt8} (ha : a[k]? = some x) (hb : b[k]? = some y) (h : smL (a.take k) = smL (b.take k)) : smL (a.take (k + 1)) = smL (b.take (k + 1)) ↔ smB x = smB y := by
  have e1 : smL (a.take (k + 1)) = smL (a.take k) ++ [smB x] := by rw [List.take_add_one, ha, smL, List.map_append]; rfl
  have e2 : smL (b.take (k + 1)) = smL (b.take k) ++ [smB y] := by rw [List.take_add_one, hb, smL, List.map_append]; rfl
  rw [e1, e2, h, List.append_cancel_left_eq]
  simp
theorem sm_len' {a b : List UInt8} (h : smL a = smL b) : a.length = b.length := by
  have := congrArg List.length h
  simpa [smL] using this
theorem sm_take {a b : List UInt8} (h : smL a = smL b) (k : Nat) : smL (a.take k) = smL (b.take k) := by
  rw [smL, smL, List.map_take, List.map_take]
  exact congrArg (List.take k) h

theorem measA {k n : Nat} (h : k < n) (hw : wrap64 ((k : Int) + 1) = (k : Int) + 1) : n - (intOf (.int .i64 (wrap64 ((k : Int) + 1)))).toNat < n - (intOf (.int .i64 (k : Int))).toNat := by
  rw [hw]; simp only [intOf]; omega
theorem measB {k n : Nat} (h : k < n) : n - (intOf (.int .i64 ((k : Int) + 1))).toNat < n - (intOf (.int .i64 (k : Int))).toNat := by
  simp only [intOf]; omega
/-- A world behind draws alone. -/
def Drw (w w' : World) : Prop := ∃ q, w' = w.drewN q
theorem Drw.refl (w : World) : Drw w w := ⟨0, rfl⟩
theorem Drw.drewN {w w' : World} (h : Drw w w') (n : Nat) : Drw w (w'.drewN n) := by
  obtain ⟨q, rfl⟩ := h
  exact ⟨q + n, by simp⟩
theorem Drw.below {w w' : World} (h : Drw w w') (B : Nat) : Below B w w' := by
  obtain ⟨q, rfl⟩ := h
  exact Below_drewN (Below.refl _ _) _

set_option maxHeartbeats 1000000 in
set_option maxRecDepth 100000 in
theorem lalike_any (a b : List UInt8) (_ : a.length ≤ 1048576) (hl2 : b.length ≤ 1048576) (w : World) :
    Calls Tryz.prog 27 #[.string (ba a), .string (ba b)] w fun e w' => e = .returned (.bool (decide (smL a = smL b))) ∧ Drw w w' := by
  have hsa := ba_size a
  have hsb := ba_size b
  by_cases hn : a.length = b.length
  · have hne : (((ba a).size : Int) != ((ba b).size : Int)) = false := by rw [hsa, hsb, hn]; simp
    have HAt := Lib.hid (fun k (h : k < (ba a).size) => byte_at (s := ba a) h)
    have HBt := Lib.hid (fun k (h : k < (ba b).size) => byte_at (s := ba b) h)
    rw [ba_list] at HAt HBt
    have HS := Lib.hid (And.intro (hsa.trans hn) (And.intro hsb hl2))
    have HF := Lib.hid (fun k (h : smL (a.take k) ≠ smL (b.take k)) => show decide (smL a = smL b) = false from decide_eq_false fun e => h (sm_take e k))
    have HT := Lib.hid (fun (h : smL (a.take b.length) = smL (b.take b.length)) => show decide (smL a = smL b) = true by
      rw [List.take_of_length_le (by omega), List.take_of_length_le (by omega)] at h
      exact decide_eq_true h)
    have HLo := Lib.hid (fun c w => llow_any c w)
    generalize decide (smL a = smL b) = R at *
    generalize ba a = A at *
    generalize ba b = B at *
    clear hsa hsb hn hl2
    go_enter Tryz.func27, Tryz.ntmps27
    go_wp2
    go_loopw [13] (fun i wr => ∃ k : Nat, i = .int .i64 (k : Int) ∧ Drw w wr ∧ k ≤ A.size ∧ smL (a.take k) = smL (b.take k)) (fun i _ => A.size - (intOf i).toNat)
    case atStart => exact ⟨0, rfl, Drw.refl w, Nat.zero_le _, rfl⟩
    case round =>
      obtain ⟨k, rfl, hd, hk, he⟩ := hrel
      have HD := Lib.hid hd
      clear hd
      have HE := Lib.hid he
      have hk0 : (0 : Int) ≤ (k : Int) := by omega
      clear he
      by_cases hlt : k < A.size
      · have hli : (k : Int) < (A.size : Int) := by omega
        have hlb : k < B.size := by have := HS.out; omega
        have hlj : (k : Int) < (B.size : Int) := by omega
        have hw1 : wrap64 ((k : Int) + 1) = (k : Int) + 1 := by have := HS.out; unfold wrap64; omega
        have ha := HAt.out k hlt
        have hb := HBt.out k hlb
        have HSt := Lib.hid (sm_step ha hb HE.out)
        have HL1 := Lib.hid (fun w => HLo.out A[k] w)
        have HL2 := Lib.hid (fun w => HLo.out B[k] w)
        have HM := Lib.hid hlt
        by_cases hs : smB A[k] = smB B[k]
        · have hq : (((smB A[k]).toNat : Int) != ((smB B[k]).toNat : Int)) = false := by rw [hs]; simp
          have HN := Lib.hid (HSt.out.2 hs)
          clear ha hb HSt hs
          go_wp2
          go_quiet (first | (go_at_call 51; refine Calls.quiet_of_same (HLo.out _ _)))
          go_wp2
          go_roundw
          case rel => exact ⟨k + 1, by go_num, HD.out.drewN _, by omega, HN.out⟩
          case measure => exact measA HM.out hw1
        · have hq : (((smB A[k]).toNat : Int) != ((smB B[k]).toNat : Int)) = true := by
            rw [bne, beq_false_of_ne]; · rfl
            intro e
            exact hs (UInt8.toNat_inj.1 (by omega))
          have HR := Lib.hid (HF.out (k + 1) fun e => hs (HSt.out.1 e))
          clear ha hb HSt hs
          go_wp2
          go_quiet (first | (go_at_call 51; refine Calls.quiet_of_same (HLo.out _ _)))
          go_wp2
          go_ret
          exact ⟨by rw [HR.out]; rfl, HD.out.drewN _⟩
      · have hli : ¬ (k : Int) < (A.size : Int) := by omega
        have HR := Lib.hid (HT.out (by have h1 := HE.out; have h2 := HS.out; rwa [show k = b.length by omega] at h1))
        go_wp2
        go_ret
        exact ⟨by rw [HR.out]; rfl, HD.out⟩
  · have hne : (((ba a).size : Int) != ((ba b).size : Int)) = true := by
      rw [bne, beq_false_of_ne]; · rfl
      rw [hsa, hsb]; omega
    have HR := Lib.hid (show decide (smL a = smL b) = false from decide_eq_false fun e => hn (sm_len' e))
    generalize decide (smL a = smL b) = R at *
    generalize ba a = A at *
    generalize ba b = B at *
    clear hsa hsb hn hl2
    go_enter Tryz.func27, Tryz.ntmps27
    go_wp2
    go_ret
    exact ⟨by rw [HR.out]; rfl, Drw.refl _⟩
end Go.Proofs.YtahbbnimoogapaaGreatDoor
namespace Go.Proofs.YtahbbnimoogapaaGreatDoor
open Go.RowKit

theorem lib_trimLeft (l : List UInt8) (w : World) : Calls Tryz.prog 76 #[.string (ba l), .string ⟨#[32]⟩] w fun e w' => e = .returned (.string (ba (spL l))) ∧ w' = w := by
  have h := Tryz.strings_TrimLeft_one (ba l) 32 (by decide) w
  rw [ba_list] at h
  exact h
theorem lib_trimRight (l : List UInt8) (hl : l.length ≤ 1048576) (w : World) : Calls Tryz.prog 26 #[.string (ba l), .string ⟨#[32]⟩] w fun e w' => e = .returned (.string (ba (rtL l))) ∧ w' = w := by
  have h := Tryz.strings_TrimRight_one (ba l) 32 (by decide) w (by rw [ba_size]; exact Nat.le_trans hl (by decide))
  rw [ba_list] at h
  exact h
theorem lib_trim (l : List UInt8) (hl : l.length ≤ 1048576) (w : World) : Calls Tryz.prog 89 #[.string (ba l), .string ⟨#[32]⟩] w fun e w' => e = .returned (.string (ba (trL l))) ∧ Drw w w' := by
  have h := Tryz.strings_Trim_one (ba l) 32 (by decide) w (by rw [ba_size]; exact Nat.le_trans hl (by decide))
  rw [ba_list] at h
  refine h.mono fun e w' hh => ⟨?_, ?_⟩
  · rw [hh.1]
    have : Lib.trimB l 32 = trL l := sp_rt l
    rw [this]; rfl
  · rcases hh.2 with h2 | h2
    · exact ⟨0, by rw [h2]; rfl⟩
    · exact ⟨1, by rw [h2]; rfl⟩
theorem ix_wrd (l : List UInt8) : (Lib.indexByte l 32 = -1 ∧ wrd l = l) ∨ ∃ i : Nat, Lib.indexByte l 32 = i ∧ wrd l = l.take i ∧ i < l.length := by
  induction l with
  | nil => exact .inl ⟨rfl, rfl⟩
  | cons b l ih =>
    rw [Lib.indexByte]
    by_cases hb : b = 32
    · subst hb
      rw [if_pos (by decide)]
      exact .inr ⟨0, rfl, rfl, by simp⟩
    · rw [if_neg (by simpa using hb)]
      have hw : wrd (b :: l) = b :: wrd l := by rw [wrd, List.takeWhile_cons, if_pos (by rw [beq_false_of_ne hb]; rfl)]; rfl
      rw [hw]
      rcases ih with ⟨h1, h2⟩ | ⟨i, h1, h2, h3⟩
      · rw [h1, if_pos (by decide), h2]
        exact .inl ⟨rfl, rfl⟩
      · rw [h1, if_neg (by rw [beq_iff_eq]; omega), h2]
        exact .inr ⟨i + 1, by omega, by rw [List.take_succ_cons], by simp only [List.length_cons]; omega⟩
set_option maxHeartbeats 1000000 in
set_option maxRecDepth 100000 in
theorem lib_cut1 (l : List UInt8) (hl : l.length ≤ 1048576) (w : World) : Calls Tryz.prog 101 #[.string (ba l), .string ⟨#[32]⟩] w fun e w' => (∃ X Y, e = .returned (.tuple #[.string (ba (wrd l)), .string X, .bool Y])) ∧ Drw w w' := by
  have hI := fun w => Tryz.stringslite_Index_one (ba l) 32 w
  rw [ba_list] at hI
  rcases ix_wrd l with ⟨h1, h2⟩ | ⟨i, h1, h2, h3⟩
  · rw [h1] at hI
    rw [h2]
    have HI := Lib.hid hI
    clear hI h1 h2
    generalize ba l = A at *
    go_enter Tryz.func101, Tryz.ntmps101
    go_wp2_with (first
      | (go_at_call 136; (with_reducible refine (HI.out _).mono ?_); rintro e w1 ⟨rfl, rfl⟩))
    go_ret3
    exact ⟨⟨_, _, rfl⟩, Drw.refl _⟩
  · rw [h1] at hI
    rw [h2]
    have HI := Lib.hid hI
    have hs := ba_size l
    have e0 := slice_to (ba l) i (by omega)
    have e1 := slice_from (ba l) (i + 1) (by omega)
    rw [ext_ba, ba_list, List.drop_zero, Nat.sub_zero] at e0
    have hi0 : (0 : Int) ≤ (i : Int) := by omega
    have hw : wrap64 ((i : Int) + 1) = ((i + 1 : Nat) : Int) := by unfold wrap64; omega
    have hi1 : (0 : Int) ≤ ((i + 1 : Nat) : Int) := by omega
    have hi2 : (i : Int) ≤ ((ba l).size : Int) := by omega
    have hi3 : ((i + 1 : Nat) : Int) ≤ ((ba l).size : Int) := by omega
    clear hI h1 h2 h3 hs
    generalize ba (l.take i) = T at *
    generalize ba l = A at *
    generalize hj : i + 1 = j at *
    go_enter Tryz.func101, Tryz.ntmps101
    go_wp2_with (first
      | (go_at_call 136; (with_reducible refine (HI.out _).mono ?_); rintro e w1 ⟨rfl, rfl⟩))
    go_quiet (fail)
    go_wp2
    go_ret3
    exact ⟨⟨_, _, rfl⟩, ⟨_, rfl⟩⟩
theorem lib_cut (l : List UInt8) (hl : l.length ≤ 1048576) (w : World) : Calls Tryz.prog 75 #[.string (ba l), .string ⟨#[32]⟩] w fun e w' => (∃ X Y, e = .returned (.tuple #[.string (ba (wrd l)), .string X, .bool Y])) ∧ Drw w w' := by
  have HI := Lib.hid (fun w => lib_cut1 l hl w)
  generalize ba (wrd l) = T at *
  generalize ba l = A at *
  go_enter Tryz.func75, Tryz.ntmps75
  go_wp2_with (first
    | (go_at_call 101; (with_reducible refine (HI.out _).mono ?_); rintro e w1 ⟨⟨X, Y, rfl⟩, hd⟩))
  go_ret3
  exact ⟨⟨_, _, rfl⟩, hd⟩

theorem drw_of {w w' : World} {n : Nat} (h : Drw (w.drewN n) w') : ∃ m, w' = w.drewN m := by
  obtain ⟨q, rfl⟩ := h
  exact ⟨n + q, by simp⟩
/-- A line that is read, in memory. -/
def Sc (w : World) (g : Nat) (l : List UInt8) : Prop := Arr w g #[.string (ba l), .func (.func 27) #[] #[]] 66
theorem Sc.cells {w : World} {g : Nat} {l : List UInt8} (h : Sc w g l) : w.cell? ⟨g, 0, none⟩ = some (.string (ba l)) ∧ w.cell? ⟨g, 1, none⟩ = some (.func (.func 27) #[] #[]) ∧ w.frozen? ⟨g, 0, none⟩ = false := ⟨Arr.cell h rfl, Arr.cell h rfl, Arr.frozen h 0⟩
theorem Sc.next {w w' : World} {g : Nat} {l : List UInt8} (h : Sc w g l) (hb : Below w.heap.size w w') : Sc w' g l := Arr.next h hb
theorem Sc.drewN {w : World} {g : Nat} {l : List UInt8} (h : Sc w g l) (n : Nat) : Sc (w.drewN n) g l := Arr.drewN h n
theorem Sc.drw {w w' : World} {g : Nat} {l : List UInt8} (h : Sc w g l) (hd : Drw w w') : Sc w' g l := by
  obtain ⟨q, rfl⟩ := hd
  exact h.drewN q
theorem Sc.set {w : World} {g : Nat} {l : List UInt8} (h : Sc w g l) (r : List UInt8) : Sc (w.setCell ⟨g, 0, none⟩ (.string (ba r))) g r := Arr.set h 0 _
/-- A line that is read, moved on: but for its own block all that was there is as it was. -/
structure Mov (g : Nat) (r : List UInt8) (w w' : World) : Prop where
  sc : Sc w' g r
  fro : Fro (fun h => h = g) w w'
  size : w'.heap.size = w.heap.size
theorem Drw.size {w w' : World} (h : Drw w w') : w'.heap.size = w.heap.size := by
  obtain ⟨q, rfl⟩ := h
  rfl
theorem Mov.draws {g : Nat} {l : List UInt8} {w w' : World} (h : Sc w g l) (hd : Drw w w') : Mov g l w w' := ⟨h.drw hd, Fro.of_below (hd.below _), hd.size⟩
theorem Mov.sets {g : Nat} {l : List UInt8} {w w' : World} (h : Sc w g l) (hd : Drw w w') (r : List UInt8) : Mov g r w (w'.setCell ⟨g, 0, none⟩ (.string (ba r))) :=
  ⟨(h.drw hd).set r, ⟨(hd.below 0).os, (hd.below 0).tape, (hd.below 0).output, by simp [World.setCell]; exact Nat.le_of_eq hd.size.symm, fun x hx hn => (Below.heap_setCell _ _ _ _ hn).trans ((hd.below w.heap.size).block x hx)⟩, by simp [World.setCell]; exact hd.size⟩
theorem Mov.drewN {g : Nat} {r : List UInt8} {w w' : World} (h : Mov g r w w') (n : Nat) : Mov g r w (w'.drewN n) := ⟨h.sc.drewN n, ⟨h.fro.os, h.fro.tape, h.fro.output, h.fro.size, h.fro.block⟩, h.size⟩

set_option maxHeartbeats 1000000 in
set_option maxRecDepth 100000 in
theorem lspaces_any {g : Nat} {l : List UInt8} (w : World) (h : Sc w g l) :
    Calls Tryz.prog 53 #[.pointer (some ⟨g, 0, none⟩)] w fun e w' => e = .returned (.bool (decide ((spL l).length < l.length))) ∧ Mov g (spL l) w w' := by
  have HT := Lib.hid (fun w => lib_trimLeft l w)
  have HM := Lib.hid (Mov.sets h (Drw.refl w) (spL l))
  obtain ⟨c0, c1, f0⟩ := h.cells
  have d0 : (w.setCell ⟨g, 0, none⟩ (.string (ba (spL l)))).cell? ⟨g, 0, none⟩ = some (.string (ba (spL l))) := HM.out.sc.cells.1
  have HD := Lib.hid (show decide ((spL l).length < l.length) = decide ((ba (spL l)).size < (ba l).size) by rw [ba_size, ba_size])
  rw [HD.out]
  clear h HD
  generalize ba (spL l) = R at *
  generalize ba l = A at *
  go_enter Tryz.func53, Tryz.ntmps53
  go_wp2_with (first
    | (go_at_call 76; (with_reducible refine (HT.out _).mono ?_); rintro e w1 ⟨rfl, rfl⟩))
  go_ret
  exact ⟨rfl, HM.out⟩

set_option maxHeartbeats 1000000 in
set_option maxRecDepth 100000 in
theorem lword_any {g : Nat} {l : List UInt8} (hl : l.length ≤ 1048576) (w : World) (h : Sc w g l) :
    Calls Tryz.prog 52 #[.pointer (some ⟨g, 0, none⟩)] w fun e w' => e = .returned (.string (ba (wrd l))) ∧ Mov g (rst l) w w' := by
  have HC := Lib.hid (fun w => lib_cut l hl w)
  have HM := Lib.hid (fun w1 (hd : Drw w w1) => show Mov g (rst l) w (w1.setCell ⟨g, 0, none⟩ (.string (ba (rst l)))) from Mov.sets h hd (rst l))
  have HC1 := Lib.hid (fun w1 (hd : Drw w w1) => (h.drw hd).cells)
  obtain ⟨c0, c1, f0⟩ := h.cells
  have e1 := slice_from (ba l) (wrd l).length (by rw [ba_size]; exact wrd_len l)
  rw [ext_all, ba_list, ← rst_drop, ← ba_size (wrd l)] at e1
  clear h hl
  generalize ba (rst l) = R at *
  generalize ba (wrd l) = T at *
  generalize ba l = A at *
  go_enter Tryz.func52, Tryz.ntmps52
  go_wp2_with (first
    | (go_at_call 75; (with_reducible refine (HC.out _).mono ?_); rintro e w1 ⟨⟨X, Y, rfl⟩, hd⟩; obtain ⟨d0, d1, d2⟩ := HC1.out _ hd; have HM1 := Lib.hid (HM.out _ hd)))
  go_ret
  exact ⟨rfl, HM1.out⟩

set_option maxHeartbeats 1000000 in
set_option maxRecDepth 100000 in
theorem ltakes_any {g : Nat} {l : List UInt8} (W : List UInt8) (hW : grL W = W) (_ : l.length ≤ 1048576) (hl2 : W.length ≤ 1048576) (w : World) (h : Sc w g l) :
    Calls Tryz.prog 55 #[.pointer (some ⟨g, 0, none⟩), .string (ba W)] w fun e w' => e = .returned (.bool (begB l W)) ∧ Mov g (if begB l W = true then l.drop W.length else l) w w' := by
  have hsl := ba_size l
  have hsw := ba_size W
  obtain ⟨c0, c1, f0⟩ := h.cells
  by_cases hn : l.length < W.length
  · have hB : begB l W = false := by rw [begB, decide_eq_false (by omega)]; rfl
    have HN := Lib.hid (fun n => (Mov.draws h (Drw.refl w)).drewN n)
    have hli : ((ba l).size : Int) < ((ba W).size : Int) := by omega
    rw [hB, if_neg (by decide)]
    clear h hl2 hsl hsw hn hB
    generalize ba l = A at *
    generalize ba W = B at *
    go_enter Tryz.func55, Tryz.ntmps55
    go_wp2
    go_quiet (fail)
    go_wp2
    go_ret
    exact ⟨rfl, HN.out _⟩
  · have hli : decide ((ba l).size < (ba W).size) = false := decide_eq_false (by omega)
    have e0 := slice_to (ba l) W.length (by omega)
    have e1 := slice_from (ba l) W.length (by omega)
    rw [ext_ba, ba_list, List.drop_zero, Nat.sub_zero, ← hsw] at e0
    rw [ext_all, ba_list, ← hsw] at e1
    have hB : begB l W = decide (smL (l.take W.length) = smL W) := by
      rw [begB, decide_eq_true (by omega), Bool.true_and]
      exact decide_eq_decide.2 (sm_great hW).symm
    have hAl := fun w => lalike_any (l.take W.length) W (by rw [List.length_take]; omega) hl2 w
    rw [← hB] at hAl
    have HAl := Lib.hid (fun w => (hAl w).mono fun _ _ (hh : _ ∧ Drw w _) => And.intro hh.1 hh.2)
    rw [← hsw] at HAl
    cases hb : begB l W with
    | true =>
      rw [hb] at HAl
      rw [if_pos rfl]
      have HN := Lib.hid (fun n => Mov.sets h (⟨n, rfl⟩ : Drw w (w.drewN n)) (l.drop W.length))
      rw [← hsw] at HN ⊢
      clear h hl2 hn hB hb hAl hsl hsw
      have CC := Lib.hid (show ∀ n, (w.drewN n).cell? ⟨g, 0, none⟩ = some (.string (ba l)) from fun _ => c0)
      generalize ba (l.drop (ba W).size) = R at *
      generalize ba (l.take (ba W).size) = T at *
      generalize ba l = A at *
      generalize ba W = B at *
      go_enter Tryz.func55, Tryz.ntmps55
      go_wp2
      go_quiet (first | (go_at_call 27; refine (HAl.out _).mono ?_; rintro _ _ ⟨rfl, hd⟩; exact ⟨rfl, drw_of hd⟩))
      go_wp2
      go_ret
      exact ⟨rfl, HN.out _⟩
    | false =>
      rw [hb] at HAl
      rw [if_neg (by decide)]
      have HN := Lib.hid (fun n => (Mov.draws h (Drw.refl w)).drewN n)
      clear h hl2 hn hB hb hAl hsl hsw
      generalize ba (l.take (ba W).size) = T at *
      generalize ba l = A at *
      generalize ba W = B at *
      go_enter Tryz.func55, Tryz.ntmps55
      go_wp2
      go_quiet (first | (go_at_call 27; refine (HAl.out _).mono ?_; rintro _ _ ⟨rfl, hd⟩; exact ⟨rfl, drw_of hd⟩))
      go_wp2
      go_ret
      exact ⟨rfl, HN.out _⟩
end Go.Proofs.YtahbbnimoogapaaGreatDoor
