/- What layer 10's laws need of the code: its contracts, as one record; own, large, many. cmd: plain facts for CmdBack and CmdLetters: sizes; what Parse answers on lines. -/
import Derived.Test.YtahbbnimoogapaaGreatDoorCrO
import Derived.Test.YtahbbnimoogapaaGreatDoorCrP
import Derived.Test.YtahbbnimoogapaaGreatDoorMQ
import Derived.Test.YtahbbnimoogapaaGreatDoorBlw
import Derived.Test.YtahbbnimoogapaaGreatDoorMM
import Derived.OwnWalk
namespace Go.Proofs.YtahbbnimoogapaaGreatDoor
open Go.RowKit

/-- What layer 10's laws need of the code. -/
structure CmdB : Prop where
  write : ∀ c : CmdA, c.text.length ≤ 65536 → c.box.loc.length ≤ 65536 → c.box.dom.length ≤ 65536 → I64 c.size → ∀ w, Tb w → Calls Tryz.prog 14 #[cmdV c] w fun e w' => e = .returned (wriV c) ∧ Below w.heap.size w w'
  parse : ∀ s : ByteArray, s.size ≤ 65536 → ∀ w, Tb w → Calls Tryz.prog 10 #[.string s] w fun e w' => e = .returned (parV s.data.toList) ∧ Below w.heap.size w w'
  lines : ∀ (code : Int) (a : Option Addr) (len cap : Nat) (L : List (List UInt8)), len ≤ 65536 → (∀ x ∈ L, x.length ≤ 65536) → ∀ w, Tb w → IsTexts w a len cap (bas L) →
    Calls Tryz.prog 17 #[.agg #[.int .i64 code, .slice a len cap]] w fun e w' => ∃ (a' : Option Addr) (n' cap' : Nat), e = .returned (.tuple #[.slice a' n' cap', .int .i64 (linE code L)]) ∧ IsTexts w' a' n' cap' (bas (linO code L)) ∧ Below w.heap.size w w'
  readReply : ∀ (a : Option Addr) (len cap : Nat) (L : List (List UInt8)), len ≤ 65536 → (∀ x ∈ L, x.length ≤ 65536) → ∀ w, Tb w → IsTexts w a len cap (bas L) →
    Calls Tryz.prog 19 #[.slice a len cap] w fun e w' => ∃ (a' : Option Addr) (n' cap' : Nat), e = .returned (.tuple #[.agg #[.int .i64 (redN L), .slice a' n' cap'], .int .i64 (redE L)]) ∧ IsTexts w' a' n' cap' (bas (redT L)) ∧ Below w.heap.size w w'
  whole : ∀ (a : Option Addr) (len cap : Nat) (L : List (List UInt8)), len ≤ 65536 → (∀ x ∈ L, x.length ≤ 65536) → ∀ w, IsTexts w a len cap (bas L) →
    Calls Tryz.prog 22 #[.slice a len cap] w fun e w' => e = .returned (.int .i64 ((whoL L 0 : Nat) : Int)) ∧ Below w.heap.size w w'
  class' : ∀ (n : Int) w, Calls Tryz.prog 24 #[.int .i64 n] w fun e w' => e = .returned (.int .i64 (clsZ n)) ∧ Below w.heap.size w w'
structure CmdC : Prop extends CmdB where
  awake : ∀ w, Tb w → Calls Tryz.prog 9 #[] w fun e w' => e = .returned (.bool true) ∧ Below w.heap.size w w'

theorem results_rcmd1 {fn : Func} {p : Tmp} (h : fn.results = #[.cell p 32]) (tmps : Array Value) (w : World) (g : Nat) (cs : Array Value) (hs : cs.size = 6) (hp : tmps.getD p undef = .pointer (some ⟨g, 0, none⟩)) (hg : Arr w g cs 32) :
    (results fn tmps).run Tryz.prog w = .ok (.agg cs) w := by
  have hp' : tmps[p]?.getD undef = .pointer (some ⟨g, 0, none⟩) := by simpa using hp
  simp [results, h, hp', asAddr, run_loadVar_row w g 32 32 cs (0, 0) _ hg Tryz.underlying32 rfl (by rw [hs]; exact info_rcmd)]
theorem own10_any (V S : Int) (T L D : ByteArray) (E : Bool) (w : World) :
    Calls Tryz.prog 12 #[.agg #[.int .i64 V, .string T, .string L, .string D, .int .i64 S, .bool E]] w fun e w' => e = .returned (.agg #[.int .i64 V, .string T, .string L, .string D, .int .i64 S, .bool E]) ∧ Below w.heap.size w w' := by
  have HB := Lib.hid (below_one w (.cells #[.int .i64 V, .string T, .string L, .string D, .int .i64 S, .bool E] 26))
  go_enter Tryz.func12, Tryz.ntmps12
  go_wp2
  have hz : (w.alloc (.cells #[.int .i64 V, .string T, .string L, .string D, .int .i64 S, .bool E] 26)).heap.size = w.heap.size + 1 := by show (w.heap.push _).size = _; simp
  refine bodyPost_ret (results_rcmd1 rfl _ _ (w.heap.size + 1) #[.int .i64 V, .string T, .string L, .string D, .int .i64 S, .bool E] rfl rfl (Arr.newAt _ _ _ hz.symm)) rfl ⟨rfl, below_new HB.out _⟩
theorem large10_any (V S : Int) (T L D : ByteArray) (E : Bool) (w : World) :
    Calls Tryz.prog 13 #[.agg #[.int .i64 V, .string T, .string L, .string D, .int .i64 S, .bool E]] w fun e w' => e = .returned (.bool (decide (2048 < T.size ∨ 2048 < L.size ∨ 2048 < D.size))) ∧ Below w.heap.size w w' := by
  have HB := Lib.hid (below_one w (.cells #[.int .i64 V, .string T, .string L, .string D, .int .i64 S, .bool E] 26))
  have hc : ∀ b, b = decide (2048 < T.size ∨ 2048 < L.size ∨ 2048 < D.size) → Value.bool (decide (2048 < T.size ∨ 2048 < L.size ∨ 2048 < D.size)) = .bool b := fun b h => by rw [h]
  by_cases h1 : 2048 < T.size
  · have HF := Lib.hid (show decide (2048 < T.size ∨ 2048 < L.size ∨ 2048 < D.size) = true from decide_eq_true (.inl h1))
    have h1i : (2048 : Int) < (T.size : Int) := by omega
    generalize decide (2048 < T.size ∨ 2048 < L.size ∨ 2048 < D.size) = F at *
    clear hc
    go_enter Tryz.func13, Tryz.ntmps13
    go_wp2
    go_ret
    exact ⟨by rw [HF.out]; rfl, HB.out⟩
  · have h1i : ¬ (2048 : Int) < (T.size : Int) := by omega
    by_cases h2 : 2048 < L.size
    · have HF := Lib.hid (show decide (2048 < T.size ∨ 2048 < L.size ∨ 2048 < D.size) = true from decide_eq_true (.inr (.inl h2)))
      have h2i : (2048 : Int) < (L.size : Int) := by omega
      generalize decide (2048 < T.size ∨ 2048 < L.size ∨ 2048 < D.size) = F at *
      clear hc
      go_enter Tryz.func13, Tryz.ntmps13
      go_wp2
      go_ret
      exact ⟨by rw [HF.out]; rfl, HB.out⟩
    · have h2i : ¬ (2048 : Int) < (L.size : Int) := by omega
      by_cases h3 : 2048 < D.size
      · have HF := Lib.hid (show decide (2048 < T.size ∨ 2048 < L.size ∨ 2048 < D.size) = true from decide_eq_true (.inr (.inr h3)))
        have h3i : (2048 : Int) < (D.size : Int) := by omega
        generalize decide (2048 < T.size ∨ 2048 < L.size ∨ 2048 < D.size) = F at *
        clear hc
        go_enter Tryz.func13, Tryz.ntmps13
        go_wp2
        go_ret
        exact ⟨by rw [HF.out]; rfl, HB.out⟩
      · have HF := Lib.hid (show decide (2048 < T.size ∨ 2048 < L.size ∨ 2048 < D.size) = false from decide_eq_false (by omega))
        have h3i : ¬ (2048 : Int) < (D.size : Int) := by omega
        generalize decide (2048 < T.size ∨ 2048 < L.size ∨ 2048 < D.size) = F at *
        clear hc
        go_enter Tryz.func13, Tryz.ntmps13
        go_wp2
        go_ret
        exact ⟨by rw [HF.out]; rfl, HB.out⟩
/-- Are lines too many, or too long? -/
def manyS (ss : List ByteArray) : Bool := decide (60 < ss.length) || ss.any fun s => decide (300 < s.size)
theorem manyS_no {ss : List ByteArray} : manyS ss = false ↔ ss.length ≤ 60 ∧ ∀ s ∈ ss, s.size ≤ 300 := by
  rw [manyS, Bool.or_eq_false_iff, List.any_eq_false]
  constructor
  · intro h
    exact ⟨by simpa using h.1, fun s hs => by have := h.2 s hs; simp at this; omega⟩
  · intro h
    exact ⟨by simpa using h.1, fun s hs => by have := h.2 s hs; simp; omega⟩
set_option maxHeartbeats 1000000 in
set_option maxRecDepth 100000 in
theorem many10_any (a : Option Addr) (len cap : Nat) (ss : List ByteArray) (w : World) (ht : IsTexts w a len cap ss) :
    Calls Tryz.prog 16 #[.slice a len cap] w fun e w' => e = .returned (.bool (manyS ss)) ∧ w = w' := by
  obtain ⟨hlen, _, _⟩ := ht.len
  have HT := Lib.hid ht
  clear ht
  have HL := Lib.hid hlen
  clear hlen
  by_cases h60 : 60 < len
  · have h6 : (60 : Int) < (len : Int) := by omega
    have HF := Lib.hid (show manyS ss = true by rw [manyS, decide_eq_true (by have := HL.out; omega)]; rfl)
    generalize manyS ss = F at *
    go_enter Tryz.func16, Tryz.ntmps16
    go_wp2
    go_ret
    exact ⟨by rw [HF.out]; rfl, rfl⟩
  · have h6 : ¬ (60 : Int) < (len : Int) := by omega
    go_enter Tryz.func16, Tryz.ntmps16
    go_wp2
    go_loopw [9] (fun i wr => (∃ k : Nat, i = .int .i64 (k : Int) ∧ k ≤ len ∧ ∀ j, j < k → (ss.getD j ByteArray.empty).size ≤ 300) ∧ w = wr) (fun i _ => len - (intOf i).toNat)
    case atStart => exact ⟨⟨0, rfl, Nat.zero_le _, fun j hj => absurd hj (by omega)⟩, rfl⟩
    case round =>
      obtain ⟨⟨k, rfl, hk, hno⟩, rfl⟩ := hrel
      have HNo := Lib.hid hno
      have hk0 : (0 : Int) ≤ (k : Int) := by omega
      clear hno
      by_cases hlt : k < len
      · have hli : (k : Int) < (len : Int) := by omega
        obtain ⟨y, rfl, c1, _⟩ := HT.out.at hlt
        have HX := Lib.hid (show ss.getD k ByteArray.empty ∈ ss by
          have := HL.out
          rw [List.getD_eq_getElem?_getD, List.getElem?_eq_getElem (by omega)]
          exact List.getElem_mem _)
        by_cases h2 : 300 < (ss.getD k ByteArray.empty).size
        · have h2i : (300 : Int) < ((ss.getD k ByteArray.empty).size : Int) := by omega
          have HR := Lib.hid (show manyS ss = true by rw [manyS, Bool.or_eq_true]; exact .inr (List.any_eq_true.2 ⟨_, HX.out, decide_eq_true h2⟩))
          clear h2 HX HNo
          generalize ss.getD k ByteArray.empty = X at *
          go_wp2
          go_ret
          exact ⟨by rw [HR.out]; rfl, rfl⟩
        · have h2i : ¬ (300 : Int) < ((ss.getD k ByteArray.empty).size : Int) := by omega
          have HN2 := Lib.hid (show ∀ j, j < k + 1 → (ss.getD j ByteArray.empty).size ≤ 300 from fun j hj => by
            by_cases e : j = k
            · subst e; omega
            · exact HNo.out j (by omega))
          clear h2 HX
          generalize ss.getD k ByteArray.empty = X at *
          go_wp2
          go_roundw
          case rel => exact ⟨⟨k + 1, by go_num, by omega, HN2.out⟩, trivial⟩
          case measure => simp only [intOf]; omega
      · have hli : ¬ (k : Int) < (len : Int) := by omega
        have HR := Lib.hid (show manyS ss = false from manyS_no.2 ⟨by have := HL.out; omega, fun s hs => by
          obtain ⟨i, hi, rfl⟩ := List.getElem_of_mem hs
          have := HNo.out i (by have := HL.out; omega)
          rwa [List.getD_eq_getElem?_getD, List.getElem?_eq_getElem hi] at this⟩)
        go_wp2
        go_ret
        exact ⟨by rw [HR.out]; rfl, rfl⟩
end Go.Proofs.YtahbbnimoogapaaGreatDoor
namespace Go.Proofs.YtahbbnimoogapaaGreatDoor
open Go.RowKit

theorem may_sizes {c : BoxA} (h : mayB c = true) : 1 ≤ c.loc.length ∧ c.loc.length ≤ 64 ∧ c.dom.length ≤ 255 := by
  rw [mayB, Bool.and_eq_true, Bool.and_eq_true] at h
  obtain ⟨⟨hd, _⟩, hl⟩ := h
  rw [domB, Bool.and_eq_true] at hd
  rw [locB, Bool.and_eq_true, Bool.and_eq_true] at hl
  exact ⟨of_decide_eq_true hl.1.2, of_decide_eq_true hl.2, of_decide_eq_true hd.2⟩
theorem line_len {c : CmdA} {w : List UInt8} (h : lineC c = some w) (hv : 1 ≤ c.verb ∧ c.verb ≤ 9) : w.length ≤ c.text.length + 2 * c.box.loc.length + c.box.dom.length + 100 := by
  have hvb : ∀ k : Nat, (vb k).length ≤ 4 := fun k => by have := vb_size k; rwa [ba_size] at this
  obtain ⟨v, t, b, n, e⟩ := c
  unfold lineC at h
  simp only at h hv ⊢
  split at h
  · split at h
    · rw [← Option.some.inj h, List.length_append, List.length_cons]
      have := hvb v.toNat
      omega
    · cases h
  · split at h
    · cases hp : pathL b with
      | none => rw [hp] at h; cases h
      | some p =>
        rw [hp] at h
        simp only at h
        split at h
        · rename_i hq
          have h1 := path_plen hp
          have h2 := hvb 3
          have h3 : (sizT n).length ≤ 18 := by
            rw [sizT]
            split
            · have := numL_len 11 n.toNat (by show n.toNat < 1000000000000; omega)
              rw [List.length_cons, List.length_append]
              simp only [sizW, List.length_cons, List.length_nil]
              omega
            · exact Nat.zero_le _
          have h4 : (bodT e).length ≤ 14 := by cases e <;> decide
          rw [← Option.some.inj h]
          simp only [List.length_append, List.length_cons, froW, List.length_nil]
          omega
        · cases h
    · split at h
      · cases hp : pathL b with
        | none => rw [hp] at h; cases h
        | some p =>
          rw [hp] at h
          simp only at h
          split at h
          · have h1 := path_plen hp
            have h2 := hvb 4
            rw [← Option.some.inj h]
            simp only [List.length_append, List.length_cons, toW, List.length_nil]
            omega
          · cases h
      · split at h
        · split at h
          · rw [← Option.some.inj h, List.length_append]
            have := hvb v.toNat
            split
            · simp only [List.length_nil]; omega
            · rw [List.length_cons]; omega
          · cases h
        · split at h
          · rw [← Option.some.inj h]
            have := hvb v.toNat
            omega
          · cases h
theorem line_vbN {c : CmdA} {w : List UInt8} (h : lineC c = some w) (hv : 1 ≤ c.verb ∧ c.verb ≤ 9) : vbN w ≠ 0 := (par_letters h hv [] 0).2.2
theorem pat_size {l w r : List UInt8} {b : BoxA} (h : patL l w = some (b, r)) : b.loc.length ≤ 255 ∧ b.dom.length ≤ 255 := by
  unfold patL at h
  split at h
  · obtain ⟨hb, _⟩ := read_back h
    rcases hb with rfl | hb
    · exact ⟨by decide, by decide⟩
    · have := may_sizes hb
      omega
  · cases h
theorem par_size {l : List UInt8} {d : CmdA} (h : parC l = some d) : d.text.length ≤ l.length ∧ d.box.loc.length ≤ 255 ∧ d.box.dom.length ≤ 255 := by
  have h1 := tr_len (rst l)
  have h2 : (rst l).length ≤ l.length := (List.dropWhile_sublist _).length_le
  rw [parC] at h
  generalize trL (rst l) = r at *
  generalize vbN l = v at *
  unfold bodC at h
  split at h
  · split at h
    · rw [← Option.some.inj h]; exact ⟨by rw [sm_len]; omega, Nat.zero_le _, Nat.zero_le _⟩
    · cases h
  · split at h
    · unfold maiC at h
      cases hp : patL r froW with
      | none => rw [hp] at h; cases h
      | some p =>
        rw [hp] at h
        simp only at h
        split at h
        · cases h
        · cases hm : maF (wdF [] p.2) ⟨-1, false, false⟩ with
          | none => rw [hm] at h; cases h
          | some s =>
            rw [hm] at h
            rw [← Option.some.inj h]
            have := pat_size (show patL r froW = some (p.1, p.2) from hp)
            exact ⟨Nat.zero_le _, this.1, this.2⟩
    · split at h
      · cases hp : patL r toW with
        | none => rw [hp] at h; cases h
        | some p =>
          rw [hp] at h
          simp only at h
          split at h
          · rw [← Option.some.inj h]
            have := pat_size (show patL r toW = some (p.1, p.2) from hp)
            exact ⟨Nat.zero_le _, this.1, this.2⟩
          · cases h
      · split at h
        · split at h
          · rw [← Option.some.inj h]; exact ⟨by show r.length ≤ _; omega, Nat.zero_le _, Nat.zero_le _⟩
          · cases h
        · split at h
          · rw [← Option.some.inj h]; exact ⟨Nat.zero_le _, Nat.zero_le _, Nat.zero_le _⟩
          · cases h
/-- What Write answers: a line, or none. -/
theorem wri_ways (c : CmdA) : (∃ e : Int, wriV c = .tuple #[.string ⟨#[]⟩, .int .i64 e] ∧ (e == 0) = false) ∨ ∃ w, wriV c = .tuple #[.string (ba w), .int .i64 0] ∧ lineC c = some w ∧ 1 ≤ c.verb ∧ c.verb ≤ 9 := by
  rw [wriV]
  split
  · exact .inl ⟨1, rfl, rfl⟩
  · cases h : lineC c with
    | none => exact .inl ⟨2, rfl, rfl⟩
    | some w => exact .inr ⟨w, rfl, rfl, by omega, by omega⟩
theorem par_of_line {c : CmdA} {w : List UInt8} (h : lineC c = some w) (hv : 1 ≤ c.verb ∧ c.verb ≤ 9) : parV w = .tuple #[cmdV (fixC c), .int .i64 0] := by
  rw [parV, if_neg (line_vbN h hv), par_line h hv]
theorem par_i64 {d : CmdA} {w : List UInt8} (hw : lineC d = some w) (hf : fixC d = d) : -9223372036854775808 ≤ d.size ∧ d.size ≤ 9223372036854775807 := by
  by_cases h3 : d.verb = 3
  · rw [lineC, if_neg (by omega), if_pos h3] at hw
    cases hp : pathL d.box with
    | none => rw [hp] at hw; cases hw
    | some p =>
      rw [hp] at hw
      simp only at hw
      split at hw
      · rename_i h
        omega
      · cases hw
  · have := congrArg CmdA.size hf
    rw [fixC, if_neg h3] at this
    simp only at this
    omega
/-- What Parse answers: a command whose line is read as it; or none. -/
theorem par_ways (l : List UInt8) : (∃ e : Int, parV l = .tuple #[cmdV cmd0, .int .i64 e] ∧ (e == 0) = false) ∨ ∃ d w, parV l = .tuple #[cmdV d, .int .i64 0] ∧ wriV d = .tuple #[.string (ba w), .int .i64 0] ∧ parV w = .tuple #[cmdV d, .int .i64 0] ∧
    d.text.length ≤ l.length ∧ d.box.loc.length ≤ 255 ∧ d.box.dom.length ≤ 255 ∧ w.length ≤ l.length + 1000 ∧ (-9223372036854775808 ≤ d.size ∧ d.size ≤ 9223372036854775807) := by
  rw [parV]
  split
  · exact .inl ⟨1, rfl, rfl⟩
  · rename_i hv
    cases h : parC l with
    | none => exact .inl ⟨2, rfl, rfl⟩
    | some d =>
      obtain ⟨⟨w, hw⟩, hf, h1, h2⟩ := line_par h hv
      obtain ⟨s1, s2, s3⟩ := par_size h
      have hl := line_len hw ⟨h1, h2⟩
      refine .inr ⟨d, w, rfl, ?_, ?_, s1, s2, s3, by omega, par_i64 hw hf⟩
      · rw [wriV, if_neg (by omega), hw]
      · rw [par_of_line hw ⟨h1, h2⟩, hf]
end Go.Proofs.YtahbbnimoogapaaGreatDoor
