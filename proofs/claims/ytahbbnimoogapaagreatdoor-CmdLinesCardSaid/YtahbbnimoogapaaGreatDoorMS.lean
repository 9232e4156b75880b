/- cmd, landed: commands held against each other. cmd, landed: a command with what its verb says alone. -/
import Derived.Test.YtahbbnimoogapaaGreatDoorMM
import Derived.Test.YtahbbnimoogapaaGreatDoorMN
import Derived.Test.YtahbbnimoogapaaGreatDoorMP
import Derived.Lib.ItoaLen
import Derived.Lib.ItoaMem
import Derived.Lib.AppendIntMem
import Derived.Test.YtahbbnimoogapaaGreatDoorCrO
import Derived.Laws.StructEq
import Derived.WalkKit
import Derived.Deep.DeepMust
namespace Go.Proofs.YtahbbnimoogapaaGreatDoor
open Go.RowKit

theorem cmd_guard : Tryz.prog.eqGuardType Tryz.prog.depth 26 = false := by kernel_rfl
theorem box_under : Tryz.prog.underlying 24 = some (.struct (Tryz.prog.fieldsOf 24)) := by kernel_rfl
theorem box_stood : Tryz.prog.stoodInHeld 24 = false := by kernel_rfl
theorem cmd_under : Tryz.prog.underlying 26 = some (.struct (Tryz.prog.fieldsOf 26)) := by kernel_rfl
theorem cmd_stood : Tryz.prog.stoodInHeld 26 = false := by kernel_rfl
set_option maxRecDepth 100000 in
theorem cmd_eq (V S V' S' : Int) (T L D T' L' D' : ByteArray) (E E' : Bool) (w : World) :
    (Op.equalIn 10000 26 (.agg #[.int .i64 V, .string T, .string L, .string D, .int .i64 S, .bool E]) (.agg #[.int .i64 V', .string T', .string L', .string D', .int .i64 S', .bool E'])).run Tryz.prog w = .ok (V == V' && (T.toList == T'.toList && ((L.toList == L'.toList && D.toList == D'.toList) && (S == S' && E == E')))) w := by
  rw [run_equalIn_agg w 9999 _ _ _ cmd_under cmd_stood]
  simp [go_sem, Op.eqFields, Program.fieldsOf, Tryz.underlying26, Tryz.underlying24, Tryz.underlying3, Tryz.underlying2, Tryz.underlying9, Tryz.underlying4]
  repeat' split
  all_goals simp_all

theorem pr_nat (c : UInt8) : prC c = decide (32 ≤ c.toNat ∧ c.toNat ≤ 126) := by
  simp only [prC, UInt8.le_iff_toNat_le, Bool.decide_and]
  rfl
set_option maxHeartbeats 1000000 in
set_option maxRecDepth 100000 in
theorem lmayStand_any (l : List UInt8) (hl : l.length ≤ 1048576) (w : World) :
    Calls Tryz.prog 43 #[.string (ba l)] w fun e w' => e = .returned (.bool (prB l)) ∧ w' = w := by
  have hs := ba_size l
  have HAt := Lib.hid (fun k (h : k < (ba l).size) => byte_at (s := ba l) h)
  rw [ba_list] at HAt
  have HNo := Lib.hid (fun (k : Nat) (c : UInt8) (h : l[k]? = some c) (hc : prC c = false) => show prB l = false from List.all_eq_false.2 ⟨c, List.mem_of_getElem? h, by rw [hc]; decide⟩)
  have HYes := Lib.hid (fun (h : ∀ (j : Nat) (c : UInt8), j < (ba l).size → l[j]? = some c → prC c = true) => show prB l = true from List.all_eq_true.2 fun c hc => by
    obtain ⟨j, hj⟩ := List.mem_iff_getElem?.1 hc
    exact h j c (by rw [hs]; exact (List.getElem?_eq_some_iff.1 hj).1) hj)
  have HL := Lib.hid (And.intro hl hs)
  generalize prB l = R at *
  generalize ba l = A at *
  clear hs hl
  go_enter Tryz.func43, Tryz.ntmps43
  go_wp2
  go_loopw [6] (fun i wr => ∃ k : Nat, i = .int .i64 (k : Int) ∧ k ≤ A.size ∧ (∀ (j : Nat) (c : UInt8), j < k → l[j]? = some c → prC c = true) ∧ wr = w) (fun i _ => A.size - (intOf i).toNat)
  case atStart => exact ⟨0, rfl, Nat.zero_le _, fun j c hj => absurd hj (by omega), rfl⟩
  case round =>
    obtain ⟨k, rfl, hk, hd, rfl⟩ := hrel
    have HD := Lib.hid hd
    have hk0 : (0 : Int) ≤ (k : Int) := by omega
    clear hd
    by_cases hlt : k < A.size
    · have hli : (k : Int) < (A.size : Int) := by omega
      have hat := HAt.out k hlt
      have hok := pr_nat A[k]
      have hw1 : wrap64 ((k : Int) + 1) = (k : Int) + 1 := by have := HL.out; unfold wrap64; omega
      by_cases h1 : A[k].toNat < 32
      · have h1i : (A[k].toNat : Int) < 32 := by omega
        have HR := Lib.hid (HNo.out k _ hat (by rw [hok]; exact decide_eq_false (by omega)))
        clear hat hok h1
        go_wp2
        go_ret
        exact ⟨by rw [HR.out]; rfl, rfl⟩
      · have h1i : ¬ (A[k].toNat : Int) < 32 := by omega
        by_cases h2 : 126 < A[k].toNat
        · have h2i : (126 : Int) < (A[k].toNat : Int) := by omega
          have HR := Lib.hid (HNo.out k _ hat (by rw [hok]; exact decide_eq_false (by omega)))
          clear hat hok h1 h2
          go_wp2
          go_ret
          exact ⟨by rw [HR.out]; rfl, rfl⟩
        · have h2i : ¬ (126 : Int) < (A[k].toNat : Int) := by omega
          have hp := hok.trans (decide_eq_true (by omega))
          have HN := Lib.hid (show ∀ (j : Nat) (c : UInt8), j < k + 1 → l[j]? = some c → prC c = true from fun j c hj hc => by
            by_cases e : j = k
            · subst e
              rw [hat] at hc
              rw [← Option.some.inj hc]; exact hp
            · exact HD.out j c (by omega) hc)
          clear hat hok h1 h2 hp
          go_wp2
          go_roundw
          case rel => exact ⟨k + 1, by go_num, by omega, HN.out, by first | rfl | trivial⟩
          case measure => first | exact measA hlt hw1 | exact measB hlt
    · have hli : ¬ (k : Int) < (A.size : Int) := by omega
      have HR := Lib.hid (HYes.out fun j c hj hc => HD.out j c (by omega) hc)
      go_wp2
      go_ret
      exact ⟨by rw [HR.out]; rfl, rfl⟩
theorem lisText_any (l : List UInt8) (hl : l.length ≤ 1048576) (w : World) :
    Calls Tryz.prog 67 #[.string (ba l)] w fun e w' => e = .returned (.bool (prB l && decide (trL l = l))) ∧ Drw w w' := by
  have HM := Lib.hid (fun w => lmayStand_any l hl w)
  have HT := Lib.hid (fun w => lib_trim l hl w)
  have hq : ((ba (trL l)).toList == (ba l).toList) = decide (trL l = l) := by
    rw [tl8]
    by_cases h : trL l = l
    · rw [h, decide_eq_true rfl, decide_eq_true rfl]
    · rw [decide_eq_false h, decide_eq_false fun e => h (ba_inj e)]
  cases hp : prB l with
  | false =>
    rw [hp] at HM
    clear HT hq
    generalize ba l = A at *
    go_enter Tryz.func67, Tryz.ntmps67
    go_wp2_with (first
      | (go_at_call 43; (with_reducible refine (HM.out _).mono ?_); rintro e w1 ⟨rfl, rfl⟩))
    go_ret
    exact ⟨rfl, Drw.refl _⟩
  | true =>
    rw [hp] at HM
    rw [Bool.true_and]
    generalize ba (trL l) = T at *
    generalize ba l = A at *
    generalize decide (trL l = l) = R at *
    cases R with
    | true =>
      go_enter Tryz.func67, Tryz.ntmps67
      go_wp2_with (first
        | (go_at_call 43; (with_reducible refine (HM.out _).mono ?_); rintro e w1 ⟨rfl, rfl⟩)
        | (go_at_call 89; (with_reducible refine (HT.out _).mono ?_); rintro e w2 ⟨rfl, hd⟩))
      go_ret
      exact ⟨rfl, hd⟩
    | false =>
      go_enter Tryz.func67, Tryz.ntmps67
      go_wp2_with (first
        | (go_at_call 43; (with_reducible refine (HM.out _).mono ?_); rintro e w1 ⟨rfl, rfl⟩)
        | (go_at_call 89; (with_reducible refine (HT.out _).mono ?_); rintro e w2 ⟨rfl, hd⟩))
      go_ret
      exact ⟨rfl, hd⟩

theorem lib_formatInt (n : Int) (h : I64 n) (w : World) (ht : Tb w) : Calls Tryz.prog 87 #[.int .i64 n, .int .i64 10] w fun e w' => e = .returned (.string (ba (Lib.itoa n))) ∧ Below w.heap.size w w' :=
  (Tryz.strconv_FormatInt_10 n h.1 h.2 w ht.pow).mono fun e w' hh => by
    obtain ⟨h1, k, os, hw⟩ := hh
    exact ⟨h1, hw ▸ Lib.below_grow _ _ (Nat.le_refl _) k os⟩
theorem lib_itoa (n : Int) (h : I64 n) (w : World) (ht : Tb w) : Calls Tryz.prog 42 #[.int .i64 n] w fun e w' => e = .returned (.string (ba (Lib.itoa n))) ∧ Below w.heap.size w w' :=
  (Tryz.strconv_Itoa n h.1 h.2 w ht.pow).mono fun e w' hh => by
    obtain ⟨h1, k, os, hw⟩ := hh
    exact ⟨h1, hw ▸ Lib.below_grow _ _ (Nat.le_refl _) k os⟩
/-- A size as it is told. -/
def szT (n : Int) : List UInt8 := if n = -1 then [] else 32 :: (sizW ++ Lib.itoa n)
theorem dig_num (n : Nat) : Lib.decDigits n = numL n := by
  induction n using Nat.strongRecOn with
  | _ n ih =>
    rw [Lib.decDigits, numL]
    by_cases h : n < 10
    · rw [dif_pos h, if_pos h]
    · rw [dif_neg h, if_neg h, ih (n / 10) (by omega)]
theorem itoa_num (n : Nat) : Lib.itoa (n : Int) = numL n := by rw [Lib.itoa_nonneg, dig_num]
theorem szT_may {n : Int} (h : -1 ≤ n) : szT n = sizT n := by
  rw [szT, sizT]
  by_cases h1 : n = -1
  · rw [if_pos h1, if_neg (by omega)]
  · rw [if_neg h1, if_pos (by omega)]
    obtain ⟨m, rfl⟩ : ∃ m : Nat, n = m := ⟨n.toNat, by omega⟩
    rw [itoa_num]; rfl
theorem szT_len {n : Int} (h : I64 n) : (szT n).length ≤ 40 := by
  rw [szT]
  have := Lib.itoa_length_le n h.1 h.2
  split
  · decide
  · simp only [List.length_cons, List.length_append]
    have e : sizW.length = 5 := rfl
    omega
theorem bodT_len (e : Bool) : (bodT e).length ≤ 14 := by cases e <;> decide
set_option maxHeartbeats 1000000 in
set_option maxRecDepth 100000 in
theorem loptS_any (V S : Int) (T L D : ByteArray) (E : Bool) (hS : I64 S) (w : World) (ht : Tb w) :
    Calls Tryz.prog 65 #[.agg #[.int .i64 V, .string T, .string L, .string D, .int .i64 S, .bool E]] w fun e w' => e = .returned (.string (ba (szT S ++ bodT E))) ∧ Below w.heap.size w w' := by
  have hA := Arr.new w #[.int .i64 V, .string T, .string L, .string D, .int .i64 S, .bool E] 26
  have HB := Lib.hid (below_one w (.cells #[.int .i64 V, .string T, .string L, .string D, .int .i64 S, .bool E] 26))
  have HA := Lib.hid hA
  have HF := Lib.hid (fun w (h : Tb w) => lib_formatInt S hS w h)
  have HTb := Lib.hid (ht.next HB.out)
  have hlI := Lib.itoa_length_le S hS.1 hS.2
  have hb := ba_size (Lib.itoa S)
  have e1 := cat_run ⟨#[32, 83, 73, 90, 69, 61]⟩ (ba (Lib.itoa S)) (by have : (⟨#[32, 83, 73, 90, 69, 61]⟩ : ByteArray).size = 6 := rfl; omega)
  rw [show (⟨#[32, 83, 73, 90, 69, 61]⟩ : ByteArray) ++ ba (Lib.itoa S) = ba (32 :: (sizW ++ Lib.itoa S)) from ba_append [32, 83, 73, 90, 69, 61] _] at e1
  have e2 := cat_run (ba (szT S)) ⟨#[32, 66, 79, 68, 89, 61, 56, 66, 73, 84, 77, 73, 77, 69]⟩ (by have : (⟨#[32, 66, 79, 68, 89, 61, 56, 66, 73, 84, 77, 73, 77, 69]⟩ : ByteArray).size = 14 := rfl; have := szT_len hS; rw [ba_size]; omega)
  rw [show ba (szT S) ++ (⟨#[32, 66, 79, 68, 89, 61, 56, 66, 73, 84, 77, 73, 77, 69]⟩ : ByteArray) = ba (szT S ++ bodT true) from ba_append _ [32, 66, 79, 68, 89, 61, 56, 66, 73, 84, 77, 73, 77, 69]] at e2
  have hz : (w.alloc (.cells #[.int .i64 V, .string T, .string L, .string D, .int .i64 S, .bool E] 26)).heap.size = w.heap.size + 1 := by show (w.heap.push _).size = _; simp
  by_cases h1 : S = -1
  · subst h1
    have hs : szT (-1) = [] := rfl
    rw [hs] at e2 ⊢
    rw [show ba [] = ⟨#[]⟩ from rfl] at e2
    clear hA e1 hb hlI hz ht
    cases E with
    | false =>
      go_enter Tryz.func65, Tryz.ntmps65
      go_wp2
      go_ret
      exact ⟨rfl, HB.out⟩
    | true =>
      generalize hR : ba ([] ++ bodT true) = R at *
      go_enter Tryz.func65, Tryz.ntmps65
      go_wp2
      go_ret
      exact ⟨rfl, HB.out⟩
  · have hn : (S != -1) = true := by rw [bne, beq_false_of_ne h1]; rfl
    have hs : szT S = 32 :: (sizW ++ Lib.itoa S) := by rw [szT, if_neg h1]
    rw [hs] at e2 ⊢
    clear hA hb hlI hz ht hs
    cases E with
    | false =>
      rw [show bodT false = [] from rfl, List.append_nil]
      generalize ba (32 :: (sizW ++ Lib.itoa S)) = R at *
      generalize ba (Lib.itoa S) = I at *
      go_enter Tryz.func65, Tryz.ntmps65
      go_wp2_with (first
        | (go_at_call 87; (with_reducible refine (HF.out _ HTb.out).mono ?_); rintro e w1 ⟨rfl, hb1⟩; have HA1 := Lib.hid (HA.out.next hb1); obtain ⟨b0, b1, b2, b3, b4, b5⟩ := six_cells HA1.out))
      go_ret
      exact ⟨rfl, Below_next HB.out hb1⟩
    | true =>
      generalize ba (32 :: (sizW ++ Lib.itoa S)) = R at *
      generalize ba (32 :: (sizW ++ Lib.itoa S) ++ bodT true) = Q at *
      generalize ba (Lib.itoa S) = I at *
      go_enter Tryz.func65, Tryz.ntmps65
      go_wp2_with (first
        | (go_at_call 87; (with_reducible refine (HF.out _ HTb.out).mono ?_); rintro e w1 ⟨rfl, hb1⟩; have HA1 := Lib.hid (HA.out.next hb1); obtain ⟨b0, b1, b2, b3, b4, b5⟩ := six_cells HA1.out))
      go_ret
      exact ⟨rfl, Below_next HB.out hb1⟩
end Go.Proofs.YtahbbnimoogapaaGreatDoor
namespace Go.Proofs.YtahbbnimoogapaaGreatDoor
open Go.RowKit

theorem info_cmd : (Tryz.prog.info? 26).map (·.size) = some 6 := by kernel_rfl
theorem results_cmd1 {fn : Func} {p : Tmp} (h : fn.results = #[.cell p 26]) (tmps : Array Value) (w : World) (g : Nat) (cs : Array Value) (hs : cs.size = 6) (hp : tmps.getD p undef = .pointer (some ⟨g, 0, none⟩)) (hg : Arr w g cs 26) :
    (results fn tmps).run Tryz.prog w = .ok (.agg cs) w := by
  have hp' : tmps[p]?.getD undef = .pointer (some ⟨g, 0, none⟩) := by simpa using hp
  simp [results, h, hp', asAddr, run_loadVar_row w g 26 26 cs (0, 0) _ hg Tryz.underlying26 rfl (by rw [hs]; exact info_cmd)]
set_option maxHeartbeats 1000000 in
set_option maxRecDepth 100000 in
theorem lonly_1 (S : Int) (T L D : ByteArray) (E : Bool) (w : World) :
    Calls Tryz.prog 38 #[.agg #[.int .i64 1, .string T, .string L, .string D, .int .i64 S, .bool E]] w fun e w' => e = .returned (.agg #[.int .i64 1, .string T, .string ⟨#[]⟩, .string ⟨#[]⟩, .int .i64 S, .bool false]) ∧ Below w.heap.size w w' := by
  go_enter Tryz.func38, Tryz.ntmps38
  go_wp2
  have hz : w.heap.size + 1 = (w.alloc (.cells #[.int .i64 1, .string T, .string L, .string D, .int .i64 S, .bool E] 26)).heap.size := by show _ = (w.heap.push _).size; simp
  refine bodyPost_ret (results_cmd1 rfl _ _ (w.heap.size + 1) #[.int .i64 1, .string T, .string ⟨#[]⟩, .string ⟨#[]⟩, .int .i64 S, .bool false] rfl rfl (show Arr _ _ _ _ from Arr.alloc (Arr.newAt _ _ _ hz) _)) rfl ⟨rfl, ?_⟩
  exact below_new (below_new (below_one w _) _) _
set_option maxHeartbeats 1000000 in
set_option maxRecDepth 100000 in
theorem lonly_2 (S : Int) (T L D : ByteArray) (E : Bool) (w : World) :
    Calls Tryz.prog 38 #[.agg #[.int .i64 2, .string T, .string L, .string D, .int .i64 S, .bool E]] w fun e w' => e = .returned (.agg #[.int .i64 2, .string T, .string ⟨#[]⟩, .string ⟨#[]⟩, .int .i64 S, .bool false]) ∧ Below w.heap.size w w' := by
  go_enter Tryz.func38, Tryz.ntmps38
  go_wp2
  have hz : w.heap.size + 1 = (w.alloc (.cells #[.int .i64 2, .string T, .string L, .string D, .int .i64 S, .bool E] 26)).heap.size := by show _ = (w.heap.push _).size; simp
  refine bodyPost_ret (results_cmd1 rfl _ _ (w.heap.size + 1) #[.int .i64 2, .string T, .string ⟨#[]⟩, .string ⟨#[]⟩, .int .i64 S, .bool false] rfl rfl (show Arr _ _ _ _ from Arr.alloc (Arr.newAt _ _ _ hz) _)) rfl ⟨rfl, ?_⟩
  exact below_new (below_new (below_one w _) _) _
set_option maxHeartbeats 1000000 in
set_option maxRecDepth 100000 in
theorem lonly_3 (S : Int) (T L D : ByteArray) (E : Bool) (w : World) :
    Calls Tryz.prog 38 #[.agg #[.int .i64 3, .string T, .string L, .string D, .int .i64 S, .bool E]] w fun e w' => e = .returned (.agg #[.int .i64 3, .string ⟨#[]⟩, .string L, .string D, .int .i64 S, .bool E]) ∧ Below w.heap.size w w' := by
  go_enter Tryz.func38, Tryz.ntmps38
  go_wp2
  go_region
  go_wp2
  have hz : w.heap.size + 1 = (w.alloc (.cells #[.int .i64 3, .string T, .string L, .string D, .int .i64 S, .bool E] 26)).heap.size := by show _ = (w.heap.push _).size; simp
  refine bodyPost_ret (results_cmd1 rfl _ _ (w.heap.size + 1) #[.int .i64 3, .string ⟨#[]⟩, .string L, .string D, .int .i64 S, .bool E] rfl rfl (show Arr _ _ _ _ from Arr.alloc (Arr.newAt _ _ _ hz) _)) rfl ⟨rfl, ?_⟩
  exact (below_new (below_new (below_one w _) _) _).drew
set_option maxHeartbeats 1000000 in
set_option maxRecDepth 100000 in
theorem lonly_4 (S : Int) (T L D : ByteArray) (E : Bool) (w : World) :
    Calls Tryz.prog 38 #[.agg #[.int .i64 4, .string T, .string L, .string D, .int .i64 S, .bool E]] w fun e w' => e = .returned (.agg #[.int .i64 4, .string ⟨#[]⟩, .string L, .string D, .int .i64 S, .bool false]) ∧ Below w.heap.size w w' := by
  go_enter Tryz.func38, Tryz.ntmps38
  go_wp2
  have hz : w.heap.size + 1 = (w.alloc (.cells #[.int .i64 4, .string T, .string L, .string D, .int .i64 S, .bool E] 26)).heap.size := by show _ = (w.heap.push _).size; simp
  refine bodyPost_ret (results_cmd1 rfl _ _ (w.heap.size + 1) #[.int .i64 4, .string ⟨#[]⟩, .string L, .string D, .int .i64 S, .bool false] rfl rfl (show Arr _ _ _ _ from Arr.alloc (Arr.newAt _ _ _ hz) _)) rfl ⟨rfl, ?_⟩
  exact below_new (below_new (below_one w _) _) _
set_option maxHeartbeats 1000000 in
set_option maxRecDepth 100000 in
theorem lonly_5 (S : Int) (T L D : ByteArray) (E : Bool) (w : World) :
    Calls Tryz.prog 38 #[.agg #[.int .i64 5, .string T, .string L, .string D, .int .i64 S, .bool E]] w fun e w' => e = .returned (.agg #[.int .i64 5, .string ⟨#[]⟩, .string ⟨#[]⟩, .string ⟨#[]⟩, .int .i64 S, .bool false]) ∧ Below w.heap.size w w' := by
  go_enter Tryz.func38, Tryz.ntmps38
  go_wp2
  have hz : w.heap.size + 1 = (w.alloc (.cells #[.int .i64 5, .string T, .string L, .string D, .int .i64 S, .bool E] 26)).heap.size := by show _ = (w.heap.push _).size; simp
  refine bodyPost_ret (results_cmd1 rfl _ _ (w.heap.size + 1) #[.int .i64 5, .string ⟨#[]⟩, .string ⟨#[]⟩, .string ⟨#[]⟩, .int .i64 S, .bool false] rfl rfl (show Arr _ _ _ _ from Arr.alloc (Arr.newAt _ _ _ hz) _)) rfl ⟨rfl, ?_⟩
  exact below_new (below_new (below_one w _) _) _
set_option maxHeartbeats 1000000 in
set_option maxRecDepth 100000 in
theorem lonly_6 (S : Int) (T L D : ByteArray) (E : Bool) (w : World) :
    Calls Tryz.prog 38 #[.agg #[.int .i64 6, .string T, .string L, .string D, .int .i64 S, .bool E]] w fun e w' => e = .returned (.agg #[.int .i64 6, .string ⟨#[]⟩, .string ⟨#[]⟩, .string ⟨#[]⟩, .int .i64 S, .bool false]) ∧ Below w.heap.size w w' := by
  go_enter Tryz.func38, Tryz.ntmps38
  go_wp2
  have hz : w.heap.size + 1 = (w.alloc (.cells #[.int .i64 6, .string T, .string L, .string D, .int .i64 S, .bool E] 26)).heap.size := by show _ = (w.heap.push _).size; simp
  refine bodyPost_ret (results_cmd1 rfl _ _ (w.heap.size + 1) #[.int .i64 6, .string ⟨#[]⟩, .string ⟨#[]⟩, .string ⟨#[]⟩, .int .i64 S, .bool false] rfl rfl (show Arr _ _ _ _ from Arr.alloc (Arr.newAt _ _ _ hz) _)) rfl ⟨rfl, ?_⟩
  exact below_new (below_new (below_one w _) _) _
set_option maxHeartbeats 1000000 in
set_option maxRecDepth 100000 in
theorem lonly_7 (S : Int) (T L D : ByteArray) (E : Bool) (w : World) :
    Calls Tryz.prog 38 #[.agg #[.int .i64 7, .string T, .string L, .string D, .int .i64 S, .bool E]] w fun e w' => e = .returned (.agg #[.int .i64 7, .string T, .string ⟨#[]⟩, .string ⟨#[]⟩, .int .i64 S, .bool false]) ∧ Below w.heap.size w w' := by
  go_enter Tryz.func38, Tryz.ntmps38
  go_wp2
  have hz : w.heap.size + 1 = (w.alloc (.cells #[.int .i64 7, .string T, .string L, .string D, .int .i64 S, .bool E] 26)).heap.size := by show _ = (w.heap.push _).size; simp
  refine bodyPost_ret (results_cmd1 rfl _ _ (w.heap.size + 1) #[.int .i64 7, .string T, .string ⟨#[]⟩, .string ⟨#[]⟩, .int .i64 S, .bool false] rfl rfl (show Arr _ _ _ _ from Arr.alloc (Arr.newAt _ _ _ hz) _)) rfl ⟨rfl, ?_⟩
  exact below_new (below_new (below_one w _) _) _
set_option maxHeartbeats 1000000 in
set_option maxRecDepth 100000 in
theorem lonly_8 (S : Int) (T L D : ByteArray) (E : Bool) (w : World) :
    Calls Tryz.prog 38 #[.agg #[.int .i64 8, .string T, .string L, .string D, .int .i64 S, .bool E]] w fun e w' => e = .returned (.agg #[.int .i64 8, .string ⟨#[]⟩, .string ⟨#[]⟩, .string ⟨#[]⟩, .int .i64 S, .bool false]) ∧ Below w.heap.size w w' := by
  go_enter Tryz.func38, Tryz.ntmps38
  go_wp2
  have hz : w.heap.size + 1 = (w.alloc (.cells #[.int .i64 8, .string T, .string L, .string D, .int .i64 S, .bool E] 26)).heap.size := by show _ = (w.heap.push _).size; simp
  refine bodyPost_ret (results_cmd1 rfl _ _ (w.heap.size + 1) #[.int .i64 8, .string ⟨#[]⟩, .string ⟨#[]⟩, .string ⟨#[]⟩, .int .i64 S, .bool false] rfl rfl (show Arr _ _ _ _ from Arr.alloc (Arr.newAt _ _ _ hz) _)) rfl ⟨rfl, ?_⟩
  exact below_new (below_new (below_one w _) _) _
set_option maxHeartbeats 1000000 in
set_option maxRecDepth 100000 in
theorem lonly_9 (S : Int) (T L D : ByteArray) (E : Bool) (w : World) :
    Calls Tryz.prog 38 #[.agg #[.int .i64 9, .string T, .string L, .string D, .int .i64 S, .bool E]] w fun e w' => e = .returned (.agg #[.int .i64 9, .string T, .string ⟨#[]⟩, .string ⟨#[]⟩, .int .i64 S, .bool false]) ∧ Below w.heap.size w w' := by
  go_enter Tryz.func38, Tryz.ntmps38
  go_wp2
  have hz : w.heap.size + 1 = (w.alloc (.cells #[.int .i64 9, .string T, .string L, .string D, .int .i64 S, .bool E] 26)).heap.size := by show _ = (w.heap.push _).size; simp
  refine bodyPost_ret (results_cmd1 rfl _ _ (w.heap.size + 1) #[.int .i64 9, .string T, .string ⟨#[]⟩, .string ⟨#[]⟩, .int .i64 S, .bool false] rfl rfl (show Arr _ _ _ _ from Arr.alloc (Arr.newAt _ _ _ hz) _)) rfl ⟨rfl, ?_⟩
  exact below_new (below_new (below_one w _) _) _
end Go.Proofs.YtahbbnimoogapaaGreatDoor
