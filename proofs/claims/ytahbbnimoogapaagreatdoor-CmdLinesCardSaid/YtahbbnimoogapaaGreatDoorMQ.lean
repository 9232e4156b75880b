/- The document's own layer 10: Same, Whole, Lines. The document's own layer 10: Lines. The document's own layer 10: ReadReply. -/
import Derived.Test.YtahbbnimoogapaaGreatDoorMO
import Derived.Test.YtahbbnimoogapaaGreatDoorOsp
import Derived.Test.YtahbbnimoogapaaGreatDoorLnN
import Derived.WalkMore
import Derived.Deep.QuietTactic
import Derived.BigQuiet
import Derived.Deep.RegionHeld3
import Derived.Test.YtahbbnimoogapaaGreatDoorFro
import Derived.Deep.RegionLaw
namespace Go.Proofs.YtahbbnimoogapaaGreatDoor
open Go.RowKit

set_option maxHeartbeats 1000000 in
set_option maxRecDepth 100000 in
theorem rsame10_any {a b : Option Addr} {len cap len2 cap2 : Nat} {ss tt : List ByteArray} (hl : len ≤ 1048576) (w : World) (h1 : IsTexts w a len cap ss) (h2 : IsTexts w b len2 cap2 tt) :
    Calls Tryz.prog 21 #[.slice a len cap, .slice b len2 cap2] w fun e w' => e = .returned (.bool (decide (ss = tt))) ∧ Below w.heap.size w w' := by
  obtain ⟨e1, hc1, hm1⟩ := h1.len
  obtain ⟨e2, hc2, hm2⟩ := h2.len
  have H1 := Lib.hid h1
  have H2 := Lib.hid h2
  by_cases hne : len = len2
  · subst hne
    clear hm1 hm2 h1 h2
    go_enter Tryz.func21, Tryz.ntmps21
    go_wp2
    go_loopw [5] (fun i wr => ∃ k : Nat, i = .int .i64 (k : Int) ∧ k ≤ len ∧ (∀ j, j < k → ss.getD j ByteArray.empty = tt.getD j ByteArray.empty) ∧ Below w.heap.size w wr) (fun i _ => 1048577 - (intOf i).toNat)
    case atStart => exact ⟨0, rfl, Nat.zero_le _, fun j hj => absurd hj (by omega), Below.refl _ _⟩
    case round =>
      obtain ⟨k, rfl, hk, hno, hbel⟩ := hrel
      have HNO := Lib.hid hno
      clear hno
      by_cases hlt : k < len
      · have hli : (k : Int) < (len : Int) := by omega
        have hk0 : (0 : Int) ≤ (k : Int) := by omega
        obtain ⟨x, rfl, c1, _⟩ := (H1.out.next hbel).at hlt
        obtain ⟨y, rfl, c2, _⟩ := (H2.out.next hbel).at hlt
        by_cases e : ss.getD k ByteArray.empty = tt.getD k ByteArray.empty
        · have q : ((ss.getD k ByteArray.empty).toList == (tt.getD k ByteArray.empty).toList) = true := by rw [tl8]; exact decide_eq_true e
          have HN2 := Lib.hid (show ∀ j, j < k + 1 → ss.getD j ByteArray.empty = tt.getD j ByteArray.empty from fun j hj => by
            by_cases hjk : j = k
            · subst hjk; exact e
            · exact HNO.out j (by omega))
          clear e HNO
          generalize ss.getD k ByteArray.empty = X at *
          generalize tt.getD k ByteArray.empty = Y at *
          go_wp2
          go_quiet (fail)
          go_wp2
          go_roundw
          case rel => exact ⟨k + 1, by go_num, by omega, HN2.out, Below_drewN hbel _⟩
          case measure => simp only [intOf]; omega
        · have q : ((ss.getD k ByteArray.empty).toList == (tt.getD k ByteArray.empty).toList) = false := by rw [tl8]; exact decide_eq_false e
          have HX := Lib.hid (show decide (ss = tt) = false from decide_eq_false (fun h => e (by rw [h])))
          clear e HNO
          generalize ss.getD k ByteArray.empty = X at *
          generalize tt.getD k ByteArray.empty = Y at *
          go_wp2
          go_quiet (fail)
          go_wp2
          go_ret
          exact ⟨by rw [HX.out]; rfl, Below_drewN hbel _⟩
      · have hli : ¬ (k : Int) < (len : Int) := by omega
        have HX := Lib.hid (show decide (ss = tt) = true from decide_eq_true (getD_ext (by rw [e1, e2]) fun i hi => HNO.out i (by omega)))
        clear HNO
        go_wp2
        go_ret
        exact ⟨by rw [HX.out]; rfl, hbel⟩
  · have hni : ¬ (len : Int) = (len2 : Int) := by omega
    rw [decide_eq_false (fun h => hne (by rw [← e1, ← e2, h]))]
    clear hm1 hm2 h1 h2
    go_enter Tryz.func21, Tryz.ntmps21
    go_wp2
    go_ret
    exact ⟨rfl, Below.refl _ _⟩


theorem bas_get {L : List (List UInt8)} {k : Nat} {x : List UInt8} (h : L[k]? = some x) : (bas L).getD k ByteArray.empty = ba x := by
  rw [List.getD_eq_getElem?_getD, bas, List.getElem?_map, h]; rfl
/-- Is a line a reply's last? -/
def lasB (x : List UInt8) : Prop := 4 ≤ x.length ∧ x[3]? = some 32
theorem who_step {L : List (List UInt8)} {k : Nat} {x : List UInt8} (h : L[k]? = some x) : whoL (L.drop k) k = if 4 ≤ x.length ∧ x[3]? = some 32 then k + 1 else whoL (L.drop (k + 1)) (k + 1) := by
  obtain ⟨hk, e⟩ := List.getElem?_eq_some_iff.1 h
  rw [List.drop_eq_getElem_cons hk, e, whoL]

set_option maxHeartbeats 1000000 in
set_option maxRecDepth 100000 in
theorem rwhole_any (a : Option Addr) (len cap : Nat) (L : List (List UInt8)) (hL : len ≤ 1048576) (hx : ∀ x ∈ L, x.length ≤ 1048576) (w : World) (ht : IsTexts w a len cap (bas L)) :
    Calls Tryz.prog 23 #[.slice a len cap] w fun e w' => e = .returned (.int .i64 ((whoL L 0 : Nat) : Int)) ∧ w = w' := by
  have HT := Lib.hid ht
  have hlen := ht.len.1
  rw [bas_len] at hlen
  have HS := Lib.hid (show whoL L 0 = whoL (L.drop 0) 0 by rw [List.drop_zero])
  have HX := Lib.hid hx
  generalize whoL L 0 = R at *
  clear ht hx
  go_enter Tryz.func23, Tryz.ntmps23
  go_wp2
  go_loopw [3] (fun i wr => ∃ k : Nat, i = .int .i64 (k : Int) ∧ k ≤ len ∧ R = whoL (L.drop k) k ∧ w = wr) (fun i _ => 1048577 - (intOf i).toNat)
  case atStart => exact ⟨0, rfl, Nat.zero_le _, HS.out, rfl⟩
  case round =>
    obtain ⟨k, rfl, hk, hR, rfl⟩ := hrel
    have HR := Lib.hid hR
    clear hR
    have hk0 : (0 : Int) ≤ (k : Int) := by omega
    by_cases hlt : k < len
    · have hli : (k : Int) < (len : Int) := by omega
      obtain ⟨y, rfl, c1, _⟩ := HT.out.at hlt
      obtain ⟨x, hxk⟩ : ∃ x, L[k]? = some x := ⟨_, List.getElem?_eq_getElem (by omega)⟩
      have hst := who_step hxk
      have hxs := HX.out x (List.mem_of_getElem? hxk)
      rw [bas_get hxk] at c1
      have hbs := ba_size x
      by_cases h4 : 4 ≤ x.length
      · have b4 : (4 : Int) ≤ ((ba x).size : Int) := by omega
        have hp : 3 < (ba x).size := by omega
        have hat := byte_at hp
        rw [ba_list] at hat
        have b3 : (3 : Int) < ((ba x).size : Int) := by omega
        by_cases h32 : x[3]? = some 32
        · have q : (((ba x)[3].toNat : Int) == 32) = true := by
            rw [h32] at hat
            rw [← Option.some.inj hat]; rfl
          have HF := Lib.hid (show R = k + 1 by rw [HR.out, hst, if_pos ⟨h4, h32⟩])
          clear hst hxs hbs h4 hat h32 hxk
          generalize ba x = X at *
          go_wp2
          go_ret
          exact ⟨by rw [HF.out]; go_num, rfl⟩
        · have q : (((ba x)[3].toNat : Int) == 32) = false := by
            rw [show (32 : Int) = ((32 : Nat) : Int) from rfl, byte_is (by decide)]
            exact decide_eq_false fun e => h32 (by rw [hat, e]; rfl)
          have HF := Lib.hid (show R = whoL (L.drop (k + 1)) (k + 1) by rw [HR.out, hst, if_neg (fun h => h32 h.2)])
          clear hst hxs hbs h4 hat h32 hxk
          generalize ba x = X at *
          go_wp2
          go_roundw
          case rel => exact ⟨k + 1, by go_num, by omega, HF.out, trivial⟩
          case measure => simp only [intOf]; omega
      · have b4 : ¬ (4 : Int) ≤ ((ba x).size : Int) := by omega
        have HF := Lib.hid (show R = whoL (L.drop (k + 1)) (k + 1) by rw [HR.out, hst, if_neg (fun h => h4 h.1)])
        clear hst hxs hbs h4 hxk
        generalize ba x = X at *
        go_wp2
        go_roundw
        case rel => exact ⟨k + 1, by go_num, by omega, HF.out, trivial⟩
        case measure => simp only [intOf]; omega
    · have hli : ¬ (k : Int) < (len : Int) := by omega
      have HF := Lib.hid (show R = 0 by rw [HR.out, List.drop_of_length_le (by omega)]; rfl)
      go_wp2
      go_ret
      exact ⟨by rw [HF.out]; rfl, rfl⟩

/-- A reply's line at a place. -/
theorem rep_at (n : List UInt8) : ∀ (L : List (List UInt8)) (k : Nat) (x : List UInt8), L[k]? = some x → (repT n L)[k]? = some (n ++ (if k + 1 = L.length then 32 else 45) :: x)
  | [], k, x, h => by cases h
  | [y], k, x, h => by
    cases k with
    | zero => rw [List.getElem?_cons_zero] at h; rw [Option.some.inj h]; rfl
    | succ k => rw [List.getElem?_cons_succ] at h; cases h
  | y :: z :: L, k, x, h => by
    rw [repT]
    cases k with
    | zero =>
      rw [List.getElem?_cons_zero] at h
      rw [List.getElem?_cons_zero, Option.some.inj h, if_neg (by simp)]
    | succ k =>
      rw [List.getElem?_cons_succ] at h
      rw [List.getElem?_cons_succ, rep_at n (z :: L) k x h]
      simp only [List.length_cons, Nat.add_right_cancel_iff]
/-- What Lines answers: a number, and lines. -/
def linE (code : Int) (L : List (List UInt8)) : Int := if clsZ code = 0 then 3 else if L ≠ [] ∧ L.all prB = true then 0 else 2
def linO (code : Int) (L : List (List UInt8)) : List (List UInt8) := if linE code L = 0 then repT (numL code.toNat) L else []
theorem cls_zero (n : Int) : (clsZ n == 0) = decide (n < 200 ∨ 599 < n) := by
  by_cases h : n < 200 ∨ 599 < n
  · rw [clsZ, if_pos h, decide_eq_true h]; rfl
  · rw [clsZ, if_neg h, decide_eq_false h]
    exact beq_false_of_ne (by omega)
end Go.Proofs.YtahbbnimoogapaaGreatDoor
namespace Go.Proofs.YtahbbnimoogapaaGreatDoor
open Go.RowKit

/-- A reply in memory, and its lines. -/
def RepW (w : World) (g : Nat) (code : Int) (a : Option Addr) (len cap : Nat) (L : List (List UInt8)) : Prop := Arr w g #[.int .i64 code, .slice a len cap] 48 ∧ IsTexts w a len cap (bas L)
theorem RepW.next {w w' : World} {g len cap : Nat} {code : Int} {a : Option Addr} {L : List (List UInt8)} (h : RepW w g code a len cap L) (hb : Below w.heap.size w w') : RepW w' g code a len cap L := ⟨h.1.next hb, h.2.next hb⟩
theorem RepW.drew {w : World} {g len cap : Nat} {code : Int} {a : Option Addr} {L : List (List UInt8)} (h : RepW w g code a len cap L) : RepW w.drew g code a len cap L := h.next (below_drew w)
theorem RepW.limb {w : World} {g k len cap : Nat} {code : Int} {x : Addr} {L : List (List UInt8)} {y : List UInt8} (h : RepW w g code (some x) len cap L) (hk : k < len) (hy : L[k]? = some y) :
    w.cell? ⟨g, 0, none⟩ = some (.int .i64 code) ∧ w.cell? ⟨g, 1, none⟩ = some (.slice (some x) len cap) ∧ w.cell? (x.add k) = some (.string (ba y)) := by
  refine ⟨h.1.cell rfl, h.1.cell rfl, ?_⟩
  obtain ⟨z, hz, c, _⟩ := h.2.at hk
  rw [← Option.some.inj hz, bas_get hy] at c
  exact c

set_option maxHeartbeats 4000000 in
set_option maxRecDepth 100000 in
theorem rlines_any (code : Int) (a : Option Addr) (len cap : Nat) (L : List (List UInt8)) (hL : len ≤ 1048576) (hx : ∀ x ∈ L, x.length ≤ 1048576) (w : World) (ht : IsTexts w a len cap (bas L)) :
    Calls Tryz.prog 18 #[.agg #[.int .i64 code, .slice a len cap]] w fun e w' => ∃ (a' : Option Addr) (n' cap' : Nat), e = .returned (.tuple #[.slice a' n' cap', .int .i64 (linE code L)]) ∧ IsTexts w' a' n' cap' (bas (linO code L)) ∧ Below w.heap.size w w' := by
  have hlen := ht.len.1
  rw [bas_len] at hlen
  have HCl := Lib.hid (fun W => (rclass_any code W).mono (fun e w' (h : _ ∧ W = w') => (⟨h.1, h.2 ▸ Below.refl _ _⟩ : e = .returned (.int .i64 (clsZ code)) ∧ Below W.heap.size W w')))
  have hb0 := below_one w (.cells #[.int .i64 code, .slice a len cap] 48)
  have HR0 := Lib.hid (show RepW (w.alloc (.cells #[.int .i64 code, .slice a len cap] 48)) w.heap.size code a len cap L from ⟨Arr.new w _ _, ht.next hb0⟩)
  have HB0 := Lib.hid hb0
  have c0 := HR0.out.1.cell (j := 0) rfl
  have c1 := HR0.out.1.cell (j := 1) rfl
  clear hb0
  by_cases hcl : code < 200 ∨ 599 < code
  · have q := cls_zero code
    rw [decide_eq_true hcl] at q
    have HE := Lib.hid (show linE code L = 3 by rw [linE, if_pos (beq_iff_eq.1 q)])
    have HO := Lib.hid (show linO code L = [] by rw [linO, HE.out, if_neg (by decide)])
    clear hcl ht hx
    generalize clsZ code = Z at *
    generalize linE code L = LE at *
    generalize linO code L = LO at *
    go_enter Tryz.func18, Tryz.ntmps18
    go_wp2_with (first
      | (go_at_call 25; (with_reducible refine (HCl.out _).mono ?_); rintro e w1 ⟨rfl, hb1⟩))
    go_ret2
    exact ⟨none, 0, 0, by rw [HE.out]; rfl, by rw [HO.out]; exact .inl ⟨rfl, rfl, rfl, rfl⟩, Below_next HB0.out hb1⟩
  · have q := cls_zero code
    rw [decide_eq_false hcl] at q
    obtain ⟨n, rfl⟩ : ∃ n : Nat, code = n := ⟨code.toNat, by omega⟩
    have HNum := Lib.hid (fun w => rnum_any n (by omega) w)
    have HE := Lib.hid (show linE (n : Int) L = if L ≠ [] ∧ L.all prB = true then 0 else 2 by rw [linE, if_neg (beq_eq_false_iff_ne.1 q)])
    have HO := Lib.hid (show linO (n : Int) L = if linE (n : Int) L = 0 then repT (numL n) L else [] from rfl)
    have h3 := num_three (n := n) (by omega) (by omega)
    generalize clsZ (n : Int) = Z at *
    generalize linE (n : Int) L = LE at *
    generalize linO (n : Int) L = LO at *
    generalize hNn : numL n = N at *
    have HX := Lib.hid hx
    clear hcl hx ht hNn
    clear c0 c1
    have c0 := HR0.out.1.cell (j := 0) rfl
    have hk0 : (0 : Int) ≤ (len : Int) := by omega
    go_enter Tryz.func18, Tryz.ntmps18
    go_wp2_with (first
      | (go_at_call 25; (with_reducible refine (HCl.out _).mono ?_); rintro e w1 ⟨rfl, hb1⟩; have HR1 := Lib.hid (HR0.out.next hb1); have HB1 := Lib.hid (Below_next HB0.out hb1)))
    clear c0 HR0 HB0 hb1
    have HOw0 := Lib.hid (OwS.start w1 w1.heap.size (Nat.le_refl _))
    have HBw0 := Lib.hid (below_one w1 (.cells #[] 9))
    go_loopw [4, 5] (fun o i wr => ∃ k : Nat, i = .int .i64 (k : Int) ∧ k ≤ len ∧ OwS wr w1.heap.size o (bas ((repT N L).take k)) ∧ Below w1.heap.size w1 wr ∧ (∀ (j : Nat) (x : List UInt8), j < k → L[j]? = some x → prB x = true)) (fun _ i _ => 1048577 - (intOf i).toNat)
    case atStart => exact ⟨0, rfl, Nat.zero_le _, HOw0.out, HBw0.out, fun j x hj => absurd hj (by omega)⟩
    case round =>
      clear HOw0 HBw0
      obtain ⟨k, rfl, hk, hown, hbel, hpr⟩ := hrel
      have HOw := Lib.hid hown
      have HPr := Lib.hid hpr
      have HRr := Lib.hid (HR1.out.next hbel)
      have hk1 : (0 : Int) ≤ (k : Int) := by omega
      have e1 : wr.cell? ⟨w.heap.size, 1, none⟩ = some (.slice a len cap) := HRr.out.1.cell rfl
      clear hown hpr
      by_cases hlt : k < len
      · have hli : (k : Int) < (len : Int) := by omega
        obtain ⟨y, rfl⟩ : ∃ y, a = some y := by
          obtain ⟨y, h, _⟩ := HRr.out.2.at hlt
          exact ⟨y, h⟩
        obtain ⟨x, hxk⟩ : ∃ x, L[k]? = some x := ⟨_, List.getElem?_eq_getElem (by omega)⟩
        have hxm := List.mem_of_getElem? hxk
        have hxs := HX.out x hxm
        obtain ⟨e0, e1', e2⟩ := HRr.out.limb hlt hxk
        clear e1'
        have hPrn := fun w => rprinted_any x hxs w
        cases hp : prB x with
        | false =>
          rw [hp] at hPrn
          have HPn := Lib.hid hPrn
          have HEf := Lib.hid (show LE = 2 by
            rw [HE.out, if_neg]
            rintro ⟨_, h⟩
            have := List.all_eq_true.1 h x hxm
            rw [hp] at this; cases this)
          have HOf := Lib.hid (show LO = [] by rw [HO.out, HEf.out, if_neg (by decide)])
          clear hPrn hp hxs hxm hxk
          generalize ba x = X at *
          go_wp2_with (first
            | (go_at_call 36; (with_reducible refine (HPn.out _).mono ?_); rintro e w2 ⟨rfl, rfl⟩))
          go_ret2
          exact ⟨none, 0, 0, by rw [HEf.out]; rfl, by rw [HOf.out]; exact .inl ⟨rfl, rfl, rfl, rfl⟩, Below_next HB1.out hbel⟩
        | true =>
          rw [hp] at hPrn
          have HPn := Lib.hid hPrn
          have HPr2 := Lib.hid (show ∀ (j : Nat) (z : List UInt8), j < k + 1 → L[j]? = some z → prB z = true from fun j z hj hz => by
            by_cases hjk : j = k
            · subst hjk
              rw [hxk] at hz
              rw [← Option.some.inj hz]; exact hp
            · exact HPr.out j z (by omega) hz)
          have hrep := rep_at N L k x hxk
          have htk : (repT N L).take (k + 1) = (repT N L).take k ++ [N ++ (if k + 1 = L.length then 32 else 45) :: x] := by rw [List.take_add_one, hrep]; rfl
          have HLb := Lib.hid (show (bas ((repT N L).take k)).length ≤ 1048576 by rw [bas_len, List.length_take]; omega)
          have HBs := Lib.hid (show bas ((repT N L).take (k + 1)) = bas ((repT N L).take k) ++ [ba (N ++ (if k + 1 = L.length then 32 else 45) :: x)] by rw [htk]; exact bas_snoc _ _)
          have HLimb := Lib.hid (fun (w' : World) (h : RepW w' w.heap.size (n : Int) (some y) len cap L) => h.limb hlt hxk)
          have hNs := ba_size N
          have hxz := ba_size x
          have s1a := cat_run (ba N) ⟨#[45]⟩ (by rw [hNs]; have : (⟨#[45]⟩ : ByteArray).size = 1 := rfl; omega)
          have s1b := cat_run (ba N) ⟨#[32]⟩ (by rw [hNs]; have : (⟨#[32]⟩ : ByteArray).size = 1 := rfl; omega)
          rw [show ba N ++ ⟨#[45]⟩ = ba (N ++ [45]) from ba_append N [45]] at s1a
          rw [show ba N ++ ⟨#[32]⟩ = ba (N ++ [32]) from ba_append N [32]] at s1b
          have s2a := cat_run (ba (N ++ [45])) (ba x) (by rw [ba_size, hxz, List.length_append, List.length_singleton]; omega)
          have s2b := cat_run (ba (N ++ [32])) (ba x) (by rw [ba_size, hxz, List.length_append, List.length_singleton]; omega)
          rw [ba_append, List.append_assoc, List.singleton_append] at s2a s2b
          have hw : IntKind.i64.wrap ((k : Int) + 1) = (k : Int) + 1 := by rw [IntKind.wrap_i64]; omega
          by_cases hlast : k + 1 = L.length
          · have b5 : ((k : Int) + 1 == (len : Int)) = true := by rw [beq_iff_eq]; omega
            rw [if_pos hlast] at HBs
            clear hPrn hp hxs hxm hrep htk hNs hxz s1a s2a hlast
            clear hxk
            generalize ba (N ++ 32 :: x) = RES at *
            generalize ba (N ++ [32]) = N1 at *
            generalize ba N = N0 at *
            generalize ba x = X at *
            go_wp2_with (first
              | (go_at_call 36; (with_reducible refine (HPn.out _).mono ?_); rintro e w2 ⟨rfl, rfl⟩))
            have hSd := HLimb.out wr.drew HRr.out.drew
            have hSr := HLimb.out wr HRr.out
            go_region_held3 (fun w' => w'.cell? ⟨w.heap.size, 0, none⟩ = some (.int .i64 (n : Int)) ∧ w'.cell? ⟨w.heap.size, 1, none⟩ = some (.slice (some y) len cap) ∧ w'.cell? (y.add k) = some (.string X)) (first | with_reducible exact hSd | with_reducible exact hSr | with_reducible exact hS5 | with_reducible exact hS6 | with_reducible exact hS7) (first
              | (go_at_call 41; (with_reducible refine (HNum.out _).mono ?_); rintro e w5 ⟨rfl, hb5⟩; have hS5 := HLimb.out w5 (HRr.out.drew.next hb5); have hOw5 := OwS.next (show OwS wr.drew w1.heap.size _ _ from HOw.out) hb5; have hbel5 := Below_next hbel.drew hb5; have hbel6 := hbel5.alloc hbel5.size (.cells #[.string RES] 9); have hS6 := HLimb.out _ (HR1.out.next hbel6))
              | (refine step_pushs w5 _ rfl _ _ rfl hOw5 rfl rfl RES rfl (Nat.le_trans HLb.out (by decide)) hbel5.size ?_; intro v6 w6 h6 hb6; rw [← HBs.out] at h6; have hS7 := HLimb.out w6 (HR1.out.next (hbel6.trans hb6))))
            go_wp2
            go_roundw
            case rel => exact ⟨k + 1, by go_num, by omega, h6, hbel6.trans hb6, HPr2.out⟩
            case measure => simp only [intOf]; omega
          · have b5 : ((k : Int) + 1 == (len : Int)) = false := beq_false_of_ne (by omega)
            rw [if_neg hlast] at HBs
            clear hPrn hp hxs hxm hrep htk hNs hxz s1b s2b hlast
            clear hxk
            generalize ba (N ++ 45 :: x) = RES at *
            generalize ba (N ++ [45]) = N1 at *
            generalize ba N = N0 at *
            generalize ba x = X at *
            go_wp2_with (first
              | (go_at_call 36; (with_reducible refine (HPn.out _).mono ?_); rintro e w2 ⟨rfl, rfl⟩))
            have hSd := HLimb.out wr.drew HRr.out.drew
            have hSr := HLimb.out wr HRr.out
            go_region_held3 (fun w' => w'.cell? ⟨w.heap.size, 0, none⟩ = some (.int .i64 (n : Int)) ∧ w'.cell? ⟨w.heap.size, 1, none⟩ = some (.slice (some y) len cap) ∧ w'.cell? (y.add k) = some (.string X)) (first | with_reducible exact hSd | with_reducible exact hSr | with_reducible exact hS5 | with_reducible exact hS6 | with_reducible exact hS7) (first
              | (go_at_call 41; (with_reducible refine (HNum.out _).mono ?_); rintro e w5 ⟨rfl, hb5⟩; have hS5 := HLimb.out w5 (HRr.out.drew.next hb5); have hOw5 := OwS.next (show OwS wr.drew w1.heap.size _ _ from HOw.out) hb5; have hbel5 := Below_next hbel.drew hb5; have hbel6 := hbel5.alloc hbel5.size (.cells #[.string RES] 9); have hS6 := HLimb.out _ (HR1.out.next hbel6))
              | (refine step_pushs w5 _ rfl _ _ rfl hOw5 rfl rfl RES rfl (Nat.le_trans HLb.out (by decide)) hbel5.size ?_; intro v6 w6 h6 hb6; rw [← HBs.out] at h6; have hS7 := HLimb.out w6 (HR1.out.next (hbel6.trans hb6))))
            go_wp2
            go_roundw
            case rel => exact ⟨k + 1, by go_num, by omega, h6, hbel6.trans hb6, HPr2.out⟩
            case measure => simp only [intOf]; omega
      · have hli : ¬ (k : Int) < (len : Int) := by omega
        have hfull : (repT N L).take k = repT N L := List.take_of_length_le (by rw [rep_len]; omega)
        rw [hfull] at HOw
        by_cases h0 : L = []
        · have HEf := Lib.hid (show LE = 2 by rw [HE.out, if_neg (fun h => h.1 h0)])
          have HOf := Lib.hid (show LO = [] by rw [HO.out, HEf.out, if_neg (by decide)])
          obtain ⟨a9, c9, rfl, _⟩ := OwS.texts HOw.out (by rw [h0]; intro s hs; cases hs)
          have hz : (bas (repT N L)).length = 0 := by rw [bas_len, rep_len, h0]; rfl
          rw [hz]
          clear hfull h0 hz
          go_wp2
          go_ret2
          exact ⟨none, 0, 0, by rw [HEf.out]; rfl, by rw [HOf.out]; exact .inl ⟨rfl, rfl, rfl, rfl⟩, Below_next HB1.out hbel⟩
        · have HEf := Lib.hid (show LE = 0 by
            rw [HE.out, if_pos]
            refine ⟨h0, List.all_eq_true.2 fun x hxm => ?_⟩
            obtain ⟨j, hj, rfl⟩ := List.getElem_of_mem hxm
            exact HPr.out j _ (by omega) (List.getElem?_eq_getElem hj))
          have HOf := Lib.hid (show LO = repT N L by rw [HO.out, HEf.out, if_pos rfl])
          have hml : ∀ z ∈ repT N L, z.length ≤ 2000000 := fun z hz => by
            obtain ⟨j, hj, rfl⟩ := List.getElem_of_mem hz
            have hjl : j < L.length := by rw [rep_len] at hj; exact hj
            have := rep_at N L j _ (List.getElem?_eq_getElem hjl)
            rw [List.getElem?_eq_getElem hj] at this
            rw [Option.some.inj this, List.length_append, List.length_cons]
            have := HX.out _ (List.getElem_mem hjl)
            omega
          obtain ⟨a9, c9, rfl, ht9⟩ := OwS.texts HOw.out (mem_bas (n := 2000000) (by decide) hml)
          have HT9 := Lib.hid ht9
          have hz : ((((bas (repT N L)).length : Nat) : Int) == 0) = false := by
            rw [bas_len, rep_len]
            have := List.length_pos_iff.2 h0
            exact beq_false_of_ne (by omega)
          clear hfull h0 hml ht9
          generalize hq : (bas (repT N L)).length = Q at *
          clear hq
          go_wp2
          go_ret2
          exact ⟨a9, Q, c9, by rw [HEf.out]; rfl, by rw [HOf.out]; exact HT9.out, Below_next HB1.out hbel⟩
end Go.Proofs.YtahbbnimoogapaaGreatDoor
namespace Go.Proofs.YtahbbnimoogapaaGreatDoor
open Go.RowKit

theorem info_rrep : (Tryz.prog.info? 48).map (·.size) = some 2 := by kernel_rfl
theorem ret_rrep {fn : Func} {p t : Tmp} {R : Ending → World → Prop} {a : Act} {w : World} (h : fn.results = #[.cell p 48, .tmp t]) (g : Nat) (cs : Array Value) (hs : cs.size = 2) (hp : a.tmps.getD p undef = .pointer (some ⟨g, 0, none⟩))
    (hg : Arr w g cs 48) (hd : a.defers = []) (hR : R (.returned (.tuple #[.agg cs, a.tmps.getD t undef])) w) : bodyPost Tryz.prog fn R .ret a w := by
  refine bodyPost_ret ?_ hd hR
  have hp' : a.tmps[p]?.getD undef = .pointer (some ⟨g, 0, none⟩) := by simpa using hp
  simp [results, h, hp', asAddr, run_loadVar_row w g 48 48 cs (0, 0) _ hg Tryz.underlying48 rfl (by rw [hs]; exact info_rrep)]
theorem cod_step {L : List (List UInt8)} {k c : Nat} {x : List UInt8} (h : L[k]? = some x) : codF (L.drop k) c = if x.length < 4 then none else match sizC (x.take 3) with
    | none => none
    | some n => codF (L.drop (k + 1)) n := by
  obtain ⟨hk, e⟩ := List.getElem?_eq_some_iff.1 h
  rw [List.drop_eq_getElem_cons hk, e, codF]
  rfl
theorem ows_form {w : World} {B : Nat} {v : Value} {L : List ByteArray} (h : OwS w B v L) : ∃ a n cap, v = .slice a n cap := by
  rcases h.2 with ⟨rfl, _⟩ | ⟨g, cap, cur, rfl, _⟩
  · exact ⟨none, 0, 0, rfl⟩
  · exact ⟨_, _, _, rfl⟩
theorem ows_texts {w : World} {B n cap : Nat} {a : Option Addr} {L : List ByteArray} (h : OwS w B (.slice a n cap) L) (hs : ∀ s ∈ L, s.size ≤ 140737488355328) : IsTexts w a n cap L := by
  obtain ⟨a', n', c', he, ht⟩ := h.some hs
  cases he
  exact ht
/-- A row of one's own stays, whatever is stored into one block below it. -/
theorem OwS.but {w : World} {B g : Nat} {v u : Value} {L : List ByteArray} (h : OwS w B v L) (hg : g < B) (j : Nat) : OwS (w.setCell ⟨g, j, none⟩ u) B v L := by
  refine World.ownsRow.kept (row := Option.some g) h ⟨rfl, rfl, rfl, by simp [World.setCell], fun i hi hne => Below.heap_setCell _ _ _ _ fun e => hne (by rw [e])⟩ ?_
  rcases h.2 with ⟨rfl, _⟩ | ⟨g', cap, cur, rfl, hb, _⟩
  · exact .inl rfl
  · refine .inr fun e => ?_
    have : g' = g := by simpa [Value.ownBlock] using e
    omega
/-- What ReadReply answers: an error; a code; lines. -/
def redE (L : List (List UInt8)) : Int := match redL L with
  | none => 2
  | some _ => 0
def redN (L : List (List UInt8)) : Int := match redL L with
  | none => 0
  | some p => p.1
def redT (L : List (List UInt8)) : List (List UInt8) := match redL L with
  | none => []
  | some p => p.2
theorem red_no {L : List (List UInt8)} (h : redL L = none) : redE L = 2 ∧ redN L = 0 ∧ redT L = [] := by
  refine ⟨?_, ?_, ?_⟩
  · rw [redE, h]
  · rw [redN, h]
  · rw [redT, h]
theorem red_yes {L T : List (List UInt8)} {n : Nat} (h : redL L = some (n, T)) : redE L = 0 ∧ redN L = n ∧ redT L = T := by
  refine ⟨?_, ?_, ?_⟩
  · rw [redE, h]
  · rw [redN, h]
  · rw [redT, h]
theorem sizZ_sign (l : List UInt8) : (sizC l = none ∧ sizZ l = -1) ∨ ∃ n : Nat, sizC l = some n ∧ sizZ l = n ∧ n ≤ 999999999999 := by
  cases h : sizC l with
  | none => exact .inl ⟨rfl, by rw [sizZ, h]⟩
  | some n => exact .inr ⟨n, rfl, by rw [sizZ, h], sizC_le h⟩

set_option maxHeartbeats 4000000 in
set_option maxRecDepth 100000 in
theorem rreadReply_any (a : Option Addr) (len cap : Nat) (L : List (List UInt8)) (hL : len ≤ 1048576) (hx : ∀ x ∈ L, x.length ≤ 1048576) (w : World) (ht : IsTexts w a len cap (bas L)) :
    Calls Tryz.prog 20 #[.slice a len cap] w fun e w' => ∃ (a' : Option Addr) (n' cap' : Nat), e = .returned (.tuple #[.agg #[.int .i64 (redN L), .slice a' n' cap'], .int .i64 (redE L)]) ∧ IsTexts w' a' n' cap' (bas (redT L)) ∧ Below w.heap.size w w' := by
  have hlen := ht.len.1
  rw [bas_len] at hlen
  have HNo := Lib.hid (fun h => red_no (L := L) h)
  have HYes := Lib.hid (fun T n h => red_yes (L := L) (T := T) (n := n) h)
  have HRd := Lib.hid (show redL L = match codF L 0 with
    | none => none
    | some n => if 200 ≤ n ∧ n ≤ 599 ∧ repL n (L.map (·.drop 4)) = some L then some (n, L.map (·.drop 4)) else none from rfl)
  have HX := Lib.hid hx
  have HT := Lib.hid ht
  have z1 : (w.alloc (.cells #[.int .i64 0, .slice none 0 0] 48)).heap.size = w.heap.size + 1 := by show (w.heap.push _).size = _; simp
  have HA2 := Lib.hid ((Arr.new w #[.int .i64 0, .slice none 0 0] 48).alloc (.cells #[.int .i64 0, .slice none 0 0] 48))
  have HA4 := Lib.hid (Arr.newAt (w.alloc (.cells #[.int .i64 0, .slice none 0 0] 48)) #[.int .i64 0, .slice none 0 0] 48 z1.symm)
  have HB := Lib.hid (below_new (below_one w (.cells #[.int .i64 0, .slice none 0 0] 48)) (.cells #[.int .i64 0, .slice none 0 0] 48))
  have HZ2 := Lib.hid (show ((w.alloc (.cells #[.int .i64 0, .slice none 0 0] 48)).alloc (.cells #[.int .i64 0, .slice none 0 0] 48)).heap.size = w.heap.size + 1 + 1 by rw [← z1]; show (Array.push _ _).size = _; simp)
  generalize redN L = RN at *
  generalize redE L = RE at *
  generalize redT L = RT at *
  generalize redL L = RL at *
  clear hx ht z1
  go_enter Tryz.func20, Tryz.ntmps20
  go_wp2
  go_loopw [5] (fun i wr => ∃ (k c : Nat) (v : Value), i = .int .i64 (k : Int) ∧ k ≤ len ∧ Arr wr w.heap.size #[.int .i64 0, .slice none 0 0] 48 ∧ Arr wr (w.heap.size + 1) #[.int .i64 (c : Int), v] 48 ∧ OwS wr (w.heap.size + 1 + 1) v (bas ((L.take k).map (·.drop 4))) ∧ Below w.heap.size w wr ∧ w.heap.size + 1 + 1 ≤ wr.heap.size ∧ c ≤ 999999999999 ∧ codF L 0 = codF (L.drop k) c) (fun i _ => 1048577 - (intOf i).toNat)
  case atStart => exact ⟨0, 0, _, rfl, Nat.zero_le _, HA2.out, HA4.out, OwS.nil _ _, HB.out, by rw [HZ2.out]; exact Nat.le_refl _, by decide, rfl⟩
  case round =>
    clear HA2 HA4 HB HZ2
    obtain ⟨k, c, v, rfl, hk, hA2, hA4, hown, hbel, hz, hc, hcod⟩ := hrel
    have HOw := Lib.hid hown
    have HA2 := Lib.hid hA2
    have HA4 := Lib.hid hA4
    have HBel := Lib.hid hbel
    have HZ := Lib.hid hz
    have HCod := Lib.hid hcod
    have HC := Lib.hid hc
    have hk1 : (0 : Int) ≤ (k : Int) := by omega
    clear hown hA2 hA4 hbel hz hcod hc
    by_cases hlt : k < len
    · have hli : (k : Int) < (len : Int) := by omega
      have HTr := Lib.hid (HT.out.next HBel.out)
      obtain ⟨y, rfl⟩ : ∃ y, a = some y := by
        obtain ⟨y, h, _⟩ := HTr.out.at hlt
        exact ⟨y, h⟩
      obtain ⟨x, hxk⟩ : ∃ x, L[k]? = some x := ⟨_, List.getElem?_eq_getElem (by omega)⟩
      have hxm := List.mem_of_getElem? hxk
      have hxs := HX.out x hxm
      have HLimb := Lib.hid (fun (w' : World) (h : IsTexts w' (some y) len cap (bas L)) => show w'.cell? (y.add k) = some (.string (ba x)) by
        obtain ⟨z, hz, c, _⟩ := h.at hlt
        rw [← Option.some.inj hz, bas_get hxk] at c
        exact c)
      have e2 := HLimb.out wr HTr.out
      have hst := cod_step (c := c) hxk
      have hbs := ba_size x
      have d0 : wr.cell? ⟨w.heap.size, 0, none⟩ = some (.int .i64 0) := HA2.out.cell rfl
      have d1 : wr.cell? ⟨w.heap.size, 1, none⟩ = some (.slice none 0 0) := HA2.out.cell rfl
      have fd0 := HA2.out.frozen 0
      have fd1 := HA2.out.frozen 1
      have e40 : wr.cell? ⟨w.heap.size + 1, 0, none⟩ = some (.int .i64 (c : Int)) := HA4.out.cell rfl
      have f40 := HA4.out.frozen 0
      by_cases h4 : x.length < 4
      · have b4 : ((ba x).size : Int) < 4 := by omega
        have HF := Lib.hid (HNo.out (by rw [HRd.out, HCod.out, hst, if_pos h4]))
        clear hst hxs hbs h4 hxk hxm
        generalize ba x = X at *
        go_wp2
        refine ret_rrep rfl w.heap.size #[.int .i64 0, .slice none 0 0] rfl rfl (Arr.set (Arr.set HA2.out 0 _) 1 _) rfl ?_
        exact ⟨none, 0, 0, by rw [HF.out.1, HF.out.2.1]; rfl, by rw [HF.out.2.2]; exact .inl ⟨rfl, rfl, rfl, rfl⟩, Below.setCell (Below.setCell HBel.out (Nat.le_refl _) _) (Nat.le_refl _) _⟩
      · have b4 : ¬ ((ba x).size : Int) < 4 := by omega
        have hSz := fun w => rsize_any (x.take 3) (by rw [List.length_take]; omega) w
        rw [show ba (x.take 3) = (ba x).extract 0 3 by rw [ext_ba, ba_list, List.drop_zero, Nat.sub_zero]] at hSz
        have b3 : (3 : Int) ≤ ((ba x).size : Int) := by omega
        rcases sizZ_sign (x.take 3) with ⟨hs1, hs2⟩ | ⟨m, hs1, hs2, hs3⟩
        · rw [hs2] at hSz
          have HSz := Lib.hid hSz
          have HF := Lib.hid (HNo.out (by rw [HRd.out, HCod.out, hst, if_neg h4, hs1]))
          clear hst hxs hbs h4 hxk hxm hSz hs1 hs2
          generalize ba x = X at *
          go_wp2_with (first
            | (go_at_call 46; (with_reducible refine (HSz.out _).mono ?_); rintro e w2 ⟨rfl, rfl⟩))
          refine ret_rrep rfl w.heap.size #[.int .i64 0, .slice none 0 0] rfl rfl (Arr.set (Arr.set HA2.out 0 _) 1 _) rfl ?_
          exact ⟨none, 0, 0, by rw [HF.out.1, HF.out.2.1]; rfl, by rw [HF.out.2.2]; exact .inl ⟨rfl, rfl, rfl, rfl⟩, Below.setCell (Below.setCell HBel.out (Nat.le_refl _) _) (Nat.le_refl _) _⟩
        · rw [hs2] at hSz
          have HSz := Lib.hid hSz
          have HCod2 := Lib.hid (show codF L 0 = codF (L.drop (k + 1)) m by rw [HCod.out, hst, if_neg h4, hs1])
          have hm0 : ¬ (m : Int) < 0 := by omega
          have HM := Lib.hid hs3
          have HBs := Lib.hid (show bas ((L.take (k + 1)).map (·.drop 4)) = bas ((L.take k).map (·.drop 4)) ++ [ba (x.drop 4)] by rw [List.take_add_one, hxk, List.map_append, bas, List.map_append]; rfl)
          have HLb := Lib.hid (show (bas ((L.take k).map (·.drop 4))).length ≤ 1048576 by rw [bas_len, List.length_map, List.length_take]; omega)
          have hsl := slice_from (ba x) 4 (by omega)
          rw [ext_all, ba_list, show ((4 : Nat) : Int) = 4 from rfl] at hsl
          have HsetA2 := Lib.hid (HA2.out.other ⟨w.heap.size + 1, 0, none⟩ (.int .i64 (m : Int)) (by show w.heap.size ≠ w.heap.size + 1; omega))
          have HsetA4 := Lib.hid (show Arr (wr.setCell ⟨w.heap.size + 1, 0, none⟩ (.int .i64 (m : Int))) (w.heap.size + 1) #[.int .i64 (m : Int), v] 48 from HA4.out.set 0 _)
          have HsetB := Lib.hid (HBel.out.setCell (p := ⟨w.heap.size + 1, 0, none⟩) (Nat.le_succ _) (.int .i64 (m : Int)))
          have HsetO := Lib.hid (OwS.but (g := w.heap.size + 1) (u := .int .i64 (m : Int)) HOw.out (Nat.lt_succ_self _) 0)
          have HsetZ := Lib.hid (show w.heap.size + 1 + 1 ≤ (wr.setCell ⟨w.heap.size + 1, 0, none⟩ (.int .i64 (m : Int))).heap.size by simp [World.setCell]; exact HZ.out)
          clear hst hxs h4 hxk hxm hSz hs1 hs2 hs3 hbs
          generalize ba (x.drop 4) = X4 at *
          generalize ba x = X at *
          go_wp2_with (first
            | (go_at_call 46; (with_reducible refine (HSz.out _).mono ?_); rintro e w2 ⟨rfl, rfl⟩))
          clear d0 d1 fd0 fd1 e40 f40 e2
          generalize wr.setCell ⟨w.heap.size + 1, 0, none⟩ (.int .i64 (m : Int)) = W1 at *
          clear HA2 HA4 HBel HOw HZ HTr
          have e41 : W1.cell? ⟨w.heap.size + 1, 1, none⟩ = some v := HsetA4.out.cell rfl
          have f41 := HsetA4.out.frozen 1
          have e2 := HLimb.out W1 (HT.out.next HsetB.out)
          have hlt4 := HsetA4.out.lt
          have hB1 := below_one W1 (.cells #[.string X4] 9)
          have a41 : (W1.alloc (.cells #[.string X4] 9)).cell? ⟨w.heap.size + 1, 1, none⟩ = some v := (HsetA4.out.next hB1).cell rfl
          have a2 := HLimb.out (W1.alloc (.cells #[.string X4] 9)) (HT.out.next (Below_next HsetB.out hB1))
          have HB1 := Lib.hid hB1
          clear hB1
          go_region_law (refine step_pushs W1 _ rfl _ _ rfl HsetO.out rfl rfl X4 rfl (Nat.le_trans HLb.out (by decide)) HsetZ.out ?_; intro v6 w6 h6 hb6; rw [← HBs.out] at h6; obtain ⟨a6, n6, c6, rfl⟩ := ows_form h6; have h26 : Arr w6 w.heap.size #[.int .i64 0, .slice none 0 0] 48 := (hb6.block _ (by omega)).trans (HsetA2.out.next HB1.out.drew); have h46 : Arr w6 (w.heap.size + 1) #[.int .i64 (m : Int), v] 48 := (hb6.block _ (by omega)).trans (HsetA4.out.next HB1.out.drew); have hz6 : w.heap.size + 1 + 1 ≤ w6.heap.size := Nat.le_trans HsetZ.out (Nat.le_trans HB1.out.size hb6.size); have e46 : w6.cell? ⟨w.heap.size + 1, 1, none⟩ = some v := h46.cell rfl; have f46 := h46.frozen 1)
          all_goals
            go_wp2
            go_roundw
            case rel => exact ⟨k + 1, m, .slice a6 n6 c6, by go_num, by omega, h26.other ⟨w.heap.size + 1, 1, none⟩ _ (by show w.heap.size ≠ w.heap.size + 1; omega), h46.set 1 _, h6.but (Nat.lt_succ_self _) 1, ((Below_next HsetB.out HB1.out.drew).trans (hb6.mono (Nat.le_trans (Nat.le_succ _) (Nat.le_succ _)))).setCell (p := ⟨w.heap.size + 1, 1, none⟩) (Nat.le_succ _) _, by simp [World.setCell]; exact hz6, HM.out, HCod2.out⟩
            case measure => simp only [intOf]; omega
    · have hli : ¬ (k : Int) < (len : Int) := by omega
      have hTk : L.take k = L := List.take_of_length_le (by omega)
      have hDk : L.drop k = [] := List.drop_of_length_le (by omega)
      have hcod := HCod.out
      rw [hDk, codF] at hcod
      rw [hTk] at HOw
      have HRd2 := Lib.hid (show RL = if 200 ≤ c ∧ c ≤ 599 ∧ repL c (L.map (·.drop 4)) = some L then some (c, L.map (·.drop 4)) else none by rw [HRd.out, hcod])
      have hTl : ∀ x ∈ L.map (·.drop 4), x.length ≤ 1048576 := fun x hx => by
        obtain ⟨z, hz, rfl⟩ := List.mem_map.1 hx
        have := HX.out z hz
        rw [List.length_drop]; omega
      have hTn : (L.map (·.drop 4)).length = len := by rw [List.length_map]; exact hlen
      generalize L.map (·.drop 4) = T at *
      have HTl := Lib.hid hTl
      have HMb := Lib.hid (mem_bas (L := T) (n := 1048576) (by decide) hTl)
      obtain ⟨a9, n9, c9, rfl⟩ := ows_form HOw.out
      have ht9 := ows_texts HOw.out HMb.out
      have hn9 := ht9.len.1
      rw [bas_len] at hn9
      obtain rfl : n9 = len := by omega
      have HLi := Lib.hid (rlines_any (c : Int) a9 n9 c9 T hL hTl wr ht9)
      have hcls : (linE (c : Int) T = 0 ∧ linO (c : Int) T = repT (numL c) T ∧ (200 ≤ c ∧ c ≤ 599) ∧ repL c T = some (repT (numL c) T)) ∨ ((linE (c : Int) T != 0) = true ∧ RL = none) := by
        have q := cls_zero (c : Int)
        by_cases h1 : (c : Int) < 200 ∨ 599 < (c : Int)
        · rw [decide_eq_true h1] at q
          refine .inr ⟨by rw [linE, if_pos (beq_iff_eq.1 q)]; rfl, ?_⟩
          rw [HRd2.out, if_neg (by omega)]
        · rw [decide_eq_false h1] at q
          by_cases h2 : T ≠ [] ∧ T.all prB = true
          · have h0 : linE (c : Int) T = 0 := by rw [linE, if_neg (beq_eq_false_iff_ne.1 q), if_pos h2]
            exact .inl ⟨h0, by rw [linO, if_pos h0]; rfl, by omega, by rw [repL, if_pos h2]⟩
          · refine .inr ⟨by rw [linE, if_neg (beq_eq_false_iff_ne.1 q), if_neg h2]; rfl, ?_⟩
            rw [HRd2.out, if_neg]
            rintro ⟨_, _, h3⟩
            rw [repL, if_neg h2] at h3; cases h3
      have e40 : wr.cell? ⟨w.heap.size + 1, 0, none⟩ = some (.int .i64 (c : Int)) := HA4.out.cell rfl
      have e41 : wr.cell? ⟨w.heap.size + 1, 1, none⟩ = some (.slice a9 n9 c9) := HA4.out.cell rfl
      clear hTk hDk hcod hTl ht9 HCod hTn
      rcases hcls with ⟨hE0, hO0, hcr, hrp⟩ | ⟨hE1, hRL⟩
      · rw [hE0, hO0] at HLi
        by_cases hsame : bas (repT (numL c) T) = bas L
        · have hLe : repT (numL c) T = L := by
            have := congrArg lsB hsame
            rwa [lsB_bas, lsB_bas] at this
          have HF := Lib.hid (HYes.out T c (by rw [HRd2.out, if_pos ⟨hcr.1, hcr.2, by rw [hrp, hLe]⟩]))
          clear hE0 hO0 hcr hrp hLe
          have hde : decide (bas (repT (numL c) T) = bas L) = true := decide_eq_true hsame
          go_wp2_with (first
            | (go_at_call 18; (with_reducible refine HLi.out.mono ?_); rintro e w7 ⟨a7, n7, c7, rfl, ht7, hb7⟩; have hn7 := ht7.len.1; have HSm := Lib.hid (rsame10_any (by rw [← hn7, bas_len, rep_len]; omega) w7 ht7 (HT.out.next (Below_next HBel.out hb7))))
            | (go_at_call 21; (with_reducible refine HSm.out.mono ?_); rintro e w8 ⟨he8, hb8⟩; rw [hde] at he8; subst he8; have hA2 := (HA2.out.next hb7).next hb8; have hA4 := (HA4.out.next hb7).next hb8; have d0 : w8.cell? ⟨w.heap.size, 0, none⟩ = some (.int .i64 0) := hA2.cell rfl; have d1 : w8.cell? ⟨w.heap.size, 1, none⟩ = some (.slice none 0 0) := hA2.cell rfl; have fd0 := hA2.frozen 0; have fd1 := hA2.frozen 1; have e80 : w8.cell? ⟨w.heap.size + 1, 0, none⟩ = some (.int .i64 (c : Int)) := hA4.cell rfl; have e81 : w8.cell? ⟨w.heap.size + 1, 1, none⟩ = some (.slice a9 n9 c9) := hA4.cell rfl; have hO8 := (HOw.out.next hb7).next hb8; have hB8 := Below_next (Below_next HBel.out hb7) hb8))
          refine ret_rrep rfl w.heap.size #[.int .i64 (c : Int), .slice a9 n9 c9] rfl rfl (Arr.set (Arr.set hA2 0 _) 1 _) rfl ?_
          exact ⟨a9, n9, c9, by rw [HF.out.1, HF.out.2.1]; rfl, by rw [HF.out.2.2]; exact ows_texts ((hO8.but (g := w.heap.size) (by omega) 0).but (g := w.heap.size) (by omega) 1) HMb.out, Below.setCell (Below.setCell hB8 (Nat.le_refl _) _) (Nat.le_refl _) _⟩
        · have HF := Lib.hid (HNo.out (by
            rw [HRd2.out, if_neg]
            rintro ⟨_, _, h3⟩
            rw [hrp] at h3
            exact hsame (congrArg bas (Option.some.inj h3))))
          clear hE0 hO0 hcr hrp
          have hde : decide (bas (repT (numL c) T) = bas L) = false := decide_eq_false hsame
          go_wp2_with (first
            | (go_at_call 18; (with_reducible refine HLi.out.mono ?_); rintro e w7 ⟨a7, n7, c7, rfl, ht7, hb7⟩; have hn7 := ht7.len.1; have HSm := Lib.hid (rsame10_any (by rw [← hn7, bas_len, rep_len]; omega) w7 ht7 (HT.out.next (Below_next HBel.out hb7))))
            | (go_at_call 21; (with_reducible refine HSm.out.mono ?_); rintro e w8 ⟨he8, hb8⟩; rw [hde] at he8; subst he8; have hA2 := (HA2.out.next hb7).next hb8; have hA4 := (HA4.out.next hb7).next hb8; have d0 : w8.cell? ⟨w.heap.size, 0, none⟩ = some (.int .i64 0) := hA2.cell rfl; have d1 : w8.cell? ⟨w.heap.size, 1, none⟩ = some (.slice none 0 0) := hA2.cell rfl; have fd0 := hA2.frozen 0; have fd1 := hA2.frozen 1; have e80 : w8.cell? ⟨w.heap.size + 1, 0, none⟩ = some (.int .i64 (c : Int)) := hA4.cell rfl; have e81 : w8.cell? ⟨w.heap.size + 1, 1, none⟩ = some (.slice a9 n9 c9) := hA4.cell rfl; have hO8 := (HOw.out.next hb7).next hb8; have hB8 := Below_next (Below_next HBel.out hb7) hb8))
          refine ret_rrep rfl w.heap.size #[.int .i64 0, .slice none 0 0] rfl rfl (Arr.set (Arr.set hA2 0 _) 1 _) rfl ?_
          exact ⟨none, 0, 0, by rw [HF.out.1, HF.out.2.1]; rfl, by rw [HF.out.2.2]; exact .inl ⟨rfl, rfl, rfl, rfl⟩, Below.setCell (Below.setCell hB8 (Nat.le_refl _) _) (Nat.le_refl _) _⟩
      · have HF := Lib.hid (HNo.out hRL)
        generalize linE (c : Int) T = LE at *
        generalize linO (c : Int) T = LO at *
        clear hRL
        go_wp2_with (first
          | (go_at_call 18; (with_reducible refine HLi.out.mono ?_); rintro e w7 ⟨a7, n7, c7, rfl, ht7, hb7⟩; have hA2 := HA2.out.next hb7; have hA4 := HA4.out.next hb7; have d0 : w7.cell? ⟨w.heap.size, 0, none⟩ = some (.int .i64 0) := hA2.cell rfl; have d1 : w7.cell? ⟨w.heap.size, 1, none⟩ = some (.slice none 0 0) := hA2.cell rfl; have fd0 := hA2.frozen 0; have fd1 := hA2.frozen 1; have e80 : w7.cell? ⟨w.heap.size + 1, 0, none⟩ = some (.int .i64 (c : Int)) := hA4.cell rfl; have e81 : w7.cell? ⟨w.heap.size + 1, 1, none⟩ = some (.slice a9 n9 c9) := hA4.cell rfl; have hO8 := HOw.out.next hb7; have hB8 := Below_next HBel.out hb7))
        refine ret_rrep rfl w.heap.size #[.int .i64 0, .slice none 0 0] rfl rfl (Arr.set (Arr.set hA2 0 _) 1 _) rfl ?_
        exact ⟨none, 0, 0, by rw [HF.out.1, HF.out.2.1]; rfl, by rw [HF.out.2.2]; exact .inl ⟨rfl, rfl, rfl, rfl⟩, Below.setCell (Below.setCell hB8 (Nat.le_refl _) _) (Nat.le_refl _) _⟩
end Go.Proofs.YtahbbnimoogapaaGreatDoor
