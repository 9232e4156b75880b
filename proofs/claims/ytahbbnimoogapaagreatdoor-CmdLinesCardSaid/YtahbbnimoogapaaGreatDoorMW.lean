/- cmd, landed: Class, Whole. cmd, landed: a reply's lines. cmd, landed: a reply is read. -/
import Derived.Test.YtahbbnimoogapaaGreatDoorMU
import Derived.Test.YtahbbnimoogapaaGreatDoorMS
import Derived.Test.YtahbbnimoogapaaGreatDoorMQ
import Derived.Test.YtahbbnimoogapaaGreatDoorMV
import Derived.Laws.MakeOwn
import Derived.Test.YtahbbnimoogapaaGreatDoorMP
import Derived.Test.YtahbbnimoogapaaGreatDoorMX
import Derived.Deep.RegionLaw
namespace Go.Proofs.YtahbbnimoogapaaGreatDoor
open Go.RowKit

theorem lclass_any (n : Int) (w : World) :
    Calls Tryz.prog 24 #[.int .i64 n] w fun e w' => e = .returned (.int .i64 (clsZ n)) ∧ w = w' := by
  by_cases h1 : n < 200
  · have HR := Lib.hid (show clsZ n = 0 by rw [clsZ, if_pos (.inl h1)])
    generalize clsZ n = R at *
    go_enter Tryz.func24, Tryz.ntmps24
    go_wp2
    go_ret
    exact ⟨by rw [HR.out]; rfl, rfl⟩
  · by_cases h2 : 599 < n
    · have HR := Lib.hid (show clsZ n = 0 by rw [clsZ, if_pos (.inr h2)])
      generalize clsZ n = R at *
      go_enter Tryz.func24, Tryz.ntmps24
      go_wp2
      go_ret
      exact ⟨by rw [HR.out]; rfl, rfl⟩
    · have HR := Lib.hid (show clsZ n = n / 100 by rw [clsZ, if_neg (by omega)])
      have hq : n.tdiv 100 = n / 100 := Int.tdiv_eq_ediv_of_nonneg (by omega)
      have hw : IntKind.i64.wrap (n / 100) = n / 100 := by rw [IntKind.wrap_i64]; omega
      generalize clsZ n = R at *
      obtain ⟨q, hqq⟩ : ∃ q, q = n / 100 := ⟨_, rfl⟩
      rw [← hqq] at hq hw HR
      clear hqq
      go_enter Tryz.func24, Tryz.ntmps24
      go_wp2
      go_ret
      exact ⟨by rw [HR.out]; rfl, rfl⟩
theorem one_at {x : List UInt8} (h : 4 ≤ x.length) : ((x.drop 3).take 1 = [32]) ↔ x[3]? = some 32 := by
  rw [List.drop_eq_getElem_cons (by omega), List.take_succ_cons, List.take_zero, List.getElem?_eq_getElem (by omega)]
  constructor
  · intro h; rw [(List.cons.inj h).1]
  · intro h; rw [Option.some.inj h]
theorem sp_same (l : List UInt8) : ((ba l).toList == [32]) = decide (l = [32]) := by
  have h := tl8 (a := ba l) (b := ba [32])
  rw [Lib.toList_data (ba [32]), show (ba [32]).data.toList = [32] from rfl] at h
  rw [h]
  by_cases e : l = [32]
  · rw [e, decide_eq_true rfl, decide_eq_true rfl]
  · rw [decide_eq_false e, decide_eq_false fun x => e (ba_inj x)]
set_option maxHeartbeats 1000000 in
set_option maxRecDepth 100000 in
theorem lwhole_any (a : Option Addr) (len cap : Nat) (L : List (List UInt8)) (hL : len ≤ 65536) (hx : ∀ x ∈ L, x.length ≤ 65536) (w : World) (ht : IsTexts w a len cap (bas L)) :
    Calls Tryz.prog 22 #[.slice a len cap] w fun e w' => e = .returned (.int .i64 ((whoL L 0 : Nat) : Int)) ∧ w' = w := by
  have HT := Lib.hid ht
  have hlen := ht.len.1
  rw [bas_len] at hlen
  have HS := Lib.hid (show whoL L 0 = whoL (L.drop 0) 0 by rw [List.drop_zero])
  have HX := Lib.hid hx
  generalize whoL L 0 = R at *
  clear ht hx
  go_enter Tryz.func22, Tryz.ntmps22
  go_wp2
  go_loopw [7] (fun i wr => ∃ k : Nat, i = .int .i64 (k : Int) ∧ k ≤ len ∧ R = whoL (L.drop k) k ∧ wr = w) (fun i _ => len - (intOf i).toNat)
  case atStart => exact ⟨0, rfl, Nat.zero_le _, HS.out, rfl⟩
  case round =>
    obtain ⟨k, rfl, hk, hR, rfl⟩ := hrel
    have HR := Lib.hid hR
    clear hR
    have hk0 : (0 : Int) ≤ (k : Int) := by omega
    by_cases hlt : k < len
    · have hli : (k : Int) < (len : Int) := by omega
      obtain ⟨y, rfl, c1, _⟩ := HT.out.at hlt
      obtain ⟨x, hxk⟩ : ∃ x, L[k]? = some x := ⟨_, List.getElem?_eq_getElem (by omega)⟩
      have hst := who_step hxk
      have hxs := HX.out x (List.mem_of_getElem? hxk)
      rw [bas_get hxk] at c1
      have hbs := ba_size x
      have hw1 : wrap64 ((k : Int) + 1) = (k : Int) + 1 := by unfold wrap64; omega
      have HLt := Lib.hid hlt
      by_cases h4 : 4 ≤ x.length
      · have b4 : (4 : Int) ≤ ((ba x).size : Int) := by omega
        have hsl := slice_str (ba x) 3 4 3 4 rfl rfl (by decide) (by omega)
        rw [ext_ba, ba_list, show 4 - 3 = 1 from rfl] at hsl
        by_cases h32 : x[3]? = some 32
        · have q : ((ba ((x.drop 3).take 1)).toList == [32]) = true := (sp_same _).trans (decide_eq_true ((one_at h4).2 h32))
          have HF := Lib.hid (show R = k + 1 by rw [HR.out, hst, if_pos ⟨h4, h32⟩])
          clear hst hxs hbs h4 h32 hxk
          generalize ba ((x.drop 3).take 1) = Y at *
          generalize ba x = X at *
          go_wp2
          go_ret
          exact ⟨by rw [HF.out]; go_num, rfl⟩
        · have q : ((ba ((x.drop 3).take 1)).toList == [32]) = false := (sp_same _).trans (decide_eq_false fun e => h32 ((one_at h4).1 e))
          have HF := Lib.hid (show R = whoL (L.drop (k + 1)) (k + 1) by rw [HR.out, hst, if_neg (fun h => h32 h.2)])
          clear hst hxs hbs h4 h32 hxk
          generalize ba ((x.drop 3).take 1) = Y at *
          generalize ba x = X at *
          go_wp2
          go_roundw
          case rel => exact ⟨k + 1, by go_num, by omega, HF.out, by first | rfl | trivial⟩
          case measure => first | exact measA HLt.out hw1 | exact measB HLt.out
      · have b4 : ¬ (4 : Int) ≤ ((ba x).size : Int) := by omega
        have HF := Lib.hid (show R = whoL (L.drop (k + 1)) (k + 1) by rw [HR.out, hst, if_neg (fun h => h4 h.1)])
        clear hst hxs hbs h4 hxk
        generalize ba x = X at *
        go_wp2
        go_roundw
        case rel => exact ⟨k + 1, by go_num, by omega, HF.out, by first | rfl | trivial⟩
        case measure => first | exact measA HLt.out hw1 | exact measB HLt.out
    · have hli : ¬ (k : Int) < (len : Int) := by omega
      have HF := Lib.hid (show R = 0 by rw [HR.out, List.drop_of_length_le (by omega)]; rfl)
      go_wp2
      go_ret
      exact ⟨by rw [HF.out]; rfl, rfl⟩
end Go.Proofs.YtahbbnimoogapaaGreatDoor
namespace Go.Proofs.YtahbbnimoogapaaGreatDoor
open Go.RowKit

/-- Rows of strings, the first of them told. -/
def rowsB (n : Nat) (xs : List ByteArray) : List ByteArray := xs ++ List.replicate (n - xs.length) ⟨#[]⟩
theorem rows_set {n : Nat} {xs : List ByteArray} (x : ByteArray) (h : xs.length < n) : (rowsB n xs).set xs.length x = rowsB n (xs ++ [x]) := by
  rw [rowsB, rowsB, List.set_append_right _ _ (Nat.le_refl _), Nat.sub_self, List.length_append, List.length_singleton]
  obtain ⟨m, hm⟩ : ∃ m, n - xs.length = m + 1 := ⟨n - xs.length - 1, by omega⟩
  rw [hm, List.replicate_succ, List.set_cons_zero, List.append_assoc, show n - (xs.length + 1) = m by omega]
  rfl
theorem rows_full {n : Nat} {xs : List ByteArray} (h : xs.length = n) : rowsB n xs = xs := by
  rw [rowsB, h, Nat.sub_self, List.replicate_zero, List.append_nil]
theorem rows_len {n : Nat} {xs : List ByteArray} (h : xs.length ≤ n) : (rowsB n xs).length = n := by
  rw [rowsB, List.length_append, List.length_replicate]; omega
/-- A row of strings that is known whole. -/
def RwS (w : World) (g : Nat) (xs : List ByteArray) : Prop := Arr w g (strV xs).toArray 9
theorem RwS.set {w : World} {g : Nat} {xs : List ByteArray} (h : RwS w g xs) (k : Nat) (x : ByteArray) : RwS (w.setCell ⟨g, k, none⟩ (.string x)) g (xs.set k x) := by
  have := Arr.set h k (.string x)
  rw [List.setIfInBounds_toArray] at this
  rw [RwS]
  have e : (strV xs).set k (.string x) = strV (xs.set k x) := by simp [strV, List.map_set]
  rw [← e]; exact this
theorem RwS.cell {w : World} {g : Nat} {xs : List ByteArray} (h : RwS w g xs) {k : Nat} (hk : k < xs.length) : w.cell? ⟨g, k, none⟩ = some (.string (xs.getD k ByteArray.empty)) ∧ w.frozen? ⟨g, k, none⟩ = false :=
  ⟨Arr.cell h (by rw [List.getElem?_toArray, strV_get xs k hk]), Arr.frozen h k⟩
theorem RwS.texts {w : World} {g : Nat} {xs : List ByteArray} (h : RwS w g xs) (hm : xs.length ≤ maxLen) (hs : ∀ s ∈ xs, s.size ≤ 140737488355328) : IsTexts w (some ⟨g, 0, none⟩) xs.length xs.length xs :=
  .inr ⟨_, rfl, Nat.le_refl _, hm, rfl, fun i hi => by
    rw [addr_add, Nat.zero_add]
    exact (h.cell hi).1, hs⟩
/-- 'make([]string, n)'. -/
theorem make_texts (n : Nat) (hn : n ≤ 65536) (w : World) : (Instr.makeSlice 41 (.int .i64 (n : Int)) (.int .i64 (n : Int))).run Tryz.prog w = .ok (.slice (some ⟨w.heap.size, 0, none⟩) n n) (w.alloc (.cells (strV (rowsB n [])).toArray 9)) := by
  obtain ⟨i0, hi, hz0, hz1, hz2⟩ := info_parts Tryz.infoStr
  have := run_makeSlice (P := Tryz.prog) w 41 9 i0 (.string ⟨#[]⟩) Tryz.underlying41 hi hz0 .i64 .i64 (n : Int) (n : Int) (by omega) (Int.le_refl _) (by rw [hz1]; omega) (by rw [hz2]; omega) (by omega)
  rw [this]
  simp only [Int.toNat_natCast]
  have e : madeCells (Value.string ⟨#[]⟩).cells (n * i0.size) = (strV (rowsB n [])).toArray := by
    rw [hz1, Nat.mul_one]
    apply Array.ext
    · rw [size_madeCells, List.size_toArray, strV_len, rows_len (Nat.zero_le _)]
    · intro i h1 h2
      simp [madeCells, strV, rowsB, Value.cells, Nat.mod_one]
  rw [e]

set_option maxHeartbeats 4000000 in
set_option maxRecDepth 100000 in
theorem llines_any (code : Int) (a : Option Addr) (len cap : Nat) (L : List (List UInt8)) (hL : len ≤ 65536) (hx : ∀ x ∈ L, x.length ≤ 65536) (w : World) (ht : Tb w) (h : IsTexts w a len cap (bas L)) :
    Calls Tryz.prog 17 #[.agg #[.int .i64 code, .slice a len cap]] w fun e w' => ∃ (a' : Option Addr) (n' cap' : Nat), e = .returned (.tuple #[.slice a' n' cap', .int .i64 (linE code L)]) ∧ IsTexts w' a' n' cap' (bas (linO code L)) ∧ Below w.heap.size w w' := by
  have hlen := h.len.1
  rw [bas_len] at hlen
  have HB0 := Lib.hid (below_one w (.cells #[.int .i64 code, .slice a len cap] 46))
  have HA0 := Lib.hid (Arr.new w #[.int .i64 code, .slice a len cap] 46)
  have HT0 := Lib.hid (h.next HB0.out)
  have hz : (w.alloc (.cells #[.int .i64 code, .slice a len cap] 46)).heap.size = w.heap.size + 1 := alloc_size _ _
  have c0 : (w.alloc (.cells #[.int .i64 code, .slice a len cap] 46)).cell? ⟨w.heap.size, 0, none⟩ = some (.int .i64 code) := HA0.out.cell rfl
  have c1 : (w.alloc (.cells #[.int .i64 code, .slice a len cap] 46)).cell? ⟨w.heap.size, 1, none⟩ = some (.slice a len cap) := HA0.out.cell rfl
  have hCl := fun w => lclass_any code w
  by_cases hr : code < 200 ∨ 599 < code
  · have hc : clsZ code = 0 := by rw [clsZ, if_pos hr]
    rw [hc] at hCl
    have HCl := Lib.hid hCl
    have HE := Lib.hid (show linE code L = 3 by rw [linE, if_pos hc])
    have HO := Lib.hid (show linO code L = [] by rw [linO, linE, if_pos hc, if_neg (by decide)])
    generalize linE code L = LE at *
    generalize linO code L = LO at *
    clear hCl hc hr h ht hx
    go_enter Tryz.func17, Tryz.ntmps17
    go_wp2_with (first
      | (go_at_call 24; (with_reducible refine (HCl.out _).mono ?_); rintro e w1 ⟨rfl, rfl⟩))
    go_ret2
    exact ⟨none, 0, 0, by rw [HE.out]; rfl, by rw [HO.out]; exact .inl ⟨rfl, rfl, rfl, rfl⟩, HB0.out⟩
  · obtain ⟨n, rfl⟩ : ∃ n : Nat, code = n := ⟨code.toNat, by omega⟩
    have hcn : ¬ clsZ (n : Int) = 0 := by
      rw [clsZ, if_neg hr]; omega
    have hce : (clsZ (n : Int) == 0) = false := beq_false_of_ne hcn
    have HCl := Lib.hid hCl
    have hE : linE (n : Int) L = if L ≠ [] ∧ L.all prB = true then 0 else 2 := by rw [linE, if_neg hcn]
    have hO : linO (n : Int) L = if linE (n : Int) L = 0 then repT (numL n) L else [] := by rw [linO, Int.toNat_natCast]
    generalize clsZ (n : Int) = CZ at *
    by_cases h0 : len = 0
    · have hL0 : L = [] := List.length_eq_zero_iff.1 (by omega)
      have HE := Lib.hid (show linE (n : Int) L = 2 by rw [hE, if_neg (fun e => e.1 hL0)])
      have HO := Lib.hid (show linO (n : Int) L = [] by rw [hO, HE.out, if_neg (by decide)])
      have b0 : ((len : Int) == 0) = true := by rw [h0]; rfl
      generalize linE (n : Int) L = LE at *
      generalize linO (n : Int) L = LO at *
      clear hE hO h ht hx hr hcn hlen hL0
      subst h0
      go_enter Tryz.func17, Tryz.ntmps17
      go_wp2_with (first
        | (go_at_call 24; (with_reducible refine (HCl.out _).mono ?_); rintro e w1 ⟨rfl, rfl⟩))
      go_ret2
      exact ⟨none, 0, 0, by rw [HE.out]; rfl, by rw [HO.out]; exact .inl ⟨rfl, rfl, rfl, rfl⟩, HB0.out⟩
    · have b0 : ((len : Int) == 0) = false := beq_false_of_ne (by omega)
      have hLn : L ≠ [] := fun e => h0 (by rw [← hlen, e]; rfl)
      have HMk := Lib.hid (fun w => make_texts len hL w)
      have hmk := HMk.out
      have HIt := Lib.hid (fun w h => lib_itoa (n : Int) ⟨by omega, by omega⟩ w h)
      rw [itoa_num] at HIt
      have hNl := num_three (n := n) (by omega) (by omega)
      -- the row made
      have HB1 := Lib.hid (below_one (w.alloc (.cells #[.int .i64 (n : Int), .slice a len cap] 46)) (.cells (strV (rowsB len [])).toArray 9))
      have HR1 := Lib.hid (show RwS ((w.alloc (.cells #[.int .i64 (n : Int), .slice a len cap] 46)).alloc (.cells (strV (rowsB len [])).toArray 9)) (w.heap.size + 1) (rowsB len []) from Arr.newAt _ _ _ hz.symm)
      have HT1 := Lib.hid ((ht.next HB0.out).next HB1.out)
      have HA1 := Lib.hid (HA0.out.next HB1.out)
      have HX1 := Lib.hid (HT0.out.next HB1.out)
      have HB01 := Lib.hid (Below_next HB0.out HB1.out)
      have HTw := Lib.hid h
      have HX := Lib.hid hx
      have HN := Lib.hid hNl
      have HEE := Lib.hid hE
      have HOO := Lib.hid hO
      have HLn := Lib.hid hLn
      have HLe := Lib.hid hlen
      have HL := Lib.hid hL
      have HZ := Lib.hid hz
      obtain ⟨N, hNN⟩ : ∃ N, N = numL n := ⟨_, rfl⟩
      rw [← hNN] at HIt HN HOO
      clear hE hO h ht hx hr hcn hlen hLn hNl hL hNN hCl hz
      generalize linE (n : Int) L = LE at *
      generalize linO (n : Int) L = LO at *
      go_enter Tryz.func17, Tryz.ntmps17
      go_wp2_with (first
        | (go_at_call 24; (with_reducible refine (HCl.out _).mono ?_); rintro e w1 ⟨rfl, rfl⟩)
        | (go_at_call 42; (with_reducible refine (HIt.out _ HT1.out).mono ?_); rintro e w2 ⟨rfl, hb2⟩; have HA2 := Lib.hid (HA1.out.next hb2); have HR2 := Lib.hid (show RwS w2 _ _ from Arr.next HR1.out hb2); have HX2 := Lib.hid (HX1.out.next hb2); have HB2 := Lib.hid (Below_next HB01.out hb2); have d1 : w2.cell? ⟨w.heap.size, 1, none⟩ = some (.slice a len cap) := HA2.out.cell rfl))
      have HTw2 := Lib.hid (fun wr (hb : Below w.heap.size w wr) => HTw.out.next hb)
      have HSz := Lib.hid (show w.heap.size + 1 ≤ w2.heap.size by have := HB1.out.size; have := hb2.size; have := HZ.out; omega)
      clear HMk hmk HCl HIt c0 c1 d1 hb2 HA0 HB0 HT0 HB1 HR1 HT1 HA1 HX1 HB01 HA2 HX2 HTw hce b0
      have HWl := Lib.hid (show wrap64 ((len : Int) - 1) = (len : Int) - 1 by have := HL.out; unfold wrap64; omega)
      go_loopw [6, 27] (fun s i wr => ∃ (k : Nat) (X : ByteArray), s = .string X ∧ i = .int .i64 (k : Int) ∧ k ≤ len ∧ (k < len → X = ⟨#[45]⟩) ∧ RwS wr (w.heap.size + 1) (rowsB len ((bas (repT N L)).take k)) ∧ Below (w.heap.size + 1) w2 wr ∧ (∀ (j : Nat) (x : List UInt8), j < k → L[j]? = some x → prB x = true)) (fun _ i _ => len - (intOf i).toNat)
      case atStart => exact ⟨0, _, rfl, rfl, Nat.zero_le _, fun _ => rfl, by rw [List.take_zero]; exact HR2.out, Below.refl _ _, fun j x hj => absurd hj (by omega)⟩
      case round =>
        clear HR2
        obtain ⟨k, X, rfl, rfl, hk, hX, hrw, hbel, hpr⟩ := hrel
        have HBr := Lib.hid (HB2.out.trans (hbel.mono (Nat.le_succ _)))
        have HRw := Lib.hid hrw
        have HBel := Lib.hid hbel
        have HPr := Lib.hid hpr
        have hk0 : (0 : Int) ≤ (k : Int) := by omega
        clear hpr hrw hbel
        by_cases hlt : k < len
        · obtain rfl : X = ⟨#[45]⟩ := hX hlt
          clear hX
          have hli : (k : Int) < (len : Int) := by omega
          obtain ⟨y, rfl, e2, _⟩ := (HTw2.out wr HBr.out).at hlt
          obtain ⟨x, hxk⟩ : ∃ x, L[k]? = some x := ⟨_, List.getElem?_eq_getElem (by have := HLe.out; omega)⟩
          have hxm := List.mem_of_getElem? hxk
          have hxs := HX.out x hxm
          rw [bas_get hxk] at e2
          have hMs := fun w => lmayStand_any x (Nat.le_trans hxs (by decide)) w
          have hw1 : wrap64 ((k : Int) + 1) = (k : Int) + 1 := by have := HL.out; unfold wrap64; omega
          have hwl := HWl.out
          have HLt := Lib.hid hlt
          cases hp : prB x with
          | false =>
            rw [hp] at hMs
            have HMs := Lib.hid hMs
            have HEf := Lib.hid (show LE = 2 by
              rw [HEE.out, if_neg]
              rintro ⟨_, h⟩
              have := List.all_eq_true.1 h x hxm
              rw [hp] at this; cases this)
            have HOf := Lib.hid (show LO = [] by rw [HOO.out, HEf.out, if_neg (by decide)])
            clear hMs hp hxs hxm hxk
            generalize ba x = Y at *
            go_wp2_with (first
              | (go_at_call 43; (with_reducible refine (HMs.out _).mono ?_); rintro e w3 ⟨rfl, rfl⟩))
            go_ret2
            exact ⟨none, 0, 0, by rw [HEf.out]; rfl, by rw [HOf.out]; exact .inl ⟨rfl, rfl, rfl, rfl⟩, HBr.out⟩
          | true =>
            rw [hp] at hMs
            have HMs := Lib.hid hMs
            have HPr2 := Lib.hid (show ∀ (j : Nat) (z : List UInt8), j < k + 1 → L[j]? = some z → prB z = true from fun j z hj hz => by
              by_cases hjk : j = k
              · subst hjk
                rw [hxk] at hz
                rw [← Option.some.inj hz]; exact hp
              · exact HPr.out j z (by omega) hz)
            have hrep := rep_at N L k x hxk
            have hxl : ((bas (repT N L)).take k).length = k := by rw [List.length_take, bas_len, rep_len]; have := HLe.out; omega
            have htk : (bas (repT N L)).take (k + 1) = (bas (repT N L)).take k ++ [ba (N ++ (if k + 1 = L.length then 32 else 45) :: x)] := by
              rw [List.take_add_one, bas, List.getElem?_map, hrep]; rfl
            have hset := rows_set (n := len) (ba (N ++ (if k + 1 = L.length then 32 else 45) :: x)) (show ((bas (repT N L)).take k).length < len by omega)
            rw [hxl, ← htk] at hset
            obtain ⟨g0, g1⟩ := HRw.out.cell (k := k) (by rw [rows_len (by omega)]; exact hlt)
            have HS := Lib.hid (show RwS (wr.setCell ⟨w.heap.size + 1, k, none⟩ (.string (ba (N ++ (if k + 1 = L.length then 32 else 45) :: x)))) (w.heap.size + 1) (rowsB len ((bas (repT N L)).take (k + 1))) by
              have := HRw.out.set k (ba (N ++ (if k + 1 = L.length then 32 else 45) :: x))
              rwa [hset] at this)
            have HBs := Lib.hid (HBel.out.setCell (p := ⟨w.heap.size + 1, k, none⟩) (Nat.le_refl _) (.string (ba (N ++ (if k + 1 = L.length then 32 else 45) :: x))))
            have hNs := ba_size N
            have hxz := ba_size x
            have hN3 := HN.out
            by_cases hlast : k + 1 = L.length
            · have b5 : ((k : Int) == (len : Int) - 1) = true := by rw [beq_iff_eq]; have := HLe.out; omega
              rw [if_pos hlast] at HS HBs
              have s1 := cat_run (ba N) ⟨#[32]⟩ (by rw [hNs]; have : (⟨#[32]⟩ : ByteArray).size = 1 := rfl; omega)
              rw [show ba N ++ ⟨#[32]⟩ = ba (N ++ [32]) from ba_append N [32]] at s1
              have s2 := cat_run (ba (N ++ [32])) (ba x) (by rw [ba_size, hxz, List.length_append, List.length_singleton]; omega)
              rw [ba_append, List.append_assoc, List.singleton_append] at s2
              have HEnd := Lib.hid (show ¬ k + 1 < len by have := HLe.out; omega)
              clear hMs hp hxs hxm hxk hrep hxl htk hset hNs hxz hN3 hlast
              generalize ba (N ++ 32 :: x) = RES at *
              generalize ba (N ++ [32]) = N1 at *
              generalize ba N = N0 at *
              generalize ba x = Y at *
              go_wp2_with (first
                | (go_at_call 43; (with_reducible refine (HMs.out _).mono ?_); rintro e w3 ⟨rfl, rfl⟩))
              go_roundw
              case rel => exact ⟨k + 1, _, rfl, by go_num, by omega, fun e => absurd e HEnd.out, HS.out, HBs.out, HPr2.out⟩
              case measure => first | exact measA HLt.out hw1 | exact measB HLt.out
            · have b5 : ((k : Int) == (len : Int) - 1) = false := beq_false_of_ne (by have := HLe.out; omega)
              rw [if_neg hlast] at HS HBs
              have s1 := cat_run (ba N) ⟨#[45]⟩ (by rw [hNs]; have : (⟨#[45]⟩ : ByteArray).size = 1 := rfl; omega)
              rw [show ba N ++ ⟨#[45]⟩ = ba (N ++ [45]) from ba_append N [45]] at s1
              have s2 := cat_run (ba (N ++ [45])) (ba x) (by rw [ba_size, hxz, List.length_append, List.length_singleton]; omega)
              rw [ba_append, List.append_assoc, List.singleton_append] at s2
              clear hMs hp hxs hxm hxk hrep hxl htk hset hNs hxz hN3 hlast
              generalize ba (N ++ 45 :: x) = RES at *
              generalize ba (N ++ [45]) = N1 at *
              generalize ba N = N0 at *
              generalize ba x = Y at *
              go_wp2_with (first
                | (go_at_call 43; (with_reducible refine (HMs.out _).mono ?_); rintro e w3 ⟨rfl, rfl⟩))
              go_roundw
              case rel => exact ⟨k + 1, _, rfl, by go_num, by omega, fun _ => rfl, HS.out, HBs.out, HPr2.out⟩
              case measure => first | exact measA HLt.out hw1 | exact measB HLt.out
        · have hli : ¬ (k : Int) < (len : Int) := by omega
          have hfull : (bas (repT N L)).take k = bas (repT N L) := List.take_of_length_le (by rw [bas_len, rep_len]; have := HLe.out; omega)
          have hbl : (bas (repT N L)).length = len := by rw [bas_len, rep_len]; exact HLe.out
          rw [hfull, rows_full hbl] at HRw
          have HTt := Lib.hid (HRw.out.texts (by rw [hbl]; exact Nat.le_trans HL.out (by decide)) (mem_bas (n := 70000) (by decide) fun z hz => by
            obtain ⟨j, hj⟩ := List.mem_iff_getElem?.1 hz
            have hjl : j < L.length := by have := (List.getElem?_eq_some_iff.1 hj).1; rwa [rep_len] at this
            have h3 := rep_at N L j L[j] (List.getElem?_eq_getElem hjl)
            rw [hj] at h3
            rw [Option.some.inj h3, List.length_append, List.length_cons]
            have h4 := HX.out L[j] (List.getElem_mem _)
            have := HN.out
            omega))
          rw [hbl] at HTt
          have HEf := Lib.hid (show LE = 0 by
            rw [HEE.out, if_pos]
            refine ⟨HLn.out, List.all_eq_true.2 fun z hz => ?_⟩
            obtain ⟨j, hj⟩ := List.mem_iff_getElem?.1 hz
            exact HPr.out j z (by have := (List.getElem?_eq_some_iff.1 hj).1; have := HLe.out; omega) hj)
          have HOf := Lib.hid (show LO = repT N L by rw [HOO.out, HEf.out, if_pos rfl])
          go_wp2
          go_ret2
          exact ⟨_, _, _, by rw [HEf.out]; rfl, by rw [HOf.out]; exact HTt.out, HBr.out⟩
end Go.Proofs.YtahbbnimoogapaaGreatDoor
namespace Go.Proofs.YtahbbnimoogapaaGreatDoor
open Go.RowKit

set_option maxHeartbeats 1000000 in
set_option maxRecDepth 100000 in
theorem lequal_any {a b : Option Addr} {len cap len2 cap2 : Nat} {ss tt : List ByteArray} (hl : len ≤ 1048576) (w : World) (h1 : IsTexts w a len cap ss) (h2 : IsTexts w b len2 cap2 tt) :
    Calls Tryz.prog 45 #[.slice a len cap, .slice b len2 cap2] w fun e w' => e = .returned (.bool (decide (ss = tt))) ∧ Below w.heap.size w w' := by
  obtain ⟨e1, hc1, hm1⟩ := h1.len
  obtain ⟨e2, hc2, hm2⟩ := h2.len
  have H1 := Lib.hid h1
  have H2 := Lib.hid h2
  by_cases hne : len = len2
  · subst hne
    clear hm1 hm2 h1 h2
    go_enter Tryz.func45, Tryz.ntmps45
    go_wp2
    go_loopw [13] (fun i wr => ∃ k : Nat, i = .int .i64 (k : Int) ∧ k ≤ len ∧ (∀ j, j < k → ss.getD j ByteArray.empty = tt.getD j ByteArray.empty) ∧ Below w.heap.size w wr) (fun i _ => len - (intOf i).toNat)
    case atStart => exact ⟨0, rfl, Nat.zero_le _, fun j hj => absurd hj (by omega), Below.refl _ _⟩
    case round =>
      obtain ⟨k, rfl, hk, hno, hbel⟩ := hrel
      have HNO := Lib.hid hno
      clear hno
      by_cases hlt : k < len
      · have hli : (k : Int) < (len : Int) := by omega
        have hk0 : (0 : Int) ≤ (k : Int) := by omega
        have hw1 : wrap64 ((k : Int) + 1) = (k : Int) + 1 := by unfold wrap64; omega
        obtain ⟨x, rfl, c1, _⟩ := (H1.out.next hbel).at hlt
        obtain ⟨y, rfl, c2, _⟩ := (H2.out.next hbel).at hlt
        by_cases e : ss.getD k ByteArray.empty = tt.getD k ByteArray.empty
        · have q : ((ss.getD k ByteArray.empty).toList == (tt.getD k ByteArray.empty).toList) = true := by rw [tl8]; exact decide_eq_true e
          have HN2 := Lib.hid (show ∀ j, j < k + 1 → ss.getD j ByteArray.empty = tt.getD j ByteArray.empty from fun j hj => by
            by_cases hjk : j = k
            · subst hjk; exact e
            · exact HNO.out j (by omega))
          clear e HNO
          generalize ss.getD k ByteArray.empty = X at *
          generalize tt.getD k ByteArray.empty = Y at *
          go_wp2
          go_quiet (fail)
          go_wp2
          go_roundw
          case rel => exact ⟨k + 1, by go_num, by omega, HN2.out, Below_drewN hbel _⟩
          case measure => first | exact measA hlt hw1 | exact measB hlt
        · have q : ((ss.getD k ByteArray.empty).toList == (tt.getD k ByteArray.empty).toList) = false := by rw [tl8]; exact decide_eq_false e
          have HX := Lib.hid (show decide (ss = tt) = false from decide_eq_false (fun h => e (by rw [h])))
          clear e HNO
          generalize ss.getD k ByteArray.empty = X at *
          generalize tt.getD k ByteArray.empty = Y at *
          go_wp2
          go_quiet (fail)
          go_wp2
          go_ret
          exact ⟨by rw [HX.out]; rfl, Below_drewN hbel _⟩
      · have hli : ¬ (k : Int) < (len : Int) := by omega
        have HX := Lib.hid (show decide (ss = tt) = true from decide_eq_true (getD_ext (by rw [e1, e2]) fun i hi => HNO.out i (by omega)))
        clear HNO
        go_wp2
        go_ret
        exact ⟨by rw [HX.out]; rfl, hbel⟩
  · have hni : ¬ (len : Int) = (len2 : Int) := by omega
    rw [decide_eq_false (fun h => hne (by rw [← e1, ← e2, h]))]
    clear hm1 hm2 h1 h2
    go_enter Tryz.func45, Tryz.ntmps45
    go_wp2
    go_ret
    exact ⟨rfl, Below.refl _ _⟩

/-- What a code is read as; 0: it is no number. -/
def avZ (l : List UInt8) : Int := (Lib.atoi l).getD 0
theorem av_num {n : Nat} (h : n ≤ 999999999999) : avZ (numL n) = n := by
  obtain ⟨h1, h2, h3⟩ := numL_all n
  have hd : Lib.decNat (numL n) = some n := by
    have hs := sizC_num h
    have hl : (numL n).length ≤ 12 := by
      rw [sizC] at hs
      split at hs
      · rename_i hh; exact hh.2.1
      · cases hs
    rw [dec_siz hl, hs]
  cases hn : numL n with
  | nil => exact absurd hn h3
  | cons b r =>
    rw [hn, List.all_cons, Bool.and_eq_true] at h1
    have hb := h1.1
    rw [digB_nat, decide_eq_true_eq] at hb
    have e1 : (b == 45) = false := beq_false_of_ne fun e => by rw [e] at hb; exact absurd hb.1 (by decide)
    have e2 : (b == 43) = false := beq_false_of_ne fun e => by rw [e] at hb; exact absurd hb.1 (by decide)
    rw [hn] at hd
    rw [avZ, Lib.atoi, e1, e2]
    simp [hd]
theorem lib_atoi (l : List UInt8) (hl : l.length ≤ 18) (w : World) (ht : Tb w) : Calls Tryz.prog 44 #[.string (ba l)] w fun e w' => (∃ x, e = .returned (.tuple #[.int .i64 (avZ l), x])) ∧ Below w.heap.size w w' := by
  cases h : Lib.atoi l with
  | none =>
    obtain ⟨tp, p, hv⟩ := ht.syn
    refine (Tryz.strconv_Atoi_err_var (ba l) (by rw [ba_size]; exact hl) (by rw [ba_list]; exact h) tp p w hv).mono fun e w' hh => ?_
    obtain ⟨N, h1, _, _, h2⟩ := hh
    exact ⟨⟨_, by rw [h1, avZ, h]; rfl⟩, h2⟩
  | some n =>
    refine (Tryz.strconv_Atoi (ba l) n (by rw [ba_size]; exact hl) (by rw [ba_list]; exact h) w).mono fun e w' hh => ?_
    obtain ⟨h1, t, h2⟩ := hh
    exact ⟨⟨_, by rw [h1, avZ, h]; rfl⟩, by rw [h2]; exact Lib.bytesWorld_below _ _ _⟩
/-- The code of the first line. -/
def codZ (L : List (List UInt8)) : Int := match L with
  | [] => 0
  | x :: _ => avZ (x.take 3)
theorem cod_short {L : List (List UInt8)} {x : List UInt8} (hx : x ∈ L) (h : x.length < 4) : ∀ n, codF L n = none := by
  induction L with
  | nil => cases hx
  | cons y l ih =>
    intro n
    rw [codF]
    split
    · rfl
    · rename_i hy
      rcases List.mem_cons.1 hx with rfl | hx
      · exact absurd h hy
      · cases sizC (y.take 3) with
        | none => rfl
        | some m => exact ih hx m
theorem red_short {L : List (List UInt8)} {x : List UInt8} (hx : x ∈ L) (h : x.length < 4) : redL L = none := by
  rw [redL, cod_short hx h]
/-- A reply read by its first code, and held against its lines. -/
theorem red_by (L : List (List UInt8)) : redL L = if linE (codZ L) (L.map (·.drop 4)) = 0 ∧ linO (codZ L) (L.map (·.drop 4)) = L then some ((codZ L).toNat, L.map (·.drop 4)) else none := by
  by_cases h : linE (codZ L) (L.map (·.drop 4)) = 0 ∧ linO (codZ L) (L.map (·.drop 4)) = L
  · rw [if_pos h]
    obtain ⟨h0, h1⟩ := h
    rw [linO, if_pos h0] at h1
    rw [linE] at h0
    split at h0
    · cases h0
    · rename_i hc
      rw [clsZ] at hc
      split at hc
      · exact absurd rfl hc
      · rename_i hr
        split at h0
        · rename_i hp
          exact red_rep (by omega) (by omega) (by rw [repL, if_pos hp, h1])
        · cases h0
  · rw [if_neg h]
    rw [redL]
    cases hc : codF L 0 with
    | none => rfl
    | some n =>
      simp only
      rw [if_neg]
      rintro ⟨h1, h2, h3⟩
      apply h
      have h3' := h3
      rw [repL] at h3
      split at h3
      · rename_i hp
        have he := Option.some.inj h3
        have hcz : codZ L = n := by
          have hd := num_three h1 h2
          cases hL : L with
          | nil => rw [hL] at hp; exact absurd rfl hp.1
          | cons x l =>
            rw [codZ]
            have hg : L[0]? = some x := by rw [hL]; rfl
            have hm : (L.map (·.drop 4))[0]? = some (x.drop 4) := by rw [List.getElem?_map, hg]; rfl
            have hr := rep_at (numL n) (L.map (·.drop 4)) 0 _ hm
            rw [he, hg] at hr
            have hx := Option.some.inj hr
            have : x.take 3 = numL n := by rw [hx, List.take_append_of_le_length (by omega), List.take_of_length_le (by omega)]
            rw [this]
            exact av_num (by omega)
        have h0 : linE (codZ L) (L.map (·.drop 4)) = 0 := by
          rw [linE, hcz, if_neg, if_pos hp]
          rw [clsZ, if_neg (by omega)]; omega
        exact ⟨h0, by rw [linO, if_pos h0, hcz, Int.toNat_natCast, he]⟩
      · cases h3
theorem info_rep : (Tryz.prog.info? 46).map (·.size) = some 2 := by kernel_rfl
theorem ret_rep {fn : Func} {p t : Tmp} {R : Ending → World → Prop} {a : Act} {w : World} (h : fn.results = #[.cell p 46, .tmp t]) (g : Nat) (cs : Array Value) (hs : cs.size = 2) (hp : a.tmps.getD p undef = .pointer (some ⟨g, 0, none⟩))
    (hg : Arr w g cs 46) (hd : a.defers = []) (hR : R (.returned (.tuple #[.agg cs, a.tmps.getD t undef])) w) : bodyPost Tryz.prog fn R .ret a w := by
  refine bodyPost_ret ?_ hd hR
  have hp' : a.tmps[p]?.getD undef = .pointer (some ⟨g, 0, none⟩) := by simpa using hp
  simp [results, h, hp', asAddr, run_loadVar_row w g 46 46 cs (0, 0) _ hg Tryz.underlying46 rfl (by rw [hs]; exact info_rep)]

set_option maxHeartbeats 4000000 in
set_option maxRecDepth 100000 in
theorem lreadReply_any (a : Option Addr) (len cap : Nat) (L : List (List UInt8)) (hL : len ≤ 65536) (hx : ∀ x ∈ L, x.length ≤ 65536) (w : World) (htb : Tb w) (ht : IsTexts w a len cap (bas L)) :
    Calls Tryz.prog 19 #[.slice a len cap] w fun e w' => ∃ (a' : Option Addr) (n' cap' : Nat), e = .returned (.tuple #[.agg #[.int .i64 (redN L), .slice a' n' cap'], .int .i64 (redE L)]) ∧ IsTexts w' a' n' cap' (bas (redT L)) ∧ Below w.heap.size w w' := by
  have hlen := ht.len.1
  rw [bas_len] at hlen
  have HNo := Lib.hid (fun h => red_no (L := L) h)
  have HYes := Lib.hid (fun T n h => red_yes (L := L) (T := T) (n := n) h)
  have HSh := Lib.hid (fun x hx h => red_short (L := L) (x := x) hx h)
  have HBy := Lib.hid (red_by L)
  have HX := Lib.hid hx
  have HT := Lib.hid ht
  have HTb := Lib.hid htb
  have z1 : (w.alloc (.cells #[.int .i64 0, .slice none 0 0] 46)).heap.size = w.heap.size + 1 := by show (w.heap.push _).size = _; simp
  have HA2 := Lib.hid ((Arr.new w #[.int .i64 0, .slice none 0 0] 46).alloc (.cells #[.int .i64 0, .slice none 0 0] 46))
  have HA4 := Lib.hid (Arr.newAt (w.alloc (.cells #[.int .i64 0, .slice none 0 0] 46)) #[.int .i64 0, .slice none 0 0] 46 z1.symm)
  have HB := Lib.hid (below_new (below_one w (.cells #[.int .i64 0, .slice none 0 0] 46)) (.cells #[.int .i64 0, .slice none 0 0] 46))
  have HZ2 := Lib.hid (show ((w.alloc (.cells #[.int .i64 0, .slice none 0 0] 46)).alloc (.cells #[.int .i64 0, .slice none 0 0] 46)).heap.size = w.heap.size + 1 + 1 by rw [← z1]; show (Array.push _ _).size = _; simp)
  generalize redN L = RN at *
  generalize redE L = RE at *
  generalize redT L = RT at *
  generalize redL L = RL at *
  clear hx ht z1 htb
  go_enter Tryz.func19, Tryz.ntmps19
  go_wp2
  go_loopw [11] (fun i wr => ∃ (k : Nat) (c : Int) (v : Value), i = .int .i64 (k : Int) ∧ k ≤ len ∧ Arr wr w.heap.size #[.int .i64 0, .slice none 0 0] 46 ∧ Arr wr (w.heap.size + 1) #[.int .i64 c, v] 46 ∧ OwS wr (w.heap.size + 1 + 1) v (bas ((L.take k).map (·.drop 4))) ∧ Below w.heap.size w wr ∧ w.heap.size + 1 + 1 ≤ wr.heap.size ∧ c = codZ (L.take k)) (fun i _ => len - (intOf i).toNat)
  case atStart => exact ⟨0, 0, _, rfl, Nat.zero_le _, HA2.out, HA4.out, OwS.nil _ _, HB.out, by rw [HZ2.out]; exact Nat.le_refl _, rfl⟩
  case round =>
    clear HA2 HA4 HB HZ2
    obtain ⟨k, c, v, rfl, hk, hA2, hA4, hown, hbel, hz, hc⟩ := hrel
    have HOw := Lib.hid hown
    have HA2 := Lib.hid hA2
    have HA4 := Lib.hid hA4
    have HBel := Lib.hid hbel
    have HZ := Lib.hid hz
    have HC := Lib.hid hc
    have hk1 : (0 : Int) ≤ (k : Int) := by omega
    clear hown hA2 hA4 hbel hz hc
    by_cases hlt : k < len
    · have hli : (k : Int) < (len : Int) := by omega
      have HTr := Lib.hid (HT.out.next HBel.out)
      obtain ⟨y, rfl⟩ : ∃ y, a = some y := by
        obtain ⟨y, h, _⟩ := HTr.out.at hlt
        exact ⟨y, h⟩
      obtain ⟨x, hxk⟩ : ∃ x, L[k]? = some x := ⟨_, List.getElem?_eq_getElem (by omega)⟩
      have hxm := List.mem_of_getElem? hxk
      have hxs := HX.out x hxm
      have HLimb := Lib.hid (fun (w' : World) (h : IsTexts w' (some y) len cap (bas L)) => show w'.cell? (y.add k) = some (.string (ba x)) by
        obtain ⟨z, hz, c, _⟩ := h.at hlt
        rw [← Option.some.inj hz, bas_get hxk] at c
        exact c)
      have e2 := HLimb.out wr HTr.out
      have hbs := ba_size x
      have hw1 : wrap64 ((k : Int) + 1) = (k : Int) + 1 := by unfold wrap64; omega
      have HLt := Lib.hid hlt
      by_cases h4 : x.length < 4
      · have d0 : wr.cell? ⟨w.heap.size, 0, none⟩ = some (.int .i64 0) := HA2.out.cell rfl
        have d1 : wr.cell? ⟨w.heap.size, 1, none⟩ = some (.slice none 0 0) := HA2.out.cell rfl
        have fd0 := HA2.out.frozen 0
        have fd1 := HA2.out.frozen 1
        have b4 : ((ba x).size : Int) < 4 := by omega
        have HF := Lib.hid (HNo.out (HSh.out x hxm h4))
        clear hxs hbs h4 hxk hxm
        generalize ba x = X at *
        go_wp2
        refine ret_rep rfl w.heap.size #[.int .i64 0, .slice none 0 0] rfl rfl (Arr.set (Arr.set HA2.out 0 _) 1 _) rfl ?_
        exact ⟨none, 0, 0, by rw [HF.out.1, HF.out.2.1]; rfl, by rw [HF.out.2.2]; exact .inl ⟨rfl, rfl, rfl, rfl⟩, Below.setCell (Below.setCell HBel.out (Nat.le_refl _) _) (Nat.le_refl _) _⟩
      · have b4 : ¬ ((ba x).size : Int) < 4 := by omega
        have HBs := Lib.hid (show bas ((L.take (k + 1)).map (·.drop 4)) = bas ((L.take k).map (·.drop 4)) ++ [ba (x.drop 4)] by rw [List.take_add_one, hxk, List.map_append, bas, List.map_append]; rfl)
        have HLb := Lib.hid (show (bas ((L.take k).map (·.drop 4))).length ≤ 1048576 by rw [bas_len, List.length_map, List.length_take]; omega)
        have hsl := slice_from (ba x) 4 (by omega)
        rw [ext_all, ba_list, show ((4 : Nat) : Int) = 4 from rfl] at hsl
        by_cases hk0 : k = 0
        · have hs3 := slice_to (ba x) 3 (by omega)
          rw [ext_ba, ba_list, List.drop_zero, Nat.sub_zero, show ((3 : Nat) : Int) = 3 from rfl] at hs3
          have HAt := Lib.hid (lib_atoi (x.take 3) (by rw [List.length_take]; omega) wr (HTb.out.next HBel.out))
          obtain ⟨m, hm⟩ : ∃ m, m = avZ (x.take 3) := ⟨_, rfl⟩
          rw [← hm] at HAt
          have HCod := Lib.hid (show m = codZ (L.take (k + 1)) by
            subst hk0
            rw [hm]
            cases L with
            | nil => cases hxk
            | cons z l => rw [← Option.some.inj hxk]; rfl)
          have b0 : ((k : Int) == 0) = true := by rw [hk0]; rfl
          clear hxs h4 hxk hxm hbs hm hk0
          generalize ba (x.drop 4) = X4 at *
          generalize ba (x.take 3) = X3 at *
          generalize ba x = X at *
          go_wp2_with (first
            | (go_at_call 44; (with_reducible refine HAt.out.mono ?_); rintro e w2 ⟨⟨EV, rfl⟩, hb2⟩; have HA42 := Lib.hid (HA4.out.next hb2); have HA22 := Lib.hid (HA2.out.next hb2); have HOw2 := Lib.hid (HOw.out.next hb2); have HBel2 := Lib.hid (Below_next HBel.out hb2); have HZs := Lib.hid (Nat.le_trans HZ.out hb2.size); have g40 : w2.cell? ⟨w.heap.size + 1, 0, none⟩ = some (.int .i64 c) := HA42.out.cell rfl; have f40 := HA42.out.frozen 0))
          have HsetA2 := Lib.hid (HA22.out.other ⟨w.heap.size + 1, 0, none⟩ (.int .i64 m) (by show w.heap.size ≠ w.heap.size + 1; omega))
          have HsetA4 := Lib.hid (show Arr (w2.setCell ⟨w.heap.size + 1, 0, none⟩ (.int .i64 m)) (w.heap.size + 1) #[.int .i64 m, v] 46 from HA42.out.set 0 _)
          have HsetB := Lib.hid (HBel2.out.setCell (p := ⟨w.heap.size + 1, 0, none⟩) (Nat.le_succ _) (.int .i64 m))
          have HsetO := Lib.hid (OwS.but (g := w.heap.size + 1) (u := .int .i64 m) HOw2.out (Nat.lt_succ_self _) 0)
          have HsetZ := Lib.hid (show w.heap.size + 1 + 1 ≤ (w2.setCell ⟨w.heap.size + 1, 0, none⟩ (.int .i64 m)).heap.size by simp [World.setCell]; exact HZs.out)
          clear g40 f40 e2
          generalize w2.setCell ⟨w.heap.size + 1, 0, none⟩ (.int .i64 m) = W1 at *
          clear HA2 HA4 HBel HOw HZ HTr HA42 HA22 HOw2 HBel2 HZs
          have e41 : W1.cell? ⟨w.heap.size + 1, 1, none⟩ = some v := HsetA4.out.cell rfl
          have f41 := HsetA4.out.frozen 1
          have e2 := HLimb.out W1 (HT.out.next HsetB.out)
          have hlt4 := HsetA4.out.lt
          have hB1 := below_one W1 (.cells #[.string X4] 9)
          have a41 : (W1.alloc (.cells #[.string X4] 9)).cell? ⟨w.heap.size + 1, 1, none⟩ = some v := (HsetA4.out.next hB1).cell rfl
          have HB1 := Lib.hid hB1
          clear hB1
          go_region_law (refine step_pushs W1 _ rfl _ _ rfl HsetO.out rfl rfl X4 rfl (Nat.le_trans HLb.out (by decide)) HsetZ.out ?_; intro v6 w6 h6 hb6; rw [← HBs.out] at h6; obtain ⟨a6, n6, c6, rfl⟩ := ows_form h6; have h26 : Arr w6 w.heap.size #[.int .i64 0, .slice none 0 0] 46 := (hb6.block _ (by omega)).trans (HsetA2.out.next HB1.out.drew); have h46 : Arr w6 (w.heap.size + 1) #[.int .i64 m, v] 46 := (hb6.block _ (by omega)).trans (HsetA4.out.next HB1.out.drew); have hz6 : w.heap.size + 1 + 1 ≤ w6.heap.size := Nat.le_trans HsetZ.out (Nat.le_trans HB1.out.size hb6.size); have e46 : w6.cell? ⟨w.heap.size + 1, 1, none⟩ = some v := h46.cell rfl; have f46 := h46.frozen 1)
          all_goals
            go_wp2
            go_roundw
            case rel => exact ⟨k + 1, m, .slice a6 n6 c6, by go_num, by omega, h26.other ⟨w.heap.size + 1, 1, none⟩ _ (by show w.heap.size ≠ w.heap.size + 1; omega), h46.set 1 _, h6.but (Nat.lt_succ_self _) 1, ((Below_next HsetB.out HB1.out.drew).trans (hb6.mono (Nat.le_trans (Nat.le_succ _) (Nat.le_succ _)))).setCell (p := ⟨w.heap.size + 1, 1, none⟩) (Nat.le_succ _) _, by simp [World.setCell]; exact hz6, HCod.out⟩
            case measure => first | exact measA HLt.out hw1 | exact measB HLt.out
        · have HCod := Lib.hid (show c = codZ (L.take (k + 1)) by
            rw [HC.out]
            obtain ⟨j, rfl⟩ : ∃ j, k = j + 1 := ⟨k - 1, by omega⟩
            cases L with
            | nil => cases hxk
            | cons z l => rfl)
          have b0 : ((k : Int) == 0) = false := beq_false_of_ne (by omega)
          clear hxs h4 hxk hxm hbs hk0
          generalize ba (x.drop 4) = X4 at *
          generalize ba x = X at *
          have HsetA2 := Lib.hid HA2.out
          have HsetA4 := Lib.hid HA4.out
          have HsetB := Lib.hid HBel.out
          have HsetO := Lib.hid HOw.out
          have HsetZ := Lib.hid HZ.out
          go_wp2
          clear e2
          generalize wr = W1 at *
          clear HA2 HA4 HBel HOw HZ HTr
          have e41 : W1.cell? ⟨w.heap.size + 1, 1, none⟩ = some v := HsetA4.out.cell rfl
          have f41 := HsetA4.out.frozen 1
          have e2 := HLimb.out W1 (HT.out.next HsetB.out)
          have hlt4 := HsetA4.out.lt
          have hB1 := below_one W1 (.cells #[.string X4] 9)
          have a41 : (W1.alloc (.cells #[.string X4] 9)).cell? ⟨w.heap.size + 1, 1, none⟩ = some v := (HsetA4.out.next hB1).cell rfl
          have HB1 := Lib.hid hB1
          clear hB1
          go_region_law (refine step_pushs W1 _ rfl _ _ rfl HsetO.out rfl rfl X4 rfl (Nat.le_trans HLb.out (by decide)) HsetZ.out ?_; intro v6 w6 h6 hb6; rw [← HBs.out] at h6; obtain ⟨a6, n6, c6, rfl⟩ := ows_form h6; have h26 : Arr w6 w.heap.size #[.int .i64 0, .slice none 0 0] 46 := (hb6.block _ (by omega)).trans (HsetA2.out.next HB1.out.drew); have h46 : Arr w6 (w.heap.size + 1) #[.int .i64 c, v] 46 := (hb6.block _ (by omega)).trans (HsetA4.out.next HB1.out.drew); have hz6 : w.heap.size + 1 + 1 ≤ w6.heap.size := Nat.le_trans HsetZ.out (Nat.le_trans HB1.out.size hb6.size); have e46 : w6.cell? ⟨w.heap.size + 1, 1, none⟩ = some v := h46.cell rfl; have f46 := h46.frozen 1)
          all_goals
            go_wp2
            go_roundw
            case rel => exact ⟨k + 1, c, .slice a6 n6 c6, by go_num, by omega, h26.other ⟨w.heap.size + 1, 1, none⟩ _ (by show w.heap.size ≠ w.heap.size + 1; omega), h46.set 1 _, h6.but (Nat.lt_succ_self _) 1, ((Below_next HsetB.out HB1.out.drew).trans (hb6.mono (Nat.le_trans (Nat.le_succ _) (Nat.le_succ _)))).setCell (p := ⟨w.heap.size + 1, 1, none⟩) (Nat.le_succ _) _, by simp [World.setCell]; exact hz6, HCod.out⟩
            case measure => first | exact measA HLt.out hw1 | exact measB HLt.out
    · have hli : ¬ (k : Int) < (len : Int) := by omega
      have hTk : L.take k = L := List.take_of_length_le (by omega)
      have hc := HC.out
      rw [hTk] at HOw hc
      rw [← hc] at HBy
      have hTl : ∀ x ∈ L.map (·.drop 4), x.length ≤ 65536 := fun x hx => by
        obtain ⟨z, hz, rfl⟩ := List.mem_map.1 hx
        have := HX.out z hz
        rw [List.length_drop]; omega
      have hTn : (L.map (·.drop 4)).length = len := by rw [List.length_map]; exact hlen
      generalize L.map (·.drop 4) = T at *
      have HMb := Lib.hid (mem_bas (L := T) (n := 65536) (by decide) hTl)
      obtain ⟨a9, n9, c9, rfl⟩ := ows_form HOw.out
      have ht9 := ows_texts HOw.out HMb.out
      have hn9 := ht9.len.1
      rw [bas_len] at hn9
      obtain rfl : n9 = len := by omega
      have HLi := Lib.hid (llines_any c a9 n9 c9 T hL hTl wr (HTb.out.next HBel.out) ht9)
      have e40 : wr.cell? ⟨w.heap.size + 1, 0, none⟩ = some (.int .i64 c) := HA4.out.cell rfl
      have e41 : wr.cell? ⟨w.heap.size + 1, 1, none⟩ = some (.slice a9 n9 c9) := HA4.out.cell rfl
      have hlo := linO_len c T
      clear hTk hTl ht9 hTn hc HC
      by_cases hE0 : linE c T = 0
      · rw [hE0] at HLi
        by_cases hsame : linO c T = L
        · have HF := Lib.hid (HYes.out T c.toNat (by rw [HBy.out, if_pos ⟨hE0, hsame⟩]))
          have HCp := Lib.hid (show ((c.toNat : Nat) : Int) = c by
            rw [linE] at hE0
            split at hE0
            · cases hE0
            · rename_i hcl
              rw [clsZ] at hcl
              split at hcl
              · exact absurd rfl hcl
              · omega)
          rw [hsame] at HLi
          have hde : decide (bas L = bas L) = true := decide_eq_true rfl
          clear hE0 hsame hlo
          go_wp2_with (first
            | (go_at_call 17; (with_reducible refine HLi.out.mono ?_); rintro e w7 ⟨a7, n7, c7, rfl, ht7, hb7⟩; have hn7 := ht7.len.1; have HSm := Lib.hid (lequal_any (by rw [← hn7, bas_len]; omega) w7 ht7 (HT.out.next (Below_next HBel.out hb7))))
            | (go_at_call 45; (with_reducible refine HSm.out.mono ?_); rintro e w8 ⟨he8, hb8⟩; rw [hde] at he8; subst he8; have hA2 := (HA2.out.next hb7).next hb8; have hA4 := (HA4.out.next hb7).next hb8; have d0 : w8.cell? ⟨w.heap.size, 0, none⟩ = some (.int .i64 0) := hA2.cell rfl; have d1 : w8.cell? ⟨w.heap.size, 1, none⟩ = some (.slice none 0 0) := hA2.cell rfl; have fd0 := hA2.frozen 0; have fd1 := hA2.frozen 1; have e80 : w8.cell? ⟨w.heap.size + 1, 0, none⟩ = some (.int .i64 c) := hA4.cell rfl; have e81 : w8.cell? ⟨w.heap.size + 1, 1, none⟩ = some (.slice a9 n9 c9) := hA4.cell rfl; have hO8 := (HOw.out.next hb7).next hb8; have hB8 := Below_next (Below_next HBel.out hb7) hb8))
          refine ret_rep rfl w.heap.size #[.int .i64 c, .slice a9 n9 c9] rfl rfl (Arr.set (Arr.set hA2 0 _) 1 _) rfl ?_
          exact ⟨a9, n9, c9, by rw [HF.out.1, HF.out.2.1, HCp.out]; rfl, by rw [HF.out.2.2]; exact ows_texts ((hO8.but (g := w.heap.size) (by omega) 0).but (g := w.heap.size) (by omega) 1) HMb.out, Below.setCell (Below.setCell hB8 (Nat.le_refl _) _) (Nat.le_refl _) _⟩
        · have HF := Lib.hid (HNo.out (by rw [HBy.out, if_neg (fun e => hsame e.2)]))
          have hde : decide (bas (linO c T) = bas L) = false := decide_eq_false fun e => hsame (by
            have := congrArg lsB e
            rwa [lsB_bas, lsB_bas] at this)
          have HLo := Lib.hid (show (linO c T).length ≤ 65536 by omega)
          generalize linO c T = LO at *
          clear hE0 hsame hlo
          go_wp2_with (first
            | (go_at_call 17; (with_reducible refine HLi.out.mono ?_); rintro e w7 ⟨a7, n7, c7, rfl, ht7, hb7⟩; have hn7 := ht7.len.1; have HSm := Lib.hid (lequal_any (by rw [← hn7, bas_len]; have := HLo.out; omega) w7 ht7 (HT.out.next (Below_next HBel.out hb7))))
            | (go_at_call 45; (with_reducible refine HSm.out.mono ?_); rintro e w8 ⟨he8, hb8⟩; rw [hde] at he8; subst he8; have hA2 := (HA2.out.next hb7).next hb8; have hA4 := (HA4.out.next hb7).next hb8; have d0 : w8.cell? ⟨w.heap.size, 0, none⟩ = some (.int .i64 0) := hA2.cell rfl; have d1 : w8.cell? ⟨w.heap.size, 1, none⟩ = some (.slice none 0 0) := hA2.cell rfl; have fd0 := hA2.frozen 0; have fd1 := hA2.frozen 1; have hB8 := Below_next (Below_next HBel.out hb7) hb8))
          refine ret_rep rfl w.heap.size #[.int .i64 0, .slice none 0 0] rfl rfl (Arr.set (Arr.set hA2 0 _) 1 _) rfl ?_
          exact ⟨none, 0, 0, by rw [HF.out.1, HF.out.2.1]; rfl, by rw [HF.out.2.2]; exact .inl ⟨rfl, rfl, rfl, rfl⟩, Below.setCell (Below.setCell hB8 (Nat.le_refl _) _) (Nat.le_refl _) _⟩
      · have HF := Lib.hid (HNo.out (by rw [HBy.out, if_neg (fun e => hE0 e.1)]))
        have hE1 : (linE c T != 0) = true := by rw [bne, beq_false_of_ne hE0]; rfl
        generalize linE c T = LE at *
        generalize linO c T = LO at *
        clear hE0 hlo
        go_wp2_with (first
          | (go_at_call 17; (with_reducible refine HLi.out.mono ?_); rintro e w7 ⟨a7, n7, c7, rfl, ht7, hb7⟩; have hA2 := HA2.out.next hb7; have d0 : w7.cell? ⟨w.heap.size, 0, none⟩ = some (.int .i64 0) := hA2.cell rfl; have d1 : w7.cell? ⟨w.heap.size, 1, none⟩ = some (.slice none 0 0) := hA2.cell rfl; have fd0 := hA2.frozen 0; have fd1 := hA2.frozen 1; have hB8 := Below_next HBel.out hb7))
        refine ret_rep rfl w.heap.size #[.int .i64 0, .slice none 0 0] rfl rfl (Arr.set (Arr.set hA2 0 _) 1 _) rfl ?_
        exact ⟨none, 0, 0, by rw [HF.out.1, HF.out.2.1]; rfl, by rw [HF.out.2.2]; exact .inl ⟨rfl, rfl, rfl, rfl⟩, Below.setCell (Below.setCell hB8 (Nat.le_refl _) _) (Nat.le_refl _) _⟩
end Go.Proofs.YtahbbnimoogapaaGreatDoor
