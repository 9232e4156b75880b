/- A command among the arguments, opened; the laws with their row's arguments. A reply among the arguments, opened. The record of layer 10's contracts, of the landed code; the laws over it. -/
import Derived.Test.YtahbbnimoogapaaGreatDoorMX
import Derived.Test.YtahbbnimoogapaaGreatDoorCtB
import Derived.Test.YtahbbnimoogapaaGreatDoorCtK
import Derived.Test.YtahbbnimoogapaaGreatDoorMY
import Derived.Test.YtahbbnimoogapaaGreatDoorM1
import Derived.Deep.Grids
import Derived.Test.YtahbbnimoogapaaGreatDoorMV
import Derived.Test.YtahbbnimoogapaaGreatDoorMW
import Derived.Test.YtahbbnimoogapaaGreatDoorMZ
namespace Go.Proofs.YtahbbnimoogapaaGreatDoor
open Go.RowKit Go.WideShapes Go.ChangeShapes

theorem cellsCmd : Tryz.prog.cellsOf 26 = 6 := by kernel_rfl
theorem cellsCBox : Tryz.prog.cellsOf 24 = 2 := by kernel_rfl
theorem cellsCInt : Tryz.prog.cellsOf 3 = 1 := by kernel_rfl
theorem cellsCI64 : Tryz.prog.cellsOf 2 = 1 := by kernel_rfl
theorem cellsCStr : Tryz.prog.cellsOf 9 = 1 := by kernel_rfl
theorem cellsCBool : Tryz.prog.cellsOf 4 = 1 := by kernel_rfl
set_option maxRecDepth 100000 in
theorem trod_cbox {H : Type} {enc : TypeId × Value → H} {w : World} {base : Nat} {spare : Nat → Bool} {held : Bool} {fuel : Nat} {cs : List Value} {x : DataW H × List MemPlace}
    (h : DataW.trod enc Tryz.prog w base spare held fuel 24 cs = some x) : ∃ L D : ByteArray, cs = [.string L, .string D] := by
  obtain ⟨xs, n, rfl, rfl, hl, hxl, hf⟩ := DataW.trod_struct Tryz.underlying24 h
  have hl2 : cs.length = 2 := hl.trans cellsCBox
  have hx2 : xs.length = 2 := hxl
  match cs, hl2 with
  | [c0, c1], _ =>
    have h0 : DataW.trod enc Tryz.prog w base spare held n 9 (([c0, c1].drop 0).take (Tryz.prog.cellsOf 9)) = xs[0]? := hf 0 _ rfl
    have h1 : DataW.trod enc Tryz.prog w base spare held n 9 (([c0, c1].drop 1).take (Tryz.prog.cellsOf 9)) = xs[1]? := hf 1 _ rfl
    simp only [cellsCStr, List.drop_zero, List.drop_succ_cons, List.take_succ_cons, List.take_zero] at h0 h1
    rw [List.getElem?_eq_getElem (by omega)] at h0 h1
    obtain ⟨a, e0, _, w0⟩ := DataW.trod_string Tryz.underlying9 h0
    obtain ⟨b, e1, _, w1⟩ := DataW.trod_string Tryz.underlying9 h1
    simp only [List.cons.injEq, and_true] at e0 e1
    subst e0 e1
    exact ⟨a, b, rfl⟩
set_option maxRecDepth 100000 in
theorem trod_cmd {H : Type} {enc : TypeId × Value → H} {w : World} {base : Nat} {spare : Nat → Bool} {held : Bool} {fuel : Nat} {cs : List Value} {x : DataW H × List MemPlace}
    (h : DataW.trod enc Tryz.prog w base spare held fuel 26 cs = some x) : ∃ (V S : Int) (T L D : ByteArray) (E : Bool), cs = [.int .i64 V, .string T, .string L, .string D, .int .i64 S, .bool E] ∧ I64 S := by
  obtain ⟨xs, n, rfl, rfl, hl, hxl, hf⟩ := DataW.trod_struct Tryz.underlying26 h
  have hl6 : cs.length = 6 := hl.trans cellsCmd
  have hx5 : xs.length = 5 := hxl
  match cs, hl6 with
  | [c0, c1, c2, c3, c4, c5], _ =>
    have h0 : DataW.trod enc Tryz.prog w base spare held n 3 (([c0, c1, c2, c3, c4, c5].drop 0).take (Tryz.prog.cellsOf 3)) = xs[0]? := hf 0 _ rfl
    have h1 : DataW.trod enc Tryz.prog w base spare held n 9 (([c0, c1, c2, c3, c4, c5].drop 1).take (Tryz.prog.cellsOf 9)) = xs[1]? := hf 1 _ rfl
    have h2 : DataW.trod enc Tryz.prog w base spare held n 24 (([c0, c1, c2, c3, c4, c5].drop 2).take (Tryz.prog.cellsOf 24)) = xs[2]? := hf 2 _ rfl
    have h3 : DataW.trod enc Tryz.prog w base spare held n 2 (([c0, c1, c2, c3, c4, c5].drop 4).take (Tryz.prog.cellsOf 2)) = xs[3]? := hf 3 _ rfl
    have h4 : DataW.trod enc Tryz.prog w base spare held n 4 (([c0, c1, c2, c3, c4, c5].drop 5).take (Tryz.prog.cellsOf 4)) = xs[4]? := hf 4 _ rfl
    simp only [cellsCStr, cellsCBox, cellsCInt, cellsCI64, cellsCBool, List.drop_zero, List.drop_succ_cons, List.take_succ_cons, List.take_zero] at h0 h1 h2 h3 h4
    rw [List.getElem?_eq_getElem (by omega)] at h0 h1 h2 h3 h4
    obtain ⟨V, e0, _, _⟩ := DataW.trod_int Tryz.underlying3 h0
    obtain ⟨T, e1, _, _⟩ := DataW.trod_string Tryz.underlying9 h1
    obtain ⟨L, D, e2⟩ := trod_cbox h2
    obtain ⟨S, e3, _, wS⟩ := DataW.trod_int Tryz.underlying2 h3
    obtain ⟨E, e4, _⟩ := DataW.trod_bool Tryz.underlying4 h4
    simp only [List.cons.injEq, and_true] at e0 e1 e2 e3 e4
    obtain ⟨rfl, rfl⟩ := e2
    subst e0 e1 e3 e4
    exact ⟨V, S, T, L, D, E, rfl, by have h := wS; simp only [Lit.wf, Bool.and_eq_true, decide_eq_true_eq] at h; exact h⟩
set_option maxRecDepth 100000 in
theorem open_cmd {H : Type} {enc : TypeId × Value → H} {w : World} {base : Nat} {spare : Nat → Bool} {held : Bool} {r : Reach} {b0 : Nat} {v : Value} {d : DataW H} {p : List MemPlace}
    (hval : Value.okWide Tryz.prog w r b0 26 v) (h : DataW.Trod enc Tryz.prog w base spare held 26 v d p) : ∃ (V S : Int) (T L D : ByteArray) (E : Bool), v = .agg #[.int .i64 V, .string T, .string L, .string D, .int .i64 S, .bool E] ∧ I64 S := by
  simp only [Value.okWide, Tryz.underlying26] at hval
  obtain ⟨cs, rfl, hs, _⟩ := hval
  obtain ⟨fuel, hf⟩ := h
  obtain ⟨V, S, T, L, D, E, hy, hS⟩ := trod_cmd hf
  refine ⟨V, S, T, L, D, E, ?_, hS⟩
  have : cs.toList = [.int .i64 V, .string T, .string L, .string D, .int .i64 S, .bool E] := hy
  rw [show cs = #[.int .i64 V, .string T, .string L, .string D, .int .i64 S, .bool E] from Array.toList_inj.1 this]
/-- A command of these cells. -/
def cmdOf (V S : Int) (T L D : ByteArray) (E : Bool) : CmdA := ⟨V, T.data.toList, ⟨L.data.toList, D.data.toList⟩, S, E⟩
theorem cmdOf_V (V S : Int) (T L D : ByteArray) (E : Bool) : cmdV (cmdOf V S T L D E) = .agg #[.int .i64 V, .string T, .string L, .string D, .int .i64 S, .bool E] := by
  rw [cmdV, cmdZ, cmdOf]
  simp only
  rw [ba_of, ba_of, ba_of]
theorem cmdReads_walkX (C : CmdC) (s : ByteArray) (h : s.size ≤ maxLen) (W : World) (hTb : Tb W) :
    Calls Tryz.prog 3 #[.string s] W fun e w' => e = .returned (.bool true) ∧ Below W.heap.size W w' := cmdReads_walk C s h W hTb
theorem cmdWrites_walkX (C : CmdC) (V S : Int) (T L D : ByteArray) (E : Bool) (W : World) (hTb : Tb W) (hi : I64 S) :
    Calls Tryz.prog 4 #[.agg #[.int .i64 V, .string T, .string L, .string D, .int .i64 S, .bool E]] W fun e w' => e = .returned (.bool true) ∧ Below W.heap.size W w' := by
  have := cmdWrites_walk C (cmdOf V S T L D E) W hTb hi
  rwa [cmdOf_V] at this
theorem cmdBack_walkX (C : CmdC) (V S : Int) (T L D : ByteArray) (E : Bool) (s : ByteArray) (_ : s.size ≤ maxLen) (W : World) (hTb : Tb W) (hi : I64 S) :
    Calls Tryz.prog 6 #[.agg #[.int .i64 V, .string T, .string L, .string D, .int .i64 S, .bool E], .string s] W fun e w' => e = .returned (.bool true) ∧ Below W.heap.size W w' := by
  have := cmdBack_walk C (cmdOf V S T L D E) s W hTb hi
  rwa [cmdOf_V] at this
theorem cmdReplies_walkX (C : CmdC) (code : Int) (a : Option Addr) (len cap : Nat) (ss : List ByteArray) (W : World) (hTb : Tb W) (ht : IsTexts W a len cap ss) :
    Calls Tryz.prog 5 #[.int .i64 code, .slice a len cap] W fun e w' => e = .returned (.bool true) ∧ Below W.heap.size W w' :=
  cmdReplies_walk C code a len cap (lsB ss) W hTb (by rw [bas_lsB]; exact ht)
theorem cmdLetters_walkX (C : CmdC) (V S : Int) (T L D : ByteArray) (E : Bool) (a : Option Addr) (len cap : Nat) (zs : List Bool) (u : Int) (W : World) (hTb : Tb W) (hi : I64 S) (hz : IsBls W a len cap zs) (h0 : 0 ≤ u) (h1 : u < 256) :
    Calls Tryz.prog 7 #[.agg #[.int .i64 V, .string T, .string L, .string D, .int .i64 S, .bool E], .slice a len cap, .int .u8 u] W fun e w' => e = .returned (.bool true) ∧ Below W.heap.size W w' := by
  obtain ⟨sp, rfl⟩ : ∃ sp : Nat, u = sp := ⟨u.toNat, by omega⟩
  have := cmdLetters_walk C (cmdOf V S T L D E) a len cap zs sp W hTb hi hz (by omega)
  rwa [cmdOf_V] at this
end Go.Proofs.YtahbbnimoogapaaGreatDoor
namespace Go.Proofs.YtahbbnimoogapaaGreatDoor
open Go.RowKit Go.WideShapes Go.ChangeShapes

theorem cellsCReply : Tryz.prog.cellsOf 46 = 2 := by kernel_rfl
theorem cellsCStrs : Tryz.prog.cellsOf 41 = 1 := by kernel_rfl
set_option maxRecDepth 100000 in
theorem open_reply {H : Type} {enc : TypeId × Value → H} {w : World} {r : Reach} {b0 : Nat} {v : Value} {d : DataW H} {p : List MemPlace}
    (hval : Value.okWide Tryz.prog w r b0 46 v) (h : DataW.Trod enc Tryz.prog w 0 (fun _ => true) true 46 v d p) (hsz : ∀ n ∈ d.weights Tryz.prog 46, n ≤ reachBytes) :
    ∃ (code : Int) (a : Option Addr) (len cap : Nat) (ss : List ByteArray), v = .agg #[.int .i64 code, .slice a len cap] ∧ IsTexts w a len cap ss := by
  simp only [Value.okWide, Tryz.underlying46] at hval
  obtain ⟨cs, rfl, hs, _⟩ := hval
  obtain ⟨fuel, hf⟩ := h
  obtain ⟨xs, n, rfl, hx, hl, hxl, hff⟩ := DataW.trod_struct Tryz.underlying46 hf
  have hl2 : cs.toList.length = 2 := hl.trans cellsCReply
  have hx2 : xs.length = 2 := hxl
  obtain ⟨c0, c1, hcs⟩ : ∃ c0 c1, cs = #[c0, c1] := by
    obtain ⟨l⟩ := cs
    match l, hl2 with
    | [c0, c1], _ => exact ⟨c0, c1, rfl⟩
  subst hcs
  have h0 : DataW.trod enc Tryz.prog w 0 (fun _ => true) true n 3 (([c0, c1].drop 0).take (Tryz.prog.cellsOf 3)) = xs[0]? := hff 0 _ rfl
  have h1 : DataW.trod enc Tryz.prog w 0 (fun _ => true) true n 41 (([c0, c1].drop 1).take (Tryz.prog.cellsOf 41)) = xs[1]? := hff 1 _ rfl
  simp only [cellsCInt, cellsCStrs, List.drop_zero, List.drop_succ_cons, List.take_succ_cons, List.take_zero] at h0 h1
  obtain ⟨x0, x1, rfl⟩ : ∃ x0 x1, xs = [x0, x1] := by
    match xs, hx2 with
    | [x0, x1], _ => exact ⟨x0, x1, rfl⟩
  obtain ⟨code, e0, e0x, w0⟩ := DataW.trod_int Tryz.underlying3 (show _ = some x0 from h0)
  simp only [List.cons.injEq, and_true] at e0
  subst e0
  simp only [Prod.mk.injEq] at hx
  rcases open_strings Tryz.underlying41 Tryz.underlying9 cellsCStr (show _ = some x1 from h1) with ⟨hcs, _⟩ | ⟨x, l, c, ss, hcs, _, hlc, hm, hz, hx1, hcell, _⟩
  · simp at hcs
    subst hcs
    exact ⟨code, none, 0, 0, [], rfl, .inl ⟨rfl, rfl, rfl, rfl⟩⟩
  · simp at hcs
    subst hcs
    simp only [if_true] at hz
    refine ⟨code, _, _, _, ss.take l, rfl, .inr ⟨x, rfl, hlc, hm, by rw [List.length_take]; omega, fun i hi => ?_, fun s hs => ?_⟩⟩
    · rw [hcell i (by omega)]
      simp only [List.getD_eq_getElem?_getD, List.getElem?_take, if_pos hi]
    · have hw : s.size ∈ d.weights Tryz.prog 46 := by
        rw [hx.1, hx1]
        simp only [List.map_cons, List.map_nil, DataW.weights, Tryz.underlying46]
        refine DataW.weights_mem_each (j := 1) rfl rfl _ ?_
        simp only [DataW.weights, Tryz.underlying41, List.mem_cons, List.mem_append]
        exact .inr (.inl (weights_strs Tryz.prog 9 (ss.take l) s hs))
      have := hsz _ hw
      have hr : reachBytes < 2 ^ 47 := reachBytes_lt
      omega
end Go.Proofs.YtahbbnimoogapaaGreatDoor
namespace Go.Proofs.YtahbbnimoogapaaGreatDoor
open Go.RowKit

theorem cmdB : CmdB where
  write := fun c h0 h1 h2 hS w ht => lwriteC_any c h0 h1 h2 hS w ht
  parse := fun s hs w ht => by
    have h := lparseC_any s.data.toList (by have : s.data.toList.length = s.size := by simp
                                            omega) w ht
    rwa [ba_of] at h
  lines := fun code a len cap L hl hx w ht h => llines_any code a len cap L hl hx w ht h
  readReply := fun a len cap L hl hx w ht h => lreadReply_any a len cap L hl hx w ht h
  whole := fun a len cap L hl hx w h => (lwhole_any a len cap L hl hx w h).mono fun _ _ hh => ⟨hh.1, by rw [hh.2]; exact Below.refl _ _⟩
  class' := fun n w => (lclass_any n w).mono fun _ _ hh => ⟨hh.1, by rw [hh.2]; exact Below.refl _ _⟩
theorem cmdC : CmdC := { cmdB with awake := fun w h => awake10_walk cmdB w h }
theorem cmdReads_walkK (s : ByteArray) (h : s.size ≤ maxLen) (W : World) (hTb : Tb W) : Calls Tryz.prog 3 #[.string s] W fun e w' => e = .returned (.bool true) ∧ Below W.heap.size W w' := cmdReads_walkX cmdC s h W hTb
theorem cmdWrites_walkK (V S : Int) (T L D : ByteArray) (E : Bool) (hi : I64 S) (W : World) (hTb : Tb W) : Calls Tryz.prog 4 #[.agg #[.int .i64 V, .string T, .string L, .string D, .int .i64 S, .bool E]] W fun e w' => e = .returned (.bool true) ∧ Below W.heap.size W w' := cmdWrites_walkX cmdC V S T L D E W hTb hi
theorem cmdBack_walkK (V S : Int) (T L D : ByteArray) (E : Bool) (s : ByteArray) (hi : I64 S) (h : s.size ≤ maxLen) (W : World) (hTb : Tb W) : Calls Tryz.prog 6 #[.agg #[.int .i64 V, .string T, .string L, .string D, .int .i64 S, .bool E], .string s] W fun e w' => e = .returned (.bool true) ∧ Below W.heap.size W w' := cmdBack_walkX cmdC V S T L D E s h W hTb hi
theorem cmdReplies_walkK (code : Int) (a : Option Addr) (len cap : Nat) (ss : List ByteArray) (W : World) (_ : (Lit.int .i64 code).wf = true) (ht : IsTexts W a len cap ss) (hTb : Tb W) : Calls Tryz.prog 5 #[.int .i64 code, .slice a len cap] W fun e w' => e = .returned (.bool true) ∧ Below W.heap.size W w' := cmdReplies_walkX cmdC code a len cap ss W hTb ht
theorem cmdLetters_walkK (V S : Int) (T L D : ByteArray) (E : Bool) (a : Option Addr) (len cap : Nat) (zs : List Bool) (u : Int) (W : World) (hi : I64 S) (hz : IsBls W a len cap zs) (hu : (Lit.int .u8 u).wf = true) (hTb : Tb W) : Calls Tryz.prog 7 #[.agg #[.int .i64 V, .string T, .string L, .string D, .int .i64 S, .bool E], .slice a len cap, .int .u8 u] W fun e w' => e = .returned (.bool true) ∧ Below W.heap.size W w' := by
  simp only [Lit.wf, Bool.and_eq_true, decide_eq_true_eq] at hu
  exact cmdLetters_walkX cmdC V S T L D E a len cap zs u W hTb hi hz hu.1 (Int.lt_of_le_of_lt hu.2 (by decide))
theorem cmdLines_walkK (code : Int) (a : Option Addr) (len cap : Nat) (ss : List ByteArray) (b : Option Addr) (len2 cap2 : Nat) (tt : List ByteArray) (W : World) (ht : IsTexts W a len cap ss) (hm : IsTexts W b len2 cap2 tt) (hTb : Tb W) : Calls Tryz.prog 8 #[.agg #[.int .i64 code, .slice a len cap], .slice b len2 cap2] W fun e w' => e = .returned (.bool true) ∧ Below W.heap.size W w' := cmdLines_walkX cmdC code a len cap ss b len2 cap2 tt W hTb ht hm
end Go.Proofs.YtahbbnimoogapaaGreatDoor
