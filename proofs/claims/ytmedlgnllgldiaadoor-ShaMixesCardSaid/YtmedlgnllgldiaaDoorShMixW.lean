/- ShaMixes: the law's walk. -/
import Derived.Test.YtmedlgnllgldiaaDoorShM
import Derived.Deep.RegionHeld3
namespace Go.Proofs.YtmedlgnllgldiaaDoor
open Go.RowKit

theorem elem8 : Tryd.prog.elem 45 = 43 := by kernel_rfl
theorem arr8_all (g : Nat) (w : World) :
    (Instr.sliceAt 45 (.pointer (some ⟨g, 0, none⟩)) none none none).run Tryd.prog w = .ok (.slice (some ⟨g, 0, none⟩) 8 8) w := by
  rw [run_sliceAt_array_all w 45 _ arrOf8, elem8, Tryd.sizeOf43, len8]
  simp only [Result.andThen, slicedAt]
  rw [if_neg (by omega), Nat.zero_mul, addr_add]
/-- What the law knows while it holds the numbers against each other. -/
def RelX (R : S8) (w : World) (ga gb gf : Nat) (wr : World) : Prop :=
  Arr wr ga R.cells 45 ∧ Arr wr gb R.cells 43 ∧ Arr wr gf firstS.cells 43 ∧ Below w.heap.size w wr
theorem RelX.next {R : S8} {w : World} {ga gb gf : Nat} {wr w' : World} (h : RelX R w ga gb gf wr) (hb : Below wr.heap.size wr w') : RelX R w ga gb gf w' :=
  ⟨h.1.next hb, h.2.1.next hb, h.2.2.1.next hb, Below_next h.2.2.2 hb⟩
theorem RelX.drew {R : S8} {w : World} {ga gb gf : Nat} {wr : World} (h : RelX R w ga gb gf wr) : RelX R w ga gb gf wr.drew := ⟨h.1.drew, h.2.1.drew, h.2.2.1.drew, h.2.2.2.drew⟩
theorem RelX.cells {R : S8} {w : World} {ga gb gf : Nat} {wr : World} (h : RelX R w ga gb gf wr) (k : Nat) (hk : k < 8) :
    wr.cell? ⟨ga, k, none⟩ = some (.int .u32 ((R.nth k : Nat) : Int)) ∧ wr.cell? ⟨gb, k, none⟩ = some (.int .u32 ((R.nth k : Nat) : Int)) ∧ wr.cell? ⟨gf, k, none⟩ = some (.int .u32 ((firstS.nth k : Nat) : Int)) :=
  ⟨h.1.cell (nth_cellR R k hk), h.2.1.cell (nth_cellR R k hk), h.2.2.1.cell (nth_cellR firstS k hk)⟩

set_option maxHeartbeats 2000000 in
set_option maxRecDepth 100000 in
theorem mixes_main (s : S8) (hs : s.ok) (blk : ByteArray) (n : Nat) (hn : n < 18446744073709551616) (w : World) (htab : Tab w) :
    Calls Tryd.prog 10 #[.agg s.cells, .string blk, .int .u64 (n : Int)] w fun e w' => e = .returned (.bool true) ∧ Below w.heap.size w w' := by
  have HA := Lib.hid awake_any
  have HT := Lib.hid htab
  clear htab
  by_cases hbig : 4096 < blk.size
  · go_enter Tryd.func10, Tryd.ntmps10
    go_wp2_with (go_at_call 25; (with_reducible refine (HA.out _ (HT.out.alloc _)).mono ?_); rintro e w1 ⟨rfl, hb1⟩)
    go_ret
    exact ⟨rfl, Below_next ((Below.refl _ _).alloc (Nat.le_refl _) _) hb1⟩
  · have hsa := arr8_all
    have CM := fun w ht => Mix_any s hs blk w ht
    have CR := fun (ty : TypeId) (g0 : Nat) (w : World) (hA : Arr w g0 s.cells ty) => rMix_any s hs g0 blk w hA
    have hRok := mixR_ok s blk
    obtain ⟨R, hR⟩ : ∃ R, R = mixR s blk := ⟨_, rfl⟩
    obtain ⟨E, hE⟩ : ∃ E, E = mixE blk := ⟨_, rfl⟩
    rw [← hR, ← hE] at CM CR
    rw [← hR] at hRok
    have HCM := Lib.hid CM
    have HCR := Lib.hid CR
    have HF := Lib.hid rfirst_any
    have HZ := Lib.hid (cells_size s)
    clear CM CR hR hE
    go_enter Tryd.func10, Tryd.ntmps10
    go_wp2_with (first
      | (go_at_call 25; (with_reducible refine (HA.out _ (HT.out.alloc _)).mono ?_); rintro e w1 ⟨rfl, hb1⟩; have hA1 := (Arr.new w s.cells 45).next hb1; have HT1 := (HT.out.alloc (.cells s.cells 45)).next hb1; have HB1 := Below_next ((Below.refl _ w).alloc (Nat.le_refl _) (.cells s.cells 45)) hb1)
      | (with_reducible refine wpList_load8 rfl _ rfl w.heap.size rfl _ HZ.out hA1 ?_)
      | (go_at_call 27; (with_reducible refine (HCM.out _ HT1).mono ?_); rintro e w2 ⟨rfl, hb2⟩; have hA2 := hA1.next hb2; have HT2 := HT1.next hb2; have HB2 := Below_next HB1 hb2)
      | (with_reducible refine wpList_store8_new rfl _ _ rfl _ (by simp) rfl _ rfl (cells_size R) (cells_one R) ?_))
    refine (HCR.out _ w.heap.size _ (hA2.alloc _)).mono ?_
    rintro e w4 ⟨⟨gb, rfl, hgb, hB4⟩, hb4⟩
    have hA4 := (Arr.new w2 R.cells 45).next hb4
    have HB4 := Below_next (HB2.alloc HB2.size (.cells R.cells 45)) hb4
    clear hA1 hA2 hb1 hb2 HB1 HB2 hb4
    go_wp2_with fail
    refine (HF.out _).mono ?_
    rintro e w5 ⟨⟨gf, rfl, hgf, hF5⟩, hb5⟩
    have HR5 := Lib.hid (show RelX R w w2.heap.size gb gf w5 from ⟨hA4.next hb5, hB4.next hb5, hF5, Below_next HB4 hb5⟩)
    clear hA4 hB4 hF5 HB4 hb5 hgb hgf HT1 HT2
    generalize w2.heap.size = ga at *
    have HFA := Lib.hid first_any
    have HP1 := Lib.hid (fun w => pad_any n hn w)
    have HP2 := Lib.hid (fun w => rpad_any n hn w)
    go_wp2_with fail
    go_loopw [31] (fun i wr => ∃ k : Nat, k ≤ 8 ∧ i = .int .i64 (k : Int) ∧ RelX R w ga gb gf wr) (fun i _ => 8 - (intOf i).toNat)
    case atStart => exact ⟨0, by omega, rfl, HR5.out⟩
    case round =>
      clear HR5
      obtain ⟨k, hk, rfl, hrel⟩ := hrel
      by_cases hlt : k < 8
      · have hix := index_st firstS k hlt
        have HC := Lib.hid (fun (w' : World) (h : RelX R w ga gb gf w') => h.cells k hlt)
        have HR := Lib.hid hrel.drew
        have HRR := Lib.hid hrel
        clear hrel
        obtain ⟨c1, c2, c3⟩ := HC.out wr HRR.out
        have HK := Lib.hid hlt
        generalize R.nth k = x at *
        generalize firstS.nth k = y at *
        go_wp2_with fail
        go_region_held3 (fun w' => w'.cell? ⟨ga, k, none⟩ = some (.int .u32 (x : Int)) ∧ w'.cell? ⟨gb, k, none⟩ = some (.int .u32 (x : Int)) ∧ w'.cell? ⟨gf, k, none⟩ = some (.int .u32 (y : Int)))
          (first | with_reducible exact HC.out _ HR.out | with_reducible exact HC.out _ HRR.out | with_reducible exact HC.out _ (HR.out.next hb))
          (first
            | (go_at_call 30; (with_reducible refine (HFA.out _).mono ?_); rintro e w6 ⟨rfl, hb⟩))
        all_goals
          go_wp2
          go_roundw
          case rel => exact ⟨k + 1, HK.out, by go_num, HR.out.next hb⟩
          case measure => simp [intOf]; omega
      · obtain rfl : k = 8 := by omega
        have HB := Lib.hid hrel.2.2.2
        clear hrel
        generalize (⟨(padL n).toArray⟩ : ByteArray) = PD at *
        go_wp2_with (first
          | (go_at_call 31; (with_reducible refine (HP1.out _).mono ?_); rintro e w6 ⟨rfl, hb6⟩)
          | (go_at_call 32; (with_reducible refine (HP2.out _).mono ?_); rintro e w7 ⟨rfl, hb7⟩))
        go_ret
        exact ⟨rfl, Below_next (Below_next HB.out hb6) hb7⟩

theorem shaMixes_walk (a0 : List Int) (a1 : ByteArray) (a2 : Int) (n0 : a0.length = 8) (w0 : ∀ z ∈ a0, (Lit.int .u32 z).wf = true) (_ : a1.size ≤ maxLen) (w2 : (Lit.int .u64 a2).wf = true) (w : World) (htab : Tab w) :
    Calls Tryd.prog 10 #[.agg (a0.map (Value.int .u32)).toArray, .string a1, .int .u64 a2] w fun e w' => e = .returned (.bool true) ∧ Below w.heap.size w w' := by
  obtain ⟨s, hs, e0⟩ := st_of n0 w0
  obtain ⟨h0, h1⟩ := wf_u64 w2
  obtain ⟨n, rfl⟩ : ∃ n : Nat, a2 = (n : Int) := ⟨a2.toNat, by omega⟩
  rw [e0]
  exact mixes_main s hs a1 n (by omega) w htab
end Go.Proofs.YtmedlgnllgldiaaDoor
