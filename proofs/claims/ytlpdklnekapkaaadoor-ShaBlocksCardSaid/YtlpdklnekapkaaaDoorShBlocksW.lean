/- ShaBlocks: the law's walk: the text's blocks and its padding's, mixed one after the other, tell what Sum tells; for every text. -/
import Derived.Test.YtlpdklnekapkaaaDoorSh11
import Derived.Test.YtlpdklnekapkaaaDoorOctR
import Derived.Deep.DeepCutAuto
namespace Go.Proofs.YtlpdklnekapkaaaDoor
open Go.RowKit

/-- The law's memory ahead of a block. -/
def BlkRel (w : World) (gs : Nat) (S : S8) (wr : World) : Prop :=
  Arr wr gs S.cells 27 ∧ Tab wr ∧ w.heap.size ≤ gs ∧ Below w.heap.size w wr
def BlkCut (w : World) (gs : Nat) (S M : S8) (s6 s7 : Value) (wx : World) : Prop :=
  ∃ g, s6 = .pointer (some ⟨g, 0, none⟩) ∧ s7 = .int .i64 0 ∧ Arr wx g M.cells 27 ∧ gs ≠ g ∧ BlkRel w gs S wx
theorem blk_a {w w1 w3 : World} {gs : Nat} {S M : S8} (h : BlkRel w gs S w1) (hb : Below w1.drew.heap.size w1.drew w3) :
    BlkCut w gs S M (.pointer (some ⟨w3.heap.size, 0, none⟩)) (.int .i64 0) (w3.alloc (.cells #[.int .u32 (M.a : Int), .int .u32 (M.b : Int), .int .u32 (M.c : Int), .int .u32 (M.d : Int), .int .u32 (M.e : Int), .int .u32 (M.f : Int), .int .u32 (M.g : Int), .int .u32 (M.h : Int)] 27)) := by
  obtain ⟨h1, h2, h3, h4⟩ := h
  have h6 : Below w.heap.size w w3 := (h4.drew).trans (hb.mono h4.size)
  have l1 := (h1.drew.next hb).lt
  exact ⟨w3.heap.size, rfl, rfl, Arr.new w3 M.cells _, by omega, (h1.drew.next hb).alloc _, (h2.drew.next hb).alloc _, h3, h6.alloc h6.size _⟩
theorem blk_b {w w1 w3 : World} {gs : Nat} {S M : S8} (h : BlkRel w gs S w1) (hb : Below (World.drew (w1.alloc (.cells #[.int .u32 0, .int .u32 0, .int .u32 0, .int .u32 0, .int .u32 0, .int .u32 0, .int .u32 0, .int .u32 0] 27))).heap.size (World.drew (w1.alloc (.cells #[.int .u32 0, .int .u32 0, .int .u32 0, .int .u32 0, .int .u32 0, .int .u32 0, .int .u32 0, .int .u32 0] 27))) w3) :
    BlkCut w gs S M (.pointer (some ⟨w1.heap.size, 0, none⟩)) (.int .i64 0) (World.setCell (World.setCell (World.setCell (World.setCell (World.setCell (World.setCell (World.setCell (World.setCell w3 ⟨w1.heap.size, 0, none⟩ (.int .u32 (M.a : Int))) ⟨w1.heap.size, 1, none⟩ (.int .u32 (M.b : Int))) ⟨w1.heap.size, 2, none⟩ (.int .u32 (M.c : Int))) ⟨w1.heap.size, 3, none⟩ (.int .u32 (M.d : Int))) ⟨w1.heap.size, 4, none⟩ (.int .u32 (M.e : Int))) ⟨w1.heap.size, 5, none⟩ (.int .u32 (M.f : Int))) ⟨w1.heap.size, 6, none⟩ (.int .u32 (M.g : Int))) ⟨w1.heap.size, 7, none⟩ (.int .u32 (M.h : Int))) := by
  obtain ⟨h1, h2, h3, h4⟩ := h
  have hs : (World.drew (w1.alloc (.cells #[.int .u32 0, .int .u32 0, .int .u32 0, .int .u32 0, .int .u32 0, .int .u32 0, .int .u32 0, .int .u32 0] 27))).heap.size = w1.heap.size + 1 := by show (w1.heap.push _).size = _; simp
  have hB3 : Below w.heap.size w w3 := ((h4.alloc h4.size _).drew).trans (hb.mono (by rw [hs]; have := h4.size; omega))
  have l1 := h1.lt
  have l2 := h2.lt
  refine ⟨w1.heap.size, rfl, rfl, set8 (s := zeroS) (zeros_next hb) M, by omega, set8_other ((h1.alloc _).drew.next hb) (by omega) M, ?_, h3, set8_below hB3 h4.size M⟩
  exact (((h2.alloc _).drew).next hb).below (B := w1.heap.size) (set8_below (Below.refl w1.heap.size w3) (Nat.le_refl _) M) l2

theorem nth_cell (s : S8) (k : Nat) (h : k < 8) : s.cells[k]? = some (.int .u32 ((s.nth k : Nat) : Int)) := by
  match k, h with
  | 0, _ => rfl
  | 1, _ => rfl
  | 2, _ => rfl
  | 3, _ => rfl
  | 4, _ => rfl
  | 5, _ => rfl
  | 6, _ => rfl
  | 7, _ => rfl

set_option maxHeartbeats 4000000 in
theorem blocks_main (t : ByteArray) (w : World) (htab : Tab w) :
    Calls Tryd.prog 6 #[.string t] w fun e w' => e = .returned (.bool true) ∧ Below w.heap.size w w' := by
  have HA := Lib.hid (awake_any _ htab)
  have HT := Lib.hid htab
  by_cases hbig : 4096 < t.size
  · go_enter Tryd.func6, Tryd.ntmps6
    go_wp2_with (go_at_call 9; (with_reducible refine HA.out.mono ?_); rintro e w1 ⟨rfl, hb1⟩)
    go_ret
    exact ⟨rfl, hb1⟩
  · have hpad := pad_any t.size (by omega)
    obtain ⟨X, hX⟩ : ∃ X : ByteArray, X = ⟨(padL t.size).toArray⟩ := ⟨_, rfl⟩
    have hXs : X.size = padZ t.size + 9 := by rw [hX]; show (padL t.size).toArray.size = _; rw [List.size_toArray, padL_len]
    have hz := padZ_lt t.size
    have hzd : padZ t.size = (119 - t.size % 64) % 64 := rfl
    rw [← hX] at hpad
    have HPad := Lib.hid hpad
    have hsum := sum_any t (by omega)
    obtain ⟨D, hD⟩ : ∃ D : ByteArray, D = ⟨(shaL t.data.toList).toArray⟩ := ⟨_, rfl⟩
    rw [← hD] at hsum
    have HS := Lib.hid hsum
    have hrun : ∀ w : World, (Op.stringOp .add t X).run Tryd.prog w = .ok (.string (t ++ X)) w := fun w => cat_run t X (by omega) w
    obtain ⟨ALL, hALL⟩ : ∃ ALL, ALL = t ++ X := ⟨_, rfl⟩
    have hAs : ALL.size = t.size + X.size := by rw [hALL, ByteArray.size_append]
    have hAl : ALL.data.toList = t.data.toList ++ padL t.size := by rw [hALL, hX]; simp
    rw [← hALL] at hrun
    obtain ⟨q, hq⟩ : ∃ q, ALL.size = 64 * q := ⟨ALL.size / 64, by omega⟩
    have hq2 : q ≤ 70 := by omega
    have hfin : outL (mixN firstS ALL.data.toList q) = shaL t.data.toList := by
      rw [hAl, shaL]
      have : (t.data.toList ++ padL t.size).length / 64 = q := by rw [← hAl, show ALL.data.toList.length = ALL.size by simp]; omega
      rw [show padL t.data.toList.length = padL t.size by simp, this]
    have HFIN := Lib.hid hfin
    have HD := Lib.hid hD
    have hm : ((ALL.size : Int) % 64 == 0) = true := by rw [hq]; simp
    have HF := Lib.hid first_any
    have HAs := Lib.hid hAs
    have HQ := Lib.hid hq
    clear htab hpad hX hXs hz hzd hsum hD hALL hAl hfin hAs
    have hb0 : ¬ 4096 < t.size := hbig
    go_enter Tryd.func6, Tryd.ntmps6
    go_wp2_with (first
      | (go_at_call 9; (with_reducible refine HA.out.mono ?_); rintro e wa ⟨rfl, hb1⟩; have HT1 := Lib.hid (HT.out.next hb1))
      | (go_at_call 16; (with_reducible refine (HPad.out _).mono ?_); rintro e wb ⟨rfl, hb2⟩; have HT2 := Lib.hid (HT1.out.next hb2); have hb12 := hb1.trans (hb2.mono hb1.size))
      | (go_at_call 15; (with_reducible refine (HF.out _).mono ?_); rintro e wf ⟨rfl, hb3⟩; have HT3 := Lib.hid (HT2.out.next hb3); have hb13 := hb12.trans (hb3.mono hb12.size))
      | (with_reducible refine wpList_store8_new rfl _ _ rfl _ (by simp) rfl _ rfl (cells_size firstS) (cells_one firstS) ?_))
    have HGT := Lib.hid (show 0 < wf.heap.size from HT3.out.lt)
    have hrel0 : BlkRel w wf.heap.size firstS (wf.alloc (.cells firstS.cells 27)) := ⟨Arr.new wf _ _, HT3.out.alloc _, hb13.size, hb13.alloc hb13.size _⟩
    have HR0 := Lib.hid hrel0
    clear hrel0 hb1 hb2 hb3 hb12 hb13 HT1 HT2 HT3 HT HA HPad HF
    generalize wf.alloc (.cells firstS.cells 27) = w4 at *
    generalize wf.heap.size = gs at *
    have HQ2 := Lib.hid hq2
    clear hq2
    go_loopw [5] (fun i wr => ∃ k : Nat, k ≤ q ∧ i = .int .i64 (64 * (k : Int)) ∧ BlkRel w gs (mixN firstS ALL.data.toList k) wr) (fun i _ => 64 * q - (intOf i).toNat)
    case atStart => exact ⟨0, by omega, by simp, HR0.out⟩
    case round =>
      clear HR0
      obtain ⟨k, hk, rfl, hrel⟩ := hrel
      have hq71 := HQ2.out
      by_cases hlt : k < q
      · have hj64 : IntKind.i64.wrap (64 * (k : Int) + 64) = ((64 * k + 64 : Nat) : Int) := by rw [IntWalk.i64_in _ (by omega)]; omega
        have hsl := fun w => slice_str ALL (64 * (k : Int)) (IntKind.i64.wrap (64 * (k : Int) + 64)) (64 * k) (64 * k + 64) (by omega) hj64 (by omega) (by omega) w
        obtain ⟨B, hB⟩ : ∃ B, B = ALL.extract (64 * k) (64 * k + 64) := ⟨_, rfl⟩
        have hBs : B.size = 64 := by rw [hB, ext_size _ _ _ (by omega)]; omega
        have hMk : mixS (mixN firstS ALL.data.toList k) B.data.toList = mixN firstS ALL.data.toList (k + 1) := by rw [hB, blk_eq]; rfl
        rw [← hB] at hsl
        have hsok := mixN_ok firstS_ok ALL.data.toList k
        obtain ⟨S, hS⟩ : ∃ S, S = mixN firstS ALL.data.toList k := ⟨_, rfl⟩
        obtain ⟨M, hM⟩ : ∃ M, M = mixN firstS ALL.data.toList (k + 1) := ⟨_, rfl⟩
        rw [← hS] at hsok hMk hrel
        rw [← hM] at hMk
        have cm : ∀ wr : World, Tab wr → Calls Tryd.prog 12 #[.agg #[.int .u32 (S.a : Int), .int .u32 (S.b : Int), .int .u32 (S.c : Int), .int .u32 (S.d : Int), .int .u32 (S.e : Int), .int .u32 (S.f : Int), .int .u32 (S.g : Int), .int .u32 (S.h : Int)], .string B] wr fun e w' => e = .returned (.tuple #[.agg #[.int .u32 (M.a : Int), .int .u32 (M.b : Int), .int .u32 (M.c : Int), .int .u32 (M.d : Int), .int .u32 (M.e : Int), .int .u32 (M.f : Int), .int .u32 (M.g : Int), .int .u32 (M.h : Int)], .int .i64 0]) ∧ Below wr.heap.size wr w' := fun wr ht =>
          (Mix_any S hsok B wr ht).mono fun _ _ ⟨h, k⟩ => ⟨h.trans (by rw [mixR, if_pos hBs, mixE, if_pos hBs, hMk]; rfl), k⟩
        have CM := Lib.hid cm
        have HM := Lib.hid hM
        have hcells := hrel.1
        have hlb := hcells.lt
        have c0 : wr.cell? ⟨gs, 0, none⟩ = some (.int .u32 (S.a : Int)) := hcells.cell (j := 0) rfl
        have c1 : wr.cell? ⟨gs, 1, none⟩ = some (.int .u32 (S.b : Int)) := hcells.cell (j := 1) rfl
        have c2 : wr.cell? ⟨gs, 2, none⟩ = some (.int .u32 (S.c : Int)) := hcells.cell (j := 2) rfl
        have c3 : wr.cell? ⟨gs, 3, none⟩ = some (.int .u32 (S.d : Int)) := hcells.cell (j := 3) rfl
        have c4 : wr.cell? ⟨gs, 4, none⟩ = some (.int .u32 (S.e : Int)) := hcells.cell (j := 4) rfl
        have c5 : wr.cell? ⟨gs, 5, none⟩ = some (.int .u32 (S.f : Int)) := hcells.cell (j := 5) rfl
        have c6 : wr.cell? ⟨gs, 6, none⟩ = some (.int .u32 (S.g : Int)) := hcells.cell (j := 6) rfl
        have c7 : wr.cell? ⟨gs, 7, none⟩ = some (.int .u32 (S.h : Int)) := hcells.cell (j := 7) rfl
        have HTa := Lib.hid hrel.2.1.drew
        have HTb := Lib.hid ((hrel.2.1.alloc (.cells #[.int .u32 0, .int .u32 0, .int .u32 0, .int .u32 0, .int .u32 0, .int .u32 0, .int .u32 0, .int .u32 0] 27)).drew)
        have HR := Lib.hid hrel
        clear hrel hcells cm hj64 hB hBs hMk hsok hS hM
        go_wp2
        go_cut [6, 7] (fun s6 s7 wx => BlkCut w gs S M s6 s7 wx)
        case first =>
          go_region_with (first
            | (go_at_call 12; (with_reducible refine (CM.out _ HTa.out).mono ?_); rintro e w3 ⟨rfl, hb⟩)
            | (go_at_call 12; (with_reducible refine (CM.out _ HTb.out).mono ?_); rintro e w3 ⟨rfl, hb⟩; have hz := zeros_next hb; have n0 : w3.cell? ⟨wr.heap.size, 0, none⟩ = some (.int .u32 0) := hz.cell (j := 0) rfl; have n1 : w3.cell? ⟨wr.heap.size, 1, none⟩ = some (.int .u32 0) := hz.cell (j := 1) rfl; have n2 : w3.cell? ⟨wr.heap.size, 2, none⟩ = some (.int .u32 0) := hz.cell (j := 2) rfl; have n3 : w3.cell? ⟨wr.heap.size, 3, none⟩ = some (.int .u32 0) := hz.cell (j := 3) rfl; have n4 : w3.cell? ⟨wr.heap.size, 4, none⟩ = some (.int .u32 0) := hz.cell (j := 4) rfl; have n5 : w3.cell? ⟨wr.heap.size, 5, none⟩ = some (.int .u32 0) := hz.cell (j := 5) rfl; have n6 : w3.cell? ⟨wr.heap.size, 6, none⟩ = some (.int .u32 0) := hz.cell (j := 6) rfl; have n7 : w3.cell? ⟨wr.heap.size, 7, none⟩ = some (.int .u32 0) := hz.cell (j := 7) rfl; have nf := hz.frozen))
          all_goals
            go_wp2_with fail
            go_meet
            first
              | with_reducible exact blk_a HR.out hb
              | with_reducible exact blk_b HR.out hb
        case rest =>
        obtain ⟨g, rfl, rfl, hgM, hne, hrel⟩ := hcut
        have HG := Lib.hid hgM
        have HC := Lib.hid hrel
        have HCS := Lib.hid hrel.1
        clear c0 c1 c2 c3 c4 c5 c6 c7 HTa HTb hlb HR hgM hrel
        go_wp2_with (first
          | (with_reducible refine wpList_load8 rfl _ rfl g rfl _ (cells_size M) HG.out ?_)
          | (with_reducible refine wpList_store8 rfl _ _ rfl gs rfl _ rfl (cells_size M) (cells_one M) _ (cells_size S) HCS.out ?_))
        go_roundw
        case rel =>
          have h1 := HC.out
          have h2 := h1.2.1.lt
          exact ⟨k + 1, hlt, by go_num, by rw [← HM.out]; exact ⟨h1.1.row _, h1.2.1.row _ _ (by have := HGT.out; omega), h1.2.2.1, below_setRow h1.2.2.2 h1.2.2.1 _⟩⟩
        case measure => simp [intOf]; omega
      · obtain rfl : k = q := by omega
        have hsok := mixN_ok firstS_ok ALL.data.toList k
        obtain ⟨S, hS⟩ : ∃ S, S = mixN firstS ALL.data.toList k := ⟨_, rfl⟩
        have hfin := HFIN.out
        rw [← hS] at hsok hrel hfin
        have HFN := Lib.hid hfin
        have HOK := Lib.hid hsok
        have HR := Lib.hid hrel
        clear hS hsok hfin hrel HFIN
        go_wp2_with fail
        go_loopw [8, 45] (fun o i wr => ∃ j : Nat, j ≤ 8 ∧ i = .int .i64 (j : Int) ∧ (∃ OB : ByteArray, o = .string OB ∧ OB = ⟨(outN S j).toArray⟩) ∧ BlkRel w gs S wr) (fun _ i _ => 8 - (intOf i).toNat)
        case atStart => exact ⟨0, by omega, rfl, ⟨_, rfl, rfl⟩, HR.out⟩
        case round =>
          clear HR
          obtain ⟨j, hj, rfl, ⟨OB, rfl, hOB⟩, hrel⟩ := hrel
          have HRL := Lib.hid hrel
          have HS8 := Lib.hid hrel.1
          clear hrel
          by_cases hlt8 : j < 8
          · have hcj : wr.cell? ⟨gs, j, none⟩ = some (.int .u32 ((S.nth j : Nat) : Int)) := HS8.out.cell (nth_cell S j hlt8)
            have hx := nth_lt HOK.out j
            have hhi := rhigh_any (S.nth j) (by omega) 4
            obtain ⟨Y, hY⟩ : ∃ Y : ByteArray, Y = ⟨(lowL (S.nth j) (toldN 4)).reverse.toArray⟩ := ⟨_, rfl⟩
            rw [← hY, ← u64_of_u32 _ hx] at hhi
            have HHI := Lib.hid hhi
            have hY4 := highB_size _ _ Y hY
            rw [show toldN 4 = 4 from rfl] at hY4
            have hN := outN_succ S j Y hY
            have hOs : OB.size = 4 * j := by rw [hOB]; show (outN S j).toArray.size = _; rw [List.size_toArray, outN_len]
            have hrun2 : ∀ w : World, (Op.stringOp .add OB Y).run Tryd.prog w = .ok (.string (OB ++ Y)) w := fun w => cat_run OB Y (by omega) w
            have hnext : OB ++ Y = ⟨(outN S (j + 1)).toArray⟩ := by
              rw [hN, hOB]; apply ByteArray.ext; simp
            obtain ⟨O2, hO2⟩ : ∃ O2, O2 = OB ++ Y := ⟨_, rfl⟩
            rw [← hO2] at hrun2 hnext
            have HNX := Lib.hid hnext
            clear hhi hY hY4 hN hOs hO2 hnext hOB hx
            generalize S.nth j = x at *
            go_wp2_with (first
              | (go_at_call 22; (with_reducible refine (HHI.out _).mono ?_); rintro e w5 ⟨rfl, hb5⟩))
            go_roundw
            case rel =>
              have h := HRL.out
              exact ⟨j + 1, hlt8, by go_num, ⟨O2, rfl, HNX.out⟩, ⟨h.1.next hb5, h.2.1.next hb5, h.2.2.1, h.2.2.2.trans (hb5.mono h.2.2.2.size)⟩⟩
            case measure => simp [intOf]; omega
          · obtain rfl : j = 8 := by omega
            obtain rfl : OB = D := by rw [hOB, HD.out, ← HFN.out, outN_full]
            have HTT := Lib.hid HRL.out.2.1
            have HBB := Lib.hid HRL.out.2.2.2
            clear hOB HRL HS8
            go_wp2_with (go_at_call 10; (with_reducible refine (HS.out _ HTT.out).mono ?_); rintro e w6 ⟨rfl, hb6⟩)
            go_ret
            exact ⟨rfl, HBB.out.trans (hb6.mono HBB.out.size)⟩

theorem shaBlocks_walk (a0 : ByteArray) (_ : a0.size ≤ maxLen) (W : World) (htab : Tab W) :
    Calls Tryd.prog 6 #[.string a0] W fun e w' => e = .returned (.bool true) ∧ Below W.heap.size W w' := blocks_main a0 W htab
end Go.Proofs.YtlpdklnekapkaaaDoor
