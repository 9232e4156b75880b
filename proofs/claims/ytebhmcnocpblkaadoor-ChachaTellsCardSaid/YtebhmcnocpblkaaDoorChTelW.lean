/- ChachaTells: the law's walk. -/
import Derived.Test.YtebhmcnocpblkaaDoorChStrW
import Derived.Test.YtebhmcnocpblkaaDoorChStiW
namespace Go.Proofs.YtebhmcnocpblkaaDoor
open Go.RowKit

theorem arrOf4 : Tryd.prog.underlying 23 = some (.array (Tryd.prog.arrayLen 23) (Tryd.prog.elem 23)) := by kernel_rfl
theorem arrLen4 : Tryd.prog.arrayLen 23 = 4 := by kernel_rfl
theorem arrElem4 : Tryd.prog.elem 23 = 22 := by kernel_rfl
theorem arr4_all (g o : Nat) (w : World) :
    (Instr.sliceAt 23 (.pointer (some ⟨g, o, none⟩)) none none none).run Tryd.prog w = .ok (.slice (some ⟨g, o, none⟩) 4 4) w := by
  rw [run_sliceAt_array_all w 23 _ arrOf4, arrElem4, Tryd.sizeOf22, arrLen4]
  simp only [Result.andThen, slicedAt]
  rw [if_neg (by omega), Nat.zero_mul, addr_add]
  rfl
theorem q4_at (q : Q4) (k : Nat) (h : k < 4) : ∃ x : Nat, q.cells[k]? = some (.int .u32 (x : Int)) := by
  match k, h with
  | 0, _ => exact ⟨_, rfl⟩
  | 1, _ => exact ⟨_, rfl⟩
  | 2, _ => exact ⟨_, rfl⟩
  | 3, _ => exact ⟨_, rfl⟩

set_option maxHeartbeats 1000000 in
set_option maxRecDepth 100000 in
theorem chachaTells_walk (zs : List Int) (key : ByteArray) (c : Int) (nonce : ByteArray) (n0 : zs.length = 4) (w0 : ∀ z ∈ zs, (Lit.int .u32 z).wf = true) (_ : key.size ≤ maxLen) (hc : (Lit.int .u32 c).wf = true) (_ : nonce.size ≤ maxLen) (W : World) (hp : Pl W) :
    Calls Tryd.prog 3 #[.agg (zs.map (Value.int .u32)).toArray, .string key, .int .u32 c, .string nonce] W fun e w' => e = .returned (.bool true) ∧ Below W.heap.size W w' := by
  obtain ⟨hc0, hc1⟩ := wf_u32 hc
  obtain ⟨C, rfl⟩ : ∃ C : Nat, c = (C : Int) := ⟨c.toNat, by omega⟩
  have hC : C < 4294967296 := by omega
  obtain ⟨q, hq, hz⟩ := q4_of zs n0 w0
  rw [hz]
  clear hc0 hc1 hc hz n0 w0 zs
  have HQz := Lib.hid (q4_size q)
  have HSt := Lib.hid (stir_any q hq)
  have HRt := Lib.hid (fun g cap ty w h => rstir_any q hq g cap ty w h)
  have HAt := Lib.hid (q4_at (stirQ q))
  have HZs := Lib.hid (q4_size (stirQ q))
  have HZo := Lib.hid (q4_one (stirQ q))
  have hB1 := fun w hp => block_any key nonce C hC w hp
  have hB2 := fun w => rblock4_any key nonce C hC w
  obtain ⟨S, E, hse⟩ := blkR_form key C nonce
  rw [hse] at hB1 hB2
  have HB1 := Lib.hid hB1
  have HB2 := Lib.hid hB2
  clear hB1 hB2 hse hC hq
  have hp1 := hp.alloc (.cells q.cells 23)
  have HA := Lib.hid (awake4_any _ hp1)
  have HP1 := Lib.hid hp1
  have HQ1 := Lib.hid (Arr.new W q.cells 23)
  have HBel1 := Lib.hid ((Below.refl W.heap.size W).alloc (Nat.le_refl _) (.cells q.cells 23))
  clear hp1 hp
  obtain ⟨QC, hQC⟩ : ∃ QC, QC = q.cells := ⟨_, rfl⟩
  obtain ⟨SC, hSC⟩ : ∃ SC, SC = (stirQ q).cells := ⟨_, rfl⟩
  rw [← hQC] at HQz HSt HA HP1 HQ1 HBel1 ⊢
  rw [← hSC] at HSt HAt HZs HZo
  have HRt2 : Hid (∀ g cap ty w, Arr w g QC ty → Calls Tryd.prog 12 #[.slice (some ⟨g, 0, none⟩) 4 cap] w fun e w' => (∃ g', e = .returned (.slice (some ⟨g', 0, none⟩) 4 4) ∧ Arr w' g' SC 22) ∧ Below w.heap.size w w') := by
    intro g cap ty w h; rw [hSC]; rw [hQC] at h; exact HRt.out g cap ty w h
  have a4 := arr4_all
  clear HRt hQC hSC
  have HL := Lib.hid (fun w => lg4_2 w key nonce)
  generalize largeB [key, nonce] = L at *
  cases L
  · go_enter Tryd.func3, Tryd.ntmps3
    go_wp2_with (first
      | (go_at_call 9; (with_reducible refine HA.out.mono ?_); rintro e w1 ⟨rfl, hb1⟩; have HQ2 := Lib.hid ((HQ1.out.next hb1).alloc (.cells #[.string key, .string nonce] 9)); have HP2 := Lib.hid ((HP1.out.next hb1).alloc (.cells #[.string key, .string nonce] 9)); have HBel2 := Lib.hid ((HBel1.out.trans (hb1.mono (by simp))).alloc (by have := hb1.size; simp at this; omega) (.cells #[.string key, .string nonce] 9)))
      | (go_at_call 10; (with_reducible refine (HL.out _).mono ?_); rintro e w2 ⟨rfl, rfl⟩)
      | (with_reducible refine wpList_load_q4 rfl _ rfl W.heap.size rfl _ HQz.out HQ2.out ?_)
      | (go_at_call 11; (with_reducible refine (HSt.out _).mono ?_); rintro e w3 ⟨rfl, hb3⟩; have HQ3 := Lib.hid ((HQ2.out.next hb3).alloc (.cells SC 23)))
      | (with_reducible refine wpList_store_q4_new rfl _ _ rfl _ rfl _ rfl rfl _ rfl HZs.out HZo.out ?_)
      | (go_at_call 12; (with_reducible refine (HRt2.out _ _ _ _ HQ3.out).mono ?_); rintro e w4 ⟨⟨gb, rfl, hgb⟩, hb4⟩))
    have hA4 := (Arr.new w3 SC 23).next hb4
    have hP4 := ((HP2.out.next hb3).alloc (.cells SC 23)).next hb4
    have hB4 := ((HBel2.out.trans (hb3.mono HBel2.out.size)).alloc (Nat.le_trans HBel2.out.size hb3.size) (.cells SC 23)).trans (hb4.mono (by have := Nat.le_trans HBel2.out.size hb3.size; simp; omega))
    obtain ⟨ga, hga⟩ : ∃ ga, ga = w3.heap.size := ⟨_, rfl⟩
    rw [← hga] at hA4 ⊢
    have HA4 := Lib.hid hA4
    have HP4 := Lib.hid hP4
    have HB4 := Lib.hid hB4
    have HG4 := Lib.hid hgb
    clear hga hb1 hb3 hb4 hA4 hP4 hB4 hgb HQ1 HQ2 HQ3 HP1 HP2 HBel1 HBel2 HA
    go_loopw [26] (fun i wr => ∃ k : Nat, k ≤ 4 ∧ i = .int .i64 (k : Int) ∧ Arr wr ga SC 23 ∧ Arr wr gb SC 22 ∧ Pl wr ∧ Below W.heap.size W wr) (fun i _ => 4 - (intOf i).toNat)
    case atStart => exact ⟨0, by omega, rfl, HA4.out, HG4.out, HP4.out, HB4.out⟩
    case round =>
      clear HA4 HG4 HP4 HB4
      obtain ⟨k, hk, rfl, ha, hg, hp, hbel⟩ := hrel
      have HAr := Lib.hid ha
      have HGr := Lib.hid hg
      have HPr := Lib.hid hp
      have HBr := Lib.hid hbel
      by_cases hlt : k < 4
      · obtain ⟨x, hx⟩ := HAt.out k hlt
        have ca := ha.cell hx
        have cg := hg.cell hx
        have hk0 : (0 : Int) ≤ (k : Int) := by omega
        have hk1 : (k : Int) < 4 := by omega
        clear hx ha hg hp hbel
        go_wp2
        go_quiet (fail)
        go_wp2
        go_roundw
        case rel => exact ⟨k + 1, hlt, by go_num, HAr.out.drewN nq, HGr.out.drewN nq, HPr.out.drewN nq, Below_drewN HBr.out nq⟩
        case measure => simp [intOf]; omega
      · obtain rfl : k = 4 := by omega
        clear ha hg hp hbel
        go_wp2_with fail
        refine (HB1.out _ HPr.out).mono ?_
        rintro e w5 ⟨rfl, hb⟩
        have HB5 := Lib.hid (HBr.out.trans (hb.mono HBr.out.size))
        clear hb
        go_wp2_with fail
        refine (HB2.out _).mono ?_
        rintro e w6 ⟨rfl, hb⟩
        have HB6 := Lib.hid (HB5.out.trans (hb.mono HB5.out.size))
        clear hb
        go_wp2_with fail
        go_ret
        exact ⟨rfl, HB6.out⟩
  · go_enter Tryd.func3, Tryd.ntmps3
    go_wp2_with (first
      | (go_at_call 9; (with_reducible refine HA.out.mono ?_); rintro e w1 ⟨rfl, hb1⟩)
      | (go_at_call 10; (with_reducible refine (HL.out _).mono ?_); rintro e w2 ⟨rfl, rfl⟩))
    go_ret
    exact ⟨rfl, (HBel1.out.trans (hb1.mono (by simp))).alloc (by have := hb1.size; simp at this; omega) _⟩
end Go.Proofs.YtebhmcnocpblkaaDoor
