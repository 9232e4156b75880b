/- PolyAdds over the contracts' record. -/
import Derived.Test.YtjbhmdlgokoepaaDoorPrK
namespace Go.Proofs.YtjbhmdlgokoepaaDoor
open Go.RowKit

theorem arr32_from16 (g o : Nat) (w : World) :
    (Instr.sliceAt 31 (.pointer (some ⟨g, o, none⟩)) (some (.int .i64 16)) none none).run Tryd.prog w = .ok (.slice (some ⟨g, o + 16, none⟩) 16 16) w := by
  have := run_sliceAt_array_l (P := Tryd.prog) w 31 ⟨g, o, none⟩ arrOf32 .i64 16 (by omega) (by rw [arrLen32]; omega)
  rw [arrElem32, Tryd.sizeOf5, arrLen32] at this
  rw [this]
  simp only [Result.andThen, slicedAt]
  rw [if_neg (by omega), show Int.toNat 16 = 16 from rfl, Nat.mul_one, addr_add]
theorem arr32_to16 (g o : Nat) (w : World) :
    (Instr.sliceAt 31 (.pointer (some ⟨g, o, none⟩)) none (some (.int .i64 16)) none).run Tryd.prog w = .ok (.slice (some ⟨g, o, none⟩) 16 32) w := by
  have := run_sliceAt_array_h (P := Tryd.prog) w 31 ⟨g, o, none⟩ arrOf32 .i64 16 (by omega) (by rw [arrLen32]; omega)
  rw [arrElem32, Tryd.sizeOf5, arrLen32] at this
  rw [this]
  simp only [Result.andThen, slicedAt]
  rw [if_neg (by omega), show Int.toNat 16 = 16 from rfl, Nat.zero_mul, addr_add]
  rfl
theorem conv_part {w : World} {g o n cap : Nat} {ty : TypeId} {l : List UInt8} (h : Arr w g (rowB l) ty) (hl : o + n ≤ l.length) :
    (convert 33 9 (.slice (some ⟨g, o, none⟩) n cap)).run Tryd.prog w = .ok (.string ⟨((l.drop o).take n).toArray⟩) w := by
  have hlen : ((l.drop o).take n).length = n := by rw [List.length_take, List.length_drop]; omega
  have := conv_cells w ⟨g, o, none⟩ ((l.drop o).take n) cap (fun j v hv => by
    have hj : j < n := by
      have := (List.getElem?_eq_some_iff.1 hv).1
      rw [u8s_len, hlen] at this; exact this
    rw [addr_add]
    apply h.cell
    rw [rowB, List.getElem?_toArray]
    rw [u8s, List.getElem?_map, List.getElem?_take_of_lt hj, List.getElem?_drop] at hv
    rw [u8s, List.getElem?_map]; exact hv)
  rw [hlen] at this
  exact this

/-- New bytes 0, and the string of them. -/
def zrow (n : Nat) : Array Value := (u8s (List.replicate n 0)).toArray
theorem madeZ (n : Nat) : madeCells #[Value.int .u8 0] n = zrow n := by
  apply Array.ext'
  rw [u8s_zeros, zrow]
theorem makeZ (n : Nat) (hn : n ≤ 16777216) (w : World) : (Instr.makeSlice 33 (.int .i64 (n : Int)) (.int .i64 (n : Int))).run Tryd.prog w = .ok (.slice (some ⟨w.heap.size, 0, none⟩) n n) (w.alloc (.cells (zrow n) 5)) := by
  obtain ⟨i0, hi, hz0, hz1, hz2⟩ := info_parts Tryd.infoU8
  have := run_makeSlice (P := Tryd.prog) w 33 5 i0 (.int .u8 0) Tryd.underlying33 hi hz0 .i64 .i64 n n (by omega) (by omega) (by rw [hz1]; omega) (by rw [hz2]; omega) (by omega)
  rw [hz1, Int.toNat_natCast, Nat.mul_one] at this
  rw [← madeZ]
  exact this
theorem convZ (n : Nat) (w : World) : (convert 33 9 (.slice (some ⟨w.heap.size, 0, none⟩) n n)).run Tryd.prog (w.alloc (.cells (zrow n) 5)) = .ok (.string (zeros n)) (w.alloc (.cells (zrow n) 5)) := by
  have := conv_cells (w.alloc (.cells (zrow n) 5)) ⟨w.heap.size, 0, none⟩ (List.replicate n 0) n (fun j v hv => by
    rw [addr_add, Nat.zero_add]; exact (Arr.new w (zrow n) 5).cell (by rw [zrow, List.getElem?_toArray]; exact hv))
  rw [List.length_replicate] at this
  rw [this, zeros]
  simp
theorem zeros_list (n : Nat) : (zeros n).data.toList = List.replicate n 0 := by simp [zeros]

theorem ba_len (l : List UInt8) : (⟨l.toArray⟩ : ByteArray).size = l.length := List.size_toArray

set_option maxHeartbeats 1000000 in
set_option maxRecDepth 100000 in
theorem polyAdds_walk {P : World → Prop} (C : PolyC P) (zk zm : List Int) (text : ByteArray) (n0 : zk.length = 32) (w0 : ∀ z ∈ zk, (Lit.int .u8 z).wf = true) (n1 : zm.length = 16) (w1 : ∀ z ∈ zm, (Lit.int .u8 z).wf = true) (W : World) (hp : P W) :
    Calls Tryd.prog 6 #[.agg (zk.map (Value.int .u8)).toArray, .agg (zm.map (Value.int .u8)).toArray, .string text] W fun e W' => e = .returned (.bool true) ∧ Below W.heap.size W W' := by
  obtain ⟨kb, hkb, hkl⟩ := u8_of zk w0
  obtain ⟨mb, hmb, hml⟩ := u8_of zm w1
  rw [hkb, hmb, show (u8s kb).toArray = rowB kb from rfl, show (u8s mb).toArray = rowB mb from rfl]
  rw [n0] at hkl
  rw [n1] at hml
  clear hkb hmb w0 n0 zk w1 n1 zm
  obtain ⟨KR, hKR⟩ : ∃ KR, KR = rowB kb := ⟨_, rfl⟩
  obtain ⟨MR, hMR⟩ : ∃ MR, MR = rowB mb := ⟨_, rfl⟩
  rw [← hKR, ← hMR]
  have hp1 := C.alloc (.cells MR 38) (C.alloc (.cells KR 31) hp)
  have HA := Lib.hid (C.awake _ hp1)
  have HP0 := Lib.hid hp1
  have HC := Lib.hid C
  have HB0 := Lib.hid (((Below.refl W.heap.size W).alloc (Nat.le_refl _) (.cells KR 31)).alloc (by simp) (.cells MR 38))
  have HK0 := Lib.hid ((Arr.new W KR 31).alloc (.cells MR 38))
  have HM0 := Lib.hid (Arr.newAt (W.alloc (.cells KR 31)) (g := W.heap.size + 1) MR 38 (by simp))
  clear hp hp1 C
  by_cases h2 : 1024 < text.size
  · have h2i : (1024 : Int) < (text.size : Int) := by omega
    clear hKR hkl hMR hml
    go_enter Tryd.func6, Tryd.ntmps6
    go_wp2_with fail
    refine HA.out.mono ?_
    rintro e w1 ⟨rfl, hb⟩
    have HB1 := Lib.hid (HB0.out.trans (hb.mono HB0.out.size))
    clear hb
    go_wp2_with fail
    go_ret
    exact ⟨rfl, HB1.out⟩
  have h2i : ¬ (1024 : Int) < (text.size : Int) := by omega
  have hrl : (kb.take 16).length = 16 := by rw [List.length_take]; omega
  have hsl : (kb.drop 16).length = 16 := by rw [List.length_drop]; omega
  have HCR : Hid (∀ {w : World} {g : Nat}, Arr w g KR 31 → (convert 33 9 (.slice (some ⟨g, 0, none⟩) 16 32)).run Tryd.prog w = .ok (.string ⟨(kb.take 16).toArray⟩) w) := by
    intro w g h; rw [hKR] at h; exact conv_part h (by omega)
  have HCS : Hid (∀ {w : World} {g : Nat}, Arr w g KR 31 → (convert 33 9 (.slice (some ⟨g, 16, none⟩) 16 16)).run Tryd.prog w = .ok (.string ⟨(kb.drop 16).toArray⟩) w) := by
    intro w g h; rw [hKR] at h
    have := conv_part (n := 16) (o := 16) (cap := 16) h (by omega)
    rw [List.take_of_length_le (by omega)] at this; exact this
  have HCM : Hid (∀ {w : World} {g : Nat}, Arr w g MR 38 → (convert 33 9 (.slice (some ⟨g, 0, none⟩) 16 16)).run Tryd.prog w = .ok (.string ⟨mb.toArray⟩) w) := by
    intro w g h; rw [hMR] at h; exact conv_rowB h hml
  generalize kb.take 16 = r at *
  generalize kb.drop 16 = s at *
  obtain ⟨R, hR⟩ : ∃ R : ByteArray, R = ⟨r.toArray⟩ := ⟨_, rfl⟩
  obtain ⟨S, hS⟩ : ∃ S : ByteArray, S = ⟨s.toArray⟩ := ⟨_, rfl⟩
  obtain ⟨M, hM⟩ : ∃ M : ByteArray, M = ⟨mb.toArray⟩ := ⟨_, rfl⟩
  obtain ⟨SM, hSM⟩ : ∃ SM : ByteArray, SM = ⟨(sumL s mb).toArray⟩ := ⟨_, rfl⟩
  rw [← hR] at HCR
  rw [← hS] at HCS
  rw [← hM] at HCM
  have hRs : R.size = 16 := by rw [hR, ba_len, hrl]
  have hSs : S.size = 16 := by rw [hS, ba_len, hsl]
  have hMs : M.size = 16 := by rw [hM, ba_len, hml]
  have hSMs : SM.size = 16 := by rw [hSM, ba_len, sumL, lowL_len]
  have hRl : R.data.toList = r := by rw [hR]
  have hSl : S.data.toList = s := by rw [hS]
  have hMl : M.data.toList = mb := by rw [hM]
  have hSMl : SM.data.toList = sumL s mb := by rw [hSM]
  have hZs := zeros_size 16
  have hZl := zeros_list 16
  have mk := fun w => makeZ 16 (by omega) w
  have cv := fun w => convZ 16 w
  rw [show ((16 : Nat) : Int) = 16 from rfl] at mk
  generalize zrow 16 = ZR at *
  generalize zeros 16 = Z at *
  have cat : ∀ X Y : ByteArray, X.size = 16 → Y.size = 16 → ∃ U : ByteArray, U.size = 32 ∧ U.data.toList = X.data.toList ++ Y.data.toList ∧ ∀ w : World, (Op.stringOp .add X Y).run Tryd.prog w = .ok (.string U) w := fun X Y hX hY =>
    ⟨X ++ Y, by rw [ByteArray.size_append]; omega, by simp, fun w => cat_run X Y (by omega) w⟩
  obtain ⟨Y1, hy1, hl1, c1⟩ := cat R Z hRs hZs
  obtain ⟨Y2, hy2, hl2, c2⟩ := cat R S hRs hSs
  obtain ⟨Y3, hy3, hl3, c3⟩ := cat R SM hRs hSMs
  obtain ⟨Y4, hy4, hl4, c4⟩ := cat Z S hZs hSs
  rw [hRl, hZl] at hl1
  rw [hRl, hSl] at hl2
  rw [hRl, hSMl] at hl3
  rw [hZl, hSl] at hl4
  have ht1 := fun w hp => HC.out.tag_ok Y1 text hy1 (by omega) w hp
  have ht2 := fun w hp => HC.out.tag_ok Y2 text hy2 (by omega) w hp
  have ht3 := fun w hp => HC.out.tag_ok Y3 text hy3 (by omega) w hp
  have ht4 := fun w hp => HC.out.tag_ok Y4 text hy4 (by omega) w hp
  have ht5 := fun w hp => HC.out.tag_ok Y2 ByteArray.empty hy2 (by show 0 ≤ 2048; omega) w hp
  have hs1 := fun w => rsum5_any S M (by omega) (by omega) w
  have ha1 : tagB Y1 text = ⟨(tagL (r ++ List.replicate 16 0) text.data.toList).toArray⟩ := by rw [tagB, hl1]
  have ha2 : tagB Y2 text = ⟨(sumL (tagL (r ++ List.replicate 16 0) text.data.toList) s).toArray⟩ := by rw [tagB, hl2, tagL_s _ _ _ hrl]
  have ha3 : tagB Y3 text = ⟨(sumL (tagL (r ++ s) text.data.toList) mb).toArray⟩ := by rw [tagB, hl3, tagL_more _ _ _ _ hrl]
  have ha4 : tagB Y4 text = S := by rw [tagB, hl4, tagL_zero _ _ hsl, hS]
  have ha5 : tagB Y2 ByteArray.empty = S := by rw [tagB, hl2, show ByteArray.empty.data.toList = [] from rfl, tagL_nil _ _ hrl hsl, hS]
  have hs2 := fun w => rsum5_any (tagB Y1 text) S (by rw [tagB_size]; omega) (by omega) w
  have hs3 := fun w => rsum5_any (tagB Y2 text) M (by rw [tagB_size]; omega) (by omega) w
  have hsm1 : (⟨(lowL (numLow S.data.toList + numLow M.data.toList) 16).toArray⟩ : ByteArray) = SM := by rw [hSl, hMl, hSM]; rfl
  have hsm2 : (⟨(lowL (numLow (tagB Y1 text).data.toList + numLow S.data.toList) 16).toArray⟩ : ByteArray) = tagB Y2 text := by rw [ha2, ha1, hSl]; rfl
  have hsm3 : (⟨(lowL (numLow (tagB Y2 text).data.toList + numLow M.data.toList) 16).toArray⟩ : ByteArray) = tagB Y3 text := by
    rw [ha3, hMl, tagB, hl2]; rfl
  rw [hsm1] at hs1
  rw [hsm2] at hs2
  rw [hsm3] at hs3
  rw [ha4] at ht4
  rw [ha5] at ht5
  clear ha1 ha2 ha3 ha4 ha5 hsm1 hsm2 hsm3
  generalize tagB Y1 text = T1 at *
  generalize tagB Y2 text = T2 at *
  generalize tagB Y3 text = T3 at *
  have HT1 := Lib.hid ht1
  have HT2 := Lib.hid ht2
  have HT3 := Lib.hid ht3
  have HT4 := Lib.hid ht4
  have HT5 := Lib.hid ht5
  have HS1 := Lib.hid hs1
  have HS2 := Lib.hid hs2
  have HS3 := Lib.hid hs3
  have a1 := arr32_from16
  have a2 := arr32_to16
  have a3 := arr16_all
  clear cat hl1 hl2 hl3 hl4 hy1 hy2 hy3 hy4 hZl hZs hRs hSs hMs hSMs hRl hSl hMl hSMl hR hS hM hSM hrl hsl hKR hMR hkl hml h2 ht1 ht2 ht3 ht4 ht5 hs1 hs2 hs3
  go_enter Tryd.func6, Tryd.ntmps6
  go_wp2_with (go_at_call 9; (with_reducible refine HA.out.mono ?_); rintro e w1 ⟨rfl, hb⟩)
  have hcr := fun n => HCR.out ((HK0.out.next hb).drewN n)
  have hcs := fun n => HCS.out ((HK0.out.next hb).drewN n)
  have HP1 := Lib.hid (HC.out.next HP0.out hb)
  have HM1 := Lib.hid (HM0.out.next hb)
  have HB1 := Lib.hid (HB0.out.trans (hb.mono HB0.out.size))
  have cv1 : ∀ n : Nat, (convert 33 9 (.slice (some ⟨w1.heap.size, 0, none⟩) 16 16)).run Tryd.prog ((w1.drewN n).alloc (.cells ZR 5)) = .ok (.string Z) ((w1.drewN n).alloc (.cells ZR 5)) := fun n => cv (w1.drewN n)
  clear hb HP0 HB0 HA HK0 HM0
  go_quiet (fail)
  have HP2 := Lib.hid (HC.out.alloc (.cells ZR 5) (HC.out.drewN nq HP1.out))
  have HM2 := Lib.hid ((HM1.out.drewN nq).alloc (.cells ZR 5))
  have HB2 := Lib.hid ((Below_drewN HB1.out nq).alloc (Below_drewN HB1.out nq).size (.cells ZR 5))
  clear hcr hcs HP1 HB1 HM1
  go_wp2_with fail
  refine (HT1.out _ HP2.out).mono ?_
  rintro e w3 ⟨rfl, hb⟩
  have HP3 := Lib.hid (HC.out.next HP2.out hb)
  have HM3 := Lib.hid (HM2.out.next hb)
  have HB3 := Lib.hid (HB2.out.trans (hb.mono HB2.out.size))
  clear hb
  go_wp2_with fail
  refine (HT2.out _ HP3.out).mono ?_
  rintro e w4 ⟨rfl, hb⟩
  have HP4 := Lib.hid (HC.out.next HP3.out hb)
  have HM4 := Lib.hid (HM3.out.next hb)
  have HB4 := Lib.hid (HB3.out.trans (hb.mono HB3.out.size))
  have hcm := HCM.out HM4.out
  clear hb HP3 HM3 HB3
  go_wp2_with fail
  clear hcm
  refine (HS1.out _).mono ?_
  rintro e w5 ⟨rfl, hb⟩
  have HP5 := Lib.hid (HC.out.next HP4.out hb)
  have HM5 := Lib.hid (HM4.out.next hb)
  have HB5 := Lib.hid (HB4.out.trans (hb.mono HB4.out.size))
  clear hb HP4 HM4 HB4
  go_wp2_with fail
  refine (HT3.out _ HP5.out).mono ?_
  rintro e w6 ⟨rfl, hb⟩
  have HP6 := Lib.hid (HC.out.next HP5.out hb)
  have HM6 := Lib.hid (HM5.out.next hb)
  have HB6 := Lib.hid (HB5.out.trans (hb.mono HB5.out.size))
  clear hb HP5 HM5 HB5
  go_wp2_with fail
  refine (HT4.out _ HP6.out).mono ?_
  rintro e w7 ⟨rfl, hb⟩
  have HP7 := Lib.hid (HC.out.next HP6.out hb)
  have HM7 := Lib.hid (HM6.out.next hb)
  have HB7 := Lib.hid (HB6.out.trans (hb.mono HB6.out.size))
  clear hb HP6 HM6 HB6
  go_wp2_with fail
  refine (HT5.out _ HP7.out).mono ?_
  rintro e w8 ⟨rfl, hb⟩
  have HP8 := Lib.hid (HC.out.next HP7.out hb)
  have HM8 := Lib.hid (HM7.out.next hb)
  have HB8 := Lib.hid (HB7.out.trans (hb.mono HB7.out.size))
  clear hb HP7 HM7 HB7
  go_wp2_with fail
  refine (HS2.out _).mono ?_
  rintro e w9 ⟨rfl, hb⟩
  have HP9 := Lib.hid (HC.out.next HP8.out hb)
  have HM9 := Lib.hid (HM8.out.next hb)
  have HB9 := Lib.hid (HB8.out.trans (hb.mono HB8.out.size))
  have hcm := HCM.out HM9.out
  clear hb HP8 HM8 HB8
  go_wp2_with fail
  clear hcm
  refine (HS3.out _).mono ?_
  rintro e w10 ⟨rfl, hb⟩
  have HP10 := Lib.hid (HC.out.next HP9.out hb)
  have HM10 := Lib.hid (HM9.out.next hb)
  have HB10 := Lib.hid (HB9.out.trans (hb.mono HB9.out.size))
  clear hb HP9 HM9 HB9
  go_wp2_with fail
  go_ret
  exact ⟨rfl, HB10.out⟩
end Go.Proofs.YtjbhmdlgokoepaaDoor
