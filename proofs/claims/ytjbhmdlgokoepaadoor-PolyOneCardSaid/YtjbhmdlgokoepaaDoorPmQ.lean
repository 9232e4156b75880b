/- PolyOne: the law's walk. -/
import Derived.Test.YtjbhmdlgokoepaaDoorPmO
import Derived.Handy
import Derived.Deep.RegionHeld3
namespace Go.Proofs.YtjbhmdlgokoepaaDoor
open Go.RowKit

set_option maxHeartbeats 2000000 in
set_option maxRecDepth 100000 in
theorem polyOne_walk {P : World → Prop} (C : PolyC P) (zm : List Int) (text : ByteArray) (n1 : zm.length = 16) (w1 : ∀ z ∈ zm, (Lit.int .u8 z).wf = true) (W : World) (hp : P W) :
    Calls Tryd.prog 7 #[.agg (zm.map (Value.int .u8)).toArray, .string text] W fun e W' => e = .returned (.bool true) ∧ Below W.heap.size W W' := by
  obtain ⟨mb, hmb, hml⟩ := u8_of zm w1
  rw [hmb, show (u8s mb).toArray = rowB mb from rfl]
  rw [n1] at hml
  clear hmb w1 n1 zm
  obtain ⟨MR, hMR⟩ : ∃ MR, MR = rowB mb := ⟨_, rfl⟩
  rw [← hMR]
  have hp1 := C.alloc (.cells MR 38) hp
  have HA := Lib.hid (C.awake _ hp1)
  have HP0 := Lib.hid hp1
  have HC := Lib.hid C
  have HB0 := Lib.hid ((Below.refl W.heap.size W).alloc (Nat.le_refl _) (.cells MR 38))
  have HM0 := Lib.hid (Arr.new W MR 38)
  clear hp hp1 C
  by_cases h2 : 1024 < text.size
  · have h2i : (1024 : Int) < (text.size : Int) := by omega
    clear hMR hml
    go_enter Tryd.func7, Tryd.ntmps7
    go_wp2_with fail
    refine HA.out.mono ?_
    rintro e w1 ⟨rfl, hb⟩
    have HB1 := Lib.hid (HB0.out.trans (hb.mono HB0.out.size))
    clear hb
    go_wp2_with fail
    go_ret
    exact ⟨rfl, HB1.out⟩
  have h2i : ¬ (1024 : Int) < (text.size : Int) := by omega
  have HCM : Hid (∀ {w : World} {g : Nat}, Arr w g MR 38 → (convert 33 9 (.slice (some ⟨g, 0, none⟩) 16 16)).run Tryd.prog w = .ok (.string ⟨mb.toArray⟩) w) := by
    intro w g h; rw [hMR] at h; exact conv_rowB h hml
  obtain ⟨M, hM⟩ : ∃ M : ByteArray, M = ⟨mb.toArray⟩ := ⟨_, rfl⟩
  rw [← hM] at HCM
  have hMs : M.size = 16 := by rw [hM, ba_len, hml]
  have hMl : M.data.toList = mb := by rw [hM]
  have hZs := zeros_size 15
  have hZl := zeros_list 15
  have mk := fun w => makeZ 15 (by omega) w
  have cv := fun w => convZ 15 w
  rw [show ((15 : Nat) : Int) = 15 from rfl] at mk
  generalize zrow 15 = ZR at *
  generalize zeros 15 = Z at *
  obtain ⟨Y1, hY1⟩ : ∃ Y1 : ByteArray, Y1 = ⟨#[1]⟩ ++ Z := ⟨_, rfl⟩
  have c1 : ∀ w : World, (Op.stringOp .add ⟨#[1]⟩ Z).run Tryd.prog w = .ok (.string Y1) w := fun w => by rw [hY1]; exact cat_run _ Z (by show 1 + Z.size ≤ _; omega) w
  have hY1s : Y1.size = 16 := by rw [hY1, ByteArray.size_append, hZs]; rfl
  have hY1l : Y1.data.toList = 1 :: List.replicate 15 0 := by rw [hY1, ← hZl]; simp
  obtain ⟨Y, hY⟩ : ∃ Y : ByteArray, Y = Y1 ++ M := ⟨_, rfl⟩
  have c2 : ∀ w : World, (Op.stringOp .add Y1 M).run Tryd.prog w = .ok (.string Y) w := fun w => by rw [hY]; exact cat_run _ M (by omega) w
  have hYs : Y.size = 32 := by rw [hY, ByteArray.size_append]; omega
  have hYl : Y.data.toList = 1 :: List.replicate 15 0 ++ mb := by rw [hY, ← hY1l, ← hMl]; simp
  have ht := fun w hp => HC.out.tag_ok Y text hYs (by omega) w hp
  have hT : tagB Y text = ⟨(lowL (accN 1 text.data.toList ((text.data.toList.length + 15) / 16) + numLow mb) 16).toArray⟩ := by rw [tagB, hYl, tagL_r1]
  generalize tagB Y text = T at *
  have HT := Lib.hid ht
  have HTe := Lib.hid hT
  have HMl := Lib.hid hMl
  have HMs := Lib.hid hMs
  have htx : text.size ≤ 1024 := by omega
  have HTx := Lib.hid htx
  have a3 := arr16_all
  clear hMR hml hM hMs hMl hZs hZl hY1 hY1s hY1l hY hYs hYl ht hT htx h2
  go_enter Tryd.func7, Tryd.ntmps7
  go_wp2_with (go_at_call 9; (with_reducible refine HA.out.mono ?_); rintro e w1 ⟨rfl, hb⟩; have cv1 : (convert 33 9 (.slice (some ⟨w1.heap.size, 0, none⟩) 15 15)).run Tryd.prog (w1.alloc (.cells ZR 5)) = .ok (.string Z) (w1.alloc (.cells ZR 5)) := cv w1; have hcm := HCM.out ((HM0.out.next hb).alloc (.cells ZR 5)))
  have HP1 := Lib.hid (HC.out.alloc (.cells ZR 5) (HC.out.next HP0.out hb))
  have HM1 := Lib.hid ((HM0.out.next hb).alloc (.cells ZR 5))
  have HB1 := Lib.hid ((HB0.out.trans (hb.mono HB0.out.size)).alloc (HB0.out.trans (hb.mono HB0.out.size)).size (.cells ZR 5))
  clear hb HP0 HB0 HA HM0
  refine (HT.out _ HP1.out).mono ?_
  rintro e w3 ⟨rfl, hb⟩
  have HM3 := Lib.hid (HM1.out.next hb)
  have HB3 := Lib.hid (HB1.out.trans (hb.mono HB1.out.size))
  clear hb hcm cv1 cv mk c1 c2 HP1 HM1 HB1 HT
  go_wp2_with fail
  have HV0 : Hid (DV (w3.alloc (.cells #[] 3)) (.slice (some ⟨w3.heap.size, 0, none⟩) 0 0) []) := ⟨w3.heap.size, _, 0, rfl, fun j hj => absurd hj (by simp), fun h => absurd h (by simp)⟩
  have HM4 := Lib.hid (HM3.out.alloc (.cells #[] 3))
  have HB4 := Lib.hid (HB3.out.alloc HB3.out.size (.cells #[] 3))
  generalize w3.alloc (.cells #[] 3) = w4 at *
  generalize w3.heap.size = g0 at *
  clear HM3 HB3
  go_loopw [8, 9] (fun va i wr => ∃ (m : Nat) (d : List Nat), i = .int .i64 (16 * (m : Int)) ∧ 16 * m < text.size + 16 ∧ DV wr va d ∧ (∀ x ∈ d, x < 256) ∧ d.length ≤ 17 ∧ numD d = accN 1 text.data.toList m ∧ Arr wr W.heap.size MR 38 ∧ Below W.heap.size W wr) (fun _ i _ => text.size + 16 - (intOf i).toNat)
  case atStart => exact ⟨0, [], rfl, by omega, HV0.out, by simp, by simp, rfl, HM4.out, HB4.out⟩
  case round =>
    clear HV0 HM4 HB4
    obtain ⟨m, d, rfl, hm, hva, hd, hl, hn, hmr, hbel⟩ := hrel
    obtain ⟨w5, rfl⟩ : ∃ w5, w5 = wr := ⟨_, rfl⟩
    have htl : text.data.toList.length = text.size := by simp
    by_cases hlt : 16 * m < text.size
    · obtain ⟨_, ad, cd, rfl, _, _⟩ := id hva
      have HVa := Lib.hid hva
      have HD := Lib.hid hd
      have HLd := Lib.hid hl
      have HMr := Lib.hid hmr
      have HBel := Lib.hid hbel
      have HN := Lib.hid hn
      have hT := HTx.out
      obtain ⟨L, hL⟩ : ∃ L, L = min 16 (text.size - 16 * m) := ⟨_, rfl⟩
      have e1 : min (16 * (m : Int) + 16) (text.size : Int) = 16 * (m : Int) + (L : Int) := by omega
      have mk18 := fun w => makeI 18 (by omega) w
      rw [show ((18 : Nat) : Int) = 18 from rfl] at mk18
      have hlti : 16 * (m : Int) < (text.size : Int) := by omega
      obtain ⟨b, hb⟩ : ∃ b, b = natL (partL text.data.toList m) ++ [1] := ⟨_, rfl⟩
      have hpl : (partL text.data.toList m).length = L := by rw [partL, List.length_take, List.length_drop]; omega
      have hbl : b.length = L + 1 := by rw [hb, List.length_append, natL_len, hpl]; rfl
      have hbt : ∀ x ∈ b, x < 256 := by
        intro x hx; rw [hb, List.mem_append] at hx
        rcases hx with hx | hx
        · exact natL_lt _ x hx
        · rw [List.mem_singleton] at hx; omega
      have hbx : ∀ j (hj : j < L) (h : 16 * m + j < text.size), ((text[16 * m + j]'h).toNat) = b.getD j 0 := by
        intro j hj h
        rw [hb, List.getD_eq_getElem?_getD, List.getElem?_append_left (by rw [natL_len, hpl]; exact hj), natL, partL, List.getElem?_map, List.getElem?_take_of_lt (by omega), List.getElem?_drop, List.getElem?_eq_getElem (by rw [htl]; exact h)]
        rfl
      have hb1 : b.getD L 0 = 1 := by rw [hb, List.getD_eq_getElem?_getD, List.getElem?_append_right (by rw [natL_len, hpl]; exact Nat.le_refl _), natL_len, hpl, Nat.sub_self]; rfl
      have hb0 : ∀ j, L < j → b.getD j 0 = 0 := fun j hj => getD_none b j (by omega)
      have HBn := Lib.hid (show numD b = numLow (partL text.data.toList m) + 256 ^ (partL text.data.toList m).length by rw [hb, part_num])
      have hL16 : L ≤ 16 := by omega
      have hLt : 16 * m + L ≤ text.size := by omega
      have HZ := Lib.hid (Arr.new w5 (i64s (List.replicate 18 0)).toArray 3)
      have HBz := Lib.hid ((Below.refl w5.heap.size w5).alloc (Nat.le_refl _) (.cells (i64s (List.replicate 18 0)).toArray 3))
      have HBl := Lib.hid hbl
      have HBt := Lib.hid hbt
      have HBx := Lib.hid hbx
      have HB1 := Lib.hid hb1
      have HB0 := Lib.hid hb0
      clear hva hd hl hn hmr hbel hb hpl hbl hbt hbx hb1 hb0 hL
      go_wp2
      clear mk18
      go_loopw [48] (fun i wr => ∃ (k : Nat) (out : List Nat), k ≤ 18 ∧ i = .int .i64 (k : Int) ∧ In1 d b out k ∧ Arr wr w5.heap.size (i64s out).toArray 3 ∧ Below w5.heap.size w5 wr) (fun i _ => 18 - (intOf i).toNat)
      case atStart => exact ⟨0, List.replicate 18 0, by omega, rfl, In1.start d b, HZ.out, HBz.out⟩
      case round =>
        clear HZ HBz
        obtain ⟨k, out, hk, rfl, hin, harr, hbl2⟩ := hrel
        have HIn := Lib.hid hin
        have HArr := Lib.hid harr
        have HBl2 := Lib.hid hbl2
        by_cases hk18 : k < 18
        · have c0 := harr.atI k (by rw [hin.len]; exact hk18)
          rw [hin.zero, show ((0 : Nat) : Int) = 0 from rfl] at c0
          have f0 := harr.frozen k
          have k0 : (0 : Int) ≤ (k : Int) := by omega
          have k18 : (k : Int) < 18 := by omega
          have HSt := Lib.hid (fun x hx => hin.step hk18 x hx)
          have HLn := Lib.hid hin.len
          have HZr := Lib.hid hin.zero
          by_cases hkd : k < d.length
          · have hkdi : (k : Int) < (d.length : Int) := by omega
            obtain ⟨gs, rfl, cs⟩ := (HVa.out.next hbl2).at k hkd
            have bD := getD_lt d HD.out k
            generalize hDk : d.getD k 0 = D at *
            clear hin harr hbl2
            go_wp2
            go_region
            all_goals
              have ha1 := (HArr.out.setI k D).drew
              have hb1 := (HBl2.out.setCell (p := ⟨w5.heap.size, k, none⟩) (Nat.le_refl _) (.int .i64 (D : Int))).drew
              have c1 : (((wr.setCell ⟨w5.heap.size, k, none⟩ (.int .i64 (D : Int)))).drew).cell? ⟨w5.heap.size, k, none⟩ = some (.int .i64 (D : Int)) := by
                rw [ha1.atI k (by rw [List.length_set, HLn.out]; exact hk18), getD_sets _ _ _ _ (by rw [HLn.out]; exact hk18), if_pos rfl]
              have f1 := ha1.frozen k
              have HSt2 : Hid (∀ x, x = D + b.getD k 0 → In1 d b ((out.set k D).set k x) (k + 1)) := fun x hx => by rw [List.set_set]; exact HSt.out x hx
              have HA1 := Lib.hid ha1
              have HB1x := Lib.hid hb1
              clear c0 f0 ha1 hb1 HSt cs
              rename Hid (∀ x, x = D + b.getD k 0 → In1 d b ((out.set k D).set k x) (k + 1)) => HSt
              generalize (((wr.setCell ⟨w5.heap.size, k, none⟩ (.int .i64 (D : Int)))).drew) = wA at *
              rcases (show k < L ∨ k = L ∨ L < k by omega) with hc | hc | hc
              · have hbx := HBx.out k hc (by omega)
                obtain ⟨J, hJ⟩ : ∃ J, J = 16 * m + k := ⟨_, rfl⟩
                have eJ : 16 * (m : Int) + (k : Int) = (J : Int) := by omega
                have eJw : IntKind.i64.wrap (16 * (m : Int) + (k : Int)) = (J : Int) := by rw [eJ, IntKind.wrap_i64]; omega
                have hJl : J < text.size := by omega
                have hJi : (J : Int) < (text.size : Int) := by omega
                have J0 : (0 : Int) ≤ (J : Int) := by omega
                have hbx2 : (text[J]).toNat = b.getD k 0 := by rw [← hbx]; congr 2
                have hBb := (text[J]).toNat_lt
                have HBV := Lib.hid hbx2
                have hlt1 : decide ((k : Int) < 16 * (m : Int) + (L : Int) - 16 * (m : Int)) = true := decide_eq_true (by omega)
                have hlt2 : (k : Int) < 16 * (m : Int) + (L : Int) - 16 * (m : Int) := by omega
                have heq : ((k : Int) == 16 * (m : Int) + (L : Int) - 16 * (m : Int)) = false := by simp; omega
                clear hbx hbx2 hJ
                go_wp2
                go_region
                all_goals
                  go_wp2
                  have hs := (HA1.out.setI k (D + text[J].toNat)).drew
                  rw [Int.natCast_add] at hs
                  have hS := HSt.out (D + text[J].toNat) (by have h9 := HBV.out; omega)
                  have hB := (HB1x.out.setCell (p := ⟨w5.heap.size, k, none⟩) (Nat.le_refl _) (.int .i64 ((D : Int) + (text[J].toNat : Int)))).drew
                  first
                    | exact ⟨⟨k + 1, _, by omega, by go_num, hS, hs, hB⟩, by simp [intOf]; omega⟩
                    | (trace_state; fail)
              · subst hc
                have hlt1 : decide ((k : Int) < 16 * (m : Int) + (k : Int) - 16 * (m : Int)) = false := decide_eq_false (by omega)
                have hlt2 : ¬ (k : Int) < 16 * (m : Int) + (k : Int) - 16 * (m : Int) := by omega
                have heq : ((k : Int) == 16 * (m : Int) + (k : Int) - 16 * (m : Int)) = true := by simp; omega
                go_wp2
                have hs := HA1.out.setI k (D + 1)
                rw [Int.natCast_add, show ((1 : Nat) : Int) = 1 from rfl] at hs
                have hS := HSt.out (D + 1) (by have h9 := HB1.out; omega)
                have hB := HB1x.out.setCell (p := ⟨w5.heap.size, k, none⟩) (Nat.le_refl _) (.int .i64 ((D : Int) + 1))
                first
                  | exact ⟨⟨k + 1, _, by omega, by go_num, hS, hs, hB⟩, by simp [intOf]; omega⟩
                  | (trace_state; fail)
              · have hlt1 : decide ((k : Int) < 16 * (m : Int) + (L : Int) - 16 * (m : Int)) = false := decide_eq_false (by omega)
                have hlt2 : ¬ (k : Int) < 16 * (m : Int) + (L : Int) - 16 * (m : Int) := by omega
                have heq : ((k : Int) == 16 * (m : Int) + (L : Int) - 16 * (m : Int)) = false := by simp; omega
                have hS := Lib.hid (HSt.out D (by rw [HB0.out k hc]; rfl))
                go_wp2
                first
                  | exact ⟨⟨k + 1, _, by omega, by go_num, by have h9 := hS.out; rw [List.set_set] at h9; exact h9, HA1.out, HB1x.out⟩, by simp [intOf]; omega⟩
                  | (trace_state; fail)
          · have hkdi : ¬ (k : Int) < (d.length : Int) := by omega
            have hD0 := getD_none d k (by omega)
            have HSt2 : Hid (∀ x, x = 0 + b.getD k 0 → In1 d b ((out.set k 0).set k x) (k + 1)) := fun x hx => by rw [List.set_set]; exact HSt.out x (by rw [hD0]; exact hx)
            have HA1 : Hid (Arr wr w5.heap.size (i64s (out.set k 0)).toArray 3) := by rw [set_same _ _ HZr.out]; exact harr
            have HB1x := Lib.hid hbl2
            clear hin harr hbl2 HSt hD0
            rename Hid (∀ x, x = 0 + b.getD k 0 → In1 d b ((out.set k 0).set k x) (k + 1)) => HSt
            rcases (show k < L ∨ k = L ∨ L < k by omega) with hc | hc | hc
            · have hbx := HBx.out k hc (by omega)
              obtain ⟨J, hJ⟩ : ∃ J, J = 16 * m + k := ⟨_, rfl⟩
              have eJ : 16 * (m : Int) + (k : Int) = (J : Int) := by omega
              have eJw : IntKind.i64.wrap (16 * (m : Int) + (k : Int)) = (J : Int) := by rw [eJ, IntKind.wrap_i64]; omega
              have hJl : J < text.size := by omega
              have hJi : (J : Int) < (text.size : Int) := by omega
              have J0 : (0 : Int) ≤ (J : Int) := by omega
              have hbx2 : (text[J]).toNat = b.getD k 0 := by rw [← hbx]; congr 2
              have hBb := (text[J]).toNat_lt
              have HBV := Lib.hid hbx2
              have hlt1 : decide ((k : Int) < 16 * (m : Int) + (L : Int) - 16 * (m : Int)) = true := decide_eq_true (by omega)
              have hlt2 : (k : Int) < 16 * (m : Int) + (L : Int) - 16 * (m : Int) := by omega
              have heq : ((k : Int) == 16 * (m : Int) + (L : Int) - 16 * (m : Int)) = false := by simp; omega
              clear hbx hbx2 hJ
              go_wp2
              go_region
              all_goals
                go_wp2
                have hs := (HA1.out.setI k (text[J].toNat)).drew
                skip
                have hS := HSt.out (text[J].toNat) (by have h9 := HBV.out; omega)
                have hB := (HB1x.out.setCell (p := ⟨w5.heap.size, k, none⟩) (Nat.le_refl _) (.int .i64 ((text[J].toNat : Int)))).drew
                first
                  | exact ⟨⟨k + 1, _, by omega, by go_num, hS, hs, hB⟩, by simp [intOf]; omega⟩
                  | (trace_state; fail)
            · subst hc
              have hlt1 : decide ((k : Int) < 16 * (m : Int) + (k : Int) - 16 * (m : Int)) = false := decide_eq_false (by omega)
              have hlt2 : ¬ (k : Int) < 16 * (m : Int) + (k : Int) - 16 * (m : Int) := by omega
              have heq : ((k : Int) == 16 * (m : Int) + (k : Int) - 16 * (m : Int)) = true := by simp; omega
              go_wp2
              have hs := HA1.out.setI k (1)
              rw [show ((1 : Nat) : Int) = 1 from rfl] at hs
              have hS := HSt.out (1) (by have h9 := HB1.out; omega)
              have hB := HB1x.out.setCell (p := ⟨w5.heap.size, k, none⟩) (Nat.le_refl _) (.int .i64 (1))
              first
                | exact ⟨⟨k + 1, _, by omega, by go_num, hS, hs, hB⟩, by simp [intOf]; omega⟩
                | (trace_state; fail)
            · have hlt1 : decide ((k : Int) < 16 * (m : Int) + (L : Int) - 16 * (m : Int)) = false := decide_eq_false (by omega)
              have hlt2 : ¬ (k : Int) < 16 * (m : Int) + (L : Int) - 16 * (m : Int) := by omega
              have heq : ((k : Int) == 16 * (m : Int) + (L : Int) - 16 * (m : Int)) = false := by simp; omega
              have hS := Lib.hid (HSt.out 0 (by rw [HB0.out k hc]))
              go_wp2
              first
                | exact ⟨⟨k + 1, _, by omega, by go_num, by have h9 := hS.out; rw [List.set_set] at h9; exact h9, HA1.out, HB1x.out⟩, by simp [intOf]; omega⟩
                | (trace_state; fail)
        · obtain rfl : k = 18 := by omega
          obtain ⟨f1, f2, f3⟩ := hin.fin HD.out HBt.out HLd.out (by rw [HBl.out]; omega)
          have HS2 := Lib.hid (In2.start hin.len f1 f2)
          have HF3 := Lib.hid (f1 ▸ f3 : numD d + numD b < 2 * 256 ^ 17)
          clear hin harr hbl2 HIn f1 f2 f3
          go_wp2
          go_loopw [13] (fun i wr => ∃ (j : Nat) (out : List Nat), j ≤ 17 ∧ i = .int .i64 (j : Int) ∧ In2 (numD d + numD b) out j ∧ Arr wr w5.heap.size (i64s out).toArray 3 ∧ Below w5.heap.size w5 wr) (fun i _ => 17 - (intOf i).toNat)
          case atStart => exact ⟨0, out, by omega, rfl, HS2.out, HArr.out, HBl2.out⟩
          case round =>
            clear HS2 HArr HBl2
            obtain ⟨j, out, hj, rfl, hin, harr, hbl2⟩ := hrel
            have HArr := Lib.hid harr
            have HBl2 := Lib.hid hbl2
            by_cases hj17 : j < 17
            · have c0 := harr.atI j (by rw [hin.len]; omega)
              have c1 := harr.atI (j + 1) (by rw [hin.len]; omega)
              have fr0 := harr.frozen j
              have fr1 := harr.frozen (j + 1)
              have b0 := hin.at'
              have b1 := hin.hi (j + 1) (by omega)
              have HSt := Lib.hid (hin.step (by omega : j + 1 < 18))
              have HLn := Lib.hid hin.len
              have HG : Hid ((out.set (j + 1) (out.getD (j + 1) 0 + out.getD j 0 / 256)).getD j 0 = out.getD j 0) := by
                show _ = _
                rw [getD_sets _ _ _ _ (by rw [hin.len]; omega), if_neg (by omega)]
              clear hin harr hbl2
              generalize out.getD j 0 = X at *
              generalize out.getD (j + 1) 0 = Y9 at *
              have j0 : (0 : Int) ≤ (j : Int) := by omega
              have j17 : (j : Int) < 17 := by omega
              have jlt : (j : Int) + 1 < 18 := by omega
              have ed : (X : Int) / 256 = ((X / 256 : Nat) : Int) := by omega
              have em : (X : Int) % 256 = ((X % 256 : Nat) : Int) := by omega
              have hq : X / 256 ≤ 2 := by omega
              generalize hQ : X / 256 = Q at *
              generalize hR9 : X % 256 = R9 at *
              go_wp2
              go_region
              all_goals
                have ha1 := (HArr.out.setI (j + 1) (Y9 + Q)).drew
                have hb1 := (HBl2.out.setCell (p := ⟨w5.heap.size, j + 1, none⟩) (Nat.le_refl _) (.int .i64 ((Y9 + Q : Nat) : Int))).drew
                have c2 := ha1.atI j (by rw [List.length_set, HLn.out]; omega)
                rw [HG.out] at c2
                have f2 := ha1.frozen j
                have HA1 := Lib.hid ha1
                have HB1x := Lib.hid hb1
                rw [Int.natCast_add] at HA1 HB1x c2 f2
                clear c0 c1 fr0 fr1 ha1 hb1
                generalize (wr.setCell ⟨w5.heap.size, j + 1, none⟩ (.int .i64 ((Y9 : Int) + (Q : Int)))).drew = wA at *
                go_wp2
                exact ⟨⟨j + 1, _, by omega, by go_num, HSt.out, HA1.out.setI j R9, HB1x.out.setCell (p := ⟨w5.heap.size, j, none⟩) (Nat.le_refl _) _⟩, by simp [intOf]; omega⟩
            · obtain rfl : j = 17 := by omega
              have hfin := hin.fin HF3.out
              have HNum := Lib.hid hin.num
              have HMo := Lib.hid (fun w hv => modulo_any (.slice (some ⟨w5.heap.size, 0, none⟩) 18 18) out hfin (by rw [hin.len]; decide) w hv)
              have HDv : Hid (DV wr (.slice (some ⟨w5.heap.size, 0, none⟩) 18 18) out) := ⟨w5.heap.size, _, 18, by rw [hin.len], RowI.ofArr harr, fun _ => ⟨rfl, harr.lt⟩⟩
              clear hin harr hbl2 hfin HArr
              go_wp2_with (first
                | (go_at_call 19; (with_reducible refine (HMo.out _ HDv.out).mono ?_); rintro e w7 ⟨⟨v7, c7, rfl, hv7, hc7, hn7, hl7⟩, hb7⟩))
              go_roundw
              case rel =>
                refine ⟨m + 1, c7, by go_num, by omega, hv7, hc7, by omega, ?_, (HMr.out.next HBl2.out).next hb7, (HBel.out.trans (HBl2.out.mono HBel.out.size)).trans (hb7.mono (Nat.le_trans HBel.out.size HBl2.out.size))⟩
                rw [hn7, HNum.out, HN.out, HBn.out, accN_one]
              case measure => simp [intOf]; omega
    · have HVa := Lib.hid hva
      have HD := Lib.hid hd
      have HMr := Lib.hid hmr
      have HBel := Lib.hid hbel
      have hm16 : m = (text.data.toList.length + 15) / 16 := by rw [htl]; omega
      have HN := Lib.hid hn
      rw [hm16] at HN
      have hlti : ¬ 16 * (m : Int) < (text.size : Int) := by omega
      have mk16 := fun w => makeZ 16 (by omega) w
      rw [show ((16 : Nat) : Int) = 16 from rfl] at mk16
      obtain ⟨_, ad, cd, rfl, _, _⟩ := id hva
      have hz16 : zrow 16 = rowB (List.replicate 16 0) := rfl
      rw [hz16] at mk16
      have HZ := Lib.hid (Arr.new w5 (rowB (List.replicate 16 0)) 5)
      have HBz := Lib.hid ((Below.refl w5.heap.size w5).alloc (Nat.le_refl _) (.cells (rowB (List.replicate 16 0)) 5))
      clear hva hd hmr hbel hm16 hn hl
      go_wp2
      clear mk16
      have hw0 : w5.alloc (.cells (rowB (List.replicate 16 0)) 5) = w5.alloc (.cells (rowB [0, 0, 0, 0, 0, 0, 0, 0, 0, 0, 0, 0, 0, 0, 0, 0]) 5) := rfl
      rw [hw0] at HZ HBz
      clear hw0
      generalize w5.alloc (.cells (rowB [0, 0, 0, 0, 0, 0, 0, 0, 0, 0, 0, 0, 0, 0, 0, 0]) 5) = w6 at *
      go_loopw [124] (fun i wr => ∃ (k : Nat) (out : List UInt8), k ≤ 16 ∧ i = .int .i64 (k : Int) ∧ In3 d out k ∧ Arr wr w5.heap.size (rowB out) 5 ∧ Below w5.heap.size w5 wr) (fun i _ => 16 - (intOf i).toNat)
      case atStart => exact ⟨0, List.replicate 16 0, by omega, rfl, In3.start d, HZ.out, HBz.out⟩
      case round =>
        clear HZ HBz
        obtain ⟨k, out, hk, rfl, hin, harr, hbl2⟩ := hrel
        have HArr := Lib.hid harr
        have HBl2 := Lib.hid hbl2
        by_cases hk16 : k < 16
        · have k0 : (0 : Int) ≤ (k : Int) := by omega
          have k16 : (k : Int) < 16 := by omega
          by_cases hkd : k < d.length
          · have hkdi : (k : Int) < (d.length : Int) := by omega
            obtain ⟨gs, rfl, cs⟩ := (HVa.out.next hbl2).at k hkd
            have bD := getD_lt d HD.out k
            have c0 := harr.cell (rowB_get (l := out) (k := k) (by rw [hin.len]; exact hk16))
            have f0 := harr.frozen k
            have hBV : (UInt8.ofNat (d.getD k 0)).toNat = d.getD k 0 := by simp only [UInt8.toNat_ofNat']; exact Nat.mod_eq_of_lt bD
            have HSt := Lib.hid (hin.step hk16 (UInt8.ofNat (d.getD k 0)) hBV)
            have eb : IntKind.u8.wrap ((d.getD k 0 : Nat) : Int) = ((UInt8.ofNat (d.getD k 0)).toNat : Int) := by rw [hBV, IntKind.wrap_u8]; omega
            have HEb := Lib.hid eb
            have eb2 : ((d.getD k 0 : Nat) : Int) = ((UInt8.ofNat (d.getD k 0)).toNat : Int) := by rw [hBV]
            have HEb2 := Lib.hid eb2
            clear hin harr hbl2 hBV eb eb2
            generalize UInt8.ofNat (d.getD k 0) = BV at *
            generalize d.getD k 0 = D at *
            generalize out.getD k 0 = O9 at *
            go_wp2
            have hs := HArr.out.set k (.int .u8 (BV.toNat : Int))
            rw [rowB_set] at hs
            have hb := HBl2.out.setCell (p := ⟨w5.heap.size, k, none⟩) (Nat.le_refl _) (.int .u8 (BV.toNat : Int))
            first | rw [HEb.out] | rw [HEb2.out]
            exact ⟨⟨k + 1, _, by omega, by go_num, HSt.out, hs, hb⟩, by simp [intOf]; omega⟩
          · have hkdi : ¬ (k : Int) < (d.length : Int) := by omega
            have HSt := Lib.hid (hin.skip (getD_none d k (by omega)))
            clear hin harr hbl2
            go_wp2
            exact ⟨⟨k + 1, _, by omega, by go_num, HSt.out, HArr.out, HBl2.out⟩, by simp [intOf]; omega⟩
        · obtain rfl : k = 16 := by omega
          have hnl := hin.fin HD.out
          obtain ⟨WB, hWB⟩ : ∃ WB : ByteArray, WB = ⟨out.toArray⟩ := ⟨_, rfl⟩
          have hWl : WB.data.toList = out := by rw [hWB]
          have hWs : WB.size = 16 := by rw [hWB]; show out.toArray.size = 16; rw [List.size_toArray, hin.len]
          have hrs := fun w => rsum5_any WB M (by omega) (by rw [HMs.out]; omega) w
          rw [hWl, HMl.out, one_fin hnl HN.out, ← HTe.out] at hrs
          have HRs := Lib.hid hrs
          have HCW : Hid (∀ {w : World}, Arr w w5.heap.size (rowB out) 5 → (convert 33 9 (.slice (some ⟨w5.heap.size, 0, none⟩) 16 16)).run Tryd.prog w = .ok (.string WB) w) := by
            intro w h; rw [hWB]; exact conv_rowB h hin.len
          have HMr2 := Lib.hid (HMr.out.next hbl2)
          have HB9 := Lib.hid (HBel.out.trans (hbl2.mono HBel.out.size))
          clear hin harr hbl2 hnl hWl hWs hrs hWB HBl2
          go_wp2
          go_region_held3 (fun w' => (convert 33 9 (.slice (some ⟨w5.heap.size, 0, none⟩) 16 16)).run Tryd.prog w' = .ok (.string WB) w' ∧ (convert 33 9 (.slice (some ⟨W.heap.size, 0, none⟩) 16 16)).run Tryd.prog w' = .ok (.string M) w')
            (first
              | exact ⟨HCW.out HArr.out.drew, HCM.out HMr2.out.drew⟩
              | exact ⟨HCW.out HA9.out, HCM.out HM9.out⟩)
            (first
              | (go_at_call 18; (with_reducible refine (HRs.out _).mono ?_); rintro e w9 ⟨rfl, hb9⟩; have HA9 := Lib.hid (HArr.out.drew.next hb9); have HM9 := Lib.hid (HMr2.out.drew.next hb9)))
          all_goals
            go_wp2_with fail
            go_ret
            exact ⟨rfl, HB9.out.drew.trans (hb9.mono HB9.out.size)⟩
end Go.Proofs.YtjbhmdlgokoepaaDoor
