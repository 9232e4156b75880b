/- The document's own Block of layer 4. -/
import Derived.Test.YtebhmcnocpblkaaDoorChR
import Derived.Deep.DeepCutAuto
namespace Go.Proofs.YtebhmcnocpblkaaDoor
open Go.RowKit

theorem rlow4_any (x : Nat) (hx : x < 4294967296) (w : World) :
    Calls Tryd.prog 26 #[.int .u64 x, .int .i64 4] w fun e w' => e = .returned (.string ⟨(lowL x 4).toArray⟩) ∧ Below w.heap.size w w' := rlow_any x (by omega) 4 w
theorem rfromLow_part (s : ByteArray) (hs : s.size = 64) (k : Nat) (hk : k < 16) (w : World) :
    Calls Tryd.prog 27 #[.string (s.extract (4 * k) (4 * k + 4))] w fun e w' => e = .returned (.tuple #[.int .u64 (num4 s.data.toList k : Nat), .int .i64 0]) ∧ Below w.heap.size w w' := by
  have hz : (s.extract (4 * k) (4 * k + 4)).size = 4 := by rw [ext_size _ _ _ (by omega)]; omega
  have h := rfromLow_any (s.extract (4 * k) (4 * k + 4)) (by rw [hz]; decide) w
  rw [hz, ext_toList, show 4 * k + 4 - 4 * k = 4 from by omega] at h
  exact h
theorem pl_lo (m : Nat) (h : m < 4) : plN (4 * m) = m ∧ plN (4 * m + 1) = 4 + m ∧ plN (4 * m + 2) = 8 + m ∧ plN (4 * m + 3) = 12 + m := by
  rcases (show m = 0 ∨ m = 1 ∨ m = 2 ∨ m = 3 by omega) with h | h | h | h <;> subst h <;> decide
theorem pl_hi (m : Nat) (h : m < 4) : plN (4 * (4 + m)) = m ∧ plN (4 * (4 + m) + 1) = 4 + (m + 1) % 4 ∧ plN (4 * (4 + m) + 2) = 8 + (m + 2) % 4 ∧ plN (4 * (4 + m) + 3) = 12 + (m + 3) % 4 := by
  rcases (show m = 0 ∨ m = 1 ∨ m = 2 ∨ m = 3 by omega) with h | h | h | h <;> subst h <;> decide
theorem st8_lo (Y : List Nat) (m : Nat) (h : m < 4) : st8 Y (m + 1) = stirAt (st8 Y m) m (4 + m) (8 + m) (12 + m) := by
  obtain ⟨h1, h2, h3, h4⟩ := pl_lo m h
  rw [st8, h1, h2, h3, h4]
theorem st8_hi (Y : List Nat) (m : Nat) (h : m < 4) : st8 Y (4 + (m + 1)) = stirAt (st8 Y (4 + m)) m (4 + (m + 1) % 4) (8 + (m + 2) % 4) (12 + (m + 3) % 4) := by
  obtain ⟨h1, h2, h3, h4⟩ := pl_hi m h
  rw [← Nat.add_assoc, st8, h1, h2, h3, h4]
theorem rst_lo (Y : List Nat) (hY : All32 Y) (g cap m : Nat) (h : m < 4) (w : World) (hA : RowW w g Y) :
    Calls Tryd.prog 28 #[.slice (some ⟨g, 0, none⟩) 16 cap, .int .i64 (m : Int), .int .i64 (4 + (m : Int)), .int .i64 (8 + (m : Int)), .int .i64 (12 + (m : Int))] w fun e w' => (∃ g' cap', e = .returned (.slice (some ⟨g', 0, none⟩) 16 cap') ∧ RowW w' g' (stirAt Y m (4 + m) (8 + m) (12 + m))) ∧ Below w.heap.size w w' := by
  have := rstirred_any Y hY g cap m (4 + m) (8 + m) (12 + m) (by omega) (by omega) (by omega) (by omega) (by omega) w hA
  rw [show ((4 + m : Nat) : Int) = 4 + (m : Int) by omega, show ((8 + m : Nat) : Int) = 8 + (m : Int) by omega, show ((12 + m : Nat) : Int) = 12 + (m : Int) by omega] at this
  exact this
theorem rst_hi (Y : List Nat) (hY : All32 Y) (g cap m : Nat) (h : m < 4) (w : World) (hA : RowW w g Y) :
    Calls Tryd.prog 28 #[.slice (some ⟨g, 0, none⟩) 16 cap, .int .i64 (m : Int), .int .i64 (4 + ((m : Int) + 1) % 4), .int .i64 (8 + ((m : Int) + 2) % 4), .int .i64 (12 + ((m : Int) + 3) % 4)] w fun e w' => (∃ g' cap', e = .returned (.slice (some ⟨g', 0, none⟩) 16 cap') ∧ RowW w' g' (stirAt Y m (4 + (m + 1) % 4) (8 + (m + 2) % 4) (12 + (m + 3) % 4))) ∧ Below w.heap.size w w' := by
  have := rstirred_any Y hY g cap m (4 + (m + 1) % 4) (8 + (m + 2) % 4) (12 + (m + 3) % 4) (by omega) (by omega) (by omega) (by omega) (by omega) w hA
  rw [show ((4 + (m + 1) % 4 : Nat) : Int) = 4 + ((m : Int) + 1) % 4 by omega, show ((8 + (m + 2) % 4 : Nat) : Int) = 8 + ((m : Int) + 2) % 4 by omega, show ((12 + (m + 3) % 4 : Nat) : Int) = 12 + ((m : Int) + 3) % 4 by omega] at this
  exact this
theorem owF {w : World} {base : Nat} {v : Value} {Y : List Nat} (h : Ow w base v Y) (hY : Y.length = 16) : ∃ g cap, v = .slice (some ⟨g, 0, none⟩) 16 cap ∧ RowW w g Y := by
  obtain ⟨g, cap, rfl, _, hc⟩ := h.form (by omega)
  exact ⟨g, cap, by rw [hY], hc⟩

set_option maxHeartbeats 2000000 in
set_option maxRecDepth 100000 in
theorem rblock4_ok (key nonce : ByteArray) (hs : szB key nonce = true) (c : Nat) (hc : c < 4294967296) (w : World) :
    Calls Tryd.prog 14 #[.string key, .int .u32 (c : Int), .string nonce] w fun e w' => e = .returned (.tuple #[.string (blkB key c nonce), .int .i64 0]) ∧ Below w.heap.size w w' := by
  obtain ⟨hk, hn⟩ := szB_yes hs
  have e1 : ((key.size : Int) != 32) = false := by rw [hk]; rfl
  have e2 : ((nonce.size : Int) != 12) = false := by rw [hn]; rfl
  have hlow := rlow4_any c hc
  obtain ⟨L, hL⟩ : ∃ L : ByteArray, L = ⟨(lowL c 4).toArray⟩ := ⟨_, rfl⟩
  have hLs : L.size = 4 := by rw [hL]; show (lowL c 4).toArray.size = 4; rw [List.size_toArray, lowL_len]
  have hLl : L.data.toList = lowL c 4 := by rw [hL]
  rw [← hL] at hlow
  have HLow := Lib.hid hlow
  have hr1 : ∀ w : World, (Op.stringOp .add ⟨#[101, 120, 112, 97, 110, 100, 32, 51, 50, 45, 98, 121, 116, 101, 32, 107]⟩ key).run Tryd.prog w = .ok (.string (⟨#[101, 120, 112, 97, 110, 100, 32, 51, 50, 45, 98, 121, 116, 101, 32, 107]⟩ ++ key)) w := fun w => cat_run _ key (by rw [hk]; decide) w
  obtain ⟨T1, hT1⟩ : ∃ T1 : ByteArray, T1 = ⟨#[101, 120, 112, 97, 110, 100, 32, 51, 50, 45, 98, 121, 116, 101, 32, 107]⟩ ++ key := ⟨_, rfl⟩
  have hT1s : T1.size = 48 := by rw [hT1, ByteArray.size_append, hk]; rfl
  have hT1l : T1.data.toList = headB ++ key.data.toList := by rw [hT1]; simp [headB]
  rw [← hT1] at hr1
  have hr2 : ∀ w : World, (Op.stringOp .add T1 L).run Tryd.prog w = .ok (.string (T1 ++ L)) w := fun w => cat_run T1 L (by omega) w
  obtain ⟨T2, hT2⟩ : ∃ T2, T2 = T1 ++ L := ⟨_, rfl⟩
  have hT2s : T2.size = 52 := by rw [hT2, ByteArray.size_append]; omega
  have hT2l : T2.data.toList = headB ++ key.data.toList ++ lowL c 4 := by rw [hT2, ← hT1l, ← hLl]; simp
  rw [← hT2] at hr2
  have hr3 : ∀ w : World, (Op.stringOp .add T2 nonce).run Tryd.prog w = .ok (.string (T2 ++ nonce)) w := fun w => cat_run T2 nonce (by omega) w
  obtain ⟨T, hT⟩ : ∃ T, T = T2 ++ nonce := ⟨_, rfl⟩
  have hTs : T.size = 64 := by rw [hT, ByteArray.size_append]; omega
  have hTl : T.data.toList = textL key.data.toList c nonce.data.toList := by rw [hT, textL, ← hT2l]; simp
  rw [← hT] at hr3
  have HBl : Hid (∀ n m r, n = 16 → m = 10 → r = 16 → (⟨(toldL (sumK (rdN (numsL T.data.toList n) m) (numsL T.data.toList n) r)).toArray⟩ : ByteArray) = blkB key c nonce) := by
    intro n m r h1 h2 h3
    have hF : numsL T.data.toList n = firstL key.data.toList c nonce.data.toList := by rw [h1, hTl]; rfl
    rw [hF, h2, h3, sumK_full (rdN_32 (firstL_32 _ _ _) 10).1 (firstL_32 _ _ _).1, blkB, blockL]
    rfl
  obtain ⟨BB, hBB⟩ : ∃ BB, BB = blkB key c nonce := ⟨_, rfl⟩
  rw [← hBB] at HBl ⊢
  have HTs := Lib.hid hTs
  have hcu := wrapN64 c hc
  clear hL hLs hLl hlow hT1 hT1s hT1l hT2 hT2s hT2l hT hTl hTs hBB hk hn hc hs
  go_enter Tryd.func14, Tryd.ntmps14
  go_wp2_with (first
    | (go_at_call 26; (with_reducible refine (HLow.out _).mono ?_); rintro e w1 ⟨rfl, hb⟩))
  have HO := Lib.hid (Ow.start w1 w.heap.size hb.size)
  have HB := Lib.hid (hb.alloc hb.size (.cells #[] 22))
  clear hb hcu hr1 hr2 hr3 e1 e2 HLow
  generalize w1.alloc (.cells #[] 22) = w2 at *
  generalize w1.heap.size = g0 at *
  go_loopw [9, 10] (fun v i wr => ∃ k : Nat, k ≤ 16 ∧ i = .int .i64 (k : Int) ∧ Ow wr w.heap.size v (numsL T.data.toList k) ∧ Below w.heap.size w wr) (fun _ i _ => 16 - (intOf i).toNat)
  case atStart => exact ⟨0, by omega, rfl, HO.out, HB.out⟩
  case round =>
    clear HO HB
    obtain ⟨k, hk, rfl, hown, hbel⟩ := hrel
    by_cases hlt : k < 16
    · have hsl := slice_str T (4 * (k : Int)) (4 * (k : Int) + 4) (4 * k) (4 * k + 4) (by omega) (by omega) (by omega) (by rw [HTs.out]; omega)
      have HF := Lib.hid (rfromLow_part T HTs.out k hlt)
      have hx := num4_lt T.data.toList k
      have HX : Hid ((num4 T.data.toList k : Int) % 4294967296 = (num4 T.data.toList k : Int)) := by show _ = _; omega
      have HNs := Lib.hid (numsL_succ T.data.toList k)
      have HNl := Lib.hid (show (numsL T.data.toList k).length ≤ 1099511627776 by rw [numsL_len]; omega)
      have HOw := Lib.hid hown
      have HBel := Lib.hid hbel
      clear hx hown hbel
      generalize num4 T.data.toList k = x at *
      go_wp2_with (first
        | (go_at_call 27; ((with_reducible refine (HF.out _).mono ?_); rintro e w3 ⟨rfl, hb3⟩; have HOw3 := Lib.hid (Ow.next HOw.out hb3); have HBel3 := Lib.hid (HBel.out.trans (hb3.mono HBel.out.size))))
        | (at_builtin; refine wpList_pushw w3 rfl _ _ rfl w.heap.size _ (numsL T.data.toList k) rfl rfl HOw3.out x HX.out HNl.out HBel3.out.size ?_; intro v4 w4 hown4 hb4))
      go_roundw
      case rel => exact ⟨k + 1, by omega, by go_num, by rw [HNs.out]; exact hown4, HBel3.out.trans hb4⟩
      case measure => simp [intOf]; omega
    · obtain rfl : k = 16 := by omega
      have hF := numsL_32 T.data.toList
      obtain ⟨gF, capF, rfl, hrow⟩ := owF hown hF.1
      have HF := Lib.hid hF
      have HBl2 : Hid (∀ m r, m = 10 → r = 16 → (⟨(toldL (sumK (rdN (numsL T.data.toList 16) m) (numsL T.data.toList 16) r)).toArray⟩ : ByteArray) = BB) := fun m r h1 h2 => HBl.out 16 m r rfl h1 h2
      have HRow := Lib.hid hrow
      have HBel := Lib.hid hbel
      clear hown hF hrow hbel HBl HTs
      generalize numsL T.data.toList 16 = F at *
      rw [show ((16 : Nat) : Int) = 16 from rfl]
      go_wp2
      go_loopw [13, 14] (fun s i wr => ∃ k g cap : Nat, k ≤ 10 ∧ s = .slice (some ⟨g, 0, none⟩) 16 cap ∧ i = .int .i64 (k : Int) ∧ RowW wr g (rdN F k) ∧ RowW wr gF F ∧ Below w.heap.size w wr) (fun _ i _ => 10 - (intOf i).toNat)
      case atStart => exact ⟨0, gF, capF, by omega, rfl, rfl, HRow.out, HRow.out, HBel.out⟩
      case round =>
        clear HRow HBel
        obtain ⟨k, g, cap, hk, rfl, rfl, hg, hf, hbel⟩ := hrel
        have HG := Lib.hid hg
        have HFr := Lib.hid hf
        have HBel := Lib.hid hbel
        clear hg hf hbel
        by_cases hlt : k < 10
        · have HY := Lib.hid (rdN_32 HF.out k)
          have hdk : decide ((k : Int) < 10) = true := decide_eq_true (by omega)
          go_wp2
          clear hdk
          go_loopw [13, 15] (fun s i wr => ∃ m g cap : Nat, m ≤ 4 ∧ s = .slice (some ⟨g, 0, none⟩) 16 cap ∧ i = .int .i64 (m : Int) ∧ RowW wr g (st8 (rdN F k) m) ∧ RowW wr gF F ∧ Below w.heap.size w wr) (fun _ i _ => 4 - (intOf i).toNat)
          case atStart => exact ⟨0, g, cap, by omega, rfl, rfl, HG.out, HFr.out, HBel.out⟩
          case round =>
            clear HG HFr HBel
            obtain ⟨m, g, cap, hm, rfl, rfl, hg, hf, hbel⟩ := hrel
            have HFr := Lib.hid hf
            have HBel := Lib.hid hbel
            by_cases hmt : m < 4
            · have HSt := Lib.hid (rst_lo _ (st8_32 HY.out m) g cap m hmt wr hg)
              rw [← st8_lo (rdN F k) m hmt] at HSt
              clear hg hf hbel
              go_wp2_with (first
                | (go_at_call 28; (with_reducible refine HSt.out.mono ?_); rintro e w3 ⟨⟨g3, cap3, rfl, hg3⟩, hb3⟩))
              go_roundw
              case rel => exact ⟨m + 1, g3, cap3, by omega, rfl, by go_num, hg3, HFr.out.next (by rw [HF.out.1]; decide) hb3, HBel.out.trans (hb3.mono HBel.out.size)⟩
              case measure => simp [intOf]; omega
            · obtain rfl : m = 4 := by omega
              have HG := Lib.hid hg
              clear hg hf hbel
              rw [show ((4 : Nat) : Int) = 4 from rfl]
              go_wp2
              go_loopw [13, 16] (fun s i wr => ∃ m g cap : Nat, m ≤ 4 ∧ s = .slice (some ⟨g, 0, none⟩) 16 cap ∧ i = .int .i64 (m : Int) ∧ RowW wr g (st8 (rdN F k) (4 + m)) ∧ RowW wr gF F ∧ Below w.heap.size w wr) (fun _ i _ => 4 - (intOf i).toNat)
              case atStart => exact ⟨0, g, cap, by omega, rfl, rfl, HG.out, HFr.out, HBel.out⟩
              case round =>
                clear HG HFr HBel
                obtain ⟨m, g, cap, hm, rfl, rfl, hg, hf, hbel⟩ := hrel
                have HFr := Lib.hid hf
                have HBel := Lib.hid hbel
                by_cases hmt : m < 4
                · have HSt := Lib.hid (rst_hi _ (st8_32 HY.out (4 + m)) g cap m hmt wr hg)
                  rw [← st8_hi (rdN F k) m hmt] at HSt
                  clear hg hf hbel
                  go_wp2_with (first
                    | (go_at_call 28; (with_reducible refine HSt.out.mono ?_); rintro e w3 ⟨⟨g3, cap3, rfl, hg3⟩, hb3⟩))
                  go_roundw
                  case rel => exact ⟨m + 1, g3, cap3, by omega, rfl, by go_num, hg3, HFr.out.next (by rw [HF.out.1]; decide) hb3, HBel.out.trans (hb3.mono HBel.out.size)⟩
                  case measure => simp [intOf]; omega
                · obtain rfl : m = 4 := by omega
                  have HG := Lib.hid hg
                  clear hg hf hbel
                  go_wp2
                  go_roundw
                  case rel => exact ⟨k + 1, g, cap, by omega, rfl, by go_num, HG.out, HFr.out, HBel.out⟩
                  case measure => simp [intOf]; omega
        · obtain rfl : k = 10 := by omega
          have HY := Lib.hid (rdN_32 HF.out 10)
          have HBl3 : Hid (∀ r, r = 16 → (⟨(toldL ((sumL (rdN F 10) F).take r)).toArray⟩ : ByteArray) = BB) := fun r h => by
            rw [← HBl2.out 10 16 rfl rfl, h, sumK_full HY.out.1 HF.out.1, List.take_of_length_le (by rw [sumL_len (by rw [HY.out.1, HF.out.1]), HY.out.1]; exact Nat.le_refl _)]
          clear HBl2
          generalize rdN F 10 = Y at *
          have HSl : Hid ((sumL Y F).length = 16) := by rw [Hid, sumL_len (by rw [HY.out.1, HF.out.1]), HY.out.1]
          have HSat : Hid (∀ j, j < 16 → (sumL Y F).getD j 0 = (Y.getD j 0 + F.getD j 0) % 4294967296) := by
            intro j hj
            rw [List.getD_eq_getElem?_getD, List.getD_eq_getElem?_getD, List.getD_eq_getElem?_getD, sumL, List.getElem?_zipWith, List.getElem?_eq_getElem (by rw [HY.out.1]; exact hj), List.getElem?_eq_getElem (by rw [HF.out.1]; exact hj)]
            rfl
          generalize sumL Y F = SM at *
          rw [show ((10 : Nat) : Int) = 10 from rfl]
          go_wp2
          go_loopw [17, 18] (fun o i wr => ∃ k : Nat, k ≤ 16 ∧ o = .string ⟨(toldL (SM.take k)).toArray⟩ ∧ i = .int .i64 (k : Int) ∧ RowW wr g Y ∧ RowW wr gF F ∧ Below w.heap.size w wr) (fun _ i _ => 16 - (intOf i).toNat)
          case atStart => exact ⟨0, by omega, rfl, rfl, HG.out, HFr.out, HBel.out⟩
          case round =>
            clear HG HFr HBel
            obtain ⟨k, hk, rfl, rfl, hg, hf, hbel⟩ := hrel
            by_cases hlt : k < 16
            · have cy := hg.at k (by rw [HY.out.1]; exact hlt)
              have cf := hf.at k (by rw [HF.out.1]; exact hlt)
              have hsum := sum2 (Y.getD k 0) (F.getD k 0)
              rw [← HSat.out k hlt, ← IntKind.wrap_u32] at hsum
              have hxl : SM.getD k 0 < 4294967296 := by rw [HSat.out k hlt]; exact mod32_lt _
              have hwn := wrapN64 _ hxl
              have hlow := rlow4_any _ hxl
              obtain ⟨L4, hL4⟩ : ∃ L4 : ByteArray, L4 = ⟨(lowL (SM.getD k 0) 4).toArray⟩ := ⟨_, rfl⟩
              have hLs : L4.size = 4 := by rw [hL4]; show (lowL (SM.getD k 0) 4).toArray.size = 4; rw [List.size_toArray, lowL_len]
              rw [← hL4] at hlow
              obtain ⟨S0, hS0⟩ : ∃ S0 : ByteArray, S0 = ⟨(toldL (SM.take k)).toArray⟩ := ⟨_, rfl⟩
              obtain ⟨S1, hS1⟩ : ∃ S1 : ByteArray, S1 = ⟨(toldL (SM.take (k + 1))).toArray⟩ := ⟨_, rfl⟩
              have hS0s : S0.size = 4 * k := by rw [hS0]; show (toldL (SM.take k)).toArray.size = _; rw [List.size_toArray, toldL_len, List.length_take, HSl.out, Nat.min_eq_left hk]
              have hcat : S0 ++ L4 = S1 := by
                apply ByteArray.ext
                apply Array.ext'
                rw [show (S0 ++ L4).data.toList = S0.data.toList ++ L4.data.toList by simp, bstr _ S0 hS0, bstr _ L4 hL4, bstr _ S1 hS1, toldL_take SM k (by rw [HSl.out]; exact hlt)]
              have hrun : ∀ w : World, (Op.stringOp .add S0 L4).run Tryd.prog w = .ok (.string S1) w := fun w => by rw [cat_run S0 L4 (by omega) w, hcat]
              rw [← hS0]
              have HS1d := Lib.hid hS1
              have HLow := Lib.hid hlow
              have HG := Lib.hid hg
              have HFr := Lib.hid hf
              have HBel := Lib.hid hbel
              have HYp := Lib.hid (show 0 < Y.length by rw [HY.out.1]; decide)
              have HFp := Lib.hid (show 0 < F.length by rw [HF.out.1]; decide)
              have HH : Hid (∀ {wx : World}, RowW wx g Y → RowW wx gF F → wx.cell? ⟨g, k, none⟩ = some (.int .u32 ((Y.getD k 0 : Nat) : Int)) ∧ wx.cell? ⟨gF, k, none⟩ = some (.int .u32 ((F.getD k 0 : Nat) : Int))) := fun h1 h2 =>
                ⟨h1.at k (by rw [HY.out.1]; exact hlt), h2.at k (by rw [HF.out.1]; exact hlt)⟩
              clear hlow hS0 hS1 hL4 hLs hS0s hcat hg hf hbel hxl
              generalize SM.getD k 0 = x at *
              generalize Y.getD k 0 = y at *
              generalize F.getD k 0 = f at *
              have hk0 : (0 : Int) ≤ (k : Int) := by omega
              have hk1 : (k : Int) < 16 := by omega
              go_wp2
              go_region_held3 (fun w' => w'.cell? ⟨g, k, none⟩ = some (.int .u32 (y : Int)) ∧ w'.cell? ⟨gF, k, none⟩ = some (.int .u32 (f : Int)))
                (first
                  | with_reducible exact HH.out HG.out.drew HFr.out.drew
                  | with_reducible exact HH.out HG3.out HF3.out)
                (first
                  | (go_at_call 26; (with_reducible refine (HLow.out _).mono ?_); rintro e w3 ⟨rfl, hb3⟩; have HG3 := Lib.hid (HG.out.drew.next HYp.out hb3); have HF3 := Lib.hid (HFr.out.drew.next HFp.out hb3)))
              go_wp2
              go_roundw
              case rel => exact ⟨k + 1, hlt, by rw [HS1d.out], by go_num, HG3.out, HF3.out, HBel.out.drew.trans (hb3.mono HBel.out.size)⟩
              case measure => simp [intOf]; omega
            · obtain rfl : k = 16 := by omega
              have hE := HBl3.out 16 rfl
              rw [hE]
              have HBel := Lib.hid hbel
              clear hg hf hbel hE HBl3
              go_wp2
              go_ret2
              exact ⟨rfl, HBel.out⟩
end Go.Proofs.YtebhmcnocpblkaaDoor
