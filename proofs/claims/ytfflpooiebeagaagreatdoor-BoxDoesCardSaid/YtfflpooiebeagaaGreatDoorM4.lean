/- The document's own Stir and stirred of layer 4. The document's own Block of layer 4. 'large' of layer 4's laws. chacha: the layer's law's own first calls. ChachaSizes: the law's walk. The document's own Stream and Turn of layer 4. -/
import Derived.Test.YtfflpooiebeagaaGreatDoorM3
import Derived.Test.YtfflpooiebeagaaGreatDoorM1
import Derived.StillTailTactics
import Derived.Deep.RegionHeld3
import Derived.Deep.DeepCutAuto
import Derived.KernelRfl
namespace Go.Proofs.YtfflpooiebeagaaGreatDoor
open Go.RowKit

theorem rleft_c (n : Int) (k : Nat) (h0 : -9223372036854775808 ≤ n) (h1 : n ≤ 9223372036854775807) (hn : (n % 32).toNat = k) (x y : Nat) (hx : x < 4294967296) (hy : y = rotl x k) (w : World) :
    Calls Tryz.prog 126 #[.int .u32 x, .int .i64 n] w fun e w' => e = .returned (.int .u32 (y : Nat)) ∧ w = w' := by
  subst hn hy
  exact rleft_any x hx n h0 h1 w

set_option maxHeartbeats 1000000 in
set_option maxRecDepth 100000 in
theorem rstir_any (q : Q4) (h : q.ok) (g cap : Nat) (ty : TypeId) (w : World) (hA : Arr w g q.cells ty) :
    Calls Tryz.prog 115 #[.slice (some ⟨g, 0, none⟩) 4 cap] w fun e w' => (∃ g', e = .returned (.slice (some ⟨g', 0, none⟩) 4 4) ∧ Arr w' g' (stirQ q).cells 60) ∧ Below w.heap.size w w' := by
  obtain ⟨A1, X1, D1, C1, X2, B1, A2, X3, D2, C2, X4, B2, hs⟩ := steps h
  have H1 := Lib.hid (rleft_c 16 16 (by decide) (by decide) rfl X1 D1 hs.l1 hs.d1)
  have H2 := Lib.hid (rleft_c 12 12 (by decide) (by decide) rfl X2 B1 hs.l2 hs.b1)
  have H3 := Lib.hid (rleft_c 8 8 (by decide) (by decide) rfl X3 D2 hs.l3 hs.d2)
  have H4 := Lib.hid (rleft_c 7 7 (by decide) (by decide) rfl X4 B2 hs.l4 hs.b2)
  obtain ⟨e1, e2, z1, z2, e5, e6, z3, z4, e9, e10, z5, z6, e13, e14, z7, z8, e17⟩ := hs
  clear z1 z2 z3 z4 z5 z6 z7 z8
  have HR := Lib.hid e17
  clear e17
  obtain ⟨A, B, C, D⟩ := q
  simp only at e1 e2 e5 e6 ⊢
  clear h
  have c0 : w.cell? ⟨g, 0, none⟩ = some (.int .u32 (A : Int)) := hA.cell (j := 0) rfl
  have c1 : w.cell? ⟨g, 1, none⟩ = some (.int .u32 (B : Int)) := hA.cell (j := 1) rfl
  have c2 : w.cell? ⟨g, 2, none⟩ = some (.int .u32 (C : Int)) := hA.cell (j := 2) rfl
  have c3 : w.cell? ⟨g, 3, none⟩ = some (.int .u32 (D : Int)) := hA.cell (j := 3) rfl
  clear hA
  go_enter Tryz.func115, Tryz.ntmps115
  go_wp2_with (first
    | (go_at_call 126; (first
      | ((with_reducible refine (H1.out _).mono ?_); rintro e w' ⟨rfl, rfl⟩)
      | ((with_reducible refine (H2.out _).mono ?_); rintro e w' ⟨rfl, rfl⟩)
      | ((with_reducible refine (H3.out _).mono ?_); rintro e w' ⟨rfl, rfl⟩)
      | ((with_reducible refine (H4.out _).mono ?_); rintro e w' ⟨rfl, rfl⟩))))
  go_ret
  exact ⟨⟨w.heap.size, rfl, by rw [HR.out]; exact Arr.new w (Q4.cells ⟨A2, B2, C2, D2⟩) _⟩, (Below.refl _ _).alloc (Nat.le_refl _) _⟩

theorem ow16 {w : World} {base : Nat} {v : Value} {Y : List Nat} (h : Ow w base v ([] ++ Y)) (hY : Y.length = 16) : ∃ g cap, v = .slice (some ⟨g, 0, none⟩) 16 cap ∧ base ≤ g ∧ w.ownsRow base 60 1 (.slice (some ⟨g, 0, none⟩) 16 cap) 16 (u32s Y) := by
  rw [List.nil_append] at h
  have h' := h
  rcases h.2 with ⟨_, hx⟩ | ⟨g, cap, cur, rfl, hb, _⟩
  · rw [hY] at hx; exact absurd hx (by decide)
  · unfold Ow at h'
    rw [hY] at h'
    exact ⟨g, cap, by rw [hY], hb, h'⟩
set_option maxHeartbeats 1000000 in
set_option maxRecDepth 100000 in
theorem rstirred_any (Y : List Nat) (hY : All32 Y) (g cap i j k l : Nat) (hi : i < 16) (hj : j < 16) (hk : k < 16) (hl : l < 16) (hd : i ≠ j ∧ i ≠ k ∧ i ≠ l ∧ j ≠ k ∧ j ≠ l ∧ k ≠ l) (w : World) (hA : RowW w g Y) :
    Calls Tryz.prog 100 #[.slice (some ⟨g, 0, none⟩) 16 cap, .int .i64 (i : Int), .int .i64 (j : Int), .int .i64 (k : Int), .int .i64 (l : Int)] w fun e w' => (∃ g' cap', e = .returned (.slice (some ⟨g', 0, none⟩) 16 cap') ∧ RowW w' g' (stirAt Y i j k l)) ∧ Below w.heap.size w w' := by
  have hst : stirAt Y i j k l = putQ Y (stirQ (getQ Y i j k l)) i j k l := rfl
  have hS := fun g' cap' ty w h => rstir_any (getQ Y i j k l) (getQ_ok hY i j k l) g' cap' ty w h
  have y0 := hA.at i (by rw [hY.1]; exact hi)
  have y1 := hA.at j (by rw [hY.1]; exact hj)
  have y2 := hA.at k (by rw [hY.1]; exact hk)
  have y3 := hA.at l (by rw [hY.1]; exact hl)
  obtain ⟨q, hq⟩ : ∃ q, q = stirQ (getQ Y i j k l) := ⟨_, rfl⟩
  rw [← hq] at hst hS
  rw [hst]
  clear hq hst
  obtain ⟨A2, B2, C2, D2⟩ := q
  unfold getQ at hS
  have HA := Lib.hid hA
  have HYl := Lib.hid hY.1
  have HYp := Lib.hid (show 0 < Y.length by rw [hY.1]; decide)
  have HH : Hid (∀ {wx : World}, RowW wx g Y → wx.cell? ⟨g, i, none⟩ = some (.int .u32 ((Y.getD i 0 : Nat) : Int)) ∧ wx.cell? ⟨g, j, none⟩ = some (.int .u32 ((Y.getD j 0 : Nat) : Int)) ∧ wx.cell? ⟨g, k, none⟩ = some (.int .u32 ((Y.getD k 0 : Nat) : Int)) ∧ wx.cell? ⟨g, l, none⟩ = some (.int .u32 ((Y.getD l 0 : Nat) : Int))) := by
    intro wx h
    exact ⟨h.at i (by rw [hY.1]; exact hi), h.at j (by rw [hY.1]; exact hj), h.at k (by rw [hY.1]; exact hk), h.at l (by rw [hY.1]; exact hl)⟩
  have HD := Lib.hid hd
  generalize Y.getD i 0 = A at *
  generalize Y.getD j 0 = B at *
  generalize Y.getD k 0 = C at *
  generalize Y.getD l 0 = D at *
  unfold Q4.cells at hS
  simp only at hS
  have HS := Lib.hid hS
  have z0 : (0 : Int) ≤ (i : Int) := by omega
  have z1 : (0 : Int) ≤ (j : Int) := by omega
  have z2 : (0 : Int) ≤ (k : Int) := by omega
  have z3 : (0 : Int) ≤ (l : Int) := by omega
  have i0 : (i : Int) < 16 := by omega
  have i1 : (j : Int) < 16 := by omega
  have i2 : (k : Int) < 16 := by omega
  have i3 : (l : Int) < 16 := by omega
  clear hS hA hY hd
  go_enter Tryz.func100, Tryz.ntmps100
  go_wp2
  go_region_held3 (fun w' => w'.cell? ⟨g, i, none⟩ = some (.int .u32 (A : Int)) ∧ w'.cell? ⟨g, j, none⟩ = some (.int .u32 (B : Int)) ∧ w'.cell? ⟨g, k, none⟩ = some (.int .u32 (C : Int)) ∧ w'.cell? ⟨g, l, none⟩ = some (.int .u32 (D : Int)))
    (first
      | with_reducible exact HH.out HA.out.drew
      | with_reducible exact HH.out (HA.out.alloc HYp.out (.cells #[.int .u32 (A : Int), .int .u32 (B : Int), .int .u32 (C : Int), .int .u32 (D : Int)] 60)).drew
      | with_reducible exact HH.out ((HA.out.drew).alloc HYp.out (.cells #[.int .u32 (A : Int), .int .u32 (B : Int), .int .u32 (C : Int), .int .u32 (D : Int)] 60))
      | with_reducible exact HH.out HA3.out)
    (first
      | (go_at_call 115; (with_reducible refine (HS.out _ 4 60 _ (Arr.new w #[.int .u32 (A : Int), .int .u32 (B : Int), .int .u32 (C : Int), .int .u32 (D : Int)] 60).drew).mono ?_); rintro e w3 ⟨⟨g3, rfl, hq3⟩, hb3⟩; have HA3 := Lib.hid ((HA.out.alloc HYp.out (.cells #[.int .u32 (A : Int), .int .u32 (B : Int), .int .u32 (C : Int), .int .u32 (D : Int)] 60)).drew.next HYp.out hb3)))
  have hne3 : g3 < w3.heap.size := hq3.lt
  have HQ3 := Lib.hid hq3
  have HO3 := Lib.hid (Ow.start w3 w3.heap.size (Nat.le_refl _))
  have HA3' := Lib.hid (HA3.out.alloc HYp.out (.cells #[] 60))
  have HB3 := Lib.hid ((((Below.refl w.heap.size w).alloc (Nat.le_refl _) (.cells #[.int .u32 (A : Int), .int .u32 (B : Int), .int .u32 (C : Int), .int .u32 (D : Int)] 60)).drew).trans (hb3.mono (by show w.heap.size ≤ (w.heap.push _).size; simp)))
  obtain ⟨d01, d02, d03, d12, d13, d23⟩ := HD.out
  clear y0 y1 y2 y3 hb3 hq3
  have hHYi : i < (u32s Y).length := by rw [u32s_len, HYl.out]; exact hi
  have hHYj : j < (u32s Y).length := by rw [u32s_len, HYl.out]; exact hj
  have hHYk : k < (u32s Y).length := by rw [u32s_len, HYl.out]; exact hk
  have hHYl : l < (u32s Y).length := by rw [u32s_len, HYl.out]; exact hl
  go_wp2_with (first
    | (at_builtin; refine wpList_appendw (w3.alloc (.cells #[] 60)) rfl _ _ rfl w3.heap.size _ [] rfl g 16 cap rfl HO3.out Y HYl.out HA3'.out (by decide) (by simp) ?_; intro v4 w4 hown4 hb4
       obtain ⟨g4, cap4, rfl, hb, hHA4⟩ := ow16 hown4 HYl.out
       have hc0 := (hHA4.cellAt i (by omega)).trans (List.getElem?_eq_getElem hHYi)
       have hc1 := (hHA4.cellAt j (by omega)).trans (List.getElem?_eq_getElem hHYj)
       have hc2 := (hHA4.cellAt k (by omega)).trans (List.getElem?_eq_getElem hHYk)
       have hc3 := (hHA4.cellAt l (by omega)).trans (List.getElem?_eq_getElem hHYl)
       have hf0 := hHA4.frozenAt i
       have hf1 := hHA4.frozenAt j
       have hf2 := hHA4.frozenAt k
       have hf3 := hHA4.frozenAt l
       have hq4 : Arr w4 g3 #[.int .u32 (A2 : Int), .int .u32 (B2 : Int), .int .u32 (C2 : Int), .int .u32 (D2 : Int)] 60 := (HQ3.out.alloc _).below hb4 hne3
       have q0 : w4.cell? ⟨g3, 0, none⟩ = some (.int .u32 (A2 : Int)) := hq4.cell (j := 0) rfl
       have q1 : w4.cell? ⟨g3, 1, none⟩ = some (.int .u32 (B2 : Int)) := hq4.cell (j := 1) rfl
       have q2 : w4.cell? ⟨g3, 2, none⟩ = some (.int .u32 (C2 : Int)) := hq4.cell (j := 2) rfl
       have q3 : w4.cell? ⟨g3, 3, none⟩ = some (.int .u32 (D2 : Int)) := hq4.cell (j := 3) rfl
       have hg34 : g3 ≠ g4 := by omega
       have HG4 := Lib.hid hb
       have HR4 := Lib.hid (Ow.set (Ow.set (Ow.set (Ow.set hHA4 i A2) j B2) k C2) l D2)
       have hBel4 := Lib.hid ((HB3.out.alloc HB3.out.size (.cells #[] 60)).trans (hb4.mono HB3.out.size))
       clear hown4 hb4 hHA4 hq4))
  have hgw : w.heap.size ≤ g4 := Nat.le_trans HB3.out.size HG4.out
  have HBel := Lib.hid ((((hBel4.out.setCell (p := ⟨g4, i, none⟩) hgw (.int .u32 (A2 : Int))).setCell (p := ⟨g4, j, none⟩) hgw (.int .u32 (B2 : Int))).setCell (p := ⟨g4, k, none⟩) hgw (.int .u32 (C2 : Int))).setCell (p := ⟨g4, l, none⟩) hgw (.int .u32 (D2 : Int)))
  go_ret
  refine ⟨⟨g4, cap4, rfl, ?_⟩, HBel.out⟩
  have := HR4.out
  have hlen : (putQ Y ⟨A2, B2, C2, D2⟩ i j k l).length = 16 := by simp [putQ, HYl.out]
  exact Ow.row (base := w3.heap.size) (cap := cap4) (by unfold Ow; rw [hlen]; exact this)
end Go.Proofs.YtfflpooiebeagaaGreatDoor
namespace Go.Proofs.YtfflpooiebeagaaGreatDoor
open Go.RowKit

theorem rlow4_any (x : Nat) (hx : x < 4294967296) (w : World) :
    Calls Tryz.prog 45 #[.int .u64 x, .int .i64 4] w fun e w' => e = .returned (.string ⟨(lowL x 4).toArray⟩) ∧ Below w.heap.size w w' := rlow_any x (by omega) 4 w
theorem rfromLow_part (s : ByteArray) (hs : s.size = 64) (k : Nat) (hk : k < 16) (w : World) :
    Calls Tryz.prog 99 #[.string (s.extract (4 * k) (4 * k + 4))] w fun e w' => e = .returned (.tuple #[.int .u64 (num4 s.data.toList k : Nat), .int .i64 0]) ∧ Below w.heap.size w w' := by
  have hz : (s.extract (4 * k) (4 * k + 4)).size = 4 := by rw [ext_size _ _ _ (by omega)]; omega
  have h := rfromLow_any (s.extract (4 * k) (4 * k + 4)) (by rw [hz]; decide) w
  rw [hz, ext_toList, show 4 * k + 4 - 4 * k = 4 from by omega] at h
  exact h
theorem pl_lo (m : Nat) (h : m < 4) : plN (4 * m) = m ∧ plN (4 * m + 1) = 4 + m ∧ plN (4 * m + 2) = 8 + m ∧ plN (4 * m + 3) = 12 + m := by
  rcases (show m = 0 ∨ m = 1 ∨ m = 2 ∨ m = 3 by omega) with h | h | h | h <;> subst h <;> decide
theorem pl_hi (m : Nat) (h : m < 4) : plN (4 * (4 + m)) = m ∧ plN (4 * (4 + m) + 1) = 4 + (m + 1) % 4 ∧ plN (4 * (4 + m) + 2) = 8 + (m + 2) % 4 ∧ plN (4 * (4 + m) + 3) = 12 + (m + 3) % 4 := by
  rcases (show m = 0 ∨ m = 1 ∨ m = 2 ∨ m = 3 by omega) with h | h | h | h <;> subst h <;> decide
theorem st8_lo (Y : List Nat) (m : Nat) (h : m < 4) : st8 Y (m + 1) = stirAt (st8 Y m) m (4 + m) (8 + m) (12 + m) := by
  obtain ⟨h1, h2, h3, h4⟩ := pl_lo m h
  rw [st8, h1, h2, h3, h4]
theorem st8_hi (Y : List Nat) (m : Nat) (h : m < 4) : st8 Y (4 + (m + 1)) = stirAt (st8 Y (4 + m)) m (4 + (m + 1) % 4) (8 + (m + 2) % 4) (12 + (m + 3) % 4) := by
  obtain ⟨h1, h2, h3, h4⟩ := pl_hi m h
  rw [← Nat.add_assoc, st8, h1, h2, h3, h4]
theorem rst_lo (Y : List Nat) (hY : All32 Y) (g cap m : Nat) (h : m < 4) (w : World) (hA : RowW w g Y) :
    Calls Tryz.prog 100 #[.slice (some ⟨g, 0, none⟩) 16 cap, .int .i64 (m : Int), .int .i64 (4 + (m : Int)), .int .i64 (8 + (m : Int)), .int .i64 (12 + (m : Int))] w fun e w' => (∃ g' cap', e = .returned (.slice (some ⟨g', 0, none⟩) 16 cap') ∧ RowW w' g' (stirAt Y m (4 + m) (8 + m) (12 + m))) ∧ Below w.heap.size w w' := by
  have := rstirred_any Y hY g cap m (4 + m) (8 + m) (12 + m) (by omega) (by omega) (by omega) (by omega) (by omega) w hA
  rw [show ((4 + m : Nat) : Int) = 4 + (m : Int) by omega, show ((8 + m : Nat) : Int) = 8 + (m : Int) by omega, show ((12 + m : Nat) : Int) = 12 + (m : Int) by omega] at this
  exact this
theorem rst_hi (Y : List Nat) (hY : All32 Y) (g cap m : Nat) (h : m < 4) (w : World) (hA : RowW w g Y) :
    Calls Tryz.prog 100 #[.slice (some ⟨g, 0, none⟩) 16 cap, .int .i64 (m : Int), .int .i64 (4 + ((m : Int) + 1) % 4), .int .i64 (8 + ((m : Int) + 2) % 4), .int .i64 (12 + ((m : Int) + 3) % 4)] w fun e w' => (∃ g' cap', e = .returned (.slice (some ⟨g', 0, none⟩) 16 cap') ∧ RowW w' g' (stirAt Y m (4 + (m + 1) % 4) (8 + (m + 2) % 4) (12 + (m + 3) % 4))) ∧ Below w.heap.size w w' := by
  have := rstirred_any Y hY g cap m (4 + (m + 1) % 4) (8 + (m + 2) % 4) (12 + (m + 3) % 4) (by omega) (by omega) (by omega) (by omega) (by omega) w hA
  rw [show ((4 + (m + 1) % 4 : Nat) : Int) = 4 + ((m : Int) + 1) % 4 by omega, show ((8 + (m + 2) % 4 : Nat) : Int) = 8 + ((m : Int) + 2) % 4 by omega, show ((12 + (m + 3) % 4 : Nat) : Int) = 12 + ((m : Int) + 3) % 4 by omega] at this
  exact this
theorem owF {w : World} {base : Nat} {v : Value} {Y : List Nat} (h : Ow w base v Y) (hY : Y.length = 16) : ∃ g cap, v = .slice (some ⟨g, 0, none⟩) 16 cap ∧ RowW w g Y := by
  obtain ⟨g, cap, rfl, _, hc⟩ := h.form (by omega)
  exact ⟨g, cap, by rw [hY], hc⟩

set_option maxHeartbeats 2000000 in
set_option maxRecDepth 100000 in
theorem rblock4_ok (key nonce : ByteArray) (hs : szB key nonce = true) (c : Nat) (hc : c < 4294967296) (w : World) :
    Calls Tryz.prog 71 #[.string key, .int .u32 (c : Int), .string nonce] w fun e w' => e = .returned (.tuple #[.string (blkB key c nonce), .int .i64 0]) ∧ Below w.heap.size w w' := by
  obtain ⟨hk, hn⟩ := szB_yes hs
  have e1 : ((key.size : Int) != 32) = false := by rw [hk]; rfl
  have e2 : ((nonce.size : Int) != 12) = false := by rw [hn]; rfl
  have hlow := rlow4_any c hc
  obtain ⟨L, hL⟩ : ∃ L : ByteArray, L = ⟨(lowL c 4).toArray⟩ := ⟨_, rfl⟩
  have hLs : L.size = 4 := by rw [hL]; show (lowL c 4).toArray.size = 4; rw [List.size_toArray, lowL_len]
  have hLl : L.data.toList = lowL c 4 := by rw [hL]
  rw [← hL] at hlow
  have HLow := Lib.hid hlow
  have hr1 : ∀ w : World, (Op.stringOp .add ⟨#[101, 120, 112, 97, 110, 100, 32, 51, 50, 45, 98, 121, 116, 101, 32, 107]⟩ key).run Tryz.prog w = .ok (.string (⟨#[101, 120, 112, 97, 110, 100, 32, 51, 50, 45, 98, 121, 116, 101, 32, 107]⟩ ++ key)) w := fun w => cat_run _ key (by rw [hk]; decide) w
  obtain ⟨T1, hT1⟩ : ∃ T1 : ByteArray, T1 = ⟨#[101, 120, 112, 97, 110, 100, 32, 51, 50, 45, 98, 121, 116, 101, 32, 107]⟩ ++ key := ⟨_, rfl⟩
  have hT1s : T1.size = 48 := by rw [hT1, ByteArray.size_append, hk]; rfl
  have hT1l : T1.data.toList = headB ++ key.data.toList := by rw [hT1]; simp [headB]
  rw [← hT1] at hr1
  have hr2 : ∀ w : World, (Op.stringOp .add T1 L).run Tryz.prog w = .ok (.string (T1 ++ L)) w := fun w => cat_run T1 L (by omega) w
  obtain ⟨T2, hT2⟩ : ∃ T2, T2 = T1 ++ L := ⟨_, rfl⟩
  have hT2s : T2.size = 52 := by rw [hT2, ByteArray.size_append]; omega
  have hT2l : T2.data.toList = headB ++ key.data.toList ++ lowL c 4 := by rw [hT2, ← hT1l, ← hLl]; simp
  rw [← hT2] at hr2
  have hr3 : ∀ w : World, (Op.stringOp .add T2 nonce).run Tryz.prog w = .ok (.string (T2 ++ nonce)) w := fun w => cat_run T2 nonce (by omega) w
  obtain ⟨T, hT⟩ : ∃ T, T = T2 ++ nonce := ⟨_, rfl⟩
  have hTs : T.size = 64 := by rw [hT, ByteArray.size_append]; omega
  have hTl : T.data.toList = textL key.data.toList c nonce.data.toList := by rw [hT, textL, ← hT2l]; simp
  rw [← hT] at hr3
  have HBl : Hid (∀ n m r, n = 16 → m = 10 → r = 16 → (⟨(toldL (sumK (rdN (numsL T.data.toList n) m) (numsL T.data.toList n) r)).toArray⟩ : ByteArray) = blkB key c nonce) := by
    intro n m r h1 h2 h3
    have hF : numsL T.data.toList n = firstL key.data.toList c nonce.data.toList := by rw [h1, hTl]; rfl
    rw [hF, h2, h3, sumK_full (rdN_32 (firstL_32 _ _ _) 10).1 (firstL_32 _ _ _).1, blkB, blockL]
    rfl
  obtain ⟨BB, hBB⟩ : ∃ BB, BB = blkB key c nonce := ⟨_, rfl⟩
  rw [← hBB] at HBl ⊢
  have HTs := Lib.hid hTs
  have hcu := wrapN64 c hc
  clear hL hLs hLl hlow hT1 hT1s hT1l hT2 hT2s hT2l hT hTl hTs hBB hk hn hc hs
  go_enter Tryz.func71, Tryz.ntmps71
  go_wp2_with (first
    | (go_at_call 45; (with_reducible refine (HLow.out _).mono ?_); rintro e w1 ⟨rfl, hb⟩))
  have HO := Lib.hid (Ow.start w1 w.heap.size hb.size)
  have HB := Lib.hid (hb.alloc hb.size (.cells #[] 60))
  clear hb hcu hr1 hr2 hr3 e1 e2 HLow
  generalize w1.alloc (.cells #[] 60) = w2 at *
  generalize w1.heap.size = g0 at *
  go_loopw [9, 10] (fun v i wr => ∃ k : Nat, k ≤ 16 ∧ i = .int .i64 (k : Int) ∧ Ow wr w.heap.size v (numsL T.data.toList k) ∧ Below w.heap.size w wr) (fun _ i _ => 16 - (intOf i).toNat)
  case atStart => exact ⟨0, by omega, rfl, HO.out, HB.out⟩
  case round =>
    clear HO HB
    obtain ⟨k, hk, rfl, hown, hbel⟩ := hrel
    by_cases hlt : k < 16
    · have hsl := slice_str T (4 * (k : Int)) (4 * (k : Int) + 4) (4 * k) (4 * k + 4) (by omega) (by omega) (by omega) (by rw [HTs.out]; omega)
      have HF := Lib.hid (rfromLow_part T HTs.out k hlt)
      have hx := num4_lt T.data.toList k
      have HX : Hid ((num4 T.data.toList k : Int) % 4294967296 = (num4 T.data.toList k : Int)) := by show _ = _; omega
      have HNs := Lib.hid (numsL_succ T.data.toList k)
      have HNl := Lib.hid (show (numsL T.data.toList k).length ≤ 1099511627776 by rw [numsL_len]; omega)
      have HOw := Lib.hid hown
      have HBel := Lib.hid hbel
      clear hx hown hbel
      generalize num4 T.data.toList k = x at *
      go_wp2_with (first
        | (go_at_call 99; ((with_reducible refine (HF.out _).mono ?_); rintro e w3 ⟨rfl, hb3⟩; have HOw3 := Lib.hid (Ow.next HOw.out hb3); have HBel3 := Lib.hid (HBel.out.trans (hb3.mono HBel.out.size))))
        | (at_builtin; refine wpList_pushw w3 rfl _ _ rfl w.heap.size _ (numsL T.data.toList k) rfl rfl HOw3.out x HX.out HNl.out HBel3.out.size ?_; intro v4 w4 hown4 hb4))
      go_roundw
      case rel => exact ⟨k + 1, by omega, by go_num, by rw [HNs.out]; exact hown4, HBel3.out.trans hb4⟩
      case measure => simp [intOf]; omega
    · obtain rfl : k = 16 := by omega
      have hF := numsL_32 T.data.toList
      obtain ⟨gF, capF, rfl, hrow⟩ := owF hown hF.1
      have HF := Lib.hid hF
      have HBl2 : Hid (∀ m r, m = 10 → r = 16 → (⟨(toldL (sumK (rdN (numsL T.data.toList 16) m) (numsL T.data.toList 16) r)).toArray⟩ : ByteArray) = BB) := fun m r h1 h2 => HBl.out 16 m r rfl h1 h2
      have HRow := Lib.hid hrow
      have HBel := Lib.hid hbel
      clear hown hF hrow hbel HBl HTs
      generalize numsL T.data.toList 16 = F at *
      rw [show ((16 : Nat) : Int) = 16 from rfl]
      go_wp2
      go_loopw [13, 14] (fun s i wr => ∃ k g cap : Nat, k ≤ 10 ∧ s = .slice (some ⟨g, 0, none⟩) 16 cap ∧ i = .int .i64 (k : Int) ∧ RowW wr g (rdN F k) ∧ RowW wr gF F ∧ Below w.heap.size w wr) (fun _ i _ => 10 - (intOf i).toNat)
      case atStart => exact ⟨0, gF, capF, by omega, rfl, rfl, HRow.out, HRow.out, HBel.out⟩
      case round =>
        clear HRow HBel
        obtain ⟨k, g, cap, hk, rfl, rfl, hg, hf, hbel⟩ := hrel
        have HG := Lib.hid hg
        have HFr := Lib.hid hf
        have HBel := Lib.hid hbel
        clear hg hf hbel
        by_cases hlt : k < 10
        · have HY := Lib.hid (rdN_32 HF.out k)
          have hdk : decide ((k : Int) < 10) = true := decide_eq_true (by omega)
          go_wp2
          clear hdk
          go_loopw [13, 15] (fun s i wr => ∃ m g cap : Nat, m ≤ 4 ∧ s = .slice (some ⟨g, 0, none⟩) 16 cap ∧ i = .int .i64 (m : Int) ∧ RowW wr g (st8 (rdN F k) m) ∧ RowW wr gF F ∧ Below w.heap.size w wr) (fun _ i _ => 4 - (intOf i).toNat)
          case atStart => exact ⟨0, g, cap, by omega, rfl, rfl, HG.out, HFr.out, HBel.out⟩
          case round =>
            clear HG HFr HBel
            obtain ⟨m, g, cap, hm, rfl, rfl, hg, hf, hbel⟩ := hrel
            have HFr := Lib.hid hf
            have HBel := Lib.hid hbel
            by_cases hmt : m < 4
            · have HSt := Lib.hid (rst_lo _ (st8_32 HY.out m) g cap m hmt wr hg)
              rw [← st8_lo (rdN F k) m hmt] at HSt
              clear hg hf hbel
              go_wp2_with (first
                | (go_at_call 100; (with_reducible refine HSt.out.mono ?_); rintro e w3 ⟨⟨g3, cap3, rfl, hg3⟩, hb3⟩))
              go_roundw
              case rel => exact ⟨m + 1, g3, cap3, by omega, rfl, by go_num, hg3, HFr.out.next (by rw [HF.out.1]; decide) hb3, HBel.out.trans (hb3.mono HBel.out.size)⟩
              case measure => simp [intOf]; omega
            · obtain rfl : m = 4 := by omega
              have HG := Lib.hid hg
              clear hg hf hbel
              rw [show ((4 : Nat) : Int) = 4 from rfl]
              go_wp2
              go_loopw [13, 16] (fun s i wr => ∃ m g cap : Nat, m ≤ 4 ∧ s = .slice (some ⟨g, 0, none⟩) 16 cap ∧ i = .int .i64 (m : Int) ∧ RowW wr g (st8 (rdN F k) (4 + m)) ∧ RowW wr gF F ∧ Below w.heap.size w wr) (fun _ i _ => 4 - (intOf i).toNat)
              case atStart => exact ⟨0, g, cap, by omega, rfl, rfl, HG.out, HFr.out, HBel.out⟩
              case round =>
                clear HG HFr HBel
                obtain ⟨m, g, cap, hm, rfl, rfl, hg, hf, hbel⟩ := hrel
                have HFr := Lib.hid hf
                have HBel := Lib.hid hbel
                by_cases hmt : m < 4
                · have HSt := Lib.hid (rst_hi _ (st8_32 HY.out (4 + m)) g cap m hmt wr hg)
                  rw [← st8_hi (rdN F k) m hmt] at HSt
                  clear hg hf hbel
                  go_wp2_with (first
                    | (go_at_call 100; (with_reducible refine HSt.out.mono ?_); rintro e w3 ⟨⟨g3, cap3, rfl, hg3⟩, hb3⟩))
                  go_roundw
                  case rel => exact ⟨m + 1, g3, cap3, by omega, rfl, by go_num, hg3, HFr.out.next (by rw [HF.out.1]; decide) hb3, HBel.out.trans (hb3.mono HBel.out.size)⟩
                  case measure => simp [intOf]; omega
                · obtain rfl : m = 4 := by omega
                  have HG := Lib.hid hg
                  clear hg hf hbel
                  go_wp2
                  go_roundw
                  case rel => exact ⟨k + 1, g, cap, by omega, rfl, by go_num, HG.out, HFr.out, HBel.out⟩
                  case measure => simp [intOf]; omega
        · obtain rfl : k = 10 := by omega
          have HY := Lib.hid (rdN_32 HF.out 10)
          have HBl3 : Hid (∀ r, r = 16 → (⟨(toldL ((sumL (rdN F 10) F).take r)).toArray⟩ : ByteArray) = BB) := fun r h => by
            rw [← HBl2.out 10 16 rfl rfl, h, sumK_full HY.out.1 HF.out.1, List.take_of_length_le (by rw [sumL_len (by rw [HY.out.1, HF.out.1]), HY.out.1]; exact Nat.le_refl _)]
          clear HBl2
          generalize rdN F 10 = Y at *
          have HSl : Hid ((sumL Y F).length = 16) := by rw [Hid, sumL_len (by rw [HY.out.1, HF.out.1]), HY.out.1]
          have HSat : Hid (∀ j, j < 16 → (sumL Y F).getD j 0 = (Y.getD j 0 + F.getD j 0) % 4294967296) := by
            intro j hj
            rw [List.getD_eq_getElem?_getD, List.getD_eq_getElem?_getD, List.getD_eq_getElem?_getD, sumL, List.getElem?_zipWith, List.getElem?_eq_getElem (by rw [HY.out.1]; exact hj), List.getElem?_eq_getElem (by rw [HF.out.1]; exact hj)]
            rfl
          generalize sumL Y F = SM at *
          rw [show ((10 : Nat) : Int) = 10 from rfl]
          go_wp2
          go_loopw [17, 18] (fun o i wr => ∃ k : Nat, k ≤ 16 ∧ o = .string ⟨(toldL (SM.take k)).toArray⟩ ∧ i = .int .i64 (k : Int) ∧ RowW wr g Y ∧ RowW wr gF F ∧ Below w.heap.size w wr) (fun _ i _ => 16 - (intOf i).toNat)
          case atStart => exact ⟨0, by omega, rfl, rfl, HG.out, HFr.out, HBel.out⟩
          case round =>
            clear HG HFr HBel
            obtain ⟨k, hk, rfl, rfl, hg, hf, hbel⟩ := hrel
            by_cases hlt : k < 16
            · have cy := hg.at k (by rw [HY.out.1]; exact hlt)
              have cf := hf.at k (by rw [HF.out.1]; exact hlt)
              have hsum := sum2 (Y.getD k 0) (F.getD k 0)
              rw [← HSat.out k hlt, ← IntKind.wrap_u32] at hsum
              have hxl : SM.getD k 0 < 4294967296 := by rw [HSat.out k hlt]; exact mod32_lt _
              have hwn := wrapN64 _ hxl
              have hlow := rlow4_any _ hxl
              obtain ⟨L4, hL4⟩ : ∃ L4 : ByteArray, L4 = ⟨(lowL (SM.getD k 0) 4).toArray⟩ := ⟨_, rfl⟩
              have hLs : L4.size = 4 := by rw [hL4]; show (lowL (SM.getD k 0) 4).toArray.size = 4; rw [List.size_toArray, lowL_len]
              rw [← hL4] at hlow
              obtain ⟨S0, hS0⟩ : ∃ S0 : ByteArray, S0 = ⟨(toldL (SM.take k)).toArray⟩ := ⟨_, rfl⟩
              obtain ⟨S1, hS1⟩ : ∃ S1 : ByteArray, S1 = ⟨(toldL (SM.take (k + 1))).toArray⟩ := ⟨_, rfl⟩
              have hS0s : S0.size = 4 * k := by rw [hS0]; show (toldL (SM.take k)).toArray.size = _; rw [List.size_toArray, toldL_len, List.length_take, HSl.out, Nat.min_eq_left hk]
              have hcat : S0 ++ L4 = S1 := by
                apply ByteArray.ext
                apply Array.ext'
                rw [show (S0 ++ L4).data.toList = S0.data.toList ++ L4.data.toList by simp, bstr _ S0 hS0, bstr _ L4 hL4, bstr _ S1 hS1, toldL_take SM k (by rw [HSl.out]; exact hlt)]
              have hrun : ∀ w : World, (Op.stringOp .add S0 L4).run Tryz.prog w = .ok (.string S1) w := fun w => by rw [cat_run S0 L4 (by omega) w, hcat]
              rw [← hS0]
              have HS1d := Lib.hid hS1
              have HLow := Lib.hid hlow
              have HG := Lib.hid hg
              have HFr := Lib.hid hf
              have HBel := Lib.hid hbel
              have HYp := Lib.hid (show 0 < Y.length by rw [HY.out.1]; decide)
              have HFp := Lib.hid (show 0 < F.length by rw [HF.out.1]; decide)
              have HH : Hid (∀ {wx : World}, RowW wx g Y → RowW wx gF F → wx.cell? ⟨g, k, none⟩ = some (.int .u32 ((Y.getD k 0 : Nat) : Int)) ∧ wx.cell? ⟨gF, k, none⟩ = some (.int .u32 ((F.getD k 0 : Nat) : Int))) := fun h1 h2 =>
                ⟨h1.at k (by rw [HY.out.1]; exact hlt), h2.at k (by rw [HF.out.1]; exact hlt)⟩
              clear hlow hS0 hS1 hL4 hLs hS0s hcat hg hf hbel hxl
              generalize SM.getD k 0 = x at *
              generalize Y.getD k 0 = y at *
              generalize F.getD k 0 = f at *
              have hk0 : (0 : Int) ≤ (k : Int) := by omega
              have hk1 : (k : Int) < 16 := by omega
              go_wp2
              go_region_held3 (fun w' => w'.cell? ⟨g, k, none⟩ = some (.int .u32 (y : Int)) ∧ w'.cell? ⟨gF, k, none⟩ = some (.int .u32 (f : Int)))
                (first
                  | with_reducible exact HH.out HG.out.drew HFr.out.drew
                  | with_reducible exact HH.out HG3.out HF3.out)
                (first
                  | (go_at_call 45; (with_reducible refine (HLow.out _).mono ?_); rintro e w3 ⟨rfl, hb3⟩; have HG3 := Lib.hid (HG.out.drew.next HYp.out hb3); have HF3 := Lib.hid (HFr.out.drew.next HFp.out hb3)))
              go_wp2
              go_roundw
              case rel => exact ⟨k + 1, hlt, by rw [HS1d.out], by go_num, HG3.out, HF3.out, HBel.out.drew.trans (hb3.mono HBel.out.size)⟩
              case measure => simp [intOf]; omega
            · obtain rfl : k = 16 := by omega
              have hE := HBl3.out 16 rfl
              rw [hE]
              have HBel := Lib.hid hbel
              clear hg hf hbel hE HBl3
              go_wp2
              go_ret2
              exact ⟨rfl, HBel.out⟩
end Go.Proofs.YtfflpooiebeagaaGreatDoor
namespace Go.Proofs.YtfflpooiebeagaaGreatDoor
open Go.RowKit

end Go.Proofs.YtfflpooiebeagaaGreatDoor
namespace Go.Proofs.YtfflpooiebeagaaGreatDoor
open Go.RowKit

def zk : List UInt8 := List.replicate 32 0
def zn : List UInt8 := List.replicate 12 0
theorem blk_zero : (blockL zk 0 zn).take 4 = [118, 184, 224, 173] := by decide +kernel
theorem str_zero : xorL [97, 98] (strmL zk 0 zn 2) = [23, 218] := by decide +kernel
theorem stir_ex : stirQ ⟨286331153, 16909060, 2609737539, 19088743⟩ = ⟨3928658676, 3407673550, 1166100270, 1484899515⟩ := by
  have h : (stirQ ⟨286331153, 16909060, 2609737539, 19088743⟩).a = 3928658676 ∧ (stirQ ⟨286331153, 16909060, 2609737539, 19088743⟩).b = 3407673550 ∧ (stirQ ⟨286331153, 16909060, 2609737539, 19088743⟩).c = 1166100270 ∧ (stirQ ⟨286331153, 16909060, 2609737539, 19088743⟩).d = 1484899515 := by decide +kernel
  generalize stirQ ⟨286331153, 16909060, 2609737539, 19088743⟩ = q at *
  obtain ⟨a, b, c, d⟩ := q
  obtain ⟨h1, h2, h3, h4⟩ := h
  simp only at h1 h2 h3 h4
  rw [h1, h2, h3, h4]





theorem convZg (n : Nat) (w : World) (g : Nat) (hg : g = w.heap.size) : (convert 43 9 (.slice (some ⟨g, 0, none⟩) n n)).run Tryz.prog (w.alloc (.cells (zrow n) 5)) = .ok (.string (zeros n)) (w.alloc (.cells (zrow n) 5)) := by
  subst hg; exact convZ n w

theorem sz_zero : szB (zeros 32) (zeros 12) = true := szB_mk (zeros_size 32) (zeros_size 12)

theorem stir_ex_any (w : World) : Calls Tryz.prog 101 #[.agg #[.int .u32 286331153, .int .u32 16909060, .int .u32 2609737539, .int .u32 19088743]] w fun e w' => e = .returned (.agg #[.int .u32 3928658676, .int .u32 3407673550, .int .u32 1166100270, .int .u32 1484899515]) ∧ Below w.heap.size w w' :=
  (stir_any ⟨286331153, 16909060, 2609737539, 19088743⟩ (by refine ⟨?_, ?_, ?_, ?_⟩ <;> decide) w).mono fun _ _ ⟨h, k⟩ => ⟨h.trans (by rw [stir_ex]; rfl), k⟩
theorem eq_ex (w : World) : (Op.equalIn 10000 127 (.agg #[.int .u32 3928658676, .int .u32 3407673550, .int .u32 1166100270, .int .u32 1484899515]) (.agg #[.int .u32 3928658676, .int .u32 3407673550, .int .u32 1166100270, .int .u32 1484899515])).run Tryz.prog w = .ok true w :=
  equalIn_ints w 9998 127 60 4 .u32 [3928658676, 3407673550, 1166100270, 1484899515] Tryz.underlying127 Tryz.underlying60 Tryz.isAgg60 Tryz.sizeOf60 rfl

end Go.Proofs.YtfflpooiebeagaaGreatDoor
namespace Go.Proofs.YtfflpooiebeagaaGreatDoor
open Go.RowKit

theorem wf_u32 {a : Int} (h : (Lit.int .u32 a).wf = true) : 0 ≤ a ∧ a ≤ 4294967295 := by simpa [Lit.wf, IntKind.min, IntKind.max, IntKind.signed, IntKind.bits] using h
theorem szB_e {key nonce : ByteArray} (h : szB key nonce = true) : ((key.size : Int) == 32) = true ∧ ((nonce.size : Int) == 12) = true := by
  obtain ⟨h1, h2⟩ := szB_yes h
  rw [h1, h2]; exact ⟨rfl, rfl⟩
theorem szB_n {key nonce : ByteArray} (h : szB key nonce = false) : ((key.size : Int) == 32) = false ∨ (((key.size : Int) == 32) = true ∧ ((nonce.size : Int) == 12) = false) := by
  by_cases h1 : key.size = 32
  · right
    refine ⟨by rw [h1]; rfl, ?_⟩
    have : ¬ nonce.size = 12 := fun h2 => by rw [szB_mk h1 h2] at h; cases h
    simp; omega
  · left; simp; omega
end Go.Proofs.YtfflpooiebeagaaGreatDoor
namespace Go.Proofs.YtfflpooiebeagaaGreatDoor
open Go.RowKit

theorem szB_x {key nonce : ByteArray} (h : szB key nonce = true) : ((key.size : Int) != 32) = false ∧ ((nonce.size : Int) != 12) = false := by
  obtain ⟨h1, h2⟩ := szB_yes h
  rw [h1, h2]; exact ⟨rfl, rfl⟩
theorem szB_xn {key nonce : ByteArray} (h : szB key nonce = false) : ((key.size : Int) != 32) = true ∨ (((key.size : Int) != 32) = false ∧ ((nonce.size : Int) != 12) = true) := by
  by_cases h1 : key.size = 32
  · right
    refine ⟨by rw [h1]; rfl, ?_⟩
    have : ¬ nonce.size = 12 := fun h2 => by rw [szB_mk h1 h2] at h; cases h
    simp; omega
  · left; simp; omega
theorem rblock4_no (key nonce : ByteArray) (hs : szB key nonce = false) (c : Nat) (w : World) :
    Calls Tryz.prog 71 #[.string key, .int .u32 (c : Int), .string nonce] w fun e w' => e = .returned (.tuple #[.string ByteArray.empty, .int .i64 5]) ∧ w = w' := by
  rcases szB_xn hs with h | ⟨h, h2⟩ <;> clear hs
  all_goals
    go_enter Tryz.func71, Tryz.ntmps71
    go_wp2
    go_ret2
    exact ⟨rfl, rfl⟩
theorem rblock4_any (key nonce : ByteArray) (c : Nat) (hc : c < 4294967296) (w : World) :
    Calls Tryz.prog 71 #[.string key, .int .u32 (c : Int), .string nonce] w fun e w' => e = .returned (blkR key c nonce) ∧ Below w.heap.size w w' := by
  unfold blkR
  cases h : szB key nonce
  · exact (rblock4_no key nonce h c w).mono fun _ _ ⟨h1, h2⟩ => ⟨by simpa using h1, by rw [← h2]; exact Below.refl _ _⟩
  · exact (rblock4_ok key nonce h c hc w).mono fun _ _ ⟨h1, h2⟩ => ⟨by simpa using h1, h2⟩

set_option maxHeartbeats 1000000 in
set_option maxRecDepth 100000 in
theorem rstream_ok (key nonce : ByteArray) (hs : szB key nonce = true) (c : Nat) (n : Nat) (hn : n ≤ 65536) (w : World) :
    Calls Tryz.prog 46 #[.string key, .int .u32 (c : Int), .string nonce, .int .i64 (n : Int)] w fun e w' => e = .returned (.tuple #[.string (strmB key c nonce n), .int .i64 0]) ∧ Below w.heap.size w w' := by
  obtain ⟨x1, x2⟩ := szB_x hs
  have HBk := Lib.hid (fun C hC w => rblock4_ok key nonce hs C hC w)
  have h0 : ¬ (n : Int) < 0 := by omega
  have h1 : ¬ (65536 : Int) < (n : Int) := by omega
  have HN := Lib.hid hn
  clear hn hs
  go_enter Tryz.func46, Tryz.ntmps46
  go_wp2
  go_loopw [10, 11] (fun o i wr => ∃ m : Nat, 64 * m < n + 64 ∧ o = .string ⟨(stL key.data.toList c nonce.data.toList m).toArray⟩ ∧ i = .int .u32 (m : Int) ∧ Below w.heap.size w wr) (fun _ i _ => 2000 - (intOf i).toNat)
  case atStart => exact ⟨0, by omega, rfl, rfl, Below.refl _ _⟩
  case round =>
    obtain ⟨m, hm, rfl, rfl, hbel⟩ := hrel
    have hn' := HN.out
    have hlen := stL_len key.data.toList c nonce.data.toList m
    obtain ⟨S0, hS0⟩ : ∃ S0 : ByteArray, S0 = ⟨(stL key.data.toList c nonce.data.toList m).toArray⟩ := ⟨_, rfl⟩
    have hS0s : S0.size = 64 * m := by rw [hS0]; show (stL key.data.toList c nonce.data.toList m).toArray.size = _; rw [List.size_toArray, hlen]
    by_cases hlt : 64 * m < n
    · have hlti : (S0.size : Int) < (n : Int) := by omega
      have hsum := sum2 c m
      have hC : (c + m) % 4294967296 < 4294967296 := mod32_lt _
      have hB := blkB_size key ((c + m) % 4294967296) nonce
      have HB := Lib.hid (HBk.out _ hC)
      obtain ⟨S1, hS1⟩ : ∃ S1 : ByteArray, S1 = ⟨(stL key.data.toList c nonce.data.toList (m + 1)).toArray⟩ := ⟨_, rfl⟩
      have hcat : S0 ++ blkB key ((c + m) % 4294967296) nonce = S1 := by
        apply ByteArray.ext
        apply Array.ext'
        rw [show (S0 ++ blkB key ((c + m) % 4294967296) nonce).data.toList = S0.data.toList ++ (blkB key ((c + m) % 4294967296) nonce).data.toList by simp, bstr _ S0 hS0, blkB_list, bstr _ S1 hS1, stL]
      have hrun : ∀ w : World, (Op.stringOp .add S0 (blkB key ((c + m) % 4294967296) nonce)).run Tryz.prog w = .ok (.string S1) w := fun w => by rw [cat_run S0 _ (by omega) w, hcat]
      have hinc : ((m : Int) + 1) % 4294967296 = (m : Int) + 1 := by omega
      rw [← hS0]
      have HS1d := Lib.hid hS1
      have HBel := Lib.hid hbel
      clear hcat hC hB hS1 hbel hlen hS0 hS0s
      generalize blkB key ((c + m) % 4294967296) nonce = B at *
      generalize (c + m) % 4294967296 = C at *
      go_wp2_with (first
        | (go_at_call 71; (with_reducible refine (HB.out _).mono ?_); rintro e w3 ⟨rfl, hb3⟩))
      go_roundw
      case rel => exact ⟨m + 1, by omega, by rw [HS1d.out], by go_num, HBel.out.trans (hb3.mono HBel.out.size)⟩
      case measure => simp [intOf]; omega
    · have hlti : ¬ (S0.size : Int) < (n : Int) := by omega
      have hsl := slice_to S0 n (by omega)
      have hex : S0.extract 0 n = strmB key c nonce n := by
        apply ByteArray.ext
        apply Array.ext'
        rw [ext_toList, bstr _ S0 hS0, List.drop_zero, Nat.sub_zero, strmB, strmL_of _ _ _ n m (by omega)]
      rw [hex] at hsl
      obtain ⟨S, hS⟩ : ∃ S, S = strmB key c nonce n := ⟨_, rfl⟩
      rw [← hS] at hsl
      have HSd := Lib.hid hS
      have HBel := Lib.hid hbel
      have hle : (n : Int) ≤ (S0.size : Int) := by omega
      rw [← hS0]
      clear hex hS0 hS0s hlen hS hbel
      go_wp2
      go_ret2
      exact ⟨by rw [← HSd.out]; rfl, HBel.out⟩

theorem rstream_no (key nonce : ByteArray) (c : Nat) (n : Int) (hs : ¬ (szB key nonce = true ∧ 0 ≤ n ∧ n ≤ 65536)) (w : World) :
    Calls Tryz.prog 46 #[.string key, .int .u32 (c : Int), .string nonce, .int .i64 n] w fun e w' => e = .returned (.tuple #[.string ByteArray.empty, .int .i64 5]) ∧ w = w' := by
  cases h : szB key nonce
  · rcases szB_xn h with h | ⟨h, h2⟩ <;> clear hs
    all_goals
      go_enter Tryz.func46, Tryz.ntmps46
      go_wp2
      go_ret2
      exact ⟨rfl, rfl⟩
  · obtain ⟨x1, x2⟩ := szB_x h
    by_cases h0 : n < 0
    · clear hs h
      go_enter Tryz.func46, Tryz.ntmps46
      go_wp2
      go_ret2
      exact ⟨rfl, rfl⟩
    · have h1 : (65536 : Int) < n := by
        have h2 : ¬ n ≤ 65536 := fun hn => hs ⟨h, by omega, hn⟩
        omega
      clear hs h
      go_enter Tryz.func46, Tryz.ntmps46
      go_wp2
      go_ret2
      exact ⟨rfl, rfl⟩
theorem rstream_any (key nonce : ByteArray) (c : Nat) (n : Int) (w : World) :
    Calls Tryz.prog 46 #[.string key, .int .u32 (c : Int), .string nonce, .int .i64 n] w fun e w' => e = .returned (strR key c nonce n) ∧ Below w.heap.size w w' := by
  unfold strR
  by_cases h : szB key nonce = true ∧ 0 ≤ n ∧ n ≤ 65536
  · rw [if_pos h]
    obtain ⟨N, rfl⟩ : ∃ N : Nat, n = (N : Int) := ⟨n.toNat, by omega⟩
    rw [Int.toNat_natCast]
    exact rstream_ok key nonce h.1 c N (by omega) w
  · rw [if_neg h]
    exact (rstream_no key nonce c n h w).mono fun _ _ ⟨h1, h2⟩ => ⟨h1, by rw [← h2]; exact Below.refl _ _⟩

theorem rturn_ok (key nonce : ByteArray) (hs : szB key nonce = true) (c : Nat) (t : ByteArray) (ht : t.size ≤ 65536) (w : World) :
    Calls Tryz.prog 31 #[.string key, .int .u32 (c : Int), .string nonce, .string t] w fun e w' => e = .returned (.tuple #[.string ⟨(xorL t.data.toList (strmL key.data.toList c nonce.data.toList t.size)).toArray⟩, .int .i64 0]) ∧ Below w.heap.size w w' := by
  have HSt := Lib.hid (rstream_ok key nonce hs c t.size ht w)
  have hsz := strmB_size key c nonce t.size
  have hx := rxor_any t (strmB key c nonce t.size) (by omega) (by omega)
  rw [xorB, if_pos hsz, xorE, if_pos hsz, strmB_list] at hx
  have HX := Lib.hid hx
  generalize strmB key c nonce t.size = S at *
  generalize (⟨(xorL t.data.toList (strmL key.data.toList c nonce.data.toList t.size)).toArray⟩ : ByteArray) = X at *
  clear hs hsz hx
  go_enter Tryz.func31, Tryz.ntmps31
  go_wp2_with (first
    | (go_at_call 46; (with_reducible refine HSt.out.mono ?_); rintro e w1 ⟨rfl, hb1⟩)
    | (go_at_call 47; (with_reducible refine (HX.out _).mono ?_); rintro e w2 ⟨rfl, hb2⟩))
  go_ret2
  exact ⟨rfl, Below_next hb1 hb2⟩
theorem rturn_no (key nonce : ByteArray) (c : Nat) (t : ByteArray) (hs : ¬ (szB key nonce = true ∧ t.size ≤ 65536)) (w : World) :
    Calls Tryz.prog 31 #[.string key, .int .u32 (c : Int), .string nonce, .string t] w fun e w' => e = .returned (.tuple #[.string ByteArray.empty, .int .i64 5]) ∧ w = w' := by
  have HSt := Lib.hid (rstream_no key nonce c (t.size : Int) (fun h => hs ⟨h.1, by omega⟩) w)
  clear hs
  go_enter Tryz.func31, Tryz.ntmps31
  go_wp2_with (first
    | (go_at_call 46; (with_reducible refine HSt.out.mono ?_); rintro e w1 ⟨rfl, rfl⟩))
  go_ret2
  exact ⟨rfl, rfl⟩
theorem rturn_any (key nonce : ByteArray) (c : Nat) (t : ByteArray) (w : World) :
    Calls Tryz.prog 31 #[.string key, .int .u32 (c : Int), .string nonce, .string t] w fun e w' => e = .returned (turnR key c nonce t) ∧ Below w.heap.size w w' := by
  unfold turnR
  by_cases h : szB key nonce = true ∧ t.size ≤ 65536
  · rw [if_pos h]; exact rturn_ok key nonce h.1 c t h.2 w
  · rw [if_neg h]; exact (rturn_no key nonce c t h w).mono fun _ _ ⟨h1, h2⟩ => ⟨h1, by rw [← h2]; exact Below.refl _ _⟩
end Go.Proofs.YtfflpooiebeagaaGreatDoor
