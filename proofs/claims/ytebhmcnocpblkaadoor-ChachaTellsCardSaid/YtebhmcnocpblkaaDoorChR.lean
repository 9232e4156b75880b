/- The document's own Stir and stirred of layer 4. -/
import Derived.Test.YtebhmcnocpblkaaDoorChC
import Derived.Test.YtebhmcnocpblkaaDoorOw
import Derived.Test.YtebhmcnocpblkaaDoorOctR
import Derived.StillTailTactics
import Derived.Deep.RegionHeld3
namespace Go.Proofs.YtebhmcnocpblkaaDoor
open Go.RowKit

theorem rleft_c (n : Int) (k : Nat) (h0 : -9223372036854775808 ≤ n) (h1 : n ≤ 9223372036854775807) (hn : (n % 32).toNat = k) (x y : Nat) (hx : x < 4294967296) (hy : y = rotl x k) (w : World) :
    Calls Tryd.prog 21 #[.int .u32 x, .int .i64 n] w fun e w' => e = .returned (.int .u32 (y : Nat)) ∧ w = w' := by
  subst hn hy
  exact rleft_any x hx n h0 h1 w

set_option maxHeartbeats 1000000 in
set_option maxRecDepth 100000 in
theorem rstir_any (q : Q4) (h : q.ok) (g cap : Nat) (ty : TypeId) (w : World) (hA : Arr w g q.cells ty) :
    Calls Tryd.prog 12 #[.slice (some ⟨g, 0, none⟩) 4 cap] w fun e w' => (∃ g', e = .returned (.slice (some ⟨g', 0, none⟩) 4 4) ∧ Arr w' g' (stirQ q).cells 22) ∧ Below w.heap.size w w' := by
  obtain ⟨A1, X1, D1, C1, X2, B1, A2, X3, D2, C2, X4, B2, hs⟩ := steps h
  have H1 := Lib.hid (rleft_c 16 16 (by decide) (by decide) rfl X1 D1 hs.l1 hs.d1)
  have H2 := Lib.hid (rleft_c 12 12 (by decide) (by decide) rfl X2 B1 hs.l2 hs.b1)
  have H3 := Lib.hid (rleft_c 8 8 (by decide) (by decide) rfl X3 D2 hs.l3 hs.d2)
  have H4 := Lib.hid (rleft_c 7 7 (by decide) (by decide) rfl X4 B2 hs.l4 hs.b2)
  obtain ⟨e1, e2, z1, z2, e5, e6, z3, z4, e9, e10, z5, z6, e13, e14, z7, z8, e17⟩ := hs
  clear z1 z2 z3 z4 z5 z6 z7 z8
  have HR := Lib.hid e17
  clear e17
  obtain ⟨A, B, C, D⟩ := q
  simp only at e1 e2 e5 e6 ⊢
  clear h
  have c0 : w.cell? ⟨g, 0, none⟩ = some (.int .u32 (A : Int)) := hA.cell (j := 0) rfl
  have c1 : w.cell? ⟨g, 1, none⟩ = some (.int .u32 (B : Int)) := hA.cell (j := 1) rfl
  have c2 : w.cell? ⟨g, 2, none⟩ = some (.int .u32 (C : Int)) := hA.cell (j := 2) rfl
  have c3 : w.cell? ⟨g, 3, none⟩ = some (.int .u32 (D : Int)) := hA.cell (j := 3) rfl
  clear hA
  go_enter Tryd.func12, Tryd.ntmps12
  go_wp2_with (first
    | (go_at_call 21; (first
      | ((with_reducible refine (H1.out _).mono ?_); rintro e w' ⟨rfl, rfl⟩)
      | ((with_reducible refine (H2.out _).mono ?_); rintro e w' ⟨rfl, rfl⟩)
      | ((with_reducible refine (H3.out _).mono ?_); rintro e w' ⟨rfl, rfl⟩)
      | ((with_reducible refine (H4.out _).mono ?_); rintro e w' ⟨rfl, rfl⟩))))
  go_ret
  exact ⟨⟨w.heap.size, rfl, by rw [HR.out]; exact Arr.new w (Q4.cells ⟨A2, B2, C2, D2⟩) _⟩, (Below.refl _ _).alloc (Nat.le_refl _) _⟩

theorem ow16 {w : World} {base : Nat} {v : Value} {Y : List Nat} (h : Ow w base v ([] ++ Y)) (hY : Y.length = 16) : ∃ g cap, v = .slice (some ⟨g, 0, none⟩) 16 cap ∧ base ≤ g ∧ w.ownsRow base 22 1 (.slice (some ⟨g, 0, none⟩) 16 cap) 16 (u32s Y) := by
  rw [List.nil_append] at h
  have h' := h
  rcases h.2 with ⟨_, hx⟩ | ⟨g, cap, cur, rfl, hb, _⟩
  · rw [hY] at hx; exact absurd hx (by decide)
  · unfold Ow at h'
    rw [hY] at h'
    exact ⟨g, cap, by rw [hY], hb, h'⟩
set_option maxHeartbeats 1000000 in
set_option maxRecDepth 100000 in
theorem rstirred_any (Y : List Nat) (hY : All32 Y) (g cap i j k l : Nat) (hi : i < 16) (hj : j < 16) (hk : k < 16) (hl : l < 16) (hd : i ≠ j ∧ i ≠ k ∧ i ≠ l ∧ j ≠ k ∧ j ≠ l ∧ k ≠ l) (w : World) (hA : RowW w g Y) :
    Calls Tryd.prog 28 #[.slice (some ⟨g, 0, none⟩) 16 cap, .int .i64 (i : Int), .int .i64 (j : Int), .int .i64 (k : Int), .int .i64 (l : Int)] w fun e w' => (∃ g' cap', e = .returned (.slice (some ⟨g', 0, none⟩) 16 cap') ∧ RowW w' g' (stirAt Y i j k l)) ∧ Below w.heap.size w w' := by
  have hst : stirAt Y i j k l = putQ Y (stirQ (getQ Y i j k l)) i j k l := rfl
  have hS := fun g' cap' ty w h => rstir_any (getQ Y i j k l) (getQ_ok hY i j k l) g' cap' ty w h
  have y0 := hA.at i (by rw [hY.1]; exact hi)
  have y1 := hA.at j (by rw [hY.1]; exact hj)
  have y2 := hA.at k (by rw [hY.1]; exact hk)
  have y3 := hA.at l (by rw [hY.1]; exact hl)
  obtain ⟨q, hq⟩ : ∃ q, q = stirQ (getQ Y i j k l) := ⟨_, rfl⟩
  rw [← hq] at hst hS
  rw [hst]
  clear hq hst
  obtain ⟨A2, B2, C2, D2⟩ := q
  unfold getQ at hS
  have HA := Lib.hid hA
  have HYl := Lib.hid hY.1
  have HYp := Lib.hid (show 0 < Y.length by rw [hY.1]; decide)
  have HH : Hid (∀ {wx : World}, RowW wx g Y → wx.cell? ⟨g, i, none⟩ = some (.int .u32 ((Y.getD i 0 : Nat) : Int)) ∧ wx.cell? ⟨g, j, none⟩ = some (.int .u32 ((Y.getD j 0 : Nat) : Int)) ∧ wx.cell? ⟨g, k, none⟩ = some (.int .u32 ((Y.getD k 0 : Nat) : Int)) ∧ wx.cell? ⟨g, l, none⟩ = some (.int .u32 ((Y.getD l 0 : Nat) : Int))) := by
    intro wx h
    exact ⟨h.at i (by rw [hY.1]; exact hi), h.at j (by rw [hY.1]; exact hj), h.at k (by rw [hY.1]; exact hk), h.at l (by rw [hY.1]; exact hl)⟩
  have HD := Lib.hid hd
  generalize Y.getD i 0 = A at *
  generalize Y.getD j 0 = B at *
  generalize Y.getD k 0 = C at *
  generalize Y.getD l 0 = D at *
  unfold Q4.cells at hS
  simp only at hS
  have HS := Lib.hid hS
  have z0 : (0 : Int) ≤ (i : Int) := by omega
  have z1 : (0 : Int) ≤ (j : Int) := by omega
  have z2 : (0 : Int) ≤ (k : Int) := by omega
  have z3 : (0 : Int) ≤ (l : Int) := by omega
  have i0 : (i : Int) < 16 := by omega
  have i1 : (j : Int) < 16 := by omega
  have i2 : (k : Int) < 16 := by omega
  have i3 : (l : Int) < 16 := by omega
  clear hS hA hY hd
  go_enter Tryd.func28, Tryd.ntmps28
  go_wp2
  go_region_held3 (fun w' => w'.cell? ⟨g, i, none⟩ = some (.int .u32 (A : Int)) ∧ w'.cell? ⟨g, j, none⟩ = some (.int .u32 (B : Int)) ∧ w'.cell? ⟨g, k, none⟩ = some (.int .u32 (C : Int)) ∧ w'.cell? ⟨g, l, none⟩ = some (.int .u32 (D : Int)))
    (first
      | with_reducible exact HH.out HA.out.drew
      | with_reducible exact HH.out (HA.out.alloc HYp.out (.cells #[.int .u32 (A : Int), .int .u32 (B : Int), .int .u32 (C : Int), .int .u32 (D : Int)] 22)).drew
      | with_reducible exact HH.out ((HA.out.drew).alloc HYp.out (.cells #[.int .u32 (A : Int), .int .u32 (B : Int), .int .u32 (C : Int), .int .u32 (D : Int)] 22))
      | with_reducible exact HH.out HA3.out)
    (first
      | (go_at_call 12; (with_reducible refine (HS.out _ 4 22 _ (Arr.new w #[.int .u32 (A : Int), .int .u32 (B : Int), .int .u32 (C : Int), .int .u32 (D : Int)] 22).drew).mono ?_); rintro e w3 ⟨⟨g3, rfl, hq3⟩, hb3⟩; have HA3 := Lib.hid ((HA.out.alloc HYp.out (.cells #[.int .u32 (A : Int), .int .u32 (B : Int), .int .u32 (C : Int), .int .u32 (D : Int)] 22)).drew.next HYp.out hb3)))
  have hne3 : g3 < w3.heap.size := hq3.lt
  have HQ3 := Lib.hid hq3
  have HO3 := Lib.hid (Ow.start w3 w3.heap.size (Nat.le_refl _))
  have HA3' := Lib.hid (HA3.out.alloc HYp.out (.cells #[] 22))
  have HB3 := Lib.hid ((((Below.refl w.heap.size w).alloc (Nat.le_refl _) (.cells #[.int .u32 (A : Int), .int .u32 (B : Int), .int .u32 (C : Int), .int .u32 (D : Int)] 22)).drew).trans (hb3.mono (by show w.heap.size ≤ (w.heap.push _).size; simp)))
  obtain ⟨d01, d02, d03, d12, d13, d23⟩ := HD.out
  clear y0 y1 y2 y3 hb3 hq3
  have hHYi : i < (u32s Y).length := by rw [u32s_len, HYl.out]; exact hi
  have hHYj : j < (u32s Y).length := by rw [u32s_len, HYl.out]; exact hj
  have hHYk : k < (u32s Y).length := by rw [u32s_len, HYl.out]; exact hk
  have hHYl : l < (u32s Y).length := by rw [u32s_len, HYl.out]; exact hl
  go_wp2_with (first
    | (at_builtin; refine wpList_appendw (w3.alloc (.cells #[] 22)) rfl _ _ rfl w3.heap.size _ [] rfl g 16 cap rfl HO3.out Y HYl.out HA3'.out (by decide) (by simp) ?_; intro v4 w4 hown4 hb4
       obtain ⟨g4, cap4, rfl, hb, hHA4⟩ := ow16 hown4 HYl.out
       have hc0 := (hHA4.cellAt i (by omega)).trans (List.getElem?_eq_getElem hHYi)
       have hc1 := (hHA4.cellAt j (by omega)).trans (List.getElem?_eq_getElem hHYj)
       have hc2 := (hHA4.cellAt k (by omega)).trans (List.getElem?_eq_getElem hHYk)
       have hc3 := (hHA4.cellAt l (by omega)).trans (List.getElem?_eq_getElem hHYl)
       have hf0 := hHA4.frozenAt i
       have hf1 := hHA4.frozenAt j
       have hf2 := hHA4.frozenAt k
       have hf3 := hHA4.frozenAt l
       have hq4 : Arr w4 g3 #[.int .u32 (A2 : Int), .int .u32 (B2 : Int), .int .u32 (C2 : Int), .int .u32 (D2 : Int)] 22 := (HQ3.out.alloc _).below hb4 hne3
       have q0 : w4.cell? ⟨g3, 0, none⟩ = some (.int .u32 (A2 : Int)) := hq4.cell (j := 0) rfl
       have q1 : w4.cell? ⟨g3, 1, none⟩ = some (.int .u32 (B2 : Int)) := hq4.cell (j := 1) rfl
       have q2 : w4.cell? ⟨g3, 2, none⟩ = some (.int .u32 (C2 : Int)) := hq4.cell (j := 2) rfl
       have q3 : w4.cell? ⟨g3, 3, none⟩ = some (.int .u32 (D2 : Int)) := hq4.cell (j := 3) rfl
       have hg34 : g3 ≠ g4 := by omega
       have HG4 := Lib.hid hb
       have HR4 := Lib.hid (Ow.set (Ow.set (Ow.set (Ow.set hHA4 i A2) j B2) k C2) l D2)
       have hBel4 := Lib.hid ((HB3.out.alloc HB3.out.size (.cells #[] 22)).trans (hb4.mono HB3.out.size))
       clear hown4 hb4 hHA4 hq4))
  have hgw : w.heap.size ≤ g4 := Nat.le_trans HB3.out.size HG4.out
  have HBel := Lib.hid ((((hBel4.out.setCell (p := ⟨g4, i, none⟩) hgw (.int .u32 (A2 : Int))).setCell (p := ⟨g4, j, none⟩) hgw (.int .u32 (B2 : Int))).setCell (p := ⟨g4, k, none⟩) hgw (.int .u32 (C2 : Int))).setCell (p := ⟨g4, l, none⟩) hgw (.int .u32 (D2 : Int)))
  go_ret
  refine ⟨⟨g4, cap4, rfl, ?_⟩, HBel.out⟩
  have := HR4.out
  have hlen : (putQ Y ⟨A2, B2, C2, D2⟩ i j k l).length = 16 := by simp [putQ, HYl.out]
  exact Ow.row (base := w3.heap.size) (cap := cap4) (by unfold Ow; rw [hlen]; exact this)
end Go.Proofs.YtebhmcnocpblkaaDoor
