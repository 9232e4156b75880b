/- poly: the contracts of wrapped, times. -/
import Derived.Test.YtjbhmdlgokoepaaDoorPmB
namespace Go.Proofs.YtjbhmdlgokoepaaDoor
open Go.RowKit

theorem wrap_set (y : List Nat) (hy : y.length = 5) (Y C : Nat) : ∃ R, (row5 y).setIfInBounds 0 (.int .u64 ((Y : Int) + 5 * (C : Int))) = R ∧ R = row5 (y.set 0 (Y + 5 * C)) ∧ R.size = 5 ∧ R.all (·.oneCell') = true := by
  have e : (Y : Int) + 5 * (C : Int) = ((Y + 5 * C : Nat) : Int) := by omega
  exact ⟨_, by rw [e, row5_set], rfl, row5_size (by simp [hy]), row5_one _⟩

set_option maxHeartbeats 1000000 in
set_option maxRecDepth 100000 in
theorem wrapped5_any (x : List Nat) (hx : x.length = 5) (bx : ∀ z ∈ x, z < 9223372036854775808) (w : World) :
    Calls Tryd.prog 40 #[.agg (row5 x)] w fun e w' => (∃ y, e = .returned (.agg (row5 y)) ∧ y.length = 5 ∧ (∀ z ∈ y, z < 67108864) ∧ numP y % PP = numP x % PP) ∧ Below w.heap.size w w' := by
  have HS := Lib.hid (show Wra x x 0 from rfl)
  have HBd := Lib.hid (fun X m (h : Wra x X m) => h.bound hx bx)
  have HN := Lib.hid (fun X y m C (h : Wra x X m) => h.next (y := y) (C := C) hx bx)
  clear hx bx
  have HA0 := Lib.hid ((Arr.new w (row5 x) 50).alloc (.cells zero5 50))
  have HZ0 := Lib.hid (Arr.newAt (w.alloc (.cells (row5 x) 50)) (g := w.heap.size + 1) zero5 50 (by simp))
  have HBe := Lib.hid (((Below.refl w.heap.size w).alloc (Nat.le_refl _) (.cells (row5 x) 50)).alloc (by simp) (.cells zero5 50))
  go_enter Tryd.func40, Tryd.ntmps40
  go_wp2
  generalize (w.alloc (.cells (row5 x) 50)).alloc (.cells zero5 50) = w1 at *
  go_loopw [5] (fun i wr => ∃ (m : Nat) (X : List Nat), m ≤ 3 ∧ i = .int .i64 (m : Int) ∧ Wra x X m ∧ Arr wr w.heap.size (row5 X) 50 ∧ Arr wr (w.heap.size + 1) zero5 50 ∧ Below w.heap.size w wr) (fun i _ => 3 - (intOf i).toNat)
  case atStart => exact ⟨0, x, by omega, rfl, HS.out, HA0.out, HZ0.out, HBe.out⟩
  case round =>
    clear HS HA0 HZ0 HBe
    obtain ⟨m, X, hm, rfl, hp, ha, hz, hbel⟩ := hrel
    have HZ := Lib.hid hz
    have HBel := Lib.hid hbel
    have HA := Lib.hid ha
    have HP := Lib.hid hp
    obtain ⟨hXl, hXb⟩ := HBd.out X m hp
    have HC := Lib.hid (fun w => carried5_any X hXl hXb w)
    have hX5 := row5_size hXl
    clear hp ha hz hbel hXb hXl
    by_cases hlt : m < 3
    · have hlti : (m : Int) < 3 := by omega
      go_wp2_with (first
        | (with_reducible refine wpList_load_n5 rfl _ rfl w.heap.size rfl _ hX5 HA.out ?_)
        | (go_at_call 27; (with_reducible refine (HC.out _).mono ?_); rintro e w2 ⟨⟨y, C, rfl, hyl, hyb, hC, hnum⟩, hb2⟩; have HY := Lib.hid (HN.out X y m C HP.out hlt hyl hyb hC hnum); have hy5 := row5_size hyl; have hy1 := row5_one y; have hnew := Arr.new w2 (row5 y) 50; have c0 := hnew.at5 0 (by rw [hyl]; decide); have f0 := hnew.frozen 0; have b0 := getD_of_all y _ hyb 0 (by rw [hyl]; decide); have HNw := Lib.hid hnew; clear hnew hyb hnum; generalize hy0 : y.getD 0 0 = Y at *; obtain ⟨R, hR, hRe, hR5, hR1⟩ := wrap_set y hyl Y C; have HRe := Lib.hid hR; have HRr := Lib.hid hRe; have HN2 := Lib.hid (Arr.new w2 R 50); have HA2 := Lib.hid ((HA.out.next hb2).alloc (.cells R 50)); clear hR hRe)
        | (with_reducible refine wpList_store_n5_new rfl _ _ rfl zero5 rfl _ rfl rfl _ rfl hy5 hy1 ?_)
        | (rw [HRe.out]; with_reducible refine wpList_load_n5 rfl _ rfl w2.heap.size rfl _ hR5 HN2.out ?_)
        | (with_reducible refine wpList_store_n5 rfl _ _ rfl w.heap.size rfl _ rfl hR5 hR1 _ hX5 HA2.out ?_))
      have HRw := (HA2.out.row R)
      have HZ2 := ((HZ.out.next hb2).alloc (.cells R 50)).rowOther R (show w.heap.size + 1 ≠ w.heap.size by omega) 
      have HB2 := below_setRow ((HBel.out.trans (hb2.mono HBel.out.size)).alloc (HBel.out.trans (hb2.mono HBel.out.size)).size (.cells R 50)) (Nat.le_refl _) R
      rw [HRr.out] at HRw HZ2 HB2 ⊢
      exact ⟨⟨m + 1, _, by omega, by go_num, HY.out, HRw, HZ2, HB2⟩, by simp [intOf]; omega⟩
    · obtain rfl : m = 3 := by omega
      go_wp2_with (first
        | (with_reducible refine wpList_load_n5 rfl _ rfl w.heap.size rfl _ hX5 HA.out ?_)
        | (with_reducible refine wpList_store_n5 rfl _ _ rfl (w.heap.size + 1) rfl _ rfl hX5 (row5_one _) _ rfl HZ.out ?_))
      obtain ⟨h1, h2, h3⟩ := HP.out
      exact ret_n5 Tryd.results40 (w.heap.size + 1) _ hX5 rfl (HZ.out.row _) rfl ⟨⟨X, rfl, h1, h3, h2⟩, below_setRow HBel.out (by omega) _⟩
set_option maxHeartbeats 1000000 in
set_option maxRecDepth 100000 in
theorem times5_any (x y : List Nat) (hx : x.length = 5) (hy : y.length = 5) (bx : ∀ z ∈ x, z ≤ 134217727) (bY : ∀ z ∈ y, z < 67108864) (w : World) :
    Calls Tryd.prog 37 #[.agg (row5 x), .agg (row5 y)] w fun e w' => (∃ z, e = .returned (.agg (row5 z)) ∧ z.length = 5 ∧ (∀ v ∈ z, v < 67108864) ∧ numP z % PP = numP x * numP y % PP) ∧ Below w.heap.size w w' := by
  have HX := Lib.hid (fun k hk => getD_of_all x _ (fun z hz => Nat.lt_succ_of_le (bx z hz)) k hk)
  have HY := Lib.hid (fun k hk => getD_of_all y _ bY k hk)
  have HS := Lib.hid (Tim.start x y)
  have HL := Lib.hid hx
  have HL2 := Lib.hid hy
  clear hx hy bx bY
  have HA0 := Lib.hid ((((Arr.new w (row5 x) 50).alloc (.cells (row5 y) 50)).alloc (.cells zero5 50)).alloc (.cells zero5 50))
  have HB0 := Lib.hid (((Arr.newAt (w.alloc (.cells (row5 x) 50)) (g := w.heap.size + 1) (row5 y) 50 (by simp)).alloc (.cells zero5 50)).alloc (.cells zero5 50))
  have HR0 := Lib.hid ((Arr.newAt ((w.alloc (.cells (row5 x) 50)).alloc (.cells (row5 y) 50)) (g := w.heap.size + 1 + 1) zero5 50 (by simp)).alloc (.cells zero5 50))
  have HZ0 := Lib.hid (Arr.newAt (((w.alloc (.cells (row5 x) 50)).alloc (.cells (row5 y) 50)).alloc (.cells zero5 50)) (g := w.heap.size + 1 + 1 + 1) zero5 50 (by simp))
  have HBe := Lib.hid (((((Below.refl w.heap.size w).alloc (Nat.le_refl _) (.cells (row5 x) 50)).alloc (by simp) (.cells (row5 y) 50)).alloc (by simp; omega) (.cells zero5 50)).alloc (by simp; omega) (.cells zero5 50))
  go_enter Tryd.func37, Tryd.ntmps37
  go_wp2
  generalize (((w.alloc (.cells (row5 x) 50)).alloc (.cells (row5 y) 50)).alloc (.cells zero5 50)).alloc (.cells zero5 50) = w1 at *
  go_loopw [9] (fun i wr => ∃ (k : Nat) (z : List Nat), k ≤ 5 ∧ i = .int .i64 (k : Int) ∧ Tim x y z k 0 ∧ Arr wr w.heap.size (row5 x) 50 ∧ Arr wr (w.heap.size + 1) (row5 y) 50 ∧ Arr wr (w.heap.size + 1 + 1) zero5 50 ∧ Arr wr (w.heap.size + 1 + 1 + 1) (row5 z) 50 ∧ Below w.heap.size w wr) (fun i _ => 5 - (intOf i).toNat)
  case atStart => exact ⟨0, [0, 0, 0, 0, 0], by omega, rfl, HS.out, HA0.out, HB0.out, HR0.out, HZ0.out, HBe.out⟩
  case round =>
    clear HS HA0 HB0 HR0 HZ0 HBe
    obtain ⟨i, z, hi, rfl, hp, ha, hb, hr, hz, hbel⟩ := hrel
    have HP := Lib.hid hp
    have HA := Lib.hid ha
    have HB := Lib.hid hb
    have HR := Lib.hid hr
    have HZ := Lib.hid hz
    have HBel := Lib.hid hbel
    clear hp ha hb hr hz hbel
    by_cases hlt : i < 5
    · have hlti : (i : Int) < 5 := by omega
      obtain ⟨wo, rfl⟩ : ∃ wo : World, wo = wr := ⟨_, rfl⟩
      go_wp2
      go_loopw [12] (fun j wr => ∃ (k : Nat) (z : List Nat), k ≤ 5 ∧ j = .int .i64 (k : Int) ∧ Tim x y z i k ∧ Arr wr w.heap.size (row5 x) 50 ∧ Arr wr (w.heap.size + 1) (row5 y) 50 ∧ Arr wr (w.heap.size + 1 + 1) zero5 50 ∧ Arr wr (w.heap.size + 1 + 1 + 1) (row5 z) 50 ∧ Below w.heap.size w wr) (fun j _ => 5 - (intOf j).toNat)
      case atStart => exact ⟨0, z, by omega, rfl, HP.out, HA.out, HB.out, HR.out, HZ.out, HBel.out⟩
      case round =>
        clear HP HA HB HR HZ HBel
        obtain ⟨k, z, hk, rfl, hp, ha, hb, hr, hz, hbel⟩ := hrel
        have HP := Lib.hid hp
        have HA := Lib.hid ha
        have HB := Lib.hid hb
        have HR := Lib.hid hr
        have HZ := Lib.hid hz
        have HBel := Lib.hid hbel
        by_cases hk5 : k < 5
        · have hki : (k : Int) < 5 := by omega
          have c1 := ha.at5 i (by rw [HL.out]; omega)
          have c2 := hb.at5 k (by rw [HL2.out]; omega)
          have c3 := hz.at5 ((i + k) % 5) (by rw [hp.len]; omega)
          have f3 := hz.frozen ((i + k) % 5)
          have b1 := HX.out i (by rw [HL.out]; omega)
          have b2 := HY.out k (by rw [HL2.out]; omega)
          by_cases hik : 5 ≤ i + k
          · obtain ⟨hst, b3, b4⟩ := hp.step HL2.out hlt hk5 (by omega) b2 _ rfl
            rw [if_pos hik] at hst b4
            clear hp ha hb hr hz hbel
            have HSt := Lib.hid hst
            generalize x.getD i 0 = X at *
            generalize y.getD k 0 = Y at *
            have hiki : (5 : Int) ≤ (i : Int) + (k : Int) := by omega
            have k0 : (0 : Int) ≤ (k : Int) := by omega
            have i0 : (0 : Int) ≤ (i : Int) := by omega
            obtain ⟨J, hJ⟩ : ∃ J, J = (i + k) % 5 := ⟨_, rfl⟩
            have hj5 : J < 5 := by rw [hJ]; exact Nat.mod_lt _ (by decide)
            have ej : ((i : Int) + (k : Int)) % 5 = (J : Int) := by omega
            rw [← hJ] at c3 f3 b3 HSt
            obtain ⟨P, hP⟩ : ∃ P, P = X * Y := ⟨_, rfl⟩
            rw [← hP] at HSt b4
            have ep : (X : Int) * (Y : Int) = (P : Int) := by rw [hP]; simp
            have hP1 : (P : Int) ≤ 9007199254740992 := by omega
            clear hst hJ b1 b2 hP
            generalize z.getD J 0 = Z at *
            have j0 : (0 : Int) ≤ (J : Int) := by omega
            have j5 : (J : Int) < 5 := by omega
            go_wp2
            go_region
            all_goals
              go_wp2
              have hs := HZ.out.set5 J (Z + P * 5)
              rw [Int.natCast_add, Int.natCast_mul] at hs
              rw [show ((5 : Nat) : Int) = 5 from rfl] at hs
              exact ⟨⟨k + 1, _, by omega, by go_num, HSt.out, HA.out.other _ _ (by show w.heap.size ≠ w.heap.size + 1 + 1 + 1; omega), HB.out.other _ _ (by show w.heap.size + 1 ≠ w.heap.size + 1 + 1 + 1; omega), HR.out.other _ _ (by show w.heap.size + 1 + 1 ≠ w.heap.size + 1 + 1 + 1; omega), hs, (HBel.out.setCell (p := ⟨w.heap.size + 1 + 1 + 1, J, none⟩) (by show w.heap.size ≤ w.heap.size + 1 + 1 + 1; omega) _).drew⟩, by simp [intOf]; omega⟩
          · obtain ⟨hst, b3, b4⟩ := hp.step HL2.out hlt hk5 (by omega) b2 _ rfl
            rw [if_neg hik] at hst b4
            clear hp ha hb hr hz hbel
            have HSt := Lib.hid hst
            generalize x.getD i 0 = X at *
            generalize y.getD k 0 = Y at *
            have hiki : ¬ (5 : Int) ≤ (i : Int) + (k : Int) := by omega
            have k0 : (0 : Int) ≤ (k : Int) := by omega
            have i0 : (0 : Int) ≤ (i : Int) := by omega
            obtain ⟨J, hJ⟩ : ∃ J, J = (i + k) % 5 := ⟨_, rfl⟩
            have hj5 : J < 5 := by rw [hJ]; exact Nat.mod_lt _ (by decide)
            have ej : ((i : Int) + (k : Int)) % 5 = (J : Int) := by omega
            rw [← hJ] at c3 f3 b3 HSt
            obtain ⟨P, hP⟩ : ∃ P, P = X * Y := ⟨_, rfl⟩
            rw [← hP] at HSt b4
            have ep : (X : Int) * (Y : Int) = (P : Int) := by rw [hP]; simp
            have hP1 : (P : Int) ≤ 45035996273704960 := by omega
            clear hst hJ b1 b2 hP
            generalize z.getD J 0 = Z at *
            have j0 : (0 : Int) ≤ (J : Int) := by omega
            have j5 : (J : Int) < 5 := by omega
            go_wp2
            go_region
            all_goals
              go_wp2
              have hs := HZ.out.set5 J (Z + P)
              rw [Int.natCast_add] at hs
              exact ⟨⟨k + 1, _, by omega, by go_num, HSt.out, HA.out.other _ _ (by show w.heap.size ≠ w.heap.size + 1 + 1 + 1; omega), HB.out.other _ _ (by show w.heap.size + 1 ≠ w.heap.size + 1 + 1 + 1; omega), HR.out.other _ _ (by show w.heap.size + 1 + 1 ≠ w.heap.size + 1 + 1 + 1; omega), hs, (HBel.out.setCell (p := ⟨w.heap.size + 1 + 1 + 1, J, none⟩) (by show w.heap.size ≤ w.heap.size + 1 + 1 + 1; omega) _).drew⟩, by simp [intOf]; omega⟩
        · obtain rfl : k = 5 := by omega
          have HRow := Lib.hid (hp.row (by rw [HL.out]; omega) HL2.out)
          clear hp ha hb hr hz hbel
          go_wp2
          exact ⟨⟨i + 1, _, by omega, by go_num, HRow.out, HA.out, HB.out, HR.out, HZ.out, HBel.out⟩, by simp [intOf]; omega⟩
    · obtain rfl : i = 5 := by omega
      obtain ⟨hzb, hzn⟩ := HP.out.fin HL.out
      have hz5 := row5_size HP.out.len
      have HW := Lib.hid (wrapped5_any z HP.out.len hzb)
      have HZn := Lib.hid hzn
      clear hzb hzn
      go_wp2_with (first
        | (with_reducible refine wpList_load_n5 rfl _ rfl (w.heap.size + 1 + 1 + 1) rfl _ hz5 HZ.out ?_)
        | (go_at_call 40; (with_reducible refine (HW.out _).mono ?_); rintro e w2 ⟨⟨v, rfl, hvl, hvb, hvn⟩, hb2⟩; have hv5 := row5_size hvl; have HR2 := Lib.hid (HR.out.next hb2))
        | (with_reducible refine wpList_store_n5 rfl _ _ rfl (w.heap.size + 1 + 1) rfl _ rfl hv5 (row5_one _) _ rfl HR2.out ?_))
      exact ret_n5 Tryd.results37 (w.heap.size + 1 + 1) _ hv5 rfl (HR2.out.row _) rfl ⟨⟨v, rfl, hvl, hvb, hvn.trans HZn.out⟩, below_setRow (HBel.out.trans (hb2.mono HBel.out.size)) (by omega) _⟩
end Go.Proofs.YtjbhmdlgokoepaaDoor
