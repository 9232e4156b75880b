/- poly: the contracts of plus, carried. -/
import Derived.Test.YtjbhmdlgokoepaaDoorPmA
namespace Go.Proofs.YtjbhmdlgokoepaaDoor
open Go.RowKit

/-- What is known behind k sums. -/
structure Plu (x y out : List Nat) (k : Nat) : Prop where
  len : out.length = 5
  hi : ∀ j, k ≤ j → out.getD j 0 = x.getD j 0
  lo : ∀ j, j < k → out.getD j 0 = x.getD j 0 + y.getD j 0
theorem Plu.start (x y : List Nat) (h : x.length = 5) : Plu x y x 0 := ⟨h, fun _ _ => rfl, fun _ h => absurd h (by omega)⟩
theorem Plu.step {x y out : List Nat} {k : Nat} (h : Plu x y out k) (hk : k < 5) : Plu x y (out.set k (out.getD k 0 + y.getD k 0)) (k + 1) := by
  refine ⟨by simp [h.len], ?_, ?_⟩
  · intro j hj
    rw [getD_sets _ _ _ _ (by rw [h.len]; omega), if_neg (by omega), h.hi j (by omega)]
  · intro j hj
    rw [getD_sets _ _ _ _ (by rw [h.len]; omega)]
    by_cases e : j = k
    · rw [if_pos e, h.hi k (Nat.le_refl _), e]
    · rw [if_neg e]; exact h.lo j (by omega)
theorem Plu.fin {x y out : List Nat} (hx : x.length = 5) (hy : y.length = 5) (h : Plu x y out 5) : out = sumP x y := by
  refine eq_of_getD _ _ (by rw [h.len, sumP_len _ _ (by omega), hx]) fun j hj => ?_
  rw [h.len] at hj
  rw [h.lo j hj, sumP_get _ _ _ (by omega) (by omega)]

abbrev zero5 : Array Value := #[.int .u64 0, .int .u64 0, .int .u64 0, .int .u64 0, .int .u64 0]
theorem zero5_row : zero5 = row5 [0, 0, 0, 0, 0] := rfl

set_option maxHeartbeats 1000000 in
set_option maxRecDepth 100000 in
theorem plus5_any (x y : List Nat) (hx : x.length = 5) (hy : y.length = 5) (bx : ∀ z ∈ x, z < 9223372036854775808) (bY : ∀ z ∈ y, z < 9223372036854775808) (w : World) :
    Calls Tryd.prog 28 #[.agg (row5 x), .agg (row5 y)] w fun e w' => e = .returned (.agg (row5 (sumP x y))) ∧ Below w.heap.size w w' := by
  have HX := Lib.hid (fun k hk => getD_of_all x _ bx k hk)
  have HY := Lib.hid (fun k hk => getD_of_all y _ bY k hk)
  have HS := Lib.hid (Plu.start x y hx)
  have HF := Lib.hid (fun out h => Plu.fin (out := out) hx hy h)
  have HL := Lib.hid hx
  have HL2 := Lib.hid hy
  clear hx hy bx bY
  have HA0 := Lib.hid (((Arr.new w (row5 x) 50).alloc (.cells (row5 y) 50)).alloc (.cells zero5 50))
  have HB0 := Lib.hid ((Arr.newAt (w.alloc (.cells (row5 x) 50)) (g := w.heap.size + 1) (row5 y) 50 (by simp)).alloc (.cells zero5 50))
  have HZ0 := Lib.hid (Arr.newAt ((w.alloc (.cells (row5 x) 50)).alloc (.cells (row5 y) 50)) (g := w.heap.size + 1 + 1) zero5 50 (by simp))
  have HBe := Lib.hid ((((Below.refl w.heap.size w).alloc (Nat.le_refl _) (.cells (row5 x) 50)).alloc (by simp) (.cells (row5 y) 50)).alloc (by simp; omega) (.cells zero5 50))
  go_enter Tryd.func28, Tryd.ntmps28
  go_wp2
  generalize ((w.alloc (.cells (row5 x) 50)).alloc (.cells (row5 y) 50)).alloc (.cells zero5 50) = w1 at *
  go_loopw [6] (fun i wr => ∃ (k : Nat) (out : List Nat), k ≤ 5 ∧ i = .int .i64 (k : Int) ∧ Plu x y out k ∧ Arr wr w.heap.size (row5 out) 50 ∧ Arr wr (w.heap.size + 1) (row5 y) 50 ∧ Arr wr (w.heap.size + 1 + 1) zero5 50 ∧ Below w.heap.size w wr) (fun i _ => 5 - (intOf i).toNat)
  case atStart => exact ⟨0, x, by omega, rfl, HS.out, HA0.out, HB0.out, HZ0.out, HBe.out⟩
  case round =>
    clear HS HA0 HB0 HZ0 HBe
    obtain ⟨k, out, hk, rfl, hp, ha, hb, hz, hbel⟩ := hrel
    have HZ := Lib.hid hz
    have HBel := Lib.hid hbel
    have HA := Lib.hid ha
    have HB := Lib.hid hb
    by_cases hlt : k < 5
    · have c1 := ha.at5 k (by rw [hp.len]; omega)
      have c2 := hb.at5 k (by rw [HL2.out]; omega)
      have f1 := ha.frozen k
      have b1 := HX.out k (by rw [HL.out]; omega)
      have b2 := HY.out k (by rw [HL2.out]; omega)
      rw [← hp.hi k (Nat.le_refl _)] at b1
      have HP := Lib.hid (hp.step hlt)
      clear hbel ha hb hz hp
      generalize out.getD k 0 = X at *
      generalize y.getD k 0 = Y at *
      have e1 := u64_sum (a := X) (b := Y) (by omega)
      have k0 : (0 : Int) ≤ (k : Int) := by omega
      have k5 : (k : Int) < 5 := by omega
      clear b1 b2
      go_wp2
      go_region
      all_goals
        go_wp2
        have hs := HA.out.set5 k (X + Y)
        rw [Int.natCast_add] at hs
        exact ⟨⟨k + 1, _, by omega, by go_num, HP.out, hs, HB.out.other _ _ (by show w.heap.size + 1 ≠ w.heap.size; omega), HZ.out.other _ _ (by show w.heap.size + 1 + 1 ≠ w.heap.size; omega), (HBel.out.setCell (p := ⟨w.heap.size, k, none⟩) (Nat.le_refl _) _).drew⟩, by simp [intOf]; omega⟩
    · obtain rfl : k = 5 := by omega
      rw [HF.out out hp] at ha
      have HA2 := Lib.hid ha
      have hl5 : (row5 (sumP x y)).size = 5 := row5_size (by rw [sumP_len _ _ (by rw [HL.out, HL2.out]), HL.out])
      clear hp hbel hb hz ha HA HB
      go_wp2_with (first
        | (with_reducible refine wpList_load_n5 rfl _ rfl w.heap.size rfl _ hl5 HA2.out ?_)
        | (with_reducible refine wpList_store_n5 rfl _ _ rfl (w.heap.size + 1 + 1) rfl _ rfl hl5 (row5_one _) _ rfl HZ.out ?_))
      exact ret_n5 Tryd.results28 (w.heap.size + 1 + 1) _ hl5 rfl (HZ.out.row _) rfl ⟨rfl, below_setRow HBel.out (by omega) _⟩
set_option maxHeartbeats 1000000 in
set_option maxRecDepth 100000 in
theorem carried5_any (x : List Nat) (hx : x.length = 5) (bx : ∀ z ∈ x, z < 9223372036854775808) (w : World) :
    Calls Tryd.prog 27 #[.agg (row5 x)] w fun e w' => (∃ y C, e = .returned (.tuple #[.agg (row5 y), .int .u64 ((C : Nat) : Int)]) ∧ y.length = 5 ∧ (∀ z ∈ y, z < 67108864) ∧ C < 274877906944 ∧ numP y + TB * C = numP x) ∧ Below w.heap.size w w' := by
  have HS := Lib.hid (Car.start x hx)
  have HX := Lib.hid hx
  have HBx := Lib.hid bx
  clear hx bx
  have HA0 := Lib.hid ((Arr.new w (row5 x) 50).alloc (.cells zero5 50))
  have HZ0 := Lib.hid (Arr.newAt (w.alloc (.cells (row5 x) 50)) (g := w.heap.size + 1) zero5 50 (by simp))
  have HBe := Lib.hid (((Below.refl w.heap.size w).alloc (Nat.le_refl _) (.cells (row5 x) 50)).alloc (by simp) (.cells zero5 50))
  go_enter Tryd.func27, Tryd.ntmps27
  go_wp2
  generalize (w.alloc (.cells (row5 x) 50)).alloc (.cells zero5 50) = w1 at *
  go_loopw [4, 6] (fun c i wr => ∃ (k C : Nat) (out : List Nat), k ≤ 5 ∧ c = .int .u64 (C : Int) ∧ i = .int .i64 (k : Int) ∧ Car x out C k ∧ Arr wr w.heap.size (row5 out) 50 ∧ Arr wr (w.heap.size + 1) zero5 50 ∧ Below w.heap.size w wr) (fun _ i _ => 5 - (intOf i).toNat)
  case atStart => exact ⟨0, 0, x, by omega, rfl, rfl, HS.out, HA0.out, HZ0.out, HBe.out⟩
  case round =>
    clear HS HA0 HZ0 HBe
    obtain ⟨k, C, out, hk, rfl, rfl, hp, ha, hz, hbel⟩ := hrel
    have HZ := Lib.hid hz
    have HBel := Lib.hid hbel
    have HA := Lib.hid ha
    by_cases hlt : k < 5
    · have c1 := ha.at5 k (by rw [hp.len]; omega)
      have f1 := ha.frozen k
      obtain ⟨hst, b1⟩ := hp.step HX.out HBx.out hlt
      have hC := hp.c
      have HP := Lib.hid hst
      clear hbel ha hz hp hst
      generalize out.getD k 0 = X at *
      have e1 := Lib.hid (show IntKind.u64.wrap ((X : Int) + (C : Int)) = ((X + C : Nat) : Int) by rw [IntKind.wrap_u64]; exact u64_sum (by omega))
      have e2 := and26 (X + C) (by omega)
      have e3 : ((X + C : Nat) : Int) / 67108864 = (((X + C) / 67108864 : Nat) : Int) := by omega
      have hY : X + C < 18446744073709551616 := by omega
      generalize X + C = Y at *
      have k0 : (0 : Int) ≤ (k : Int) := by omega
      have k5 : (k : Int) < 5 := by omega
      clear b1 hC hY
      go_wp2
      rw [e1.out, e2, e3]
      exact ⟨⟨k + 1, _, _, by omega, rfl, by go_num, HP.out, (HA.out.set5 k Y).set5 k (Y % 67108864), (HZ.out.other _ _ (by show w.heap.size + 1 ≠ w.heap.size; omega)).other _ _ (by show w.heap.size + 1 ≠ w.heap.size; omega), (HBel.out.setCell (p := ⟨w.heap.size, k, none⟩) (Nat.le_refl _) _).setCell (p := ⟨w.heap.size, k, none⟩) (Nat.le_refl _) _⟩, by simp [intOf]; omega⟩
    · obtain rfl : k = 5 := by omega
      have hl5 := row5_size hp.len
      have HR : Hid (∃ y D, Ending.returned (.tuple #[.agg (row5 out), .int .u64 (C : Int)]) = .returned (.tuple #[.agg (row5 y), .int .u64 ((D : Nat) : Int)]) ∧ y.length = 5 ∧ (∀ z ∈ y, z < 67108864) ∧ D < 274877906944 ∧ numP y + TB * D = numP x) :=
        ⟨out, C, rfl, hp.len, (hp.fin HX.out).1, hp.c, (hp.fin HX.out).2⟩
      clear hp hbel hz ha
      go_wp2_with (first
        | (with_reducible refine wpList_load_n5 rfl _ rfl w.heap.size rfl _ hl5 HA.out ?_)
        | (with_reducible refine wpList_store_n5 rfl _ _ rfl (w.heap.size + 1) rfl _ rfl hl5 (row5_one _) _ rfl HZ.out ?_))
      exact ret_n5_tmp Tryd.results27 (w.heap.size + 1) _ hl5 rfl (HZ.out.row _) rfl (.int .u64 (C : Int)) rfl ⟨HR.out, below_setRow HBel.out (by omega) _⟩
end Go.Proofs.YtjbhmdlgokoepaaDoor
