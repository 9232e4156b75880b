/- The document's own times of layer 5. -/
import Derived.Test.YtjbhmdlgokoepaaDoorPr3
import Derived.BigRegion
import Derived.Deep.RegionLaw
namespace Go.Proofs.YtjbhmdlgokoepaaDoor
open Go.RowKit

theorem i64s_zeros (n : Nat) : (madeCells #[Value.int .i64 0] n).toList = i64s (List.replicate n 0) := by
  rw [toList_madeCells_one]
  simp [i64s]
theorem madeI (n : Nat) : madeCells #[Value.int .i64 0] n = (i64s (List.replicate n 0)).toArray := by
  apply Array.ext'
  rw [i64s_zeros]
theorem makeI (n : Nat) (hn : n ≤ 16777216) (w : World) : (Instr.makeSlice 41 (.int .i64 (n : Int)) (.int .i64 (n : Int))).run Tryd.prog w = .ok (.slice (some ⟨w.heap.size, 0, none⟩) n n) (w.alloc (.cells (i64s (List.replicate n 0)).toArray 3)) := by
  obtain ⟨i0, hi, hz0, hz1, hz2⟩ := info_parts Tryd.infoI64
  have := run_makeSlice (P := Tryd.prog) w 41 3 i0 (.int .i64 0) Tryd.underlying41 hi hz0 .i64 .i64 n n (by omega) (by omega) (by rw [hz1]; omega) (by rw [hz2]; omega) (by omega)
  rw [hz1, Int.toNat_natCast, Nat.mul_one] at this
  rw [← madeI]
  exact this
theorem i64s_set (l : List Nat) (k x : Nat) : (i64s l).toArray.setIfInBounds k (.int .i64 (x : Int)) = (i64s (l.set k x)).toArray := by
  rw [List.setIfInBounds_toArray]; simp [i64s, List.map_set]
theorem mul_le (x y : Nat) (hx : x < 256) (hy : y < 256) : x * y ≤ 65025 := Nat.le_trans (Nat.mul_le_mul (Nat.le_of_lt_succ hx) (Nat.le_of_lt_succ hy)) (by decide)
theorem prod_step (P A x B M y : Nat) : P * B + M * (x * A) + M * (A * 0 + x * y * 0) = P * B + M * (x * A) := by simp
theorem inner_num (O P B M x T N y : Nat) (h : O = P * B + M * (x * T)) : O + (M * N) * (x * y) = P * B + M * (x * (T + N * y)) := by
  subst h
  rw [Nat.mul_add x, Nat.mul_add M, Nat.add_assoc]
  congr 2
  rw [Nat.mul_assoc M N, ← Nat.mul_assoc N x, Nat.mul_comm N x, Nat.mul_assoc x N]
theorem outer_num (P B M x : Nat) : P * B + M * (x * B) = (P + M * x) * B := by rw [Nat.add_mul, Nat.mul_assoc]

set_option maxHeartbeats 2000000 in
set_option maxRecDepth 100000 in
theorem times_any (va vb : Value) (a b : List Nat) (ha : ∀ x ∈ a, x < 256) (hb : ∀ x ∈ b, x < 256) (la : a.length ≤ 300) (lb : b.length ≤ 300) (w : World) (hva : DV w va a) (hvb : DV w vb b) :
    Calls Tryd.prog 21 #[va, vb] w fun e w' => (∃ v c, e = .returned v ∧ DV w' v c ∧ (∀ x ∈ c, x < 256) ∧ numD c = numD a * numD b ∧ c.length ≤ a.length + b.length + 6) ∧ Below w.heap.size w w' := by
  have HVa := Lib.hid hva
  have HVb := Lib.hid hvb
  have HA := Lib.hid (getD_le a 256 (by decide) ha)
  have HBb := Lib.hid (getD_le b 256 (by decide) hb)
  obtain ⟨_, pa, ca, rfl, _, _⟩ := hva
  obtain ⟨_, pb, cb, rfl, _, _⟩ := hvb
  obtain ⟨na, hna⟩ : ∃ n, n = a.length := ⟨_, rfl⟩
  obtain ⟨nb, hnb⟩ : ∃ n, n = b.length := ⟨_, rfl⟩
  have HNa := Lib.hid hna
  have HNb := Lib.hid hnb
  rw [← hna] at la HVa ⊢
  rw [← hnb] at lb HVb ⊢
  have hmk := makeI (na + nb) (by omega)
  rw [show ((na + nb : Nat) : Int) = (na : Int) + (nb : Int) by omega] at hmk
  have HZ := Lib.hid (Arr.new w (i64s (List.replicate (na + nb) 0)).toArray 3)
  have HB := Lib.hid ((Below.refl w.heap.size w).alloc (Nat.le_refl _) (.cells (i64s (List.replicate (na + nb) 0)).toArray 3))
  clear ha hb hna hnb
  go_enter Tryd.func21, Tryd.ntmps21
  go_wp2
  clear hmk
  go_loopw [6] (fun i wr => ∃ (k : Nat) (out : List Nat), k ≤ na ∧ i = .int .i64 (k : Int) ∧ out.length = na + nb ∧ (∀ j, out.getD j 0 ≤ 65025 * (k * nb)) ∧ numD out = numD (a.take k) * numD b ∧ Arr wr w.heap.size (i64s out).toArray 3 ∧ Below w.heap.size w wr) (fun i _ => na - (intOf i).toNat)
  case atStart => exact ⟨0, List.replicate (na + nb) 0, by omega, rfl, by simp, by intro j; simp [List.getD_eq_getElem?_getD, List.getElem?_replicate]; split <;> simp, by rw [numD_zeros]; simp [numD], HZ.out, HB.out⟩
  case round =>
    clear HZ HB
    obtain ⟨i, out, hi, rfl, hol, hob, hon, harr, hbel⟩ := hrel
    have HOl := Lib.hid hol
    have HOb := Lib.hid hob
    have HOn := Lib.hid hon
    have HArr := Lib.hid harr
    have HBel := Lib.hid hbel
    clear hol hob hon harr hbel
    by_cases hlt : i < na
    · have hdi : decide ((i : Int) < (na : Int)) = true := decide_eq_true (by omega)
      go_wp2
      clear hdi
      go_loopw [7] (fun j wr => ∃ (k : Nat) (out : List Nat), k ≤ nb ∧ j = .int .i64 (k : Int) ∧ out.length = na + nb ∧ (∀ j, out.getD j 0 ≤ 65025 * (i * nb + k)) ∧ numD out = numD (a.take i) * numD b + 256 ^ i * (a.getD i 0 * numD (b.take k)) ∧ Arr wr w.heap.size (i64s out).toArray 3 ∧ Below w.heap.size w wr) (fun j _ => nb - (intOf j).toNat)
      case atStart => exact ⟨0, out, by omega, rfl, HOl.out, by simpa using HOb.out, by rw [HOn.out]; simp [numD], HArr.out, HBel.out⟩
      case round =>
        clear HOl HOb HOn HArr HBel
        obtain ⟨k, out, hk, rfl, hol, hob, hon, harr, hbel⟩ := hrel
        by_cases hkt : k < nb
        · obtain ⟨ga, rfl, hca⟩ := (HVa.out.next hbel).at i (by rw [← HNa.out]; exact hlt)
          obtain ⟨gb, rfl, hcb⟩ := (HVb.out.next hbel).at k (by rw [← HNb.out]; exact hkt)
          have hco := harr.cell (j := i + k) (v := .int .i64 ((out.getD (i + k) 0 : Nat) : Int)) (by
            rw [List.getElem?_toArray, i64s_get _ _ (by rw [hol]; omega), List.getD_eq_getElem?_getD, List.getElem?_eq_getElem (by rw [hol]; omega)]; rfl)
          have hfo := harr.frozen (i + k)
          have hx := HA.out i
          have hy := HBb.out k
          have hxy := mul_le _ _ hx hy
          have ho := hob (i + k)
          have hbd : i * nb + k ≤ 100000 := by have := Nat.mul_le_mul (show i ≤ 300 by omega) lb; omega
          have hsum : numD (out.set (i + k) (out.getD (i + k) 0 + a.getD i 0 * b.getD k 0)) = numD (a.take i) * numD b + 256 ^ i * (a.getD i 0 * numD (b.take (k + 1))) := by
            rw [numD_set _ _ _ (by rw [hol]; omega), Nat.pow_add, numD_take_succ b k (by rw [← HNb.out]; exact hkt)]
            exact inner_num _ _ _ _ _ _ _ _ hon
          have hob' : ∀ j, (out.set (i + k) (out.getD (i + k) 0 + a.getD i 0 * b.getD k 0)).getD j 0 ≤ 65025 * (i * nb + (k + 1)) := by
            intro j
            have hj := hob j
            rw [List.getD_eq_getElem?_getD, List.getElem?_set]
            split
            · split
              · simp only [Option.getD_some]; omega
              · simp
            · rw [← List.getD_eq_getElem?_getD]; omega
          have hset := harr.set (i + k) (.int .i64 ((out.getD (i + k) 0 + a.getD i 0 * b.getD k 0 : Nat) : Int))
          rw [i64s_set] at hset
          have HSet := Lib.hid hset
          have HSum := Lib.hid hsum
          have HOb2 := Lib.hid hob'
          have HOl2 := Lib.hid (show (out.set (i + k) (out.getD (i + k) 0 + a.getD i 0 * b.getD k 0)).length = na + nb by rw [List.length_set]; exact hol)
          have HBel2 := Lib.hid (hbel.setCell (p := ⟨w.heap.size, i + k, none⟩) (Nat.le_refl _) (.int .i64 ((out.getD (i + k) 0 + a.getD i 0 * b.getD k 0 : Nat) : Int)))
          have e1 : IntKind.i64.wrap ((i : Int) + (k : Int)) = ((i + k : Nat) : Int) := by rw [IntWalk.i64_in _ (by omega)]; omega
          have e2 : IntKind.i64.wrap (((a.getD i 0 : Nat) : Int) * ((b.getD k 0 : Nat) : Int)) = ((a.getD i 0 * b.getD k 0 : Nat) : Int) := by rw [← Int.natCast_mul, IntWalk.i64_in _ (by omega)]
          have e3 : IntKind.i64.wrap (((out.getD (i + k) 0 : Nat) : Int) + ((a.getD i 0 * b.getD k 0 : Nat) : Int)) = ((out.getD (i + k) 0 + a.getD i 0 * b.getD k 0 : Nat) : Int) := by rw [IntWalk.i64_in _ (by omega)]; omega
          have p0 : (0 : Int) ≤ (i : Int) := by omega
          have p1 : (i : Int) < (na : Int) := by omega
          have p2 : (0 : Int) ≤ (k : Int) := by omega
          have p3 : (k : Int) < (nb : Int) := by omega
          have p4 : (0 : Int) ≤ ((i + k : Nat) : Int) := by omega
          have p5 : ((i + k : Nat) : Int) < (na : Int) + (nb : Int) := by omega
          clear hx hy hxy ho hbd hsum hob' hset hob hon hol hbel harr
          generalize out.getD (i + k) 0 + a.getD i 0 * b.getD k 0 = r at *
          generalize a.getD i 0 * b.getD k 0 = q at *
          generalize out.getD (i + k) 0 = o at *
          generalize a.getD i 0 = x at *
          generalize b.getD k 0 = y at *
          generalize i + k = p at *
          go_wp2
          go_region
          go_wp2
          go_roundw
          case rel => exact ⟨k + 1, _, by omega, by go_num, HOl2.out, HOb2.out, HSum.out, HSet.out.drew, HBel2.out.drew⟩
          case measure => simp [intOf]; omega
        · obtain rfl : k = nb := by omega
          rw [List.take_of_length_le (show b.length ≤ k by rw [← HNb.out]; exact Nat.le_refl _), outer_num, ← numD_take_succ a i (by rw [← HNa.out]; exact hlt)] at hon
          have HOn := Lib.hid hon
          have HOb := Lib.hid hob
          have HArr := Lib.hid harr
          have HBel := Lib.hid hbel
          clear hon hob harr hbel
          go_wp2
          go_roundw
          case rel => exact ⟨i + 1, out, by omega, by go_num, hol, fun j => by have := HOb.out j; rw [Nat.add_mul, Nat.one_mul]; exact this, HOn.out, HArr.out, HBel.out⟩
          case measure => simp [intOf]; omega
    · obtain rfl : i = na := by omega
      have hnum : numD out = numD a * numD b := by rw [HOn.out, List.take_of_length_le (show a.length ≤ i by rw [← HNa.out]; exact Nat.le_refl _)]
      have hdv : DV wr (.slice (some ⟨w.heap.size, 0, none⟩) (i + nb) (i + nb)) out := ⟨w.heap.size, _, i + nb, by rw [HOl.out], RowI.ofArr HArr.out, fun _ => ⟨rfl, HArr.out.lt⟩⟩
      have hlt' : ∀ x ∈ out, x < 1099511627776 := by
        intro x hx
        obtain ⟨j, hj, rfl⟩ := List.getElem_of_mem hx
        have h1 := HOb.out j
        rw [List.getD_eq_getElem?_getD, List.getElem?_eq_getElem hj] at h1
        simp only [Option.getD_some] at h1
        have := Nat.mul_le_mul la lb
        omega
      have hC := carried_any _ out hlt' (by rw [HOl.out]; omega) wr hdv
      rw [hnum, HOl.out] at hC
      have HC := Lib.hid hC
      clear hC hlt' hdv hnum
      go_wp2_with (go_at_call 34; ((with_reducible refine HC.out.mono ?_); rintro e w3 ⟨⟨v, c, rfl, hc⟩, hb3⟩))
      go_ret
      exact ⟨⟨v, c, rfl, hc⟩, HBel.out.trans (hb3.mono HBel.out.size)⟩
end Go.Proofs.YtjbhmdlgokoepaaDoor
