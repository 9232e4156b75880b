/- The document's own plus, high, low, some of layer 5. -/
import Derived.Test.YtjbhmdlgokoepaaDoorPr1
namespace Go.Proofs.YtjbhmdlgokoepaaDoor
open Go.RowKit

theorem digL_all (d : List Nat) : digL d d.length = d := by
  apply List.ext_getElem?
  intro i
  rw [digL, List.getElem?_map]
  by_cases h : i < d.length
  · rw [List.getElem?_range h, Option.map_some, List.getD_eq_getElem?_getD, List.getElem?_eq_getElem h]; rfl
  · rw [List.getElem?_eq_none (by simpa using h), List.getElem?_eq_none (by omega)]; rfl
theorem digL_more (d : List Nat) (j : Nat) : numD (digL d (d.length + j)) = numD d := by
  induction j with
  | zero => rw [Nat.add_zero, digL_all]
  | succ j ih => rw [← Nat.add_assoc, digL_succ, numD_snoc, ih, List.getD_eq_getElem?_getD, List.getElem?_eq_none (by omega)]; simp
theorem digL_val (d : List Nat) (m : Nat) (h : d.length ≤ m) : numD (digL d m) = numD d := by
  obtain ⟨j, rfl⟩ := Nat.exists_eq_add_of_le h; exact digL_more d j
/-- Sums, digit by digit. -/
def sumD (a b : List Nat) (m : Nat) : List Nat := (List.range m).map fun j => a.getD j 0 + b.getD j 0
theorem sumD_len (a b : List Nat) (m : Nat) : (sumD a b m).length = m := by simp [sumD]
theorem sumD_succ (a b : List Nat) (m : Nat) : sumD a b (m + 1) = sumD a b m ++ [a.getD m 0 + b.getD m 0] := by simp [sumD, List.range_succ]
theorem sumD_num (a b : List Nat) (m : Nat) : numD (sumD a b m) = numD (digL a m) + numD (digL b m) := by
  induction m with
  | zero => rfl
  | succ m ih => rw [sumD_succ, digL_succ, digL_succ, numD_snoc, numD_snoc, numD_snoc, ih, sumD_len, digL_len, digL_len, Nat.mul_add]; omega
theorem getD_le (d : List Nat) (B : Nat) (hB : 0 < B) (h : ∀ x ∈ d, x < B) (j : Nat) : d.getD j 0 < B := by
  by_cases hj : j < d.length
  · rw [List.getD_eq_getElem?_getD, List.getElem?_eq_getElem hj]; exact h _ (List.getElem_mem hj)
  · rw [List.getD_eq_getElem?_getD, List.getElem?_eq_none (by omega)]; exact hB

set_option maxHeartbeats 1000000 in
theorem plus_any (va vb : Value) (a b : List Nat) (ha : ∀ x ∈ a, x < 256) (hb : ∀ x ∈ b, x < 256) (la : a.length ≤ 400) (lb : b.length ≤ 400) (w : World) (hva : DV w va a) (hvb : DV w vb b) :
    Calls Tryd.prog 22 #[va, vb] w fun e w' => (∃ v c, e = .returned v ∧ DV w' v c ∧ (∀ x ∈ c, x < 256) ∧ numD c = numD a + numD b ∧ c.length ≤ max a.length b.length + 6) ∧ Below w.heap.size w w' := by
  have HO := Lib.hid (Oi.start w w.heap.size (Nat.le_refl _))
  have HB := Lib.hid ((Below.refl w.heap.size w).alloc (Nat.le_refl _) (.cells #[] 3))
  have HVa := Lib.hid hva
  have HVb := Lib.hid hvb
  have HA := Lib.hid (getD_le a 256 (by decide) ha)
  have HBb := Lib.hid (getD_le b 256 (by decide) hb)
  obtain ⟨_, pa, ca, rfl, _, _⟩ := hva
  obtain ⟨_, pb, cb, rfl, _, _⟩ := hvb
  obtain ⟨na, hna⟩ : ∃ n, n = a.length := ⟨_, rfl⟩
  obtain ⟨nb, hnb⟩ : ∃ n, n = b.length := ⟨_, rfl⟩
  have HNa := Lib.hid hna
  have HNb := Lib.hid hnb
  rw [← hna] at la HVa ⊢
  rw [← hnb] at lb HVb ⊢
  clear ha hb hna hnb
  go_enter Tryd.func22, Tryd.ntmps22
  go_wp2
  go_loopw [5, 6] (fun o i wr => ∃ k : Nat, k ≤ max na nb ∧ i = .int .i64 (k : Int) ∧ Oi wr w.heap.size o (sumD a b k) ∧ Below w.heap.size w wr) (fun _ i _ => max na nb - (intOf i).toNat)
  case atStart => exact ⟨0, by omega, rfl, HO.out, HB.out⟩
  case round =>
    clear HO HB
    obtain ⟨k, hk, rfl, hown, hbel⟩ := hrel
    have HDa := Lib.hid (digit_any _ a k wr (HVa.out.next hbel))
    have HDb := Lib.hid (digit_any _ b k wr (HVb.out.next hbel))
    by_cases hlt : k < max na nb
    · have hxa := HA.out k
      have hxb := HBb.out k
      have HS := Lib.hid (sumD_succ a b k)
      have HL := Lib.hid (show (sumD a b k).length ≤ 1000000000 by rw [sumD_len]; omega)
      have HOw := Lib.hid hown
      have HBel := Lib.hid hbel
      have e1 : ((a.getD k 0 : Nat) : Int) + ((b.getD k 0 : Nat) : Int) = ((a.getD k 0 + b.getD k 0 : Nat) : Int) := by omega
      clear hown hbel
      generalize a.getD k 0 = x at *
      generalize b.getD k 0 = y at *
      obtain ⟨z, hz⟩ : ∃ z, z = x + y := ⟨_, rfl⟩
      rw [← hz] at e1 HS
      have hz1 : z < 512 := by omega
      clear hz
      rcases (show k < na ∨ (¬ k < na ∧ k < nb) by omega) with h1 | ⟨h1, h2⟩
      all_goals
        go_wp2_with (first
          | (go_at_call 23; (first | ((with_reducible refine HDa.out.mono ?_); rintro e w' ⟨rfl, rfl⟩) | ((with_reducible refine HDb.out.mono ?_); rintro e w' ⟨rfl, rfl⟩)))
          | (at_builtin; refine wpList_pushi wr rfl _ _ rfl w.heap.size _ (sumD a b k) rfl rfl HOw.out z rfl HL.out HBel.out.size ?_; intro v' w1 hown' hb1))
        go_roundw
        case rel => exact ⟨k + 1, by omega, by go_num, by rw [HS.out]; exact hown', HBel.out.trans hb1⟩
        case measure => simp [intOf]; omega
    · have h1 : ¬ k < na := by omega
      have h2 : ¬ k < nb := by omega
      have hnum : numD (sumD a b k) = numD a + numD b := by
        have := HNa.out; have := HNb.out
        rw [sumD_num, digL_val a k (by omega), digL_val b k (by omega)]
      have hsl := sumD_len a b k
      have hlt' : ∀ x ∈ sumD a b k, x < 1099511627776 := by
        intro x hx
        rw [sumD, List.mem_map] at hx
        obtain ⟨j, _, rfl⟩ := hx
        have := HA.out j; have := HBb.out j; omega
      have hC := carried_any _ (sumD a b k) hlt' (by rw [hsl]; omega) wr hown.dv
      rw [hnum, hsl] at hC
      have HC := Lib.hid hC
      have HBel := Lib.hid hbel
      clear hnum hsl hlt' hC hown hbel
      go_wp2_with (go_at_call 34; ((with_reducible refine HC.out.mono ?_); rintro e w3 ⟨⟨v, c, rfl, hc⟩, hb3⟩))
      go_ret
      exact ⟨⟨v, c, rfl, hc.1, hc.2.1, hc.2.2.1, by have := hc.2.2.2; omega⟩, HBel.out.trans (hb3.mono HBel.out.size)⟩

set_option maxHeartbeats 1000000 in
theorem high_any5 (v : Value) (d : List Nat) (hd : ∀ x ∈ d, x < 256) (hl : d.length ≤ 1000) (w : World) (hv : DV w v d) :
    Calls Tryd.prog 32 #[v] w fun e w' => (∃ v', e = .returned v' ∧ DV w' v' (highD d)) ∧ Below w.heap.size w w' := by
  have HO := Lib.hid (Oi.start w w.heap.size (Nat.le_refl _))
  have HB := Lib.hid ((Below.refl w.heap.size w).alloc (Nat.le_refl _) (.cells #[] 3))
  have HV := Lib.hid hv
  have HD := Lib.hid (getD_le d 256 (by decide) hd)
  have HHl := Lib.hid (highD_len d)
  have HHg := Lib.hid (highD_get d)
  obtain ⟨_, pa, ca, rfl, _, _⟩ := hv
  obtain ⟨n, hn⟩ : ∃ n, n = d.length := ⟨_, rfl⟩
  rw [← hn] at hl HV HHl HHg ⊢
  clear hn hd
  go_enter Tryd.func32, Tryd.ntmps32
  go_wp2
  go_loopw [3, 4] (fun o i wr => ∃ k : Nat, k ≤ n - 16 ∧ i = .int .i64 (16 + (k : Int)) ∧ Oi wr w.heap.size o ((highD d).take k) ∧ Below w.heap.size w wr) (fun _ i _ => n - (intOf i).toNat)
  case atStart => exact ⟨0, by omega, rfl, HO.out, HB.out⟩
  case round =>
    clear HO HB
    obtain ⟨k, hk, rfl, hown, hbel⟩ := hrel
    have HDa := Lib.hid (digit_any _ d (16 + k) wr (HV.out.next hbel))
    have HDb := Lib.hid (digit_any _ d (16 + k + 1) wr (HV.out.next hbel))
    rw [show ((16 + k : Nat) : Int) = 16 + (k : Int) by omega] at HDa
    rw [show ((16 + k + 1 : Nat) : Int) = 16 + (k : Int) + 1 by omega] at HDb
    by_cases hlt : 16 + k < n
    · have hxa := HD.out (16 + k)
      have hxb := HD.out (16 + k + 1)
      have hg := HHg.out k hlt
      have hts : (highD d).take (k + 1) = (highD d).take k ++ [(highD d).getD k 0] := by
        rw [List.take_succ_eq_append_getElem (by rw [HHl.out]; omega), List.getD_eq_getElem?_getD, List.getElem?_eq_getElem (by rw [HHl.out]; omega)]; rfl
      rw [hg] at hts
      have HS := Lib.hid hts
      have HL := Lib.hid (show ((highD d).take k).length ≤ 1000000000 by rw [List.length_take]; omega)
      have HOw := Lib.hid hown
      have HBel := Lib.hid hbel
      have e1 : ((d.getD (16 + k) 0 : Nat) : Int) / 4 + ((d.getD (16 + k + 1) 0 : Nat) : Int) % 4 * 64 = ((d.getD (16 + k) 0 / 4 + d.getD (16 + k + 1) 0 % 4 * 64 : Nat) : Int) := by omega
      have hlti : 16 + (k : Int) < (n : Int) := by omega
      clear hown hbel hts hg
      generalize d.getD (16 + k) 0 = x at *
      generalize d.getD (16 + k + 1) 0 = y at *
      obtain ⟨z, hz⟩ : ∃ z, z = x / 4 + y % 4 * 64 := ⟨_, rfl⟩
      rw [← hz] at e1 HS
      clear hz
      go_wp2_with (first
        | (go_at_call 23; (first | ((with_reducible refine HDa.out.mono ?_); rintro e w' ⟨rfl, rfl⟩) | ((with_reducible refine HDb.out.mono ?_); rintro e w' ⟨rfl, rfl⟩)))
        | (at_builtin; refine wpList_pushi wr rfl _ _ rfl w.heap.size _ ((highD d).take k) rfl rfl HOw.out z rfl HL.out HBel.out.size ?_; intro v' w1 hown' hb1))
      go_roundw
      case rel => exact ⟨k + 1, by omega, by go_num, by rw [HS.out]; exact hown', HBel.out.trans hb1⟩
      case measure => simp [intOf]; omega
    · have hlti : ¬ 16 + (k : Int) < (n : Int) := by omega
      rw [List.take_of_length_le (by rw [HHl.out]; omega)] at hown
      go_wp2
      go_ret
      exact ⟨⟨_, rfl, hown.dv⟩, hbel⟩
end Go.Proofs.YtjbhmdlgokoepaaDoor
