/- The document's own low, some, times of layer 5. -/
import Derived.Test.YtjbhmdlgokoepaaDoorPr2
import Derived.Deep.RegionHeld3
namespace Go.Proofs.YtjbhmdlgokoepaaDoor
open Go.RowKit

theorem lowD_set (d : List Nat) : (digL d 17).set 16 (d.getD 16 0 % 4) = lowD d := by
  rw [lowD, digL_succ, List.set_append_right _ _ (by rw [digL_len]; exact Nat.le_refl _), digL_len]; rfl
theorem oi17 {w : World} {base : Nat} {v : Value} {Y : List Nat} (h : Oi w base v Y) (hY : Y.length = 17) : ∃ g cap, v = .slice (some ⟨g, 0, none⟩) 17 cap ∧ base ≤ g ∧ w.ownsRow base 3 1 (.slice (some ⟨g, 0, none⟩) 17 cap) 17 (i64s Y) := by
  have h' := h
  rcases h.2 with ⟨_, hx⟩ | ⟨g, cap, cur, rfl, hb, _⟩
  · rw [hY] at hx; exact absurd hx (by decide)
  · unfold Oi at h'
    rw [hY] at h'
    exact ⟨g, cap, by rw [hY], hb, h'⟩

set_option maxHeartbeats 1000000 in
theorem low_any5 (v : Value) (d : List Nat) (w : World) (hv : DV w v d) :
    Calls Tryd.prog 33 #[v] w fun e w' => (∃ v', e = .returned v' ∧ DV w' v' (lowD d)) ∧ Below w.heap.size w w' := by
  have HO := Lib.hid (Oi.start w w.heap.size (Nat.le_refl _))
  have HB := Lib.hid ((Below.refl w.heap.size w).alloc (Nat.le_refl _) (.cells #[] 3))
  have HV := Lib.hid hv
  obtain ⟨_, pa, ca, rfl, _, _⟩ := hv
  obtain ⟨n, hn⟩ : ∃ n, n = d.length := ⟨_, rfl⟩
  rw [← hn] at HV ⊢
  clear hn
  go_enter Tryd.func33, Tryd.ntmps33
  go_wp2
  go_loopw [3, 4] (fun o i wr => ∃ k : Nat, k ≤ 17 ∧ i = .int .i64 (k : Int) ∧ Oi wr w.heap.size o (digL d k) ∧ Below w.heap.size w wr) (fun _ i _ => 17 - (intOf i).toNat)
  case atStart => exact ⟨0, by omega, rfl, HO.out, HB.out⟩
  case round =>
    clear HO HB
    obtain ⟨k, hk, rfl, hown, hbel⟩ := hrel
    by_cases hlt : k < 17
    · have HDa := Lib.hid (digit_any _ d k wr (HV.out.next hbel))
      have HS := Lib.hid (digL_succ d k)
      have HL := Lib.hid (show (digL d k).length ≤ 1000000000 by rw [digL_len]; omega)
      have HOw := Lib.hid hown
      have HBel := Lib.hid hbel
      clear hown hbel
      generalize d.getD k 0 = x at *
      go_wp2_with (first
        | (go_at_call 23; ((with_reducible refine HDa.out.mono ?_); rintro e w' ⟨rfl, rfl⟩))
        | (at_builtin; refine wpList_pushi wr rfl _ _ rfl w.heap.size _ (digL d k) rfl rfl HOw.out x rfl HL.out HBel.out.size ?_; intro v' w1 hown' hb1))
      go_roundw
      case rel => exact ⟨k + 1, by omega, by go_num, by rw [HS.out]; exact hown', HBel.out.trans hb1⟩
      case measure => simp [intOf]; omega
    · obtain rfl : k = 17 := by omega
      obtain ⟨g, cap, rfl, hg, hOwn⟩ := oi17 hown (digL_len d 17)
      have hc := hOwn.cellAt 16 (by omega)
      have hx : (i64s (digL d 17))[16]? = some (.int .i64 ((d.getD 16 0 : Nat) : Int)) := by
        rw [digL_succ, i64s, List.map_append, List.getElem?_append_right (by rw [List.length_map, digL_len]; exact Nat.le_refl _), List.length_map, digL_len]; rfl
      rw [hx] at hc
      have hf := hOwn.frozenAt 16
      have hset := Oi.set hOwn 16 (d.getD 16 0 % 4)
      rw [lowD_set] at hset
      have HSet := Lib.hid hset
      have HLl := Lib.hid (lowD_len d)
      have HBel := Lib.hid (hbel.setCell (p := ⟨g, 16, none⟩) hg (.int .i64 ((d.getD 16 0 % 4 : Nat) : Int)))
      have e1 : ((d.getD 16 0 : Nat) : Int) % 4 = ((d.getD 16 0 % 4 : Nat) : Int) := by omega
      clear hown hOwn hx hset hbel
      generalize d.getD 16 0 % 4 = r at *
      generalize d.getD 16 0 = x at *
      go_wp2
      go_ret
      exact ⟨⟨_, rfl, Oi.dv (base := w.heap.size) (by unfold Oi; rw [HLl.out]; exact HSet.out)⟩, HBel.out⟩

theorem numD_pos (l : List Nat) (k : Nat) (hk : k < l.length) (h : 0 < l.getD k 0) : 0 < numD l := by
  induction l generalizing k with
  | nil => simp at hk
  | cons d l ih =>
    cases k with
    | zero => rw [List.getD_cons_zero] at h; rw [numD]; omega
    | succ k =>
      rw [List.getD_cons_succ] at h
      have := ih k (by simpa using hk) h
      rw [numD]; omega
theorem numD_zero (l : List Nat) (h : ∀ j, j < l.length → l.getD j 0 = 0) : numD l = 0 := by
  induction l with
  | nil => rfl
  | cons d l ih =>
    have h0 := h 0 (by simp)
    rw [List.getD_cons_zero] at h0
    rw [numD, h0, ih (fun j hj => by have := h (j + 1) (by simpa using hj); rwa [List.getD_cons_succ] at this)]

set_option maxHeartbeats 1000000 in
theorem some_any (v : Value) (d : List Nat) (hl : d.length ≤ 1000) (w : World) (hv : DV w v d) :
    Calls Tryd.prog 31 #[v] w fun e w' => e = .returned (.bool (decide (0 < numD d))) ∧ w = w' := by
  have HV := Lib.hid hv
  have HP := Lib.hid (numD_pos d)
  have HZ := Lib.hid (numD_zero d)
  obtain ⟨_, pa, ca, rfl, _, _⟩ := hv
  obtain ⟨n, hn⟩ : ∃ n, n = d.length := ⟨_, rfl⟩
  have HN := Lib.hid hn
  rw [← hn] at hl HV HP HZ ⊢
  clear hn
  generalize numD d = N at *
  go_enter Tryd.func31, Tryd.ntmps31
  go_wp2
  go_loop [3] (fun i => ∃ k : Nat, k ≤ n ∧ i = .int .i64 (k : Int) ∧ ∀ j, j < k → d.getD j 0 = 0) (fun i => n - (intOf i).toNat)
  case atStart => exact ⟨0, Nat.zero_le _, rfl, fun j hj => absurd hj (by omega)⟩
  case round =>
    obtain ⟨k, hk, rfl, hz⟩ := hrel
    have HZk := Lib.hid hz
    clear hz
    by_cases hlt : k < n
    · obtain ⟨g, rfl, hc⟩ := HV.out.at k (by rw [← HN.out]; exact hlt)
      have HX : Hid (∀ x, x = d.getD k 0 → x = d.getD k 0) := fun x h => h
      have hpos := HP.out k hlt
      obtain ⟨x, hx⟩ : ∃ x, x = d.getD k 0 := ⟨_, rfl⟩
      rw [← hx] at hc hpos
      have HXd := Lib.hid hx
      have HPos := Lib.hid hpos
      clear hx hpos
      by_cases h0 : 0 < x
      · have hd : decide (0 < N) = true := decide_eq_true (HPos.out h0)
        have HDd := Lib.hid hd
        clear hd
        go_wp2
        go_ret
        exact ⟨by rw [HDd.out]; rfl, rfl⟩
      · obtain rfl : x = 0 := by omega
        go_wp2
        go_round
        case rel => exact ⟨k + 1, by omega, by go_num, fun j hj => by
          rcases Nat.lt_or_ge j k with h | h
          · exact HZk.out j h
          · obtain rfl : j = k := by omega
            exact HXd.out.symm⟩
        case measure => simp [intOf]; omega
    · obtain rfl : k = n := by omega
      have hN := HZ.out HZk.out
      subst hN
      go_wp2
      go_ret
      exact ⟨rfl, rfl⟩
end Go.Proofs.YtjbhmdlgokoepaaDoor
