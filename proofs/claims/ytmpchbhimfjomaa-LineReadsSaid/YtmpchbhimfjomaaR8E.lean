/- The document's own layer 8: Unstuffed. -/
import Derived.Test.YtmpchbhimfjomaaR8D
import Derived.OwnWalk
namespace Go.Proofs.Ytmpchbhimfjomaa
open Go.RowKit

theorem lines_total (l : List UInt8) : sizeB (bas (linesL l).1) + 2 * (linesL l).1.length ≤ l.length := by
  have h := congrArg List.length (join_lines l.length l (Nat.le_refl _))
  rw [List.length_append, joinL_len] at h
  have e : sizeB (bas (linesL l).1) = ((linesL l).1.map List.length).sum := by rw [← lsB_size, lsB_bas]
  omega
theorem drop_at {ss : List ByteArray} {k : Nat} (hk : k < ss.length) : (lsB ss).drop k = (ss.getD k ByteArray.empty).data.toList :: (lsB ss).drop (k + 1) := by
  rw [List.drop_eq_getElem_cons (by rw [lsB_len]; exact hk), List.getD_eq_getElem?_getD, List.getElem?_eq_getElem hk]
  simp [lsB]
theorem undot_len (x : List UInt8) : (undotL x).1.length ≤ x.length := by
  unfold undotL
  split
  · simp
  · split
    · simp
    · exact Nat.le_refl _
theorem unG_end {l : List UInt8} (h : unstuffG (linesL l).1 = none) : unstuffL l = ([], [], false) := by rw [unstuffL, h]
theorem unG_some {l : List UInt8} {p : List (List UInt8) × Nat} (h : unstuffG (linesL l).1 = some p) : unstuffL l = (p.1, l.drop p.2, true) := by rw [unstuffL, h]
theorem unG_here {x : List UInt8} (h : (undotL x).2 = true) (L : List (List UInt8)) : unstuffG (x :: L) = some ([], x.length + 2) := by rw [unstuffG, if_pos h]
theorem unG_next {x : List UInt8} (h : (undotL x).2 = false) (L : List (List UInt8)) : unstuffG (x :: L) = (unstuffG L).map fun p => ((undotL x).1 :: p.1, x.length + 2 + p.2) := by
  rw [unstuffG, if_neg (by rw [h]; decide)]

set_option maxHeartbeats 1000000 in
theorem runstuffed8_any (s : ByteArray) (hs : s.size ≤ 400000) (w : World) :
    Calls Try.prog 14 #[.string s] w fun e w' => ∃ (a : Option Addr) (len cap : Nat), e = .returned (.tuple #[.slice a len cap, .string (ba (unstuffL s.data.toList).2.1), .bool (unstuffL s.data.toList).2.2]) ∧
      IsTexts w' a len cap (bas (unstuffL s.data.toList).1) ∧ Below w.heap.size w w' := by
  have HSp := Lib.hid (rsplit8_any s (by omega) w)
  have hst := lines_total s.data.toList
  have HF := Lib.hid (fun (n : Nat) => ext_all s n)
  have hll : s.data.toList.length = s.size := by simp
  generalize s.data.toList = l at *
  obtain ⟨ss, hss⟩ : ∃ ss, ss = bas (linesL l).1 := ⟨_, rfl⟩
  have hL : (linesL l).1 = lsB ss := by rw [hss, lsB_bas]
  rw [← hss] at hst HSp
  have hcount : (linesL l).1.length = ss.length := by rw [hL, lsB_len]
  rw [hcount] at hst
  have HU := Lib.hid (fun p => @unG_some l p)
  have HE := Lib.hid (@unG_end l)
  rw [hL] at HU HE
  have HU0 := Lib.hid (show unstuffG (lsB ss) = (unstuffG ((lsB ss).drop 0)).map fun p => (([] : List (List UInt8)) ++ p.1, 0 + p.2) by rw [List.drop_zero]; cases unstuffG (lsB ss) <;> simp)
  clear hss hL hcount
  go_enter Try.func14, Try.ntmps14
  go_wp2_with (first
    | (go_at_call 12; (with_reducible refine HSp.out.mono ?_); rintro e w1 ⟨a, len, cap, rfl, ht1, hb1, _⟩))
  have HT := Lib.hid ht1
  obtain ⟨hlen, hlc, _⟩ := ht1.len
  have h0 := (Below.refl w1.heap.size w1).alloc (Nat.le_refl _) (.cells #[] 9)
  clear ht1 HSp
  go_loopw [7, 8, 9] (fun o n i wr => ∃ (k : Nat) (N : Nat) (outs : List (List UInt8)), i = .int .i64 (k : Int) ∧ n = .int .i64 (N : Int) ∧ k ≤ ss.length ∧ N = sizeB (ss.take k) + 2 * k ∧ outs.length ≤ k ∧ (∀ x ∈ outs, x.length ≤ 400000) ∧ OwS wr w1.heap.size o (bas outs) ∧ Below w1.heap.size w1 wr ∧
    unstuffG (lsB ss) = (unstuffG ((lsB ss).drop k)).map fun p => (outs ++ p.1, N + p.2)) (fun _ _ i _ => 1048577 - (intOf i).toNat)
  case atStart => exact ⟨0, 0, [], rfl, rfl, Nat.zero_le _, rfl, Nat.le_refl _, fun _ h => (by cases h), OwS.start w1 _ (Nat.le_refl _), h0, HU0.out⟩
  case round =>
    obtain ⟨k, N, outs, rfl, rfl, hk, hN, hok, hos, hown, hbel, hun⟩ := hrel
    have HOw := Lib.hid hown
    have HUn := Lib.hid hun
    have HOs := Lib.hid hos
    clear hun hos
    by_cases hlt : k < ss.length
    · have hli : (k : Int) < (len : Int) := by omega
      have hk0 : (0 : Int) ≤ (k : Int) := by omega
      have hN0 : (0 : Int) ≤ (N : Int) := by omega
      obtain ⟨x, rfl, c1, _⟩ := (HT.out.next hbel).at (i := k) (by omega)
      have hx := sizeB_at hlt
      have hx2 := sizeB_take hlt
      have hx3 := sizeB_take_le ss (k + 1)
      have hd := drop_at hlt
      generalize ss.getD k ByteArray.empty = X at *
      have hxl : X.data.toList.length = X.size := by simp
      have HRu := Lib.hid (fun w => runstuff8_any X (by omega) w)
      have hul := undot_len X.data.toList
      have hN2 : N + (X.size + 2) ≤ s.size := by omega
      have HNk := Lib.hid hN
      have hNs : N ≤ s.size := by omega
      clear hN
      have e1 : IntKind.i64.wrap ((X.size : Int) + 2) = (X.size : Int) + 2 := by rw [IntKind.wrap_i64]; omega
      have e2 : IntKind.i64.wrap ((N : Int) + ((X.size : Int) + 2)) = (N : Int) + ((X.size : Int) + 2) := by rw [IntKind.wrap_i64]; omega
      cases hud : (undotL X.data.toList).2 with
      | true =>
        have hres : unstuffG (lsB ss) = some (outs, N + (X.size + 2)) := by
          rw [HUn.out, hd, unG_here hud, hxl]
          simp
        have hfin := HU.out _ hres
        have hsl := slice_from s (N + (X.size + 2)) hN2
        rw [HF.out, show ((N + (X.size + 2) : Nat) : Int) = (N : Int) + ((X.size : Int) + 2) by omega] at hsl
        have HFin := Lib.hid hfin
        generalize hDr : ba (l.drop (N + (X.size + 2))) = DR at *
        have HDr := Lib.hid hDr
        clear hDr
        obtain ⟨a8, n8, cap8, rfl, ht8⟩ := OwS.some HOw.out (mem_bas (by decide) HOs.out)
        have HT8 := Lib.hid ht8
        have hud1 : (undotL X.data.toList).1 = [] := by
          unfold undotL at hud ⊢
          split
          · rfl
          · rename_i h; rw [if_neg h] at hud; split at hud <;> cases hud
        rw [hud, hud1] at HRu
        clear hd hx hx2 hx3 hres hfin ht8 hud hud1 hul
        go_wp2_with (first
          | (go_at_call 16; (with_reducible refine (HRu.out _).mono ?_); rintro e w2 ⟨rfl, rfl⟩))
        go_region_held3 (fun _ => True) (first | exact trivial) (fail)
        all_goals
          go_wp2
          go_ret3
          exact ⟨_, _, _, by rw [HFin.out, HDr.out]; rfl, by rw [HFin.out]; exact HT8.out, Below_next hb1 hbel.drew⟩
      | false =>
        have hres : unstuffG (lsB ss) = (unstuffG ((lsB ss).drop (k + 1))).map fun p => ((outs ++ [(undotL X.data.toList).1]) ++ p.1, N + (X.size + 2) + p.2) := by
          rw [HUn.out, hd, unG_next hud, hxl, Option.map_map]
          congr 1
          funext p
          simp [Nat.add_assoc]
        have HR2 := Lib.hid hres
        have HN2 := Lib.hid (show N + (X.size + 2) = sizeB (ss.take (k + 1)) + 2 * (k + 1) by have := HNk.out; omega)
        have HM2 := Lib.hid (show ∀ x ∈ outs ++ [(undotL X.data.toList).1], x.length ≤ 400000 from fun x hx => by
          rcases List.mem_append.1 hx with hx | hx
          · exact HOs.out x hx
          · rw [List.mem_singleton.1 hx]; omega)
        have HB2 := Lib.hid (bas_snoc outs (undotL X.data.toList).1)
        rw [hud] at HRu
        clear hd hx hx2 hx3 hres hud hul
        generalize (undotL X.data.toList).1 = Y at *
        go_wp2_with (first
          | (go_at_call 16; (with_reducible refine (HRu.out _).mono ?_); rintro e w2 ⟨rfl, rfl⟩)
          | (at_builtin; refine wpList_pushs wr HOw.out rfl _ _ rfl rfl rfl (ba Y) (by rw [bas_len]; omega) hbel.size ?_; intro v' w5 h5 hb5; rw [← HB2.out] at h5))
        go_roundw
        case rel => exact ⟨k + 1, N + (X.size + 2), outs ++ [Y], by go_num, by go_num, by omega, HN2.out, by rw [List.length_append]; show _ + 1 ≤ _; omega, HM2.out, h5, hbel.trans hb5, HR2.out⟩
        case measure => simp only [intOf]; omega
    · have hli : ¬ (k : Int) < (len : Int) := by omega
      have hfin := HE.out (by rw [HUn.out, List.drop_of_length_le (by rw [lsB_len]; omega)]; rfl)
      have HFin := Lib.hid hfin
      clear hfin
      go_wp2
      go_ret3
      exact ⟨none, 0, 0, by rw [HFin.out]; rfl, by rw [HFin.out]; exact .inl ⟨rfl, rfl, rfl, rfl⟩, Below_next hb1 hbel⟩
end Go.Proofs.Ytmpchbhimfjomaa
