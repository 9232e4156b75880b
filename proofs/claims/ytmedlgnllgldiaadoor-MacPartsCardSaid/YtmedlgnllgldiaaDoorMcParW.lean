/- MacParts: the law's walk. -/
import Derived.Test.YtmedlgnllgldiaaDoorMc7
import Derived.Test.YtmedlgnllgldiaaDoorOpn
namespace Go.Proofs.YtmedlgnllgldiaaDoor
open Go.RowKit

/-- A Mac of these bytes, the table, and what was there as it was. -/
def StM (w : World) (m : Nat) (key l : List UInt8) (wr : World) : Prop := MacOf wr w.heap.size m key l ∧ Tab wr ∧ Below w.heap.size w wr ∧ 0 < w.heap.size
theorem StM.bel {w : World} {m : Nat} {key l : List UInt8} {wr : World} (h : StM w m key l wr) : Below w.heap.size w wr := h.2.2.1
theorem MacOf.weaken {w : World} {B B' m : Nat} {key t : List UInt8} (h : MacOf w B m key t) (hB : B' ≤ B) (h0 : 0 < B') : MacOf w B' m key t := by
  obtain ⟨g, k, h1, h2, h3, h4, h5, h6, _⟩ := h
  exact ⟨g, k, h1, h2, h3, h4, h5, Nat.le_trans hB h6, h0⟩
theorem stm_new (key : ByteArray) (hk : key.size ≤ 1099511627776) (w wr : World) (htab : Tab wr) (hb : Below w.heap.size w wr) (h0 : 0 < w.heap.size) :
    Calls Tryd.prog 21 #[.string key] wr fun e w' => ∃ m, e = .returned (.pointer (some ⟨m, 0, none⟩)) ∧ StM w m key.data.toList [] w' :=
  (macNew_any key hk wr htab).mono fun _ _ ⟨⟨m, h1, h2⟩, h4⟩ => ⟨m, h1, h2.weaken hb.size h0, htab.next h4, hb.trans (h4.mono hb.size), h0⟩
theorem stm_add {w : World} {m : Nat} {key l : List UInt8} {wr : World} (h : StM w m key l wr) (t : ByteArray) (hl : l.length + t.size ≤ 1000000000000) :
    Calls Tryd.prog 22 #[.pointer (some ⟨m, 0, none⟩), .string t] wr fun e w' => e = .returned (.tuple #[]) ∧ StM w m key (l ++ t.data.toList) w' :=
  (macAdd_any w.heap.size m key l t wr h.1 h.2.1 h.2.2.1.size hl).mono fun _ _ ⟨h1, h2, h3⟩ => ⟨h1, h2, h.2.1.below h3 h.2.2.2, h.2.2.1.trans h3, h.2.2.2⟩
theorem stm_sum {w : World} {m : Nat} {key l : List UInt8} {wr : World} (h : StM w m key l wr) (hl : l.length ≤ 1000000000000) :
    Calls Tryd.prog 23 #[.pointer (some ⟨m, 0, none⟩)] wr fun e w' => e = .returned (.string (macB key l)) ∧ StM w m key l w' :=
  (macSum_any w.heap.size m key l wr h.1 h.2.1 hl).mono fun _ _ ⟨h1, h2⟩ => ⟨h1, h.1.next h2, h.2.1.next h2, h.2.2.1.trans (h2.mono h.2.2.1.size), h.2.2.2⟩
theorem stm_Sum {w : World} {m : Nat} {key : ByteArray} {l : List UInt8} {wr : World} (h : StM w m key.data.toList l wr) (hk : key.size ≤ 1099511627776) (t : ByteArray) (hl : t.size ≤ 1000000000) :
    Calls Tryd.prog 14 #[.string key, .string t] wr fun e w' => e = .returned (.string (macB key.data.toList t.data.toList)) ∧ StM w m key.data.toList l w' :=
  (msum_any key t hk hl wr h.2.1).mono fun _ _ ⟨h1, h2⟩ => ⟨h1, h.1.next h2, h.2.1.next h2, h.2.2.1.trans (h2.mono h.2.2.1.size), h.2.2.2⟩

set_option maxHeartbeats 2000000 in
set_option maxRecDepth 100000 in
theorem mparts_main (key : ByteArray) (a : Option Addr) (len cap : Nat) (ss : List ByteArray) (w : World) (_ : len ≤ cap) (hm : cap ≤ maxLen) (hc : ∀ i, i < len → ∃ x, a = some x ∧ w.cell? (x.add i) = some (.string (ss.getD i ByteArray.empty))) (hs : ∀ s ∈ ss, s.size ≤ 140737488355328) (htab : Tab w) :
    Calls Tryd.prog 5 #[.string key, .slice a len cap] w fun e w' => e = .returned (.bool true) ∧ Below w.heap.size w w' := by
  have HA := Lib.hid (awake3_any w htab)
  have HT := Lib.hid htab
  have HC := Lib.hid hc
  have HS := Lib.hid hs
  have HL := Lib.hid (fun w => large1 w key)
  have HLA := Lib.hid (largeB_all [key])
  generalize largeB [key] = L at *
  have hm2 := hm
  unfold maxLen at hm2
  clear htab hc hs hm
  cases L
  · have hk2 := HLA.out rfl key (by simp)
    have hk40 : key.size ≤ 1099511627776 := by omega
    clear hk2
    go_enter Tryd.func5, Tryd.ntmps5
    go_wp2_with (first
      | (go_at_call 11; (with_reducible refine HA.out.mono ?_); rintro e w1 ⟨rfl, hb1⟩)
      | (go_at_call 12; (with_reducible refine (HL.out _).mono ?_); rintro e w2 ⟨rfl, rfl⟩)
      | (go_at_call 21; (with_reducible refine (stm_new key hk40 w _ ((HT.out.next hb1).alloc _) (hb1.alloc hb1.size _) HT.out.lt).mono ?_); rintro e w2 ⟨m, rfl, hst⟩))
    have HST := Lib.hid hst
    clear hst hb1
    go_loopw [5, 7] (fun a i wr => ∃ (k : Nat) (A : ByteArray), k ≤ len ∧ i = .int .i64 k ∧ a = .string A ∧ A.size ≤ 2048 ∧ StM w m key.data.toList A.data.toList wr) (fun _ i _ => len - (intOf i).toNat)
    case atStart => exact ⟨0, ⟨#[]⟩, by omega, rfl, rfl, by decide, HST.out⟩
    case round =>
      clear HST
      obtain ⟨k, A, hk, rfl, rfl, hA, hst⟩ := hrel
      by_cases hlt : k < len
      · by_cases h30 : k < 30
        · obtain ⟨x, rfl, hcell⟩ := HC.out k hlt
          have hblk : (x.add k).block < w.heap.size := World.block_lt_of_cell? _ _ hcell
          have hcr : wr.cell? (x.add k) = some (.string (ss.getD k ByteArray.empty)) := (hst.bel.cell hblk).trans hcell
          have hTm : (ss.getD k ByteArray.empty).size ≤ 140737488355328 := by
            have : ss.getD k ByteArray.empty ∈ ss ∨ ss.getD k ByteArray.empty = ByteArray.empty := by
              by_cases hk2 : k < ss.length
              · left; simp only [List.getD_eq_getElem?_getD, List.getElem?_eq_getElem hk2]; exact List.getElem_mem _
              · right; simp only [List.getD_eq_getElem?_getD, List.getElem?_eq_none (Nat.le_of_not_lt hk2)]; rfl
            rcases this with h | h
            · exact HS.out _ h
            · rw [h]; decide
          clear hcell hblk
          generalize ss.getD k ByteArray.empty = T at *
          by_cases hT : A.size + T.size ≤ 2048
          · have hAT : (A ++ T).size = A.size + T.size := ByteArray.size_append
            have hATl : (A ++ T).data.toList = A.data.toList ++ T.data.toList := by simp
            have hlen : (A.data.toList ++ T.data.toList).length = (A ++ T).size := by rw [← hATl]; simp
            have hA1 : A.data.toList.length = A.size := by simp
            obtain ⟨D, hD⟩ : ∃ D, D = macB key.data.toList (A ++ T).data.toList := ⟨_, rfl⟩
            obtain ⟨U, hU⟩ : ∃ U, U = A ++ T := ⟨_, rfl⟩
            have CA := Lib.hid (fun (wr : World) (h : StM w m key.data.toList A.data.toList wr) => stm_add h T (by omega))
            rw [← hATl, ← hU] at CA
            have CS := Lib.hid (fun (wr : World) (h : StM w m key.data.toList U.data.toList wr) => stm_sum h (by rw [hU, hATl, hlen, hAT]; omega))
            have CU := Lib.hid (fun (wr : World) (h : StM w m key.data.toList U.data.toList wr) => stm_Sum h hk40 U (by rw [hU, hAT]; omega))
            rw [hU, ← hD, ← hU] at CS CU
            have hU4 : U.size ≤ 2048 := by rw [hU]; omega
            have hUs : U.size = A.size + T.size := by rw [hU]; exact hAT
            have hsum : A.size + T.size ≤ 2048 := hT
            clear hD hAT hATl hlen hA1
            by_cases hk3 : ((k : Int) % 3 == 0) = true
            all_goals
              try (have hk3' : ((k : Int) % 3 == 0) = false := by simpa using hk3)
              go_wp2_with fail
              rw [← hU]
              clear hU
              refine (CA.out _ hst).mono ?_
              rintro e w3 ⟨rfl, hst3⟩
              go_wp2_with (first
                | (go_at_call 23; (with_reducible refine (CS.out _ hst3).mono ?_); rintro e w4 ⟨rfl, hst4⟩)
                | (go_at_call 14; (with_reducible refine (CU.out _ hst4).mono ?_); rintro e w5 ⟨rfl, hst5⟩))
              go_roundw
              case rel => exact ⟨k + 1, U, by omega, by go_num, rfl, hU4, by first | exact hst5 | exact hst3⟩
              case measure => simp [intOf]; omega
          · go_wp2_with fail
            go_ret
            exact ⟨rfl, hst.bel⟩
        · have hA40 : A.data.toList.length ≤ 1000000000000 := by simp; omega
          have CS := Lib.hid (fun (wr : World) (h : StM w m key.data.toList A.data.toList wr) => stm_sum h hA40)
          have CU := Lib.hid (fun (wr : World) (h : StM w m key.data.toList A.data.toList wr) => stm_Sum h hk40 A (by omega))
          clear hA40
          generalize macB key.data.toList A.data.toList = D at *
          have h30' : ¬ (k : Int) < 30 := by omega
          go_wp2_with fail
          refine (CS.out _ hst).mono ?_
          rintro e w3 ⟨rfl, hst3⟩
          go_wp2_with fail
          refine (CU.out _ hst3).mono ?_
          rintro e w4 ⟨rfl, hst4⟩
          go_wp2_with fail
          refine (CS.out _ hst4).mono ?_
          rintro e w5 ⟨rfl, hst5⟩
          go_wp2_with fail
          refine (CS.out _ hst5).mono ?_
          rintro e w6 ⟨rfl, hst6⟩
          go_wp2_with fail
          go_ret
          exact ⟨rfl, hst6.bel⟩
      · have hA40 : A.data.toList.length ≤ 1000000000000 := by simp; omega
        have CS := Lib.hid (fun (wr : World) (h : StM w m key.data.toList A.data.toList wr) => stm_sum h hA40)
        have CU := Lib.hid (fun (wr : World) (h : StM w m key.data.toList A.data.toList wr) => stm_Sum h hk40 A (by omega))
        clear hA40
        generalize macB key.data.toList A.data.toList = D at *
        go_wp2_with fail
        refine (CS.out _ hst).mono ?_
        rintro e w3 ⟨rfl, hst3⟩
        go_wp2_with fail
        refine (CU.out _ hst3).mono ?_
        rintro e w4 ⟨rfl, hst4⟩
        go_wp2_with fail
        refine (CS.out _ hst4).mono ?_
        rintro e w5 ⟨rfl, hst5⟩
        go_wp2_with fail
        refine (CS.out _ hst5).mono ?_
        rintro e w6 ⟨rfl, hst6⟩
        go_wp2_with fail
        go_ret
        exact ⟨rfl, hst6.bel⟩
  · go_enter Tryd.func5, Tryd.ntmps5
    go_wp2_with (first
      | (go_at_call 11; (with_reducible refine HA.out.mono ?_); rintro e w1 ⟨rfl, hb1⟩)
      | (go_at_call 12; (with_reducible refine (HL.out _).mono ?_); rintro e w2 ⟨rfl, rfl⟩))
    go_ret
    exact ⟨rfl, hb1.alloc hb1.size _⟩

theorem macParts_walk (key : ByteArray) (a0 : Option Addr) (len0 cap0 : Nat) (z0 : List ByteArray) (W : World) (_ : key.size ≤ maxLen) (w0 : IsTexts W a0 len0 cap0 z0) (htab : Tab W) :
    Calls Tryd.prog 5 #[.string key, .slice a0 len0 cap0] W fun e w' => e = .returned (.bool true) ∧ Below W.heap.size W w' := by
  rcases w0 with ⟨rfl, rfl, rfl, rfl⟩ | ⟨x, rfl, hl, hm, hz, hc, hs⟩
  · exact mparts_main key none 0 0 [] W (Nat.le_refl _) (by decide) (fun i hi => absurd hi (by omega)) (fun s h => by cases h) htab
  · exact mparts_main key (some x) len0 cap0 z0 W hl hm (fun i hi => ⟨x, rfl, hc i hi⟩) hs htab
end Go.Proofs.YtmedlgnllgldiaaDoor
