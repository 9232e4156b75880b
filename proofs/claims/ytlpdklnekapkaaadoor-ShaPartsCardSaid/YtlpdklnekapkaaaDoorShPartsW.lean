/- ShaParts: the law's walk. -/
import Derived.Test.YtlpdklnekapkaaaDoorSh11
import Derived.Test.YtlpdklnekapkaaaDoorOpn
namespace Go.Proofs.YtlpdklnekapkaaaDoor
open Go.RowKit

/-- A Hash of these bytes, the table, and what was there as it was. -/
def St (w : World) (g : Nat) (l : List UInt8) (wr : World) : Prop := w.heap.size ≤ g ∧ HashOf wr g l ∧ Tab wr ∧ Below w.heap.size w wr ∧ 0 < w.heap.size
/-- The digest, as a string. -/
def shaB (l : List UInt8) : ByteArray := ⟨(shaL l).toArray⟩
theorem shaB_size (l : List UInt8) : (shaB l).size = 32 := by show (shaL l).toArray.size = 32; rw [List.size_toArray, shaL_len]

theorem St.bel {w : World} {g : Nat} {l : List UInt8} {wr : World} (h : St w g l wr) : Below w.heap.size w wr := h.2.2.2.1
theorem st_new (w wr : World) (htab : Tab wr) (hb : Below w.heap.size w wr) (h0 : 0 < w.heap.size) :
    Calls Tryd.prog 18 #[] wr fun e w' => ∃ g, e = .returned (.pointer (some ⟨g, 0, none⟩)) ∧ St w g [] w' :=
  (new_any wr).mono fun _ _ ⟨⟨g, h1, h2, h3⟩, h4⟩ => ⟨g, h1, Nat.le_trans hb.size h2, h3, htab.next h4, hb.trans (h4.mono hb.size), h0⟩
theorem st_add {w : World} {g : Nat} {l : List UInt8} {wr : World} (h : St w g l wr) (t : ByteArray) (hl : l.length + t.size ≤ 1099511627776) :
    Calls Tryd.prog 19 #[.pointer (some ⟨g, 0, none⟩), .string t] wr fun e w' => e = .returned (.tuple #[]) ∧ St w g (l ++ t.data.toList) w' :=
  (add_any w.heap.size g h.1 h.2.2.2.2 l t wr h.2.1 hl h.2.2.2.1.size h.2.2.1).mono fun _ _ ⟨h1, h2, h3⟩ => ⟨h1, h.1, h2, h.2.2.1.below h3 h.2.2.2.2, h.2.2.2.1.trans h3, h.2.2.2.2⟩
theorem st_sum {w : World} {g : Nat} {l : List UInt8} {wr : World} (h : St w g l wr) (hl : l.length ≤ 1099511627776) :
    Calls Tryd.prog 21 #[.pointer (some ⟨g, 0, none⟩)] wr fun e w' => e = .returned (.string (shaB l)) ∧ St w g l w' :=
  (hsum_any g l wr h.2.1 hl h.2.2.1).mono fun _ _ ⟨h1, h2⟩ => ⟨h1, h.1, h.2.1.next h2, h.2.2.1.next h2, h.2.2.2.1.trans (h2.mono h.2.2.2.1.size), h.2.2.2.2⟩
theorem st_Sum {w : World} {g : Nat} {l : List UInt8} {wr : World} (h : St w g l wr) (t : ByteArray) (hl : t.size ≤ 1099511627776) :
    Calls Tryd.prog 10 #[.string t] wr fun e w' => e = .returned (.string (shaB t.data.toList)) ∧ St w g l w' :=
  (sum_any t hl wr h.2.2.1).mono fun _ _ ⟨h1, h2⟩ => ⟨h1, h.1, h.2.1.next h2, h.2.2.1.next h2, h.2.2.2.1.trans (h2.mono h.2.2.2.1.size), h.2.2.2.2⟩
theorem st_len {w : World} {g : Nat} {l : List UInt8} {wr : World} (h : St w g l wr) :
    Calls Tryd.prog 20 #[.pointer (some ⟨g, 0, none⟩)] wr fun e w' => e = .returned (.int .u64 ((l.length : Nat) : Int)) ∧ wr = w' := len_any g l wr h.2.1

set_option maxHeartbeats 2000000 in
theorem parts_main (a : Option Addr) (len cap : Nat) (ss : List ByteArray) (w : World) (hl : len ≤ cap) (hm : cap ≤ maxLen) (hc : ∀ i, i < len → ∃ x, a = some x ∧ w.cell? (x.add i) = some (.string (ss.getD i ByteArray.empty))) (hs : ∀ s ∈ ss, s.size ≤ 140737488355328) (htab : Tab w) :
    Calls Tryd.prog 5 #[.slice a len cap] w fun e w' => e = .returned (.bool true) ∧ Below w.heap.size w w' := by
  have HA := Lib.hid (awake_any w htab)
  have HT := Lib.hid htab
  have HC := Lib.hid hc
  have HS := Lib.hid hs
  unfold maxLen at hm
  clear htab hc hs
  go_enter Tryd.func5, Tryd.ntmps5
  go_wp2_with (first
    | (go_at_call 9; (with_reducible refine HA.out.mono ?_); rintro e w1 ⟨rfl, hb1⟩)
    | (go_at_call 18; (with_reducible refine (st_new w _ (HT.out.next hb1) hb1 HT.out.lt).mono ?_); rintro e w2 ⟨g, rfl, hst⟩))
  have HST := Lib.hid hst
  clear hst hb1
  go_loopw [3, 5] (fun a i wr => ∃ (k : Nat) (A : ByteArray), k ≤ len ∧ i = .int .i64 k ∧ a = .string A ∧ A.size ≤ 4096 ∧ St w g A.data.toList wr) (fun _ i _ => len - (intOf i).toNat)
  case atStart => exact ⟨0, ⟨#[]⟩, by omega, rfl, rfl, by decide, HST.out⟩
  case round =>
    clear HST
    obtain ⟨k, A, hk, rfl, rfl, hA, hst⟩ := hrel
    by_cases hlt : k < len
    · by_cases h30 : k < 30
      · obtain ⟨x, rfl, hcell⟩ := HC.out k hlt
        have hblk : (x.add k).block < w.heap.size := World.block_lt_of_cell? _ _ hcell
        have hcr : wr.cell? (x.add k) = some (.string (ss.getD k ByteArray.empty)) := (hst.bel.cell hblk).trans hcell
        have hTm : (ss.getD k ByteArray.empty).size ≤ 140737488355328 := by
          have : ss.getD k ByteArray.empty ∈ ss ∨ ss.getD k ByteArray.empty = ByteArray.empty := by
            by_cases hk2 : k < ss.length
            · left; simp only [List.getD_eq_getElem?_getD, List.getElem?_eq_getElem hk2]; exact List.getElem_mem _
            · right; simp only [List.getD_eq_getElem?_getD, List.getElem?_eq_none (Nat.le_of_not_lt hk2)]; rfl
          rcases this with h | h
          · exact HS.out _ h
          · rw [h]; decide
        clear hcell hblk
        generalize ss.getD k ByteArray.empty = T at *
        by_cases hT : A.size + T.size ≤ 4096
        · have hAT : (A ++ T).size = A.size + T.size := ByteArray.size_append
          have hATl : (A ++ T).data.toList = A.data.toList ++ T.data.toList := by simp
          have hlen : (A.data.toList ++ T.data.toList).length = (A ++ T).size := by rw [← hATl]; simp
          have hA1 : A.data.toList.length = A.size := by simp
          obtain ⟨D, hD⟩ : ∃ D, D = shaB (A ++ T).data.toList := ⟨_, rfl⟩
          obtain ⟨U, hU⟩ : ∃ U, U = A ++ T := ⟨_, rfl⟩
          have CA := Lib.hid (fun (wr : World) (h : St w g A.data.toList wr) => st_add h T (by omega))
          rw [← hATl, ← hU] at CA
          have CL := Lib.hid (fun (wr : World) (h : St w g U.data.toList wr) => st_len h)
          rw [show U.data.toList.length = U.size from by simp] at CL
          have CS := Lib.hid (fun (wr : World) (h : St w g U.data.toList wr) => st_sum h (by rw [hU, hATl, hlen, hAT]; omega))
          have CU := Lib.hid (fun (wr : World) (h : St w g U.data.toList wr) => st_Sum h U (by rw [hU, hAT]; omega))
          rw [hU, ← hD, ← hU] at CS CU
          have hU4 : U.size ≤ 4096 := by rw [hU]; omega
          have hUs : U.size = A.size + T.size := by rw [hU]; exact hAT
          have hsum : A.size + T.size ≤ 4096 := hT
          clear hD hAT hATl hlen hA1
          by_cases hk3 : ((k : Int) % 3 == 0) = true
          all_goals
            try (have hk3' : ((k : Int) % 3 == 0) = false := by simpa using hk3)
            go_wp2_with fail
            rw [← hU]
            clear hU
            refine (CA.out _ hst).mono ?_
            rintro e w3 ⟨rfl, hst3⟩
            go_wp2_with (first
              | (go_at_call 20; (with_reducible refine (CL.out _ hst3).mono ?_); rintro e w' ⟨rfl, rfl⟩)
              | (go_at_call 21; (with_reducible refine (CS.out _ hst3).mono ?_); rintro e w4 ⟨rfl, hst4⟩)
              | (go_at_call 10; (with_reducible refine (CU.out _ hst4).mono ?_); rintro e w5 ⟨rfl, hst5⟩))
            go_roundw
            case rel => exact ⟨k + 1, U, by omega, by go_num, rfl, hU4, by first | exact hst5 | exact hst3⟩
            case measure => simp [intOf]; omega
        · go_wp2_with fail
          go_ret
          exact ⟨rfl, hst.bel⟩
      · have hA40 : A.data.toList.length ≤ 1099511627776 := by simp; omega
        have CS := Lib.hid (fun (wr : World) (h : St w g A.data.toList wr) => st_sum h hA40)
        have CU := Lib.hid (fun (wr : World) (h : St w g A.data.toList wr) => st_Sum h A (by omega))
        have hsz := shaB_size A.data.toList
        have hb32 : (((shaB A.data.toList).size : Int) == 32) = true := by rw [hsz]; rfl
        clear hA40 hsz
        generalize shaB A.data.toList = D at *
        have h30' : ¬ (k : Int) < 30 := by omega
        go_wp2_with fail
        refine (CS.out _ hst).mono ?_
        rintro e w3 ⟨rfl, hst3⟩
        go_wp2_with fail
        refine (CU.out _ hst3).mono ?_
        rintro e w4 ⟨rfl, hst4⟩
        go_wp2_with fail
        refine (CS.out _ hst4).mono ?_
        rintro e w5 ⟨rfl, hst5⟩
        go_wp2_with fail
        refine (CS.out _ hst5).mono ?_
        rintro e w6 ⟨rfl, hst6⟩
        go_wp2_with fail
        refine (CS.out _ hst6).mono ?_
        rintro e w7 ⟨rfl, hst7⟩
        go_wp2_with fail
        go_ret
        exact ⟨rfl, hst7.bel⟩
    · have hA40 : A.data.toList.length ≤ 1099511627776 := by simp; omega
      have CS := Lib.hid (fun (wr : World) (h : St w g A.data.toList wr) => st_sum h hA40)
      have CU := Lib.hid (fun (wr : World) (h : St w g A.data.toList wr) => st_Sum h A (by omega))
      have hsz := shaB_size A.data.toList
      have hb32 : (((shaB A.data.toList).size : Int) == 32) = true := by rw [hsz]; rfl
      clear hA40 hsz
      generalize shaB A.data.toList = D at *
      go_wp2_with fail
      refine (CS.out _ hst).mono ?_
      rintro e w3 ⟨rfl, hst3⟩
      go_wp2_with fail
      refine (CU.out _ hst3).mono ?_
      rintro e w4 ⟨rfl, hst4⟩
      go_wp2_with fail
      refine (CS.out _ hst4).mono ?_
      rintro e w5 ⟨rfl, hst5⟩
      go_wp2_with fail
      refine (CS.out _ hst5).mono ?_
      rintro e w6 ⟨rfl, hst6⟩
      go_wp2_with fail
      refine (CS.out _ hst6).mono ?_
      rintro e w7 ⟨rfl, hst7⟩
      go_wp2_with fail
      go_ret
      exact ⟨rfl, hst7.bel⟩

theorem shaParts_walk (a0 : Option Addr) (len0 cap0 : Nat) (z0 : List ByteArray) (W : World) (w0 : IsTexts W a0 len0 cap0 z0) (htab : Tab W) :
    Calls Tryd.prog 5 #[.slice a0 len0 cap0] W fun e w' => e = .returned (.bool true) ∧ Below W.heap.size W w' := by
  rcases w0 with ⟨rfl, rfl, rfl, rfl⟩ | ⟨x, rfl, hl, hm, hz, hc, hs⟩
  · exact parts_main none 0 0 [] W (Nat.le_refl _) (by decide) (fun i hi => absurd hi (by omega)) (fun s h => by cases h) htab
  · exact parts_main (some x) len0 cap0 z0 W hl hm (fun i hi => ⟨x, rfl, hc i hi⟩) hs htab
end Go.Proofs.YtlpdklnekapkaaaDoor
