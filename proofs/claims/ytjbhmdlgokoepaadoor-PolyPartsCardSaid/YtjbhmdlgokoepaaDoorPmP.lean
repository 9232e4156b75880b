/- PolyParts: the law's walk. -/
import Derived.Test.YtjbhmdlgokoepaaDoorPmV
import Derived.Test.YtjbhmdlgokoepaaDoorOpn
namespace Go.Proofs.YtjbhmdlgokoepaaDoor
open Go.RowKit

/-- A Poly of this key and these bytes, the table, and what was there as it was. -/
def StP (w : World) (g : Nat) (key l : List UInt8) (wr : World) : Prop := PolyOf wr g key l ∧ Kp wr ∧ Below w.heap.size w wr ∧ w.heap.size ≤ g ∧ 0 ≠ g
theorem StP.bel {w : World} {g : Nat} {key l : List UInt8} {wr : World} (h : StP w g key l wr) : Below w.heap.size w wr := h.2.2.1
theorem stp_new (key : ByteArray) (hk : key.size = 32) (w wr : World) (htab : Kp wr) (hb : Below w.heap.size w wr) :
    Calls Tryd.prog 14 #[.string key] wr fun e w' => ∃ g, e = .returned (.tuple #[.pointer (some ⟨g, 0, none⟩), .int .i64 0]) ∧ StP w g key.data.toList [] w' :=
  (polyNew_ok key hk wr htab).mono fun _ _ ⟨⟨g, h1, h2, h3⟩, h4⟩ => ⟨g, h1, h3, htab.next h4, hb.trans (h4.mono hb.size), Nat.le_trans hb.size h2, Nat.ne_of_lt (Nat.lt_of_lt_of_le htab.lt h2)⟩
theorem stp_add {w : World} {g : Nat} {key l : List UInt8} {wr : World} (h : StP w g key l wr) (t : ByteArray) :
    Calls Tryd.prog 16 #[.pointer (some ⟨g, 0, none⟩), .string t] wr fun e w' => e = .returned (.tuple #[]) ∧ StP w g key (l ++ t.data.toList) w' :=
  (padd_fr g key l t wr h.1).mono fun _ _ ⟨h1, h2, h3⟩ => ⟨h1, h2, h.2.1.fr h3 h.2.2.2.2, h.2.2.1.trans (h3.below h.2.2.2.1 h.2.2.1.size), h.2.2.2⟩
theorem stp_tag {w : World} {g : Nat} {key : ByteArray} {l : List UInt8} {wr : World} (h : StP w g key.data.toList l wr) (hk : key.size = 32) (t : ByteArray) (ht : t.data.toList = l) :
    Calls Tryd.prog 17 #[.pointer (some ⟨g, 0, none⟩)] wr fun e w' => e = .returned (.string (tagB key t)) ∧ StP w g key.data.toList l w' := by
  subst ht
  exact (ptag_any g key.data.toList t.data.toList (by simpa using hk) wr h.1).mono fun _ _ ⟨h1, h2⟩ => ⟨h1, h.1.next h2, h.2.1.next h2, h.2.2.1.trans (h2.mono h.2.2.1.size), h.2.2.2⟩
theorem stp_Tag {w : World} {g : Nat} {key : ByteArray} {l : List UInt8} {wr : World} (h : StP w g key.data.toList l wr) (hk : key.size = 32) (t : ByteArray) :
    Calls Tryd.prog 10 #[.string key, .string t] wr fun e w' => e = .returned (.tuple #[.string (tagB key t), .int .i64 0]) ∧ StP w g key.data.toList l w' :=
  (ptagF_ok key t hk wr h.2.1).mono fun _ _ ⟨h1, h2⟩ => ⟨h1, h.1.next h2, h.2.1.next h2, h.2.2.1.trans (h2.mono h.2.2.1.size), h.2.2.2⟩

set_option maxHeartbeats 2000000 in
set_option maxRecDepth 100000 in
theorem pparts_main (zk : List Int) (n0 : zk.length = 32) (w0 : ∀ z ∈ zk, (Lit.int .u8 z).wf = true) (a : Option Addr) (len cap : Nat) (ss : List ByteArray) (w : World) (_ : len ≤ cap) (hm : cap ≤ maxLen) (hc : ∀ i, i < len → ∃ x, a = some x ∧ w.cell? (x.add i) = some (.string (ss.getD i ByteArray.empty))) (hs : ∀ s ∈ ss, s.size ≤ 140737488355328) (htab : Kp w) :
    Calls Tryd.prog 4 #[.agg (zk.map (Value.int .u8)).toArray, .slice a len cap] w fun e w' => e = .returned (.bool true) ∧ Below w.heap.size w w' := by
  obtain ⟨kb, hkb, hkl⟩ := u8_of zk w0
  rw [hkb, show (u8s kb).toArray = rowB kb from rfl]
  rw [n0] at hkl
  clear hkb w0 n0 zk
  obtain ⟨key, hkey⟩ : ∃ key : ByteArray, key = ⟨kb.toArray⟩ := ⟨_, rfl⟩
  have hk : key.size = 32 := by rw [hkey]; show kb.toArray.size = 32; rw [List.size_toArray, hkl]
  obtain ⟨KR, hKR⟩ : ∃ KR, KR = rowB kb := ⟨_, rfl⟩
  rw [← hKR]
  have HCM : Hid (∀ {w : World} {g : Nat}, Arr w g KR 31 → (convert 33 9 (.slice (some ⟨g, 0, none⟩) 32 32)).run Tryd.prog w = .ok (.string key) w) := by
    intro w g h; rw [hKR] at h; rw [hkey]; exact conv_rowB h hkl
  have hB0 := (Below.refl w.heap.size w).alloc (Nat.le_refl _) (.cells KR 31)
  have hT0 := htab.alloc (.cells KR 31)
  have HA := Lib.hid (awake5_any _ hT0)
  have HB0 := Lib.hid hB0
  have HT := Lib.hid hT0
  have HK0 := Lib.hid (Arr.new w KR 31)
  have HC := Lib.hid hc
  have HS := Lib.hid hs
  have hm2 := hm
  unfold maxLen at hm2
  have a3 := arr32_all
  clear hc hs hm htab hkey hkl hKR hB0 hT0
  go_enter Tryd.func4, Tryd.ntmps4
  go_wp2_with (first
    | (go_at_call 9; (with_reducible refine HA.out.mono ?_); rintro e w1 ⟨rfl, hb1⟩; have hcm := HCM.out (HK0.out.next hb1))
    | (go_at_call 14; (with_reducible refine (stp_new key hk w _ (HT.out.next hb1) (HB0.out.trans (hb1.mono HB0.out.size))).mono ?_); rintro e w2 ⟨g, rfl, hst⟩))
  have HST := Lib.hid hst
  clear hst hb1 hcm
  go_loopw [8, 9] (fun a i wr => ∃ (k : Nat) (A : ByteArray), k ≤ len ∧ i = .int .i64 k ∧ a = .string A ∧ A.size ≤ 1024 ∧ StP w g key.data.toList A.data.toList wr) (fun _ i _ => len - (intOf i).toNat)
  case atStart => exact ⟨0, ⟨#[]⟩, by omega, rfl, rfl, by decide, HST.out⟩
  case round =>
    clear HST
    obtain ⟨k, A, hk', rfl, rfl, hA, hst⟩ := hrel
    by_cases hlt : k < len
    · by_cases h30 : k < 30
      · obtain ⟨x, rfl, hcell⟩ := HC.out k hlt
        have hblk : (x.add k).block < w.heap.size := World.block_lt_of_cell? _ _ hcell
        have hcr : wr.cell? (x.add k) = some (.string (ss.getD k ByteArray.empty)) := (hst.bel.cell hblk).trans hcell
        have hTm : (ss.getD k ByteArray.empty).size ≤ 140737488355328 := by
          have : ss.getD k ByteArray.empty ∈ ss ∨ ss.getD k ByteArray.empty = ByteArray.empty := by
            by_cases hk2 : k < ss.length
            · left; simp only [List.getD_eq_getElem?_getD, List.getElem?_eq_getElem hk2]; exact List.getElem_mem _
            · right; simp only [List.getD_eq_getElem?_getD, List.getElem?_eq_none (Nat.le_of_not_lt hk2)]; rfl
          rcases this with h | h
          · exact HS.out _ h
          · rw [h]; decide
        clear hcell hblk
        generalize ss.getD k ByteArray.empty = T at *
        by_cases hT : A.size + T.size ≤ 1024
        · have hAT : (A ++ T).size = A.size + T.size := ByteArray.size_append
          have hATl : (A ++ T).data.toList = A.data.toList ++ T.data.toList := by simp
          obtain ⟨D, hD⟩ : ∃ D, D = tagB key (A ++ T) := ⟨_, rfl⟩
          obtain ⟨U, hU⟩ : ∃ U, U = A ++ T := ⟨_, rfl⟩
          have CA := Lib.hid (fun (wr : World) (h : StP w g key.data.toList A.data.toList wr) => stp_add h T)
          rw [← hATl, ← hU] at CA
          have CS := Lib.hid (fun (wr : World) (h : StP w g key.data.toList U.data.toList wr) => stp_tag h hk U rfl)
          have CU := Lib.hid (fun (wr : World) (h : StP w g key.data.toList U.data.toList wr) => stp_Tag h hk U)
          rw [hU, ← hD, ← hU] at CS CU
          have hU4 : U.size ≤ 1024 := by rw [hU]; omega
          have hUs : U.size = A.size + T.size := by rw [hU]; exact hAT
          have hsum : A.size + T.size ≤ 1024 := hT
          clear hD hAT hATl
          by_cases hk3 : (0 : Int) < (k : Int) % 3
          all_goals
            go_wp2_with fail
            rw [← hU]
            clear hU
            refine (CA.out _ hst).mono ?_
            rintro e w3 ⟨rfl, hst3⟩
            go_wp2_with (first
              | (go_at_call 10; (with_reducible refine (CU.out _ hst3).mono ?_); rintro e w4 ⟨rfl, hst4⟩)
              | (go_at_call 17; (with_reducible refine (CS.out _ hst4).mono ?_); rintro e w5 ⟨rfl, hst5⟩))
            go_roundw
            case rel => exact ⟨k + 1, U, by omega, by go_num, rfl, hU4, by first | exact hst5 | exact hst3⟩
            case measure => simp [intOf]; omega
        · go_wp2_with fail
          go_ret
          exact ⟨rfl, hst.bel⟩
      · have CS := Lib.hid (fun (wr : World) (h : StP w g key.data.toList A.data.toList wr) => stp_tag h hk A rfl)
        have CU := Lib.hid (fun (wr : World) (h : StP w g key.data.toList A.data.toList wr) => stp_Tag h hk A)
        generalize tagB key A = D at *
        have h30' : ¬ (k : Int) < 30 := by omega
        go_wp2_with fail
        refine (CU.out _ hst).mono ?_
        rintro e w3 ⟨rfl, hst3⟩
        go_wp2_with fail
        refine (CS.out _ hst3).mono ?_
        rintro e w4 ⟨rfl, hst4⟩
        go_wp2_with fail
        refine (CS.out _ hst4).mono ?_
        rintro e w5 ⟨rfl, hst5⟩
        go_wp2_with fail
        go_ret
        exact ⟨rfl, hst5.bel⟩
    · have CS := Lib.hid (fun (wr : World) (h : StP w g key.data.toList A.data.toList wr) => stp_tag h hk A rfl)
      have CU := Lib.hid (fun (wr : World) (h : StP w g key.data.toList A.data.toList wr) => stp_Tag h hk A)
      generalize tagB key A = D at *
      go_wp2_with fail
      refine (CU.out _ hst).mono ?_
      rintro e w3 ⟨rfl, hst3⟩
      go_wp2_with fail
      refine (CS.out _ hst3).mono ?_
      rintro e w4 ⟨rfl, hst4⟩
      go_wp2_with fail
      refine (CS.out _ hst4).mono ?_
      rintro e w5 ⟨rfl, hst5⟩
      go_wp2_with fail
      go_ret
      exact ⟨rfl, hst5.bel⟩

theorem polyParts_walkK (zk : List Int) (a0 : Option Addr) (len0 cap0 : Nat) (z0 : List ByteArray) (W : World) (n0 : zk.length = 32) (w0 : ∀ z ∈ zk, (Lit.int .u8 z).wf = true) (t0 : IsTexts W a0 len0 cap0 z0) (htab : Kp W) :
    Calls Tryd.prog 4 #[.agg (zk.map (Value.int .u8)).toArray, .slice a0 len0 cap0] W fun e w' => e = .returned (.bool true) ∧ Below W.heap.size W w' := by
  rcases t0 with ⟨rfl, rfl, rfl, rfl⟩ | ⟨x, rfl, hl, hm, hz, hc, hs⟩
  · exact pparts_main zk n0 w0 none 0 0 [] W (Nat.le_refl _) (by decide) (fun i hi => absurd hi (by omega)) (fun s h => by cases h) htab
  · exact pparts_main zk n0 w0 (some x) len0 cap0 z0 W hl hm (fun i hi => ⟨x, rfl, hc i hi⟩) hs htab
end Go.Proofs.YtjbhmdlgokoepaaDoor
