/- mac: the contracts of New, sumAll, Sum, Check, Extract. -/
import Derived.Test.YtmedlgnllgldiaaDoorMc3
namespace Go.Proofs.YtmedlgnllgldiaaDoor
open Go.RowKit

set_option maxHeartbeats 1000000 in
set_option maxRecDepth 100000 in
theorem macNew_any (key : ByteArray) (hk : key.size ≤ 1099511627776) (w : World) (htab : Tab w) :
    Calls Tryd.prog 21 #[.string key] w fun e w' => (∃ m, e = .returned (.pointer (some ⟨m, 0, none⟩)) ∧ MacOf w' w.heap.size m key.data.toList []) ∧ Below w.heap.size w w' := by
  have HTn := Lib.hid (turner_any key hk w htab)
  have HT := Lib.hid htab
  have ht0 := htab.lt
  clear htab
  go_enter Tryd.func21, Tryd.ntmps21
  go_wp2_with (first
    | (go_at_call 35; (with_reducible refine HTn.out.mono ?_); rintro e w1 ⟨⟨g, rfl, hwg, hK⟩, hb1⟩; have HBg := Lib.hid (begin_any w.heap.size g _ w1 hK (HT.out.next hb1) hb1.size ht0); unfold turnF at HBg; unfold turnF)
    | (go_at_call 41; (with_reducible refine HBg.out.mono ?_); rintro e w2 ⟨⟨m, rfl, hm⟩, hb2⟩))
  go_ret
  exact ⟨⟨m, rfl, hm⟩, hb1.trans (hb2.mono hb1.size)⟩

/-- Texts, one behind the other. -/
def catL (ts : List ByteArray) : List UInt8 := ts.flatMap fun s => s.data.toList
theorem catL_snoc (ts : List ByteArray) (s : ByteArray) : catL (ts ++ [s]) = catL ts ++ s.data.toList := by simp [catL]
theorem catL_take (ts : List ByteArray) (k : Nat) (h : k < ts.length) : catL (ts.take (k + 1)) = catL (ts.take k) ++ (ts.getD k ByteArray.empty).data.toList := by
  rw [List.take_succ_eq_append_getElem h, catL_snoc, List.getD_eq_getElem?_getD, List.getElem?_eq_getElem h]; rfl
theorem catL_prefix (ts : List ByteArray) (k : Nat) : (catL (ts.take k)).length ≤ (catL ts).length := by
  have : catL ts = catL (ts.take k) ++ catL (ts.drop k) := by rw [catL, catL, catL, ← List.flatMap_append, List.take_append_drop]
  rw [this, List.length_append]; omega

set_option maxHeartbeats 1000000 in
set_option maxRecDepth 100000 in
theorem sumAll_any (g a : Nat) (key : List UInt8) (ts : List ByteArray) (n : Nat) (hn : ts.length = n) (w : World) (hk : Kb w g key) (hc : ∀ i, i < n → w.cell? ⟨a, i, none⟩ = some (.string (ts.getD i ByteArray.empty))) (htab : Tab w) (hl : (catL ts).length ≤ 1000000000) (hn3 : n ≤ 3) :
    Calls Tryd.prog 34 #[turnF g, .slice (some ⟨a, 0, none⟩) n n] w fun e w' => e = .returned (.string (macB key (catL ts))) ∧ Below w.heap.size w w' := by
  have HBg := Lib.hid (begin_any w.heap.size g key w hk htab (Nat.le_refl _) htab.lt)
  have HT := Lib.hid htab
  have HC := Lib.hid hc
  clear hk htab hc
  unfold turnF at HBg ⊢
  go_enter Tryd.func34, Tryd.ntmps34
  go_wp2_with (first
    | (go_at_call 41; (with_reducible refine HBg.out.mono ?_); rintro e w2 ⟨⟨m, rfl, hm⟩, hb2⟩))
  have HM := Lib.hid hm
  have HB2 := Lib.hid hb2
  clear hm hb2
  go_loopw [12] (fun i wr => ∃ k : Nat, k ≤ n ∧ i = .int .i64 (k : Int) ∧ MacOf wr w.heap.size m key (catL (ts.take k)) ∧ Below w.heap.size w wr) (fun i _ => n - (intOf i).toNat)
  case atStart => exact ⟨0, by omega, rfl, HM.out, HB2.out⟩
  case round =>
    clear HM HB2
    obtain ⟨k, hk, rfl, hm, hbel⟩ := hrel
    have HTr := Lib.hid (HT.out.next hbel)
    have hpre := catL_prefix ts k
    have hsz := hbel.size
    by_cases hlt : k < n
    · have hcell := HC.out k hlt
      have hblk : a < w.heap.size := World.block_lt_of_cell? _ _ hcell
      have hcr : wr.cell? ⟨a, k, none⟩ = some (.string (ts.getD k ByteArray.empty)) := (hbel.cell (p := ⟨a, k, none⟩) hblk).trans hcell
      have hts := catL_take ts k (by omega)
      have hpre2 := catL_prefix ts (k + 1)
      have hlen : (catL (ts.take k)).length + (ts.getD k ByteArray.empty).size ≤ 1000000000 := by
        rw [hts, List.length_append] at hpre2; simp at hpre2 ⊢; omega
      have HAd := Lib.hid (macAdd_any w.heap.size m key (catL (ts.take k)) (ts.getD k ByteArray.empty) wr hm HTr.out hsz (by omega))
      rw [← hts] at HAd
      clear hcell hts hpre2 hlen hm
      generalize ts.getD k ByteArray.empty = T at *
      go_wp2_with (first
        | (go_at_call 22; (with_reducible refine HAd.out.mono ?_); rintro e w3 ⟨rfl, hm3, hb3⟩))
      go_roundw
      case rel => exact ⟨k + 1, by omega, by go_num, hm3, hbel.trans hb3⟩
      case measure => simp [intOf]; omega
    · obtain rfl : k = n := by omega
      rw [List.take_of_length_le (by omega)] at hm
      have HSm := Lib.hid (macSum_any w.heap.size m key (catL ts) wr hm HTr.out (by omega))
      clear hm
      go_wp2_with (first
        | (go_at_call 23; (with_reducible refine HSm.out.mono ?_); rintro e w3 ⟨rfl, hb3⟩))
      go_ret
      exact ⟨rfl, hbel.trans (hb3.mono hsz)⟩

set_option maxHeartbeats 1000000 in
set_option maxRecDepth 100000 in
theorem msum_any (key t : ByteArray) (hk : key.size ≤ 1099511627776) (ht : t.size ≤ 1000000000) (w : World) (htab : Tab w) :
    Calls Tryd.prog 14 #[.string key, .string t] w fun e w' => e = .returned (.string (macB key.data.toList t.data.toList)) ∧ Below w.heap.size w w' := by
  have HTn := Lib.hid (turner_any key hk w htab)
  have HT := Lib.hid htab
  have hcat : catL [t] = t.data.toList := by simp [catL]
  clear htab
  go_enter Tryd.func14, Tryd.ntmps14
  go_wp2_with (first
    | (go_at_call 35; (with_reducible refine HTn.out.mono ?_); rintro e w1 ⟨⟨g, rfl, hwg, hK⟩, hb1⟩; have HSa := Lib.hid (sumAll_any g w1.heap.size key.data.toList [t] 1 rfl (w1.alloc (.cells #[.string t] 9)) (Arr.alloc hK _) (by intro i hi; obtain rfl : i = 0 := (by omega); exact (Arr.new w1 #[.string t] 9).cell rfl) ((HT.out.next hb1).alloc _) (by rw [hcat]; simpa using ht) (by omega)); rw [hcat] at HSa; unfold turnF at HSa; unfold turnF)
    | (go_at_call 34; (with_reducible refine HSa.out.mono ?_); rintro e w2 ⟨rfl, hb2⟩))
  go_ret
  exact ⟨rfl, Below_next (hb1.alloc hb1.size _) hb2⟩

theorem check_any (key t s : ByteArray) (hk : key.size ≤ 1099511627776) (ht : t.size ≤ 1000000000) (w : World) (htab : Tab w) :
    Calls Tryd.prog 15 #[.string key, .string t, .string s] w fun e w' => e = .returned (.bool ((macB key.data.toList t.data.toList).toList == s.toList)) ∧ Below w.heap.size w w' := by
  have HS := Lib.hid (msum_any key t hk ht w htab)
  have HE := Lib.hid (same_any (macB key.data.toList t.data.toList) s)
  clear htab
  go_enter Tryd.func15, Tryd.ntmps15
  go_wp2_with (first
    | (go_at_call 14; (with_reducible refine HS.out.mono ?_); rintro e w1 ⟨rfl, hb1⟩)
    | (go_at_call 36; (with_reducible refine (HE.out _).mono ?_); rintro e w2 ⟨rfl, rfl⟩))
  go_ret
  exact ⟨rfl, hb1⟩

theorem extract_any (key t : ByteArray) (hk : key.size ≤ 1099511627776) (ht : t.size ≤ 1000000000) (w : World) (htab : Tab w) :
    Calls Tryd.prog 16 #[.string key, .string t] w fun e w' => e = .returned (.string (macB key.data.toList t.data.toList)) ∧ Below w.heap.size w w' := by
  have HS := Lib.hid (msum_any key t hk ht w htab)
  clear htab
  go_enter Tryd.func16, Tryd.ntmps16
  go_wp2_with (first
    | (go_at_call 14; (with_reducible refine HS.out.mono ?_); rintro e w1 ⟨rfl, hb1⟩))
  go_ret
  exact ⟨rfl, hb1⟩
end Go.Proofs.YtmedlgnllgldiaaDoor
