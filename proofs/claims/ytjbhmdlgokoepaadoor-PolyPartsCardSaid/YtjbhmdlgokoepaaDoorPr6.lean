/- The document's own Clamp and Sum of layer 5. -/
import Derived.Test.YtjbhmdlgokoepaaDoorPr5
namespace Go.Proofs.YtjbhmdlgokoepaaDoor
open Go.RowKit

/-- Bits are taken away of byte i. -/
def clampB (i : Nat) (c : UInt8) : UInt8 := if i = 3 ∨ i = 7 ∨ i = 11 ∨ i = 15 then c % 16 else if i = 4 ∨ i = 8 ∨ i = 12 then c / 4 * 4 else c
def clampK (r : List UInt8) (k : Nat) : List UInt8 := (List.range k).map fun i => clampB i (r.getD i 0)
def clampL (r : List UInt8) : List UInt8 := clampK r 16
theorem clampK_len (r : List UInt8) (k : Nat) : (clampK r k).length = k := by simp [clampK]
theorem clampK_succ (r : List UInt8) (k : Nat) : clampK r (k + 1) = clampK r k ++ [clampB k (r.getD k 0)] := by simp [clampK, List.range_succ]
theorem clampL_len (r : List UInt8) : (clampL r).length = 16 := clampK_len r 16

theorem cb16 {k : Nat} {c : UInt8} (h : k = 3 ∨ k = 7 ∨ k = 11 ∨ k = 15) : (c.toNat : Int) % 16 = ((clampB k c).toNat : Int) := by
  rw [clampB, if_pos h, UInt8.toNat_mod]; rfl
theorem cb4 {k : Nat} {c : UInt8} (h : k = 4 ∨ k = 8 ∨ k = 12) : (c.toNat : Int) / 4 * 4 = ((clampB k c).toNat : Int) := by
  rw [clampB, if_neg (by omega), if_pos h, UInt8.toNat_mul, UInt8.toNat_div]
  have := c.toNat_lt
  show _ = (((c.toNat / 4 * 4) % 256 : Nat) : Int)
  omega
theorem cb0 {k : Nat} {c : UInt8} (h : ¬ (k = 3 ∨ k = 7 ∨ k = 11 ∨ k = 15)) (h2 : ¬ (k = 4 ∨ k = 8 ∨ k = 12)) : (c.toNat : Int) = ((clampB k c).toNat : Int) := by
  rw [clampB, if_neg h, if_neg h2]

set_option maxHeartbeats 1000000 in
set_option maxRecDepth 100000 in
theorem rclamp_ok (s : ByteArray) (hs : s.size = 16) (w : World) :
    Calls Tryd.prog 13 #[.string s] w fun e w' => e = .returned (.tuple #[.string ⟨(clampL s.data.toList).toArray⟩, .int .i64 0]) ∧ Below w.heap.size w w' := by
  have e1 : ((s.size : Int) != 16) = false := by rw [hs]; rfl
  have HS := Lib.hid hs
  have HO := Lib.hid (Ob.start w w.heap.size (Nat.le_refl _))
  have HB := Lib.hid ((Below.refl w.heap.size w).alloc (Nat.le_refl _) (.cells #[] 5))
  have HR : Hid (∀ k, k = 16 → (⟨(clampK s.data.toList k).toArray⟩ : ByteArray) = ⟨(clampL s.data.toList).toArray⟩) := fun k h => by rw [h]; rfl
  obtain ⟨R, hR⟩ : ∃ R : ByteArray, R = ⟨(clampL s.data.toList).toArray⟩ := ⟨_, rfl⟩
  rw [← hR] at HR ⊢
  clear hs hR
  go_enter Tryd.func13, Tryd.ntmps13
  go_wp2
  clear e1
  go_loopw [4, 5] (fun o i wr => ∃ k : Nat, k ≤ 16 ∧ i = .int .i64 (k : Int) ∧ Ob wr w.heap.size o (clampK s.data.toList k) ∧ Below w.heap.size w wr) (fun _ i _ => 16 - (intOf i).toNat)
  case atStart => exact ⟨0, by omega, rfl, HO.out, HB.out⟩
  case round =>
    clear HO HB
    obtain ⟨k, hk, rfl, hown, hbel⟩ := hrel
    by_cases hlt : k < 16
    · have hlts : k < s.size := by rw [HS.out]; exact hlt
      have HK := Lib.hid (clampK_succ s.data.toList k)
      have hg : s.data.toList.getD k 0 = s[k] := by rw [List.getD_eq_getElem?_getD, List.getElem?_eq_getElem (by simpa using hlts)]; rfl
      rw [hg] at HK
      have HL := Lib.hid (show (clampK s.data.toList k).length ≤ 1099511627776 by rw [clampK_len]; omega)
      clear hg
      have hc0 : (0 : Int) ≤ (s[k].toNat : Int) := by omega
      have hc1 : (s[k].toNat : Int) ≤ 255 := by have := s[k].toNat_lt; omega
      have HOw := Lib.hid hown
      have HBel := Lib.hid hbel
      clear hown hbel
      have hcase : (k = 3 ∨ k = 7 ∨ k = 11 ∨ k = 15) ∨ (k = 4 ∨ k = 8 ∨ k = 12) ∨ (¬ (k = 3 ∨ k = 7 ∨ k = 11 ∨ k = 15) ∧ ¬ (k = 4 ∨ k = 8 ∨ k = 12)) := by omega
      rcases hcase with hc | hc | ⟨hn, hn2⟩
      · have HC := Lib.hid (cb16 (c := s[k]) hc)
        rcases hc with hc | hc | hc | hc
        all_goals
          subst hc
          go_wp2_with (at_builtin; refine wpList_push wr rfl _ _ rfl w.heap.size _ _ rfl rfl HOw.out _ HC.out HL.out HBel.out.size ?_; intro v' w1 hown' hb1)
          go_roundw
          case rel => exact ⟨_ + 1, hlt, by first | rfl | go_num | (congr 1; omega), by rw [HK.out]; exact hown', HBel.out.trans hb1⟩
          case measure => simp [intOf]
      · have HC := Lib.hid (cb4 (c := s[k]) hc)
        rcases hc with hc | hc | hc
        all_goals
          subst hc
          go_wp2_with (at_builtin; refine wpList_push wr rfl _ _ rfl w.heap.size _ _ rfl rfl HOw.out _ HC.out HL.out HBel.out.size ?_; intro v' w1 hown' hb1)
          go_roundw
          case rel => exact ⟨_ + 1, hlt, by first | rfl | go_num | (congr 1; omega), by rw [HK.out]; exact hown', HBel.out.trans hb1⟩
          case measure => simp [intOf]
      · have n3 : ((k : Int) == 3) = false := by simp; omega
        have n7 : ((k : Int) == 7) = false := by simp; omega
        have n11 : ((k : Int) == 11) = false := by simp; omega
        have n15 : ((k : Int) == 15) = false := by simp; omega
        have n4 : ((k : Int) == 4) = false := by simp; omega
        have n8 : ((k : Int) == 8) = false := by simp; omega
        have n12 : ((k : Int) == 12) = false := by simp; omega
        have HN := Lib.hid (And.intro hn hn2)
        clear hn hn2
        go_wp2_with (at_builtin; refine wpList_push wr rfl _ _ rfl w.heap.size _ (clampK s.data.toList k) rfl rfl HOw.out (clampB k s[k]) (cb0 HN.out.1 HN.out.2) HL.out HBel.out.size ?_; intro v' w1 hown' hb1)
        go_roundw
        case rel => exact ⟨k + 1, hlt, by go_num, by rw [HK.out]; exact hown', HBel.out.trans hb1⟩
        case measure => simp [intOf]; omega
    · obtain rfl : k = 16 := by omega
      have hcv := conv_Ob hown
      rw [HR.out 16 rfl] at hcv
      go_wp2
      go_ret2
      exact ⟨rfl, hbel⟩
end Go.Proofs.YtjbhmdlgokoepaaDoor
