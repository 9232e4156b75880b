/- sha: the contract of mixAll. -/
import Derived.Test.YtmedlgnllgldiaaDoorSh5
namespace Go.Proofs.YtmedlgnllgldiaaDoor
open Go.RowKit

theorem blk_eq (s : ByteArray) (k : Nat) : (s.extract (64 * k) (64 * k + 64)).data.toList = (s.data.toList.drop (64 * k)).take 64 := by
  rw [ext_toList]; congr 1; omega

/-- What mixAll's memory is ahead of a round. -/
def RelA (s : S8) (w : World) (wr : World) : Prop :=
  Arr wr w.heap.size s.cells 45 ∧ Arr wr (w.heap.size + 1) #[.int .u32 0, .int .u32 0, .int .u32 0, .int .u32 0, .int .u32 0, .int .u32 0, .int .u32 0, .int .u32 0] 45 ∧ Tab wr ∧ Below w.heap.size w wr
theorem RelA.drew {s : S8} {w wr : World} (h : RelA s w wr) : RelA s w wr.drew := ⟨h.1.drew, h.2.1.drew, h.2.2.1.drew, h.2.2.2.drew⟩

set_option maxHeartbeats 1000000 in
set_option maxRecDepth 100000 in
theorem mixAll_any (s : S8) (hs : s.ok) (t : ByteArray) (ht : t.size ≤ 1099511627776) (w : World) (htab : Tab w) :
    Calls Tryd.prog 59 #[.agg s.cells, .string t] w fun e w' => e = .returned (.tuple #[.agg (mixN s t.data.toList (t.size / 64)).cells, .string (t.extract (64 * (t.size / 64)) t.size)]) ∧ Below w.heap.size w w' := by
  have HT := Lib.hid htab
  have ht0 := htab.lt
  clear htab
  go_enter Tryd.func59, Tryd.ntmps59
  go_wp2_with fail
  have hrel0 := Lib.hid (show RelA s w _ from ⟨(Arr.new w s.cells 45).alloc (.cells #[.int .u32 0, .int .u32 0, .int .u32 0, .int .u32 0, .int .u32 0, .int .u32 0, .int .u32 0, .int .u32 0] 45), Arr.newAt _ _ _ (by simp), (HT.out.alloc _).alloc _, ((Below.refl w.heap.size w).alloc (Nat.le_refl _) _).alloc (by simp) _⟩)
  go_loopw [1] (fun x wr => ∃ k : Nat, 64 * k ≤ t.size ∧ x = .string (t.extract (64 * k) t.size) ∧ RelA (mixN s t.data.toList k) w wr) (fun x _ => match x with | .string b => b.size | _ => 0)
  case atStart =>
    refine ⟨0, by omega, ?_, hrel0.out⟩
    congr 1
    apply ByteArray.ext
    simp
  case round =>
    clear hrel0 HT
    obtain ⟨k, hk, rfl, hrel⟩ := hrel
    have hsz : (t.extract (64 * k) t.size).size = t.size - 64 * k := ext_size _ _ _ (Nat.le_refl _)
    by_cases hge : 64 * (k + 1) ≤ t.size
    · have hX1 : 64 ≤ (t.extract (64 * k) t.size).size := by omega
      have hX2 : (t.extract (64 * k) t.size).size ≤ 1099511627776 := by omega
      have hblk : (t.extract (64 * k) t.size).extract 0 64 = t.extract (64 * k) (64 * k + 64) := by
        apply ByteArray.ext; simp only [ByteArray.data_extract, Array.extract_extract]; congr 1 <;> omega
      have hrest : (t.extract (64 * k) t.size).extract 64 (t.extract (64 * k) t.size).size = t.extract (64 * (k + 1)) t.size := by
        rw [hsz]; apply ByteArray.ext; simp only [ByteArray.data_extract, Array.extract_extract]; congr 1 <;> omega
      have hlen : ((t.extract (64 * k) t.size).extract 64 (t.extract (64 * k) t.size).size).size < (t.extract (64 * k) t.size).size := by
        rw [hrest, ext_size _ _ _ (Nat.le_refl _)]; omega
      have hsub : ((t.extract (64 * k) t.size).extract 0 64).size = 64 := by rw [hblk, ext_size _ _ _ (by omega)]; omega
      have hmix := mix_any (mixN s t.data.toList k) (mixN_ok hs _ k) ((t.extract (64 * k) t.size).extract 0 64) hsub
      rw [hblk, blk_eq, show mixS (mixN s t.data.toList k) ((t.data.toList.drop (64 * k)).take 64) = mixN s t.data.toList (k + 1) from rfl, ← hblk] at hmix
      have hok := mixN_ok hs t.data.toList k
      generalize mixN s t.data.toList k = S at *
      have HM : Hid (∀ w : World, Tab w → Calls Tryd.prog 47 #[.agg #[.int .u32 (S.a : Int), .int .u32 (S.b : Int), .int .u32 (S.c : Int), .int .u32 (S.d : Int), .int .u32 (S.e : Int), .int .u32 (S.f : Int), .int .u32 (S.g : Int), .int .u32 (S.h : Int)], .string ((t.extract (64 * k) t.size).extract 0 64)] w fun e w' => e = .returned (.agg (mixN s t.data.toList (k + 1)).cells) ∧ Below w.heap.size w w') := hmix
      have HRest := Lib.hid hrest
      clear hmix hblk hrest hsub hsz
      generalize t.extract (64 * k) t.size = X at *
      have HL := Lib.hid hlen
      clear hlen
      have hA := hrel.1
      have c0 : wr.cell? ⟨w.heap.size, 0, none⟩ = some (.int .u32 (S.a : Int)) := hA.cell (j := 0) rfl
      have c1 : wr.cell? ⟨w.heap.size, 1, none⟩ = some (.int .u32 (S.b : Int)) := hA.cell (j := 1) rfl
      have c2 : wr.cell? ⟨w.heap.size, 2, none⟩ = some (.int .u32 (S.c : Int)) := hA.cell (j := 2) rfl
      have c3 : wr.cell? ⟨w.heap.size, 3, none⟩ = some (.int .u32 (S.d : Int)) := hA.cell (j := 3) rfl
      have c4 : wr.cell? ⟨w.heap.size, 4, none⟩ = some (.int .u32 (S.e : Int)) := hA.cell (j := 4) rfl
      have c5 : wr.cell? ⟨w.heap.size, 5, none⟩ = some (.int .u32 (S.f : Int)) := hA.cell (j := 5) rfl
      have c6 : wr.cell? ⟨w.heap.size, 6, none⟩ = some (.int .u32 (S.g : Int)) := hA.cell (j := 6) rfl
      have c7 : wr.cell? ⟨w.heap.size, 7, none⟩ = some (.int .u32 (S.h : Int)) := hA.cell (j := 7) rfl
      have HR := Lib.hid hrel
      clear hrel hA
      go_wp2
      go_still_tail 3, (by kernel_rfl)
      change wpList _ _ _ _ _ wr.drew
      have HR2 := Lib.hid HR.out.drew
      clear HR c0 c1 c2 c3 c4 c5 c6 c7
      generalize wr.drew = w2 at *
      have HT := Lib.hid HR2.out.2.2.1
      go_wp2_with (first
        | (go_at_call 47; (with_reducible refine (HM.out _ HT.out).mono ?_); rintro e w3 ⟨rfl, hb⟩; have HA := Lib.hid (HR2.out.1.next hb))
        | (with_reducible refine wpList_store8 rfl _ _ rfl w.heap.size rfl _ rfl (cells_size _) (cells_one _) _ (cells_size _) HA.out ?_))
      go_roundw
      case rel => exact ⟨k + 1, hge, by rw [HRest.out], ⟨HA.out.row _, (HR2.out.2.1.next hb).rowOther _ (by omega), ((HR2.out.2.2.1).next hb).row _ _ (by omega), below_setRow (HR2.out.2.2.2.trans (hb.mono HR2.out.2.2.2.size)) (Nat.le_refl _) _⟩⟩
      case measure => simp; have := HL.out; simp at this; omega
    · have hlt : (t.extract (64 * k) t.size).size < 64 := by omega
      have hkk : k = t.size / 64 := by omega
      have HE : Hid (Value.string (t.extract (64 * k) t.size) = .string (t.extract (64 * (t.size / 64)) t.size) ∧ mixN s t.data.toList k = mixN s t.data.toList (t.size / 64)) := by rw [← hkk]; exact ⟨rfl, rfl⟩
      generalize mixN s t.data.toList k = S at *
      generalize t.extract (64 * k) t.size = X at *
      clear hkk hsz
      have HA := Lib.hid hrel.1
      have HZ := Lib.hid hrel.2.1
      have HB := Lib.hid hrel.2.2.2
      clear hrel
      go_wp2_with (first
        | (with_reducible refine wpList_load8 rfl _ rfl w.heap.size rfl _ (cells_size S) HA.out ?_)
        | (with_reducible refine wpList_store8 rfl _ _ rfl (w.heap.size + 1) rfl _ rfl (cells_size S) (cells_one S) _ (by simp) HZ.out ?_))
      refine ret_s8_tmp Tryd.results59 (w.heap.size + 1) _ (cells_size S) rfl (HZ.out.row _) rfl _ rfl ⟨?_, below_setRow HB.out (by omega) _⟩
      rw [← HE.out.1, ← HE.out.2]
      rfl
end Go.Proofs.YtmedlgnllgldiaaDoor
