/- sha: the contracts of First, Mix, Pad, mixAll. -/
import Derived.Test.YtmedlgnllgldiaaDoorSh4
import Derived.Test.YtmedlgnllgldiaaDoorBld
import Derived.Test.YtmedlgnllgldiaaDoorShelf
import Derived.StillTailTactics
import Derived.Deep.RegionWith
namespace Go.Proofs.YtmedlgnllgldiaaDoor
open Go.RowKit

theorem cells_size (s : S8) : s.cells.size = 8 := rfl
theorem cells_one (s : S8) : s.cells.all (·.oneCell') = true := by simp [S8.cells, Value.oneCell']
theorem eight (a b c d e f g h : Value) : (#[a, b, c, d, e, f, g, h] : Array Value).size = 8 := rfl

set_option maxHeartbeats 400000 in
theorem first_any (w : World) :
    Calls Tryd.prog 30 #[] w fun e w' => e = .returned (.agg firstS.cells) ∧ Below w.heap.size w w' := by
  go_enter Tryd.func30, Tryd.ntmps30
  go_wp2_with (with_reducible refine wpList_store8_new rfl _ _ rfl _ (by simp) rfl _ rfl (by simp) (by simp [Value.oneCell']) ?_)
  exact ret_s8 Tryd.results30 w.heap.size _ (by simp) rfl (Arr.new w _ _) rfl ⟨rfl, (Below.refl _ _).alloc (Nat.le_refl _) _⟩

/-- What Mix answers. -/
def zeroS : S8 := ⟨0, 0, 0, 0, 0, 0, 0, 0⟩
def mixR (s : S8) (t : ByteArray) : S8 := if t.size = 64 then mixS s t.data.toList else zeroS
def mixE (t : ByteArray) : Int := if t.size = 64 then 0 else 5
theorem ret_agg_int {k : IntKind} {a b : Value} {c d : Int} (h : a = b) (h2 : c = d) : Ending.returned (.tuple #[a, .int k c]) = .returned (.tuple #[b, .int k d]) := by rw [h, h2]

set_option maxHeartbeats 1000000 in
theorem Mix_any (s : S8) (hs : s.ok) (t : ByteArray) (w : World) (htab : Tab w) :
    Calls Tryd.prog 27 #[.agg s.cells, .string t] w fun e w' => e = .returned (.tuple #[.agg (mixR s t).cells, .int .i64 (mixE t)]) ∧ Below w.heap.size w w' := by
  have HT := Lib.hid htab
  clear htab
  by_cases h : t.size = 64
  · have h1 : ((t.size : Int) != 64) = false := by rw [h]; rfl
    have HC := Lib.hid (fun w htab => mix_any s hs t h w htab)
    have HE := Lib.hid h
    clear h
    go_enter Tryd.func27, Tryd.ntmps27
    have hA := Lib.hid ((Arr.new w s.cells 45).alloc (.cells #[.int .u32 0, .int .u32 0, .int .u32 0, .int .u32 0, .int .u32 0, .int .u32 0, .int .u32 0, .int .u32 0] 45))
    have hT1 := Lib.hid ((HT.out.alloc (.cells s.cells 45)).alloc (.cells #[.int .u32 0, .int .u32 0, .int .u32 0, .int .u32 0, .int .u32 0, .int .u32 0, .int .u32 0, .int .u32 0] 45))
    go_wp2_with (first
      | (with_reducible refine wpList_load8 rfl _ rfl w.heap.size rfl _ (cells_size s) hA.out ?_)
      | (go_at_call 47; ((with_reducible refine (HC.out _ hT1.out).mono ?_); rintro e w' ⟨rfl, hb⟩; have hZ := Lib.hid ((Arr.newAt (w.alloc (.cells s.cells 45)) (g := w.heap.size + 1) _ 45 (by simp)).next hb)))
      | (with_reducible refine wpList_store8 rfl _ _ rfl (w.heap.size + 1) rfl _ rfl (cells_size _) (cells_one _) _ (by simp) hZ.out ?_))
    refine ret_s8_tmp Tryd.results27 (w.heap.size + 1) _ (cells_size _) rfl (hZ.out.row _) rfl _ rfl ⟨?_, ?_⟩
    · exact ret_agg_int (by rw [mixR, if_pos HE.out]) (by rw [mixE, if_pos HE.out])
    · exact below_setRow ((((Below.refl w.heap.size w).alloc (Nat.le_refl _) _).alloc (by simp) _).trans (hb.mono (by simp; omega))) (by omega) _
  · have h1 : ((t.size : Int) != 64) = true := by simp; omega
    have HE := Lib.hid h
    clear h
    go_enter Tryd.func27, Tryd.ntmps27
    have hZ := Lib.hid (Arr.newAt (w.alloc (.cells s.cells 45)) (g := w.heap.size + 1) #[.int .u32 0, .int .u32 0, .int .u32 0, .int .u32 0, .int .u32 0, .int .u32 0, .int .u32 0, .int .u32 0] 45 (by simp))
    go_wp2_with (with_reducible refine wpList_store8 rfl _ _ rfl (w.heap.size + 1) rfl _ rfl (by simp) (by simp [Value.oneCell']) _ (by simp) hZ.out ?_)
    refine ret_s8_tmp Tryd.results27 (w.heap.size + 1) _ (by simp) rfl (hZ.out.row _) rfl _ rfl ⟨?_, ?_⟩
    · exact ret_agg_int (by rw [mixR, if_neg HE.out]; rfl) (by rw [mixE, if_neg HE.out])
    · exact below_setRow (((Below.refl w.heap.size w).alloc (Nat.le_refl _) _).alloc (by simp) _) (by omega) _

theorem ret_str {a b : ByteArray} (h : a = b) : Ending.returned (.string a) = .returned (.string b) := by rw [h]
theorem padZ_num (n : Nat) (_ : n < 18446744073709551616) : wrap64 ((IntKind.u64.wrap (55 - (n : Int))).tmod 64) = ((padZ n : Nat) : Int) := by
  have e : (IntKind.u64.wrap (55 - (n : Int))).tmod 64 = ((padZ n : Nat) : Int) := by
    rw [IntKind.wrap_u64, Int.tmod_eq_emod_of_nonneg (by omega), padZ]; omega
  rw [e]
  exact IntWalk.wrap64_in _ ⟨by omega, by unfold padZ; omega⟩

theorem padZ_lt (n : Nat) : padZ n < 64 := Nat.mod_lt _ (by decide)

set_option maxHeartbeats 400000 in
theorem pad_any (n : Nat) (hn : n < 18446744073709551616) (w : World) :
    Calls Tryd.prog 31 #[.int .u64 n] w fun e w' => e = .returned (.string ⟨(padL n).toArray⟩) ∧ Below w.heap.size w w' := by
  have HP := Lib.hid (padZ_num n hn)
  have h8 := high_any (8 * n % 18446744073709551616) (Nat.mod_lt _ (by decide)) 8
  have e8 : ((8 * n % 18446744073709551616 : Nat) : Int) = IntKind.u64.wrap (8 * (n : Int)) := by rw [IntKind.wrap_u64]; omega
  rw [e8] at h8
  obtain ⟨X, hX⟩ : ∃ X : ByteArray, X = ⟨(lowL (8 * n % 18446744073709551616) (toldN 8)).reverse.toArray⟩ := ⟨_, rfl⟩
  have hX8 := highB_size _ _ X hX
  rw [show toldN 8 = 8 from rfl] at hX8
  have hX9 : X.size ≤ 8 := by omega
  rw [← hX] at h8
  have H8 := Lib.hid h8
  have hz := padZ_lt n
  have HX := Lib.hid hX
  clear h8 e8 hn hX hX8
  go_enter Tryd.func31, Tryd.ntmps31
  go_wp2_with fail
  rw [HP.out]
  have HZ := Lib.hid (show padL n = 128 :: (List.replicate (padZ n) 0 ++ (lowL (8 * n % 18446744073709551616) 8).reverse) from rfl)
  generalize padZ n = z at *
  refine (Tryd.strings_Repeat _ _ _ (by omega) (by show 1 * _ ≤ _; omega)).mono ?_
  rintro e w' ⟨rfl, hb⟩
  rw [show (ByteArray.mk #[0]).data.toList = [(0 : UInt8)] from rfl, repeatL_zero]
  go_wp2_with (go_at_call 38; ((with_reducible refine (H8.out _).mono ?_); rintro e w2 ⟨rfl, hb2⟩))
  go_ret
  refine ⟨?_, Below_next hb hb2⟩
  rw [HZ.out, HX.out, show toldN 8 = 8 from rfl]
  refine ret_str ?_
  apply ByteArray.ext
  simp
end Go.Proofs.YtmedlgnllgldiaaDoor
