/- poly: the table of bits that are kept; the contract of Clamp. -/
import Derived.Test.YtjbhmdlgokoepaaDoorPmF
import Derived.Test.YtjbhmdlgokoepaaDoorPrK
import Derived.Laws.BitsAllLaws
namespace Go.Proofs.YtjbhmdlgokoepaaDoor
open Go.RowKit

def keptL : List UInt8 := [255, 255, 255, 15, 252, 255, 255, 15, 252, 255, 255, 15, 252, 255, 255, 15]
theorem keptL_len : keptL.length = 16 := rfl
/-- The table, where the package lays it. -/
def Kp (w : World) : Prop := ∀ k, k < 16 → w.cell? ⟨0, k, none⟩ = some (.int .u8 ((keptL.getD k 0).toNat : Int))
theorem Kp.lt {w : World} (h : Kp w) : 0 < w.heap.size := block_lt_of_cell (h 0 (by decide))
theorem Kp.alloc {w : World} (h : Kp w) (o : Obj) : Kp (w.alloc o) := fun k hk => by
  rw [← h k hk]; exact World.cell?_of_block (Below.heap_alloc w o _ h.lt)
theorem Kp.below {w w' : World} {B : Nat} (h : Kp w) (hb : Below B w w') (hB : 0 < B) : Kp w' := fun k hk => by
  rw [← h k hk]; exact World.cell?_of_block (hb.block _ hB)
theorem Kp.next {w w' : World} (h : Kp w) (hb : Below w.heap.size w w') : Kp w' := h.below hb h.lt
theorem Kp.drew {w : World} (h : Kp w) : Kp w.drew := h
theorem Kp.drewN {w : World} (h : Kp w) (n : Nat) : Kp (w.drewN n) := h
theorem Kp.fr {g : Nat} {w w' : World} (h : Kp w) (hf : Fr g w w') (hn : 0 ≠ g) : Kp w' := fun k hk => by
  rw [← h k hk]; exact World.cell?_of_block (hf.block _ h.lt hn)
theorem Kp.range {w : World} (h : Kp w) : w.rangeAt 0 0 (u8s keptL) := fun j v hv => by
  have hj : j < 16 := by have := (List.getElem?_eq_some_iff.1 hv).1; rwa [u8s_len, keptL_len] at this
  rw [Nat.zero_add, h j hj, ← hv, u8s_get _ _ (by rw [keptL_len]; exact hj), List.getD_eq_getElem?_getD, List.getElem?_eq_getElem (by rw [keptL_len]; exact hj)]; rfl
theorem wpList_load_kept {ops : Array Oper} {rest : List Oper} {op : Oper} {a : Act} {w : World} {Q : Exit → Act → World → Prop} (hgd : op.guard = none) (ho : op.op = .load 38 (.global 0))
    (hp : Kp w) (KV : Array Value) (hKV : KV = rowB keptL)
    (h : wpList Tryd.prog ops Q rest (a.put op.dst (.agg KV)) w) : wpList Tryd.prog ops Q (op :: rest) a w := by
  subst hKV
  exact wpList_load_mid hgd 38 _ ho 0 0 rfl (u8s keptL) _ hp.range Tryd.underlying38 rfl info_b16 h

theorem and255 (b : Nat) (h : b < 256) : 255 &&& b = b := by rw [Nat.and_comm, show (255 : Nat) = 2 ^ 8 - 1 from rfl, Nat.and_two_pow_sub_one_eq_mod]; omega
theorem and15 (b : Nat) : 15 &&& b = b % 16 := by rw [Nat.and_comm, show (15 : Nat) = 2 ^ 4 - 1 from rfl, Nat.and_two_pow_sub_one_eq_mod]
theorem and252 : ∀ b, b < 256 → 252 &&& b = b / 4 * 4 := by decide +kernel
theorem clamp_bits (k : Nat) (hk : k < 16) (b : UInt8) : bits .and .u8 ((keptL.getD k 0).toNat : Int) (b.toNat : Int) = ((clampB k b).toNat : Int) := by
  have hb := b.toNat_lt
  have e : ∀ n : UInt8, bits .and .u8 (n.toNat : Int) (b.toNat : Int) = ((n.toNat &&& b.toNat : Nat) : Int) := fun n => u8_and_nat _ _ n.toNat_lt hb
  rw [e]
  congr 1
  have e16 : (b % 16).toNat = b.toNat % 16 := by rw [UInt8.toNat_mod]; rfl
  have e4 : (b / 4 * 4).toNat = b.toNat / 4 * 4 := by rw [UInt8.toNat_mul, UInt8.toNat_div]; show b.toNat / 4 * 4 % 256 = _; omega
  have h255 := and255 b.toNat hb
  have h15 := and15 b.toNat
  have h252 := and252 b.toNat hb
  rcases (show k = 0 ∨ k = 1 ∨ k = 2 ∨ k = 3 ∨ k = 4 ∨ k = 5 ∨ k = 6 ∨ k = 7 ∨ k = 8 ∨ k = 9 ∨ k = 10 ∨ k = 11 ∨ k = 12 ∨ k = 13 ∨ k = 14 ∨ k = 15 by omega) with h | h | h | h | h | h | h | h | h | h | h | h | h | h | h | h <;> subst h <;>
    first
      | exact h255
      | exact h15.trans e16.symm
      | exact h252.trans e4.symm
/-- What is known behind k bytes. -/
structure Cla (r : List UInt8) (out : List UInt8) (k : Nat) : Prop where
  len : out.length = 16
  hi : ∀ j, k ≤ j → out.getD j 0 = keptL.getD j 0
  lo : ∀ j, j < k → out.getD j 0 = clampB j (r.getD j 0)
theorem getD_setU (l : List UInt8) (k : Nat) (x : UInt8) (j : Nat) (h : k < l.length) : (l.set k x).getD j 0 = if j = k then x else l.getD j 0 := by
  rw [List.getD_eq_getElem?_getD, List.getElem?_set]
  by_cases hj : k = j
  · subst hj; simp [h]
  · rw [if_neg hj, if_neg (Ne.symm hj), ← List.getD_eq_getElem?_getD]
theorem Cla.start (r : List UInt8) : Cla r keptL 0 := ⟨rfl, fun _ _ => rfl, fun _ h => absurd h (by omega)⟩
theorem Cla.step {r out : List UInt8} {k : Nat} (h : Cla r out k) (hk : k < 16) : Cla r (out.set k (clampB k (r.getD k 0))) (k + 1) := by
  refine ⟨by simp [h.len], fun j hj => ?_, fun j hj => ?_⟩
  · rw [getD_setU _ _ _ _ (by rw [h.len]; omega), if_neg (by omega), h.hi j (by omega)]
  · rw [getD_setU _ _ _ _ (by rw [h.len]; omega)]
    by_cases e : j = k
    · rw [if_pos e, e]
    · rw [if_neg e]; exact h.lo j (by omega)
theorem Cla.fin {r out : List UInt8} (h : Cla r out 16) : out = clampL r := by
  apply List.ext_getElem (by rw [h.len, clampL_len])
  intro i h1 h2
  rw [h.len] at h1
  have := h.lo i h1
  rw [← clampK_get r 16 i h1, List.getD_eq_getElem?_getD, List.getElem?_eq_getElem (by rw [h.len]; exact h1), List.getD_eq_getElem?_getD, List.getElem?_eq_getElem (by rw [clampK_len]; exact h1)] at this
  exact this
theorem rowB_get {l : List UInt8} {k : Nat} (h : k < l.length) : (rowB l)[k]? = some (.int .u8 ((l.getD k 0).toNat : Int)) := by
  rw [rowB, List.getElem?_toArray, u8s_get l k h, List.getD_eq_getElem?_getD, List.getElem?_eq_getElem h]; rfl
theorem rowB_set (l : List UInt8) (k : Nat) (b : UInt8) : (rowB l).setIfInBounds k (.int .u8 (b.toNat : Int)) = rowB (l.set k b) := by
  rw [rowB, rowB, List.setIfInBounds_toArray, u8s_set]
theorem rowB_size (l : List UInt8) : (rowB l).size = l.length := by simp [rowB, u8s_len]
theorem rowB_one (l : List UInt8) : (rowB l).all (·.oneCell') = true := by simp [rowB, u8s, Value.oneCell']

set_option maxHeartbeats 1000000 in
set_option maxRecDepth 100000 in
theorem clamp_ok (s : ByteArray) (hs : s.size = 16) (w : World) (hp : Kp w) :
    Calls Tryd.prog 12 #[.string s] w fun e w' => e = .returned (.tuple #[.string ⟨(clampL s.data.toList).toArray⟩, .int .i64 0]) ∧ Below w.heap.size w w' := by
  have e1 : ((s.size : Int) != 16) = false := by rw [hs]; rfl
  obtain ⟨KV, hKV⟩ : ∃ KV, KV = rowB keptL := ⟨_, rfl⟩
  have hK16 : KV.size = 16 := by rw [hKV]; rfl
  have hK1 : KV.all (·.oneCell') = true := by rw [hKV]; exact rowB_one _
  have HKV := Lib.hid hKV
  have HP := Lib.hid hp
  have HS := Lib.hid hs
  clear hKV hp hs
  go_enter Tryd.func12, Tryd.ntmps12
  go_wp2_with (first
    | (with_reducible refine wpList_load_kept rfl rfl HP.out _ HKV.out ?_)
    | (with_reducible refine wpList_store_b16_new rfl _ _ rfl _ (by simp) _ rfl rfl _ rfl hK16 hK1 ?_))
  have HA := Lib.hid (Arr.new w KV 38)
  have HB := Lib.hid ((Below.refl w.heap.size w).alloc (Nat.le_refl _) (.cells KV 38))
  generalize w.alloc (.cells KV 38) = w1 at *
  rw [HKV.out] at HA
  clear hK16 hK1
  go_loopw [10] (fun i wr => ∃ (k : Nat) (out : List UInt8), k ≤ 16 ∧ i = .int .i64 (k : Int) ∧ Cla s.data.toList out k ∧ Arr wr w.heap.size (rowB out) 38 ∧ Below w.heap.size w wr) (fun i _ => 16 - (intOf i).toNat)
  case atStart => exact ⟨0, keptL, by omega, rfl, Cla.start _, HA.out, HB.out⟩
  case round =>
    clear HA HB
    obtain ⟨k, out, hk, rfl, hc, ha, hbel⟩ := hrel
    have HA := Lib.hid ha
    have HBel := Lib.hid hbel
    by_cases hlt : k < 16
    · have c1 := ha.cell (rowB_get (l := out) (k := k) (by rw [hc.len]; exact hlt))
      have f1 := ha.frozen k
      rw [hc.hi k (Nat.le_refl _)] at c1
      have hks : k < s.size := by rw [HS.out]; exact hlt
      have e2 := clamp_bits k hlt s[k]
      have hst := hc.step hlt
      rw [show s.data.toList.getD k 0 = s[k] by rw [List.getD_eq_getElem?_getD, List.getElem?_eq_getElem (by simpa using hks)]; rfl] at hst
      have HSt := Lib.hid hst
      clear hc ha hbel hst
      have k0 : (0 : Int) ≤ (k : Int) := by omega
      have k16 : (k : Int) < 16 := by omega
      generalize (keptL.getD k 0) = KK at *
      go_wp2
      go_region
      all_goals
        go_wp2
        have hs := HA.out.set k (.int .u8 ((clampB k s[k]).toNat : Int))
        rw [rowB_set] at hs
        exact ⟨⟨k + 1, _, by omega, by go_num, HSt.out, hs, (HBel.out.setCell (p := ⟨w.heap.size, k, none⟩) (Nat.le_refl _) _).drew⟩, by simp [intOf]; omega⟩
    · obtain rfl : k = 16 := by omega
      have a3 := arr16_all w.heap.size 0
      have cv := conv_rowB ha hc.len
      rw [hc.fin] at cv
      clear hc hbel ha HA
      go_wp2
      go_ret2
      exact ⟨rfl, HBel.out⟩
theorem clamp_no (s : ByteArray) (hs : s.size ≠ 16) (w : World) :
    Calls Tryd.prog 12 #[.string s] w fun e w' => e = .returned (.tuple #[.string ByteArray.empty, .int .i64 5]) ∧ w = w' := by
  have e1 : ((s.size : Int) != 16) = true := by simp; omega
  clear hs
  go_enter Tryd.func12, Tryd.ntmps12
  go_wp2
  go_ret2
  exact ⟨rfl, rfl⟩
end Go.Proofs.YtjbhmdlgokoepaaDoor
