/- chacha: the contracts of begin, told, Block. -/
import Derived.Test.YtebhmcnocpblkaaDoorChS
import Derived.Test.YtebhmcnocpblkaaDoorBld
namespace Go.Proofs.YtebhmcnocpblkaaDoor
open Go.RowKit

/-- Numbers, and as many 0 as lack. -/
def padN (l : List Nat) : List Nat := l ++ List.replicate (16 - l.length) 0
theorem padN_full (l : List Nat) (h : l.length = 16) : padN l = l := by simp [padN, h]
theorem padN_set (l : List Nat) (x : Nat) (h : l.length < 16) : (padN l).set l.length x = padN (l ++ [x]) := by
  obtain ⟨m, hm⟩ : ∃ m, 16 - l.length = m + 1 := ⟨15 - l.length, by omega⟩
  have hm2 : 16 - (l ++ [x]).length = m := by rw [List.length_append]; simp; omega
  rw [padN, padN, hm, hm2, List.set_append_right _ _ (Nat.le_refl _), Nat.sub_self, List.replicate_succ]
  simp
theorem padN_at (l : List Nat) (h : l.length < 16) : (row16 (padN l))[l.length]? = some (.int .u32 0) := by
  have hl : (padN l).length = 16 := by simp [padN]; omega
  rw [row16_get (by omega), List.getD_eq_getElem?_getD, padN, List.getElem?_append_right (Nat.le_refl _), Nat.sub_self, List.getElem?_replicate, if_pos (by omega)]
  rfl
theorem row16_pad0 : row16 (padN []) = #[.int .u32 0, .int .u32 0, .int .u32 0, .int .u32 0, .int .u32 0, .int .u32 0, .int .u32 0, .int .u32 0, .int .u32 0, .int .u32 0, .int .u32 0, .int .u32 0, .int .u32 0, .int .u32 0, .int .u32 0, .int .u32 0] := rfl

theorem wrapN64 (x : Nat) (hx : x < 4294967296) : IntKind.u64.wrap (x : Int) = (x : Int) := by rw [IntKind.wrap_u64]; omega
theorem low4_any (x : Nat) (hx : x < 4294967296) (w : World) :
    Calls Tryd.prog 36 #[.int .u64 x, .int .i64 4] w fun e w' => e = .returned (.string ⟨(lowL x 4).toArray⟩) ∧ Below w.heap.size w w' := low_any x (by omega) 4 w
theorem fromLow_part (s : ByteArray) (hs : s.size = 64) (k : Nat) (hk : k < 16) (w : World) :
    Calls Tryd.prog 37 #[.string (s.extract (4 * k) (4 * (k + 1)))] w fun e w' => e = .returned (.tuple #[.int .u64 (num4 s.data.toList k : Nat), .int .i64 0]) ∧ w = w' := by
  have h := fromLow_any (s.extract (4 * k) (4 * (k + 1))) w
  have hz : (s.extract (4 * k) (4 * (k + 1))).size = 4 := by rw [ext_size _ _ _ (by omega)]; omega
  rw [hz, ext_toList, show 4 * (k + 1) - 4 * k = 4 from by omega] at h
  exact h

set_option maxHeartbeats 1000000 in
set_option maxRecDepth 100000 in
theorem begin_any (key nonce : ByteArray) (hk : key.size = 32) (hn : nonce.size = 12) (c : Nat) (hc : c < 4294967296) (w : World) :
    Calls Tryd.prog 25 #[.string key, .int .u32 (c : Int), .string nonce] w fun e w' => e = .returned (.agg (row16 (firstL key.data.toList c nonce.data.toList))) ∧ Below w.heap.size w w' := by
  have hlow := low4_any c hc
  obtain ⟨L, hL⟩ : ∃ L : ByteArray, L = ⟨(lowL c 4).toArray⟩ := ⟨_, rfl⟩
  have hLs : L.size = 4 := by rw [hL]; show (lowL c 4).toArray.size = 4; rw [List.size_toArray, lowL_len]
  have hLl : L.data.toList = lowL c 4 := by rw [hL]
  rw [← hL] at hlow
  have HLow := Lib.hid hlow
  have hr1 : ∀ w : World, (Op.stringOp .add ⟨#[101, 120, 112, 97, 110, 100, 32, 51, 50, 45, 98, 121, 116, 101, 32, 107]⟩ key).run Tryd.prog w = .ok (.string (⟨#[101, 120, 112, 97, 110, 100, 32, 51, 50, 45, 98, 121, 116, 101, 32, 107]⟩ ++ key)) w := fun w => cat_run _ key (by rw [hk]; decide) w
  obtain ⟨T1, hT1⟩ : ∃ T1 : ByteArray, T1 = ⟨#[101, 120, 112, 97, 110, 100, 32, 51, 50, 45, 98, 121, 116, 101, 32, 107]⟩ ++ key := ⟨_, rfl⟩
  have hT1s : T1.size = 48 := by rw [hT1, ByteArray.size_append, hk]; rfl
  have hT1l : T1.data.toList = headB ++ key.data.toList := by rw [hT1]; simp [headB]
  rw [← hT1] at hr1
  have hr2 : ∀ w : World, (Op.stringOp .add T1 L).run Tryd.prog w = .ok (.string (T1 ++ L)) w := fun w => cat_run T1 L (by omega) w
  obtain ⟨T2, hT2⟩ : ∃ T2, T2 = T1 ++ L := ⟨_, rfl⟩
  have hT2s : T2.size = 52 := by rw [hT2, ByteArray.size_append]; omega
  have hT2l : T2.data.toList = headB ++ key.data.toList ++ lowL c 4 := by rw [hT2, ← hT1l, ← hLl]; simp
  rw [← hT2] at hr2
  have hr3 : ∀ w : World, (Op.stringOp .add T2 nonce).run Tryd.prog w = .ok (.string (T2 ++ nonce)) w := fun w => cat_run T2 nonce (by omega) w
  obtain ⟨T, hT⟩ : ∃ T, T = T2 ++ nonce := ⟨_, rfl⟩
  have hTs : T.size = 64 := by rw [hT, ByteArray.size_append]; omega
  have hTl : T.data.toList = textL key.data.toList c nonce.data.toList := by rw [hT, textL, ← hT2l]; simp
  rw [← hT] at hr3
  have hfl : ∀ n, n = 16 → row16 (numsL T.data.toList n) = row16 (firstL key.data.toList c nonce.data.toList) := fun n h => by rw [h, hTl]; rfl
  obtain ⟨Z, hZ⟩ : ∃ Z, Z = row16 (firstL key.data.toList c nonce.data.toList) := ⟨_, rfl⟩
  rw [← hZ] at hfl ⊢
  have HFL := Lib.hid hfl
  have HTs := Lib.hid hTs
  have hcu := wrapN64 c hc
  have HZ0 := Lib.hid row16_pad0
  have HG := Lib.hid (Nat.le_refl w.heap.size)
  clear hL hLs hLl hlow hT1 hT1s hT1l hT2 hT2s hT2l hT hTl hTs hfl hZ hk hn hc
  go_enter Tryd.func25, Tryd.ntmps25
  go_wp2_with (first
    | (go_at_call 36; (with_reducible refine (HLow.out _).mono ?_); rintro e w1 ⟨rfl, hb⟩))
  rw [← HZ0.out] at hb ⊢
  have HA0 := Lib.hid (((Arr.new w (row16 (padN [])) 48).next hb).alloc (.cells (row16 (padN [])) 48))
  have HA1 := Lib.hid (Arr.new w1 (row16 (padN [])) 48)
  have hsz : w.heap.size < w1.heap.size := by have := hb.size; simp at this; omega
  have HB := Lib.hid ((((Below.refl w.heap.size w).alloc (Nat.le_refl _) (.cells (row16 (padN [])) 48)).trans (hb.mono (by simp))).alloc (Nat.le_of_lt hsz) (.cells (row16 (padN [])) 48))
  obtain ⟨g, hg⟩ : ∃ g, g = w1.heap.size := ⟨_, rfl⟩
  rw [← hg] at hsz HA1 ⊢
  generalize w1.alloc (.cells (row16 (padN [])) 48) = w2 at *
  clear hb hg hcu
  go_loopw [20] (fun i wr => ∃ k : Nat, k ≤ 16 ∧ i = .int .i64 (k : Int) ∧ Arr wr w.heap.size (row16 (padN [])) 48 ∧ Arr wr g (row16 (padN (numsL T.data.toList k))) 48 ∧ Below w.heap.size w wr) (fun i _ => 16 - (intOf i).toNat)
  case atStart => exact ⟨0, by omega, rfl, HA0.out, HA1.out, HB.out⟩
  case round =>
    clear HA0 HA1 HB
    obtain ⟨k, hk, rfl, ha, hr, hbel⟩ := hrel
    by_cases hlt : k < 16
    · have hsl := slice_str T (4 * (k : Int)) (4 * ((k : Int) + 1)) (4 * k) (4 * (k + 1)) (by omega) (by omega) (by omega) (by rw [HTs.out]; omega)
      have HF := Lib.hid (fromLow_part T HTs.out k hlt)
      have hl := numsL_len T.data.toList k
      have hc := hr.cell (by have := padN_at (numsL T.data.toList k) (by omega); rwa [hl] at this)
      have hf := hr.frozen k
      have hr2 := hr.set k (.int .u32 (num4 T.data.toList k : Nat))
      have hs2 := padN_set (numsL T.data.toList k) (num4 T.data.toList k) (by omega)
      rw [hl, ← numsL_succ] at hs2
      rw [row16_set, hs2] at hr2
      have HR := Lib.hid hr2
      have HA := Lib.hid ha
      have hx := num4_lt T.data.toList k
      have HX : Hid ((num4 T.data.toList k : Int) % 4294967296 = (num4 T.data.toList k : Int)) := by show _ = _; omega
      have HBel := Lib.hid hbel
      clear hl hr hs2 hr2 ha hx hbel
      generalize num4 T.data.toList k = x at *
      go_wp2_with (go_at_call 37; ((with_reducible refine (HF.out _).mono ?_); rintro e w' ⟨rfl, rfl⟩))
      go_roundw
      case rel => exact ⟨k + 1, by omega, by go_num, Arr.other HA.out _ _ (by simp only; omega), by rw [HX.out]; exact HR.out, HBel.out.setCell (by simp only; omega) _⟩
      case measure => simp [intOf]; omega
    · obtain rfl : k = 16 := by omega
      have hl := numsL_len T.data.toList 16
      rw [padN_full _ hl, HFL.out 16 rfl] at hr
      have hZs : Z.size = 16 := by rw [← HFL.out 16 rfl]; exact row16_size hl
      have hZo : Z.all (·.oneCell') = true := by rw [← HFL.out 16 rfl]; exact row16_one _
      have HZs := Lib.hid hZs
      have HZo := Lib.hid hZo
      have HR := Lib.hid hr
      have HA := Lib.hid ha
      have HP := Lib.hid (row16_size (x := padN []) rfl)
      have HBel := Lib.hid hbel
      clear hZs hZo hr ha hl hbel HFL HZ0
      generalize row16 (padN []) = Z0 at *
      go_wp2_with (first
        | (with_reducible refine wpList_load_n16 rfl _ rfl g rfl _ HZs.out HR.out ?_)
        | (with_reducible refine wpList_store_n16 rfl _ _ rfl w.heap.size rfl _ rfl HZs.out HZo.out _ HP.out HA.out ?_))
      exact ret_n16 Tryd.results25 w.heap.size _ HZs.out rfl (HA.out.row _) rfl ⟨rfl, below_setRow HBel.out (Nat.le_refl _) _⟩

theorem bstr (l : List UInt8) (A : ByteArray) (h : A = ⟨l.toArray⟩) : A.data.toList = l := by rw [h]
set_option maxHeartbeats 1000000 in
set_option maxRecDepth 100000 in
theorem told16_any (x : List Nat) (hx : All32 x) (w : World) :
    Calls Tryd.prog 23 #[.agg (row16 x)] w fun e w' => e = .returned (.string ⟨(toldL x).toArray⟩) ∧ Below w.heap.size w w' := by
  have HX := Lib.hid hx
  obtain ⟨R, hR⟩ : ∃ R, R = row16 x := ⟨_, rfl⟩
  have HRz : Hid (R.size = 16) := by rw [hR]; exact row16_size hx.1
  have hidx : ∀ k : Nat, k < 16 → ∀ w : World, (Instr.index 48 (.agg R) (.int .i64 (k : Int))).run Tryd.prog w = .ok (.int .u32 ((x.getD k 0 : Nat) : Int)) w := by
    intro k hk w
    have hag : (isAgg 22).run Tryd.prog w = .ok false w := by
      unfold isAgg; rw [Sem.run_bind, run_underlying Tryd.underlying22 w]; rfl
    have hu : Tryd.prog.underlying 48 = some (.array 16 22) := by kernel_rfl
    have hsz : (sizeOf 22).run Tryd.prog w = .ok 1 w := Tryd.sizeOf22 w
    have hc : (0 : Int) ≤ (k : Int) ∧ (k : Int) < ((16 : Nat) : Int) := by omega
    have hg : R[k]? = some (.int .u32 ((x.getD k 0 : Nat) : Int)) := by rw [hR]; exact row16_get (by rw [hx.1]; exact hk)
    simp only [Instr.index, asIntOf, Sem.run_bind, Sem.run_pure, Result.andThen_ok, run_underlying hu, if_pos hc, hsz, part, hag, Int.toNat_natCast, Nat.mul_one, hg]
    rfl
  have HIX := Lib.hid hidx
  have HA0 := Lib.hid ((Arr.new w R 48).alloc (.cells #[.pointer none, .slice none 0 0] 58))
  rw [← hR]
  clear hx hidx hR
  go_enter Tryd.func23, Tryd.ntmps23
  go_wp2_with (first
    | (with_reducible refine wpList_load_n16 rfl _ rfl w.heap.size rfl _ HRz.out HA0.out ?_))
  clear HA0
  have HB0 := Lib.hid (Bld.new (w.alloc (.cells R 48)) w.heap.size (by simp))
  rw [show (w.alloc (.cells R 48)).heap.size = w.heap.size + 1 by simp] at HB0
  have HBel0 := Lib.hid (((Below.refl w.heap.size w).alloc (Nat.le_refl _) (.cells R 48)).alloc (by simp) (.cells #[.pointer none, .slice none 0 0] 58))
  generalize (w.alloc (.cells R 48)).alloc (.cells #[.pointer none, .slice none 0 0] 58) = w2 at *
  generalize w.heap.size + 1 = b at *
  have HT := Lib.hid (fun k => toldL_take x k)
  have HTl := Lib.hid (fun k => toldL_len (x.take k))
  go_loopw [7] (fun i wr => ∃ k : Nat, k ≤ 16 ∧ i = .int .i64 (k : Int) ∧ Bld wr w.heap.size b (toldL (x.take k)) ∧ Below w.heap.size w wr) (fun i _ => 16 - (intOf i).toNat)
  case atStart => exact ⟨0, by omega, rfl, HB0.out, HBel0.out⟩
  case round =>
    clear HB0 HBel0
    obtain ⟨k, hk, rfl, hbl, hbel⟩ := hrel
    by_cases hlt : k < 16
    · have hix := HIX.out k hlt
      have hts := HT.out k (by rw [HX.out.1]; exact hlt)
      have hn := HX.out.2 k
      have hlen := HTl.out k
      rw [List.length_take, HX.out.1] at hlen
      have hlow := low4_any (x.getD k 0) hn
      obtain ⟨L, hL⟩ : ∃ L : ByteArray, L = ⟨(lowL (x.getD k 0) 4).toArray⟩ := ⟨_, rfl⟩
      have hLs : L.size = 4 := by rw [hL]; show (lowL (x.getD k 0) 4).toArray.size = 4; rw [List.size_toArray, lowL_len]
      rw [← bstr _ L hL] at hts
      rw [← hL] at hlow
      have HLow := Lib.hid hlow
      have hnu := wrapN64 _ hn
      have HTs := Lib.hid hts
      have HBl := Lib.hid hbl
      have HBel := Lib.hid hbel
      have HLen := Lib.hid (show (toldL (x.take k)).length + L.size ≤ 140737488355328 by omega)
      clear hlow hts hbl hbel hL hLs hlen hn
      generalize x.getD k 0 = n at *
      generalize toldL (x.take k) = l at *
      go_wp2_with (first
        | (go_at_call 36; (with_reducible refine (HLow.out _).mono ?_); rintro e w3 ⟨rfl, hb3⟩; have HW3 := Lib.hid (writeString_any w.heap.size b l L w3 (HBl.out.next hb3) HLen.out (Nat.le_trans HBel.out.size hb3.size)))
        | (go_at_call 30; (with_reducible refine HW3.out.mono ?_); rintro e w4 ⟨rfl, hbl4, hb4⟩))
      go_roundw
      case rel => exact ⟨k + 1, hlt, by go_num, by rw [HTs.out]; exact hbl4, (HBel.out.trans (hb3.mono HBel.out.size)).trans hb4⟩
      case measure => simp [intOf]; omega
    · obtain rfl : k = 16 := by omega
      rw [List.take_of_length_le (by rw [HX.out.1]; exact Nat.le_refl _)] at hbl
      have HStr := Lib.hid (bldString_any w.heap.size b (toldL x) wr hbl hbel.size)
      have HBel := Lib.hid hbel
      clear hbl hbel
      go_wp2_with (first
        | (go_at_call 31; (with_reducible refine HStr.out.mono ?_); rintro e w4 ⟨rfl, hb4⟩))
      go_ret
      exact ⟨rfl, HBel.out.trans hb4⟩
end Go.Proofs.YtebhmcnocpblkaaDoor
