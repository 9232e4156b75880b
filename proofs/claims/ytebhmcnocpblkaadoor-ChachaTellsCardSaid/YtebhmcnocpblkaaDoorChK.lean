/- chacha: the layer's law's own first calls. -/
import Derived.Test.YtebhmcnocpblkaaDoorChC
import Derived.Test.YtebhmcnocpblkaaDoorLg4
import Derived.Test.YtebhmcnocpblkaaDoorEqa
import Derived.KernelRfl
namespace Go.Proofs.YtebhmcnocpblkaaDoor
open Go.RowKit

def zk : List UInt8 := List.replicate 32 0
def zn : List UInt8 := List.replicate 12 0
theorem blk_zero : (blockL zk 0 zn).take 4 = [118, 184, 224, 173] := by decide +kernel
theorem str_zero : xorL [97, 98] (strmL zk 0 zn 2) = [23, 218] := by decide +kernel
theorem stir_ex : stirQ ⟨286331153, 16909060, 2609737539, 19088743⟩ = ⟨3928658676, 3407673550, 1166100270, 1484899515⟩ := by
  have h : (stirQ ⟨286331153, 16909060, 2609737539, 19088743⟩).a = 3928658676 ∧ (stirQ ⟨286331153, 16909060, 2609737539, 19088743⟩).b = 3407673550 ∧ (stirQ ⟨286331153, 16909060, 2609737539, 19088743⟩).c = 1166100270 ∧ (stirQ ⟨286331153, 16909060, 2609737539, 19088743⟩).d = 1484899515 := by decide +kernel
  generalize stirQ ⟨286331153, 16909060, 2609737539, 19088743⟩ = q at *
  obtain ⟨a, b, c, d⟩ := q
  obtain ⟨h1, h2, h3, h4⟩ := h
  simp only at h1 h2 h3 h4
  rw [h1, h2, h3, h4]

/-- New bytes 0, and the string of them. -/
def zrow (n : Nat) : Array Value := (u8s (List.replicate n 0)).toArray
theorem madeZ (n : Nat) : madeCells #[Value.int .u8 0] n = zrow n := by
  apply Array.ext'
  rw [u8s_zeros, zrow]
theorem makeZ (n : Nat) (hn : n ≤ 16777216) (w : World) : (Instr.makeSlice 38 (.int .i64 (n : Int)) (.int .i64 (n : Int))).run Tryd.prog w = .ok (.slice (some ⟨w.heap.size, 0, none⟩) n n) (w.alloc (.cells (zrow n) 5)) := by
  obtain ⟨i0, hi, hz0, hz1, hz2⟩ := info_parts Tryd.infoU8
  have := run_makeSlice (P := Tryd.prog) w 38 5 i0 (.int .u8 0) Tryd.underlying38 hi hz0 .i64 .i64 n n (by omega) (by omega) (by rw [hz1]; omega) (by rw [hz2]; omega) (by omega)
  rw [hz1, Int.toNat_natCast, Nat.mul_one] at this
  rw [← madeZ]
  exact this
theorem convZ (n : Nat) (w : World) : (convert 38 9 (.slice (some ⟨w.heap.size, 0, none⟩) n n)).run Tryd.prog (w.alloc (.cells (zrow n) 5)) = .ok (.string (zeros n)) (w.alloc (.cells (zrow n) 5)) := by
  have := conv_cells (w.alloc (.cells (zrow n) 5)) ⟨w.heap.size, 0, none⟩ (List.replicate n 0) n (fun j v hv => by
    rw [addr_add, Nat.zero_add]; exact (Arr.new w (zrow n) 5).cell (by rw [zrow, List.getElem?_toArray]; exact hv))
  rw [List.length_replicate] at this
  rw [this, zeros]
  simp
theorem convZg (n : Nat) (w : World) (g : Nat) (hg : g = w.heap.size) : (convert 38 9 (.slice (some ⟨g, 0, none⟩) n n)).run Tryd.prog (w.alloc (.cells (zrow n) 5)) = .ok (.string (zeros n)) (w.alloc (.cells (zrow n) 5)) := by
  subst hg; exact convZ n w
theorem zeros_list (n : Nat) : (zeros n).data.toList = List.replicate n 0 := by simp [zeros]
theorem sz_zero : szB (zeros 32) (zeros 12) = true := szB_mk (zeros_size 32) (zeros_size 12)

theorem stir_ex_any (w : World) : Calls Tryd.prog 11 #[.agg #[.int .u32 286331153, .int .u32 16909060, .int .u32 2609737539, .int .u32 19088743]] w fun e w' => e = .returned (.agg #[.int .u32 3928658676, .int .u32 3407673550, .int .u32 1166100270, .int .u32 1484899515]) ∧ Below w.heap.size w w' :=
  (stir_any ⟨286331153, 16909060, 2609737539, 19088743⟩ (by refine ⟨?_, ?_, ?_, ?_⟩ <;> decide) w).mono fun _ _ ⟨h, k⟩ => ⟨h.trans (by rw [stir_ex]; rfl), k⟩
theorem eq_ex (w : World) : (Op.equalIn 10000 23 (.agg #[.int .u32 3928658676, .int .u32 3407673550, .int .u32 1166100270, .int .u32 1484899515]) (.agg #[.int .u32 3928658676, .int .u32 3407673550, .int .u32 1166100270, .int .u32 1484899515])).run Tryd.prog w = .ok true w :=
  equalIn_ints w 9998 23 22 4 .u32 [3928658676, 3407673550, 1166100270, 1484899515] Tryd.underlying23 Tryd.underlying22 Tryd.isAgg22 Tryd.sizeOf22 rfl

set_option maxHeartbeats 1000000 in
set_option maxRecDepth 100000 in
theorem awake4_any (w : World) (hp : Pl w) : Calls Tryd.prog 9 #[] w fun e w' => e = .returned (.bool true) ∧ Below w.heap.size w w' := by
  have HP := Lib.hid hp
  clear hp
  have HSt := Lib.hid stir_ex_any
  have HEq := Lib.hid eq_ex
  have mk32 := makeZ 32 (by decide)
  have mk12 := makeZ 12 (by decide)
  have cv32 := convZg 32
  have cv12 := convZg 12
  generalize zrow 32 = Z32 at *
  generalize zrow 12 = Z12 at *
  have HBk := Lib.hid (fun w hp => block_ok (zeros 32) (zeros 12) sz_zero 0 (by decide) w hp)
  have HSm := Lib.hid (fun w hp => stream_ok (zeros 32) (zeros 12) sz_zero 0 (by decide) 70 (by decide) w hp)
  have HTn := Lib.hid (fun w hp => turn_ok (zeros 32) (zeros 12) sz_zero 0 (by decide) ⟨#[97, 98]⟩ (by decide) w hp)
  have HBn := Lib.hid (fun w => block_no ⟨#[]⟩ (zeros 12) (by simp [szB]; intro h; cases h) 0 w)
  have HSn := Lib.hid (fun w => stream_no (zeros 32) (zeros 12) 0 (-1) (by omega) w)
  have hbs := blkB_size (zeros 32) 0 (zeros 12)
  have hss := strmB_size (zeros 32) 0 (zeros 12) 70
  have hb4 := slice_to (blkB (zeros 32) 0 (zeros 12)) 4 (by rw [hbs]; decide)
  have e4 : (blkB (zeros 32) 0 (zeros 12)).extract 0 4 = ⟨#[118, 184, 224, 173]⟩ := by
    apply ByteArray.ext
    apply Array.ext'
    rw [ext_toList, blkB_list, zeros_list, zeros_list, List.drop_zero]
    exact blk_zero
  rw [e4] at hb4
  have hs64 := slice_to (strmB (zeros 32) 0 (zeros 12) 70) 64 (by rw [hss]; decide)
  have e64 : (strmB (zeros 32) 0 (zeros 12) 70).extract 0 64 = blkB (zeros 32) 0 (zeros 12) := by
    apply ByteArray.ext
    apply Array.ext'
    rw [ext_toList, strmB_list, blkB_list, List.drop_zero, Nat.sub_zero, strmL_take _ _ _ _ _ (by decide), ← strmL_of _ _ _ 64 1 (by decide), List.take_of_length_le (by rw [stL_len]; decide)]
    rw [stL, stL, List.nil_append]
  rw [e64] at hs64
  have et : (⟨(xorL (ByteArray.mk #[97, 98]).data.toList (strmL (zeros 32).data.toList 0 (zeros 12).data.toList (ByteArray.mk #[97, 98]).size)).toArray⟩ : ByteArray) = ⟨#[23, 218]⟩ := by
    rw [zeros_list, zeros_list]
    exact congrArg (fun l : List UInt8 => (⟨l.toArray⟩ : ByteArray)) str_zero
  rw [et] at HTn
  clear e4 e64 et
  rw [show ((32 : Nat) : Int) = 32 from rfl] at mk32
  rw [show ((12 : Nat) : Int) = 12 from rfl] at mk12
  rw [show ((4 : Nat) : Int) = 4 from rfl] at hb4
  rw [show ((64 : Nat) : Int) = 64 from rfl] at hs64
  rw [show ((0 : Nat) : Int) = 0 from rfl] at HBk HSm HTn HBn HSn
  rw [show ((70 : Nat) : Int) = 70 from rfl] at HSm
  generalize blkB (zeros 32) 0 (zeros 12) = B at *
  generalize strmB (zeros 32) 0 (zeros 12) 70 = S at *
  generalize zeros 32 = K at *
  generalize zeros 12 = N at *
  go_enter Tryd.func9, Tryd.ntmps9
  go_wp2_with fail
  refine (HSt.out _).mono ?_
  rintro e w1 ⟨rfl, hb1⟩
  have HP1 := Lib.hid (HP.out.next hb1)
  have HB1 := Lib.hid hb1
  clear hb1
  go_wp2_with fail
  refine (HBk.out _ ?_).mono ?_
  · exact ((HP1.out.alloc _).alloc _).alloc _
  rintro e w2 ⟨rfl, hb⟩
  have HQ2 := Lib.hid ((((Arr.new w1 #[.int .u32 3928658676, .int .u32 3407673550, .int .u32 1166100270, .int .u32 1484899515] 23).alloc _).alloc _).next hb)
  have HP2 := Lib.hid ((((HP1.out.alloc _).alloc _).alloc _).next hb)
  have HB2 : Hid (Below w.heap.size w w2) := (((HB1.out.alloc HB1.out.size _).alloc (by have := HB1.out.size; simp; omega) _).alloc (by have := HB1.out.size; simp; omega) _).trans (hb.mono (by have := HB1.out.size; simp; omega))
  obtain ⟨g1, hg1⟩ : ∃ g1, g1 = w1.heap.size := ⟨_, rfl⟩
  rw [← hg1] at HQ2 ⊢
  clear hb hg1
  go_wp2_with fail
  refine (HSm.out _ HP2.out).mono ?_
  rintro e w3 ⟨rfl, hb⟩
  have HQ3 := Lib.hid (HQ2.out.next hb)
  have HP3 := Lib.hid (HP2.out.next hb)
  have HB3 := Lib.hid (HB2.out.trans (hb.mono HB2.out.size))
  clear hb
  go_wp2_with fail
  refine (HTn.out _ HP3.out).mono ?_
  rintro e w4 ⟨rfl, hb⟩
  have HQ4 := Lib.hid (HQ3.out.next hb)
  have HP4 := Lib.hid (HP3.out.next hb)
  have HB4 := Lib.hid (HB3.out.trans (hb.mono HB3.out.size))
  clear hb
  go_wp2_with fail
  refine (HBn.out _).mono ?_
  rintro e w5 ⟨rfl, rfl⟩
  go_wp2_with fail
  refine (HSn.out _).mono ?_
  rintro e w5 ⟨rfl, rfl⟩
  have heq := HEq.out
  clear HP HP1 HP2 HP3 HQ2 HQ3 HB1 HB2 HB3 HSt HBk HSm HTn HBn HSn HEq cv32 cv12 mk32 mk12
  go_wp2_with (first
    | (with_reducible refine wpList_load_q4 rfl _ rfl g1 rfl _ rfl HQ4.out ?_))
  go_ret
  exact ⟨rfl, HB4.out⟩
end Go.Proofs.YtebhmcnocpblkaaDoor
