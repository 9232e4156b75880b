/- ChachaRest: the law's walk. -/
import Derived.Test.YtebhmcnocpblkaaDoorChBacW
namespace Go.Proofs.YtebhmcnocpblkaaDoor
open Go.RowKit

set_option maxHeartbeats 1000000 in
set_option maxRecDepth 100000 in
theorem chachaRest_walk (zk : List Int) (c : Int) (zn : List Int) (bl y : Int) (n0 : zk.length = 32) (w0 : ∀ z ∈ zk, (Lit.int .u8 z).wf = true) (hc : (Lit.int .u32 c).wf = true) (n2 : zn.length = 12) (w2 : ∀ z ∈ zn, (Lit.int .u8 z).wf = true) (hbl : (Lit.int .u8 bl).wf = true) (hy : (Lit.int .u8 y).wf = true) (W : World) (hp : Pl W) :
    Calls Tryd.prog 6 #[.agg (zk.map (Value.int .u8)).toArray, .int .u32 c, .agg (zn.map (Value.int .u8)).toArray, .int .u8 bl, .int .u8 y] W fun e w' => e = .returned (.bool true) ∧ Below W.heap.size W w' := by
  obtain ⟨hc0, hc1⟩ := wf_u32 hc
  obtain ⟨C, rfl⟩ : ∃ C : Nat, c = (C : Int) := ⟨c.toNat, by omega⟩
  have hC : C < 4294967296 := by omega
  obtain ⟨hb0, hb1⟩ := wf_u8 hbl
  obtain ⟨b, rfl⟩ : ∃ b : Nat, bl = (b : Int) := ⟨bl.toNat, by omega⟩
  obtain ⟨hy0, hy1⟩ := wf_u8 hy
  obtain ⟨y, rfl⟩ : ∃ y' : Nat, y = (y' : Int) := ⟨y.toNat, by omega⟩
  have hy : y < 256 := by omega
  obtain ⟨kb, hkb, hkl⟩ := u8_of zk w0
  obtain ⟨nb, hnb, hnl⟩ := u8_of zn w2
  rw [hkb, hnb, show (u8s kb).toArray = rowB kb from rfl, show (u8s nb).toArray = rowB nb from rfl]
  rw [n0] at hkl
  rw [n2] at hnl
  clear hc0 hc1 hc hkb hnb w0 w2 n0 n2 zk zn
  obtain ⟨B, hB⟩ : ∃ B, B = b % 6 := ⟨_, rfl⟩
  have hB6 : B < 6 := by omega
  have e1 : (b : Int) % 6 = (B : Int) := by omega
  obtain ⟨C2, hC2⟩ : ∃ C2, C2 = (C + B) % 4294967296 := ⟨_, rfl⟩
  have hC2l : C2 < 4294967296 := by omega
  have e2 : ((C : Int) + (B : Int)) % 4294967296 = (C2 : Int) := by omega
  obtain ⟨KR, hKR⟩ : ∃ KR, KR = rowB kb := ⟨_, rfl⟩
  obtain ⟨NR, hNR⟩ : ∃ NR, NR = rowB nb := ⟨_, rfl⟩
  rw [← hKR, ← hNR]
  have hp1 := (hp.alloc (.cells KR 36)).alloc (.cells NR 37)
  have HA := Lib.hid (awake4_any _ hp1)
  have HP1 := Lib.hid hp1
  have HB1 := Lib.hid (((Below.refl W.heap.size W).alloc (Nat.le_refl _) (.cells KR 36)).alloc (by simp) (.cells NR 37))
  have HK1 := Lib.hid ((Arr.new W KR 36).alloc (.cells NR 37))
  have HN1 := Lib.hid (Arr.newAt (W.alloc (.cells KR 36)) (g := W.heap.size + 1) NR 37 (by simp))
  clear hp1 hp
  obtain ⟨K, hK⟩ : ∃ K : ByteArray, K = ⟨kb.toArray⟩ := ⟨_, rfl⟩
  obtain ⟨N, hN⟩ : ∃ N : ByteArray, N = ⟨nb.toArray⟩ := ⟨_, rfl⟩
  have hKs : K.size = 32 := by rw [hK]; show kb.toArray.size = 32; rw [List.size_toArray, hkl]
  have hNs : N.size = 12 := by rw [hN]; show nb.toArray.size = 12; rw [List.size_toArray, hnl]
  have hs : szB K N = true := szB_mk hKs hNs
  have HCK : Hid (∀ {w : World} {g : Nat}, Arr w g KR 36 → (convert 38 9 (.slice (some ⟨g, 0, none⟩) 32 32)).run Tryd.prog w = .ok (.string K) w) := by
    intro w g h; rw [hK]; rw [hKR] at h; exact conv_rowB h hkl
  have HCN : Hid (∀ {w : World} {g : Nat}, Arr w g NR 37 → (convert 38 9 (.slice (some ⟨g, 0, none⟩) 12 12)).run Tryd.prog w = .ok (.string N) w) := by
    intro w g h; rw [hN]; rw [hNR] at h; exact conv_rowB h hnl
  have hS1 := fun w hp => stream_ok K N hs C hC (64 * B + y) (by omega) w hp
  have hS2 := fun w hp => stream_ok K N hs C2 hC2l y (by omega) w hp
  have hS3 := fun w hp => stream_ok K N hs C hC (64 * B) (by omega) w hp
  have hs1 := strmB_size K C N (64 * B + y)
  have hx1 : (strmB K C N (64 * B + y)).extract (64 * B) (strmB K C N (64 * B + y)).size = strmB K C2 N y := by
    apply ByteArray.ext
    apply Array.ext'
    rw [ext_toList, hs1, strmB_list, strmL_drop, strmB_list, hC2, List.take_of_length_le (by rw [strmL_len]; omega)]
  have hx2 : (strmB K C N (64 * B + y)).extract 0 (64 * B) = strmB K C N (64 * B) := by
    apply ByteArray.ext
    apply Array.ext'
    rw [ext_toList, strmB_list, strmB_list, List.drop_zero, Nat.sub_zero, strmL_take _ _ _ _ _ (by omega)]
  have hl1 := slice_from (strmB K C N (64 * B + y)) (64 * B) (by rw [hs1]; omega)
  have hl2 := slice_to (strmB K C N (64 * B + y)) (64 * B) (by rw [hs1]; omega)
  rw [hx1] at hl1
  rw [hx2] at hl2
  generalize strmB K C N (64 * B + y) = S1 at *
  generalize strmB K C2 N y = S2 at *
  generalize strmB K C N (64 * B) = S3 at *
  have em : ((64 * B : Nat) : Int) = 64 * (B : Int) := by omega
  have ema : ((64 * B + y : Nat) : Int) = 64 * (B : Int) + (y : Int) := by omega
  rw [em] at hS3 hl1 hl2
  rw [ema] at hS1
  have hsz : (S1.size : Int) = 64 * (B : Int) + (y : Int) := by rw [hs1]; omega
  have HS1 := Lib.hid hS1
  have HS2 := Lib.hid hS2
  have HS3 := Lib.hid hS3
  have a32 := arr32_all
  have a12 := arr12_all
  clear hS1 hS2 hS3 hs1 hx1 hx2 em ema hs hKs hNs hK hN hKR hNR hkl hnl hC2 hC2l hC hB hy1 hb1
  go_enter Tryd.func6, Tryd.ntmps6
  go_wp2_with (first
    | (go_at_call 9; (with_reducible refine HA.out.mono ?_); rintro e w1 ⟨rfl, hb1⟩))
  have HP2 := Lib.hid (HP1.out.next hb1)
  have hck := fun n => HCK.out ((HK1.out.next hb1).drewN n)
  have hcn := fun n => HCN.out ((HN1.out.next hb1).drewN n)
  have HB2 := Lib.hid (HB1.out.trans (hb1.mono (by simp; omega)))
  clear hb1 HP1 HK1 HN1 HB1 HA
  go_quiet (fail)
  have HP3 := Lib.hid (HP2.out.drewN nq)
  have HB3 := Lib.hid (Below_drewN HB2.out nq)
  clear hck hcn a32 a12 HP2 HB2
  generalize w1.drewN nq = w3 at *
  go_wp2_with fail
  refine (HS1.out _ HP3.out).mono ?_
  rintro e w4 ⟨rfl, hb⟩
  have HP4 := Lib.hid (HP3.out.next hb)
  have HB4 := Lib.hid (HB3.out.trans (hb.mono HB3.out.size))
  clear hb
  go_wp2_with fail
  refine (HS2.out _ HP4.out).mono ?_
  rintro e w5 ⟨rfl, hb⟩
  have HP5 := Lib.hid (HP4.out.next hb)
  have HB5 := Lib.hid (HB4.out.trans (hb.mono HB4.out.size))
  clear hb
  go_wp2_with fail
  refine (HS3.out _ HP5.out).mono ?_
  rintro e w6 ⟨rfl, hb⟩
  have HB6 := Lib.hid (HB5.out.trans (hb.mono HB5.out.size))
  clear hb
  go_wp2_with fail
  go_ret
  exact ⟨rfl, HB6.out⟩
end Go.Proofs.YtebhmcnocpblkaaDoor
