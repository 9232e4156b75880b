/- ChachaBack: the law's walk. -/
import Derived.Test.YtebhmcnocpblkaaDoorChSizW
namespace Go.Proofs.YtebhmcnocpblkaaDoor
open Go.RowKit

theorem u8_of : ∀ (zs : List Int), (∀ z ∈ zs, (Lit.int .u8 z).wf = true) → ∃ bs : List UInt8, zs.map (Value.int .u8) = u8s bs ∧ bs.length = zs.length
  | [], _ => ⟨[], rfl, rfl⟩
  | z :: zs, h => by
    obtain ⟨bs, hb, hl⟩ := u8_of zs (fun x hx => h x (by simp [hx]))
    obtain ⟨h0, h1⟩ := wf_u8 (h z (by simp))
    refine ⟨UInt8.ofNat z.toNat :: bs, ?_, by simp [hl]⟩
    have hz : z = ((UInt8.ofNat z.toNat).toNat : Int) := by
      have : (UInt8.ofNat z.toNat).toNat = z.toNat % 256 := by simp
      rw [this]; omega
    rw [List.map_cons, hb, u8s, u8s, List.map_cons, ← hz]
theorem xorL_zeros : ∀ (s : List UInt8), xorL (List.replicate s.length 0) s = s
  | [] => rfl
  | b :: s => by
    have := xorL_zeros s
    rw [xorL] at this ⊢
    rw [List.length_cons, List.replicate_succ, List.zipWith_cons_cons, this]
    simp

def rowB (l : List UInt8) : Array Value := (u8s l).toArray
theorem conv_rowB {w : World} {g n : Nat} {ty : TypeId} {l : List UInt8} (h : Arr w g (rowB l) ty) (hl : l.length = n) :
    (convert 38 9 (.slice (some ⟨g, 0, none⟩) n n)).run Tryd.prog w = .ok (.string ⟨l.toArray⟩) w := by
  have := conv_cells w ⟨g, 0, none⟩ l n (fun j v hv => by
    rw [addr_add, Nat.zero_add]; exact h.cell (by rw [rowB, List.getElem?_toArray]; exact hv))
  rw [hl] at this
  exact this
theorem arrOf32 : Tryd.prog.underlying 36 = some (.array (Tryd.prog.arrayLen 36) (Tryd.prog.elem 36)) := by kernel_rfl
theorem arrLen32 : Tryd.prog.arrayLen 36 = 32 := by kernel_rfl
theorem arrElem32 : Tryd.prog.elem 36 = 5 := by kernel_rfl
theorem arrOf12 : Tryd.prog.underlying 37 = some (.array (Tryd.prog.arrayLen 37) (Tryd.prog.elem 37)) := by kernel_rfl
theorem arrLen12 : Tryd.prog.arrayLen 37 = 12 := by kernel_rfl
theorem arrElem12 : Tryd.prog.elem 37 = 5 := by kernel_rfl
theorem arr32_all (g o : Nat) (w : World) :
    (Instr.sliceAt 36 (.pointer (some ⟨g, o, none⟩)) none none none).run Tryd.prog w = .ok (.slice (some ⟨g, o, none⟩) 32 32) w := by
  rw [run_sliceAt_array_all w 36 _ arrOf32, arrElem32, Tryd.sizeOf5, arrLen32]
  simp only [Result.andThen, slicedAt]
  rw [if_neg (by omega), Nat.zero_mul, addr_add]
  rfl
theorem arr12_all (g o : Nat) (w : World) :
    (Instr.sliceAt 37 (.pointer (some ⟨g, o, none⟩)) none none none).run Tryd.prog w = .ok (.slice (some ⟨g, o, none⟩) 12 12) w := by
  rw [run_sliceAt_array_all w 37 _ arrOf12, arrElem12, Tryd.sizeOf5, arrLen12]
  simp only [Result.andThen, slicedAt]
  rw [if_neg (by omega), Nat.zero_mul, addr_add]
  rfl

set_option maxHeartbeats 1000000 in
set_option maxRecDepth 100000 in
theorem chachaBack_walk (zk : List Int) (c : Int) (zn : List Int) (t : ByteArray) (n0 : zk.length = 32) (w0 : ∀ z ∈ zk, (Lit.int .u8 z).wf = true) (hc : (Lit.int .u32 c).wf = true) (n2 : zn.length = 12) (w2 : ∀ z ∈ zn, (Lit.int .u8 z).wf = true) (_ : t.size ≤ maxLen) (W : World) (hp : Pl W) :
    Calls Tryd.prog 5 #[.agg (zk.map (Value.int .u8)).toArray, .int .u32 c, .agg (zn.map (Value.int .u8)).toArray, .string t] W fun e w' => e = .returned (.bool true) ∧ Below W.heap.size W w' := by
  obtain ⟨hc0, hc1⟩ := wf_u32 hc
  obtain ⟨C, rfl⟩ : ∃ C : Nat, c = (C : Int) := ⟨c.toNat, by omega⟩
  have hC : C < 4294967296 := by omega
  obtain ⟨kb, hkb, hkl⟩ := u8_of zk w0
  obtain ⟨nb, hnb, hnl⟩ := u8_of zn w2
  rw [hkb, hnb, show (u8s kb).toArray = rowB kb from rfl, show (u8s nb).toArray = rowB nb from rfl]
  rw [n0] at hkl
  rw [n2] at hnl
  clear hc0 hc1 hc hkb hnb w0 w2 n0 n2 zk zn
  have hL := fun w => lg4_1 w t
  have hLA := largeB_all [t]
  generalize largeB [t] = L at *
  obtain ⟨KR, hKR⟩ : ∃ KR, KR = rowB kb := ⟨_, rfl⟩
  obtain ⟨NR, hNR⟩ : ∃ NR, NR = rowB nb := ⟨_, rfl⟩
  rw [← hKR, ← hNR]
  have hp1 := (hp.alloc (.cells KR 36)).alloc (.cells NR 37)
  have HA := Lib.hid (awake4_any _ hp1)
  have HP1 := Lib.hid hp1
  have HB1 := Lib.hid (((Below.refl W.heap.size W).alloc (Nat.le_refl _) (.cells KR 36)).alloc (by simp) (.cells NR 37))
  have HK1 := Lib.hid ((Arr.new W KR 36).alloc (.cells NR 37))
  have HN1 := Lib.hid (Arr.newAt (W.alloc (.cells KR 36)) (g := W.heap.size + 1) NR 37 (by simp))
  have HL := Lib.hid hL
  clear hL hp1 hp
  cases L
  · have ht : t.size ≤ 2048 := hLA rfl t (by simp)
    clear hLA
    obtain ⟨K, hK⟩ : ∃ K : ByteArray, K = ⟨kb.toArray⟩ := ⟨_, rfl⟩
    obtain ⟨N, hN⟩ : ∃ N : ByteArray, N = ⟨nb.toArray⟩ := ⟨_, rfl⟩
    have hKs : K.size = 32 := by rw [hK]; show kb.toArray.size = 32; rw [List.size_toArray, hkl]
    have hNs : N.size = 12 := by rw [hN]; show nb.toArray.size = 12; rw [List.size_toArray, hnl]
    have hs : szB K N = true := szB_mk hKs hNs
    have HCK : Hid (∀ {w : World} {g : Nat}, Arr w g KR 36 → (convert 38 9 (.slice (some ⟨g, 0, none⟩) 32 32)).run Tryd.prog w = .ok (.string K) w) := by
      intro w g h; rw [hK]; rw [hKR] at h; exact conv_rowB h hkl
    have HCN : Hid (∀ {w : World} {g : Nat}, Arr w g NR 37 → (convert 38 9 (.slice (some ⟨g, 0, none⟩) 12 12)).run Tryd.prog w = .ok (.string N) w) := by
      intro w g h; rw [hN]; rw [hNR] at h; exact conv_rowB h hnl
    have hsl := strmL_len K.data.toList C N.data.toList t.size
    have hT1 := fun w hp => turn_ok K N hs C hC t (by omega) w hp
    obtain ⟨X, hX⟩ : ∃ X : ByteArray, X = ⟨(xorL t.data.toList (strmL K.data.toList C N.data.toList t.size)).toArray⟩ := ⟨_, rfl⟩
    have htl : t.data.toList.length = t.size := by simp
    have hXl : (xorL t.data.toList (strmL K.data.toList C N.data.toList t.size)).length = t.size := by rw [xorL_len _ _ (by rw [htl, hsl]), htl]
    have hXs : X.size = t.size := by rw [hX]; show (xorL t.data.toList (strmL K.data.toList C N.data.toList t.size)).toArray.size = _; rw [List.size_toArray, hXl]
    have hT2 := fun w hp => turn_ok K N hs C hC X (by omega) w hp
    rw [hXs, bstr _ X hX, xorL_back _ _ (by rw [htl, hsl])] at hT2
    have htt : (⟨t.data.toList.toArray⟩ : ByteArray) = t := by simp
    rw [htt] at hT2
    rw [← hX] at hT1
    have hT3 := fun w hp => turn_ok K N hs C hC (zeros t.size) (by rw [zeros_size]; omega) w hp
    have hxz := xorL_zeros (strmL K.data.toList C N.data.toList t.size)
    rw [hsl] at hxz
    rw [zeros_size, zeros_list, hxz] at hT3
    have hSt := fun w hp => stream_ok K N hs C hC t.size (by omega) w hp
    rw [strmB] at hSt
    generalize (⟨(strmL K.data.toList C N.data.toList t.size).toArray⟩ : ByteArray) = S at *
    have mk := makeZ t.size (by omega)
    have cv := convZg t.size
    generalize zrow t.size = ZR at *
    generalize zeros t.size = ZB at *
    have HT1 := Lib.hid hT1
    have HT2 := Lib.hid hT2
    have HT3 := Lib.hid hT3
    have HSt := Lib.hid hSt
    have hXe : ((X.size : Int) == (t.size : Int)) = true := by rw [hXs]; simp
    have a32 := arr32_all
    have a12 := arr12_all
    clear hT1 hT2 hT3 hSt hX hXl hXs htl htt hsl hs hK hN hKs hNs hKR hNR hkl hnl hC hxz ht
    go_enter Tryd.func5, Tryd.ntmps5
    go_wp2_with (first
      | (go_at_call 9; (with_reducible refine HA.out.mono ?_); rintro e w1 ⟨rfl, hb1⟩)
      | (go_at_call 10; (with_reducible refine (HL.out _).mono ?_); rintro e w2 ⟨rfl, rfl⟩))
    have HP2 := Lib.hid ((HP1.out.next hb1).alloc (.cells #[.string t] 9))
    have hck := fun n => HCK.out (((HK1.out.next hb1).alloc (.cells #[.string t] 9)).drewN n)
    have hcn := fun n => HCN.out (((HN1.out.next hb1).alloc (.cells #[.string t] 9)).drewN n)
    have HB2 := Lib.hid ((HB1.out.trans (hb1.mono (by simp; omega))).alloc (by have := hb1.size; simp at this; omega) (.cells #[.string t] 9))
    generalize w1.alloc (.cells #[.string t] 9) = w2 at *
    clear hb1 HP1 HK1 HN1 HB1 HA HL
    go_quiet (fail)
    have HP3 := Lib.hid (HP2.out.drewN nq)
    have HB3 := Lib.hid (Below_drewN HB2.out nq)
    clear hck hcn a32 a12 HP2 HB2
    generalize w2.drewN nq = w3 at *
    go_wp2_with fail
    refine (HT1.out _ HP3.out).mono ?_
    rintro e w4 ⟨rfl, hb⟩
    have HP4 := Lib.hid (HP3.out.next hb)
    have HB4 := Lib.hid (HB3.out.trans (hb.mono HB3.out.size))
    clear hb
    go_wp2_with fail
    refine (HT2.out _ HP4.out).mono ?_
    rintro e w5 ⟨rfl, hb⟩
    have HP5 := Lib.hid (HP4.out.next hb)
    have HB5 := Lib.hid (HB4.out.trans (hb.mono HB4.out.size))
    clear hb
    go_wp2_with fail
    refine (HT3.out _ (HP5.out.alloc _)).mono ?_
    rintro e w6 ⟨rfl, hb⟩
    have HP6 := Lib.hid ((HP5.out.alloc _).next hb)
    have HB6 := Lib.hid ((HB5.out.alloc HB5.out.size _).trans (hb.mono (by have := HB5.out.size; simp; omega)))
    clear hb
    go_wp2_with fail
    refine (HSt.out _ HP6.out).mono ?_
    rintro e w7 ⟨rfl, hb⟩
    have HB7 := Lib.hid (HB6.out.trans (hb.mono HB6.out.size))
    clear hb
    go_wp2_with fail
    go_ret
    exact ⟨rfl, HB7.out⟩
  · clear hLA hKR hNR hkl hnl hC
    go_enter Tryd.func5, Tryd.ntmps5
    go_wp2_with (first
      | (go_at_call 9; (with_reducible refine HA.out.mono ?_); rintro e w1 ⟨rfl, hb1⟩)
      | (go_at_call 10; (with_reducible refine (HL.out _).mono ?_); rintro e w2 ⟨rfl, rfl⟩))
    go_ret
    exact ⟨rfl, (HB1.out.trans (hb1.mono (by simp; omega))).alloc (by have := hb1.size; simp at this; omega) _⟩
end Go.Proofs.YtebhmcnocpblkaaDoor
