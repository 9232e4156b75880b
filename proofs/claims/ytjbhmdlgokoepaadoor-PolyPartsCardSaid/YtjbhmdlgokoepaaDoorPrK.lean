/- Rows of bytes that a law's arguments are. PolyClamps over the contracts' record. -/
import Derived.Test.YtjbhmdlgokoepaaDoorPrC
namespace Go.Proofs.YtjbhmdlgokoepaaDoor
open Go.RowKit


theorem u8_of : ∀ (zs : List Int), (∀ z ∈ zs, (Lit.int .u8 z).wf = true) → ∃ bs : List UInt8, zs.map (Value.int .u8) = u8s bs ∧ bs.length = zs.length
  | [], _ => ⟨[], rfl, rfl⟩
  | z :: zs, h => by
    obtain ⟨bs, hb, hl⟩ := u8_of zs (fun x hx => h x (by simp [hx]))
    obtain ⟨h0, h1⟩ := wf_u8 (h z (by simp))
    refine ⟨UInt8.ofNat z.toNat :: bs, ?_, by simp [hl]⟩
    have hz : z = ((UInt8.ofNat z.toNat).toNat : Int) := by
      have : (UInt8.ofNat z.toNat).toNat = z.toNat % 256 := by simp
      rw [this]; omega
    rw [List.map_cons, hb, u8s, u8s, List.map_cons, ← hz]
def rowB (l : List UInt8) : Array Value := (u8s l).toArray
theorem conv_rowB {w : World} {g n : Nat} {ty : TypeId} {l : List UInt8} (h : Arr w g (rowB l) ty) (hl : l.length = n) :
    (convert 33 9 (.slice (some ⟨g, 0, none⟩) n n)).run Tryd.prog w = .ok (.string ⟨l.toArray⟩) w := by
  have := conv_cells w ⟨g, 0, none⟩ l n (fun j v hv => by
    rw [addr_add, Nat.zero_add]; exact h.cell (by rw [rowB, List.getElem?_toArray]; exact hv))
  rw [hl] at this
  exact this
theorem arrOf32 : Tryd.prog.underlying 31 = some (.array (Tryd.prog.arrayLen 31) (Tryd.prog.elem 31)) := by kernel_rfl
theorem arrLen32 : Tryd.prog.arrayLen 31 = 32 := by kernel_rfl
theorem arrElem32 : Tryd.prog.elem 31 = 5 := by kernel_rfl
theorem arr32_all (g o : Nat) (w : World) :
    (Instr.sliceAt 31 (.pointer (some ⟨g, o, none⟩)) none none none).run Tryd.prog w = .ok (.slice (some ⟨g, o, none⟩) 32 32) w := by
  rw [run_sliceAt_array_all w 31 _ arrOf32, arrElem32, Tryd.sizeOf5, arrLen32]
  simp only [Result.andThen, slicedAt]
  rw [if_neg (by omega), Nat.zero_mul, addr_add]
  rfl
theorem arrOf16 : Tryd.prog.underlying 38 = some (.array (Tryd.prog.arrayLen 38) (Tryd.prog.elem 38)) := by kernel_rfl
theorem arrLen16 : Tryd.prog.arrayLen 38 = 16 := by kernel_rfl
theorem arrElem16 : Tryd.prog.elem 38 = 5 := by kernel_rfl
theorem arr16_all (g o : Nat) (w : World) :
    (Instr.sliceAt 38 (.pointer (some ⟨g, o, none⟩)) none none none).run Tryd.prog w = .ok (.slice (some ⟨g, o, none⟩) 16 16) w := by
  rw [run_sliceAt_array_all w 38 _ arrOf16, arrElem16, Tryd.sizeOf5, arrLen16]
  simp only [Result.andThen, slicedAt]
  rw [if_neg (by omega), Nat.zero_mul, addr_add]
  rfl

theorem K_parts (K : ByteArray) (_ : K.size = 32) : K.data.toList = (K.extract 0 16).data.toList ++ (K.extract 16 K.size).data.toList := by
  rw [ext_toList, ext_toList, List.drop_zero, Nat.sub_zero, List.take_of_length_le (l := List.drop 16 _) (by simp), List.take_append_drop]

set_option maxHeartbeats 1000000 in
set_option maxRecDepth 100000 in
theorem polyClamps_walk {P : World → Prop} (C : PolyC P) (zk : List Int) (text : ByteArray) (n0 : zk.length = 32) (w0 : ∀ z ∈ zk, (Lit.int .u8 z).wf = true) (W : World) (hp : P W) :
    Calls Tryd.prog 5 #[.agg (zk.map (Value.int .u8)).toArray, .string text] W fun e W' => e = .returned (.bool true) ∧ Below W.heap.size W W' := by
  obtain ⟨kb, hkb, hkl⟩ := u8_of zk w0
  rw [hkb, show (u8s kb).toArray = rowB kb from rfl]
  rw [n0] at hkl
  clear hkb w0 n0 zk
  obtain ⟨KR, hKR⟩ : ∃ KR, KR = rowB kb := ⟨_, rfl⟩
  rw [← hKR]
  have hp1 := C.alloc (.cells KR 31) hp
  have HA := Lib.hid (C.awake _ hp1)
  have HP0 := Lib.hid hp1
  have HC := Lib.hid C
  have HB0 := Lib.hid ((Below.refl W.heap.size W).alloc (Nat.le_refl _) (.cells KR 31))
  have HK0 := Lib.hid (Arr.new W KR 31)
  clear hp hp1 C
  by_cases h2 : 1024 < text.size
  · have h2i : (1024 : Int) < (text.size : Int) := by omega
    clear hKR hkl
    go_enter Tryd.func5, Tryd.ntmps5
    go_wp2_with fail
    refine HA.out.mono ?_
    rintro e w1 ⟨rfl, hb⟩
    have HB1 := Lib.hid (HB0.out.trans (hb.mono HB0.out.size))
    clear hb
    go_wp2_with fail
    go_ret
    exact ⟨rfl, HB1.out⟩
  have h2i : ¬ (1024 : Int) < (text.size : Int) := by omega
  obtain ⟨K, hK⟩ : ∃ K : ByteArray, K = ⟨kb.toArray⟩ := ⟨_, rfl⟩
  have hKs : K.size = 32 := by rw [hK]; show kb.toArray.size = 32; rw [List.size_toArray, hkl]
  have HCK : Hid (∀ {w : World} {g : Nat}, Arr w g KR 31 → (convert 33 9 (.slice (some ⟨g, 0, none⟩) 32 32)).run Tryd.prog w = .ok (.string K) w) := by
    intro w g h; rw [hK]; rw [hKR] at h; exact conv_rowB h hkl
  have hs1 := slice_to K 16 (by omega)
  have hs2 := slice_from K 16 (by omega)
  rw [show ((16 : Nat) : Int) = 16 from rfl] at hs1 hs2
  have hpt := K_parts K hKs
  obtain ⟨K1, hK1⟩ : ∃ K1, K1 = K.extract 0 16 := ⟨_, rfl⟩
  obtain ⟨K2, hK2⟩ : ∃ K2, K2 = K.extract 16 K.size := ⟨_, rfl⟩
  have hK1s : K1.size = 16 := by rw [hK1, ext_size _ _ _ (by omega)]
  have hK2s : K2.size = 16 := by rw [hK2, ext_size _ _ _ (Nat.le_refl _)]; omega
  rw [← hK1] at hs1 hpt
  rw [← hK2] at hs2 hpt
  have hc1 := fun w hp => HC.out.clamp_ok K1 hK1s w hp
  obtain ⟨C1, hC1⟩ : ∃ C1 : ByteArray, C1 = ⟨(clampL K1.data.toList).toArray⟩ := ⟨_, rfl⟩
  have hC1l : C1.data.toList = clampL K1.data.toList := by rw [hC1]
  have hC1s : C1.size = 16 := by rw [hC1]; show (clampL K1.data.toList).toArray.size = 16; rw [List.size_toArray, clampL_len]
  have hc2 := fun w hp => HC.out.clamp_ok C1 hC1s w hp
  rw [hC1l, clampL_idem] at hc2
  rw [← hC1] at hc1 hc2
  have hcat : ∀ w : World, (Op.stringOp .add C1 K2).run Tryd.prog w = .ok (.string (C1 ++ K2)) w := fun w => cat_run C1 K2 (by omega) w
  obtain ⟨Y, hY⟩ : ∃ Y : ByteArray, Y = C1 ++ K2 := ⟨_, rfl⟩
  have hYs : Y.size = 32 := by rw [hY, ByteArray.size_append]; omega
  have hYl : Y.data.toList = clampL K1.data.toList ++ K2.data.toList := by rw [hY, ← hC1l]; simp
  rw [← hY] at hcat
  have ht1 := fun w hp => HC.out.tag_ok K text hKs (by omega) w hp
  have ht2 := fun w hp => HC.out.tag_ok Y text hYs (by omega) w hp
  have hTT : tagB Y text = tagB K text := by rw [tagB, tagB, hYl, hpt, tagL_clamp _ _ _ (by simpa using hK1s)]
  rw [hTT] at ht2
  generalize tagB K text = T at *
  have e16 : ((C1.size : Int) != 16) = false := by rw [hC1s]; rfl
  have HC1 := Lib.hid hc1
  have HC2 := Lib.hid hc2
  have HT1 := Lib.hid ht1
  have HT2 := Lib.hid ht2
  have a32 := arr32_all
  clear hc1 hc2 ht1 ht2 hTT hYl hYs hY hC1 hC1l hC1s hK1 hK2 hK1s hK2s hpt hK hKs hKR hkl h2
  go_enter Tryd.func5, Tryd.ntmps5
  go_wp2_with (go_at_call 9; (with_reducible refine HA.out.mono ?_); rintro e w1 ⟨rfl, hb⟩; have hck := HCK.out (HK0.out.next hb))
  have HP1 := Lib.hid (HC.out.next HP0.out hb)
  have HB1 := Lib.hid (HB0.out.trans (hb.mono HB0.out.size))
  clear hb HK0 HP0 HB0 HA
  refine (HC1.out _ HP1.out).mono ?_
  rintro e w3 ⟨rfl, hb⟩
  have HP3 := Lib.hid (HC.out.next HP1.out hb)
  have HB3 := Lib.hid (HB1.out.trans (hb.mono HB1.out.size))
  clear hb
  go_wp2_with fail
  refine (HC2.out _ HP3.out).mono ?_
  rintro e w4 ⟨rfl, hb⟩
  have HP4 := Lib.hid (HC.out.next HP3.out hb)
  have HB4 := Lib.hid (HB3.out.trans (hb.mono HB3.out.size))
  clear hb
  go_wp2_with fail
  refine (HT1.out _ HP4.out).mono ?_
  rintro e w5 ⟨rfl, hb⟩
  have HP5 := Lib.hid (HC.out.next HP4.out hb)
  have HB5 := Lib.hid (HB4.out.trans (hb.mono HB4.out.size))
  clear hb
  go_wp2_with fail
  refine (HT2.out _ HP5.out).mono ?_
  rintro e w6 ⟨rfl, hb⟩
  have HB6 := Lib.hid (HB5.out.trans (hb.mono HB5.out.size))
  clear hb
  go_wp2_with fail
  go_ret
  exact ⟨rfl, HB6.out⟩
end Go.Proofs.YtjbhmdlgokoepaaDoor
