/- The document's own block, Sum, Expand, Derive of layer 3. -/
import Derived.Test.YtmedlgnllgldiaaDoorShS
import Derived.Test.YtmedlgnllgldiaaDoorMc5
namespace Go.Proofs.YtmedlgnllgldiaaDoor
open Go.RowKit

/-- k bytes of a block are turned, the others are 0. -/
def rowAt (kb : List UInt8) (b : UInt8) (k : Nat) : List UInt8 := turnL (kb.take k) b ++ List.replicate (64 - k) 0
theorem rowAt_zero (kb : List UInt8) (b : UInt8) : rowAt kb b 0 = List.replicate 64 0 := by simp [rowAt, turnL]
theorem rowAt_full (kb : List UInt8) (b : UInt8) (h : kb.length = 64) : rowAt kb b 64 = turnL kb b := by
  rw [rowAt, List.take_of_length_le (by omega), Nat.sub_self, List.replicate_zero, List.append_nil]
theorem rowAt_head (kb : List UInt8) (b : UInt8) (k : Nat) (h : kb.length = 64) (hk : k < 64) : (turnL (kb.take k) b).length = k := by rw [turnL_len, List.length_take]; omega
theorem rowAt_at (kb : List UInt8) (b : UInt8) (k : Nat) (h : kb.length = 64) (hk : k < 64) : (rowAt kb b k)[k]? = some 0 := by
  have e := rowAt_head kb b k h hk
  rw [rowAt, List.getElem?_append_right (by omega), e, Nat.sub_self, List.getElem?_replicate, if_pos (by omega)]
theorem rowAt_set (kb : List UInt8) (b : UInt8) (k : Nat) (h : kb.length = 64) (hk : k < 64) : (rowAt kb b k).set k (kb[k]'(by omega) ^^^ b) = rowAt kb b (k + 1) := by
  have e := rowAt_head kb b k h hk
  obtain ⟨m, hm⟩ : ∃ m, 64 - k = m + 1 := ⟨63 - k, by omega⟩
  rw [rowAt, rowAt, List.set_append_right _ _ (by omega), e, Nat.sub_self, hm, List.replicate_succ, List.set_cons_zero, List.take_succ_eq_append_getElem (by omega), turnL, turnL, List.map_append, List.append_assoc, show 64 - (k + 1) = m by omega]
  rfl
/-- What a block is made of. -/
def KbIs (K : ByteArray) (kb : List UInt8) : Prop := (∀ k (h : k < K.size) (h2 : k < kb.length), kb[k] = K[k]) ∧ (∀ k (_ : K.size ≤ k) (h2 : k < kb.length), kb[k] = 0)
theorem kbIs (K : ByteArray) (kb : List UInt8) (h : kb = K.data.toList ++ List.replicate (64 - K.size) 0) : KbIs K kb := by
  subst h
  have hl : K.data.toList.length = K.size := by simp
  refine ⟨fun k h1 h2 => ?_, fun k h1 h2 => ?_⟩
  · rw [List.getElem_append_left (by omega)]; rfl
  · rw [List.getElem_append_right (by omega), List.getElem_replicate]

theorem conv_row64' {ty : TypeId} {w : World} {g : Nat} {l : List UInt8} (h : Arr w g (row64 l) ty) (hl : l.length = 64) :
    (convert 38 9 (.slice (some ⟨g, 0, none⟩) 64 64)).run Tryd.prog w = .ok (.string ⟨l.toArray⟩) w := by
  have := conv_cells w ⟨g, 0, none⟩ l 64 (fun j v hv => by
    rw [addr_add, Nat.zero_add]; exact h.cell (by rw [row64, List.getElem?_toArray]; exact hv))
  rw [hl] at this
  exact this
theorem made64 : madeCells #[Value.int .u8 0] 64 = row64 (List.replicate 64 0) := by
  apply Array.ext'
  rw [u8s_zeros, row64]
theorem make64 (w : World) : (Instr.makeSlice 38 (.int .i64 64) (.int .i64 64)).run Tryd.prog w = .ok (.slice (some ⟨w.heap.size, 0, none⟩) 64 64) (w.alloc (.cells (row64 (List.replicate 64 0)) 5)) := by
  obtain ⟨i0, hi, hz0, hz1, hz2⟩ := info_parts Tryd.infoU8
  have := run_makeSlice (P := Tryd.prog) w 38 5 i0 (.int .u8 0) Tryd.underlying38 hi hz0 .i64 .i64 64 64 (by decide) (by decide) (by rw [hz1]; decide) (by rw [hz2]; decide) (by decide)
  rw [hz1] at this
  rw [← made64]
  exact this
set_option maxHeartbeats 2000000 in
set_option maxRecDepth 100000 in
theorem rblock_any (key : ByteArray) (hk : key.size ≤ 1000000) (b : UInt8) (w : World) :
    Calls Tryd.prog 33 #[.string key, .int .u8 (b.toNat : Int)] w fun e w' => e = .returned (.string (turnB key.data.toList b)) ∧ Below w.heap.size w w' := by
  have hrow0 := fun (w1 : World) (kb : List UInt8) => show Arr (w1.alloc (.cells (row64 (List.replicate 64 0)) 5)) w1.heap.size (row64 (rowAt kb b 0)) 5 by rw [rowAt_zero]; exact Arr.new w1 _ _
  have hkbl := kbL_len key.data.toList
  have hmk := make64
  obtain ⟨kb, hkb0⟩ : ∃ kb, kb = kbL key.data.toList := ⟨_, rfl⟩
  have HKD := Lib.hid (show (⟨(turnL kb b).toArray⟩ : ByteArray) = turnB key.data.toList b by rw [hkb0]; rfl)
  have HKB := Lib.hid (show kb.length = 64 by rw [hkb0]; exact hkbl)
  by_cases hl : 64 < key.size
  · have hsum := rsum_any key hk
    obtain ⟨K, hD⟩ : ∃ K : ByteArray, K = ⟨(shaL key.data.toList).toArray⟩ := ⟨_, rfl⟩
    rw [← hD] at hsum
    have HSum := Lib.hid hsum
    have hDs : K.size = 32 := by rw [hD]; show (shaL key.data.toList).toArray.size = 32; rw [List.size_toArray, shaL_len]
    have hDl : K.data.toList = shaL key.data.toList := by rw [hD]
    have HKK := Lib.hid (kbIs K kb (by rw [hkb0, kbL_long _ (by simpa using hl), hDl, hDs]))
    have HR0 := Lib.hid hrow0
    clear hsum hD hDl hkb0 hrow0 hkbl hDs
    go_enter Tryd.func33, Tryd.ntmps33
    go_wp2_with (first
      | (go_at_call 24; (with_reducible refine (HSum.out _).mono ?_); rintro e w1 ⟨rfl, hb⟩))
    have HB0 := Lib.hid (hb.alloc hb.size (.cells (row64 (List.replicate 64 0)) 5))
    have HA0 := Lib.hid (HR0.out w1 kb)
    have HG := Lib.hid hb.size
    clear hb HR0
    go_loopw [6] (fun i wr => ∃ k : Nat, k ≤ 64 ∧ i = .int .i64 (k : Int) ∧ Arr wr w1.heap.size (row64 (rowAt kb b k)) 5 ∧ Below w.heap.size w wr) (fun i _ => 64 - (intOf i).toNat)
    case atStart => exact ⟨0, by omega, rfl, HA0.out, HB0.out⟩
    case round =>
      clear HA0 HB0
      obtain ⟨k, hk, rfl, hA, hbel⟩ := hrel
      by_cases hlt : k < 64
      · have hc := hA.cell (row64_at _ k _ (rowAt_at kb b k HKB.out hlt))
        have hf := hA.frozen k
        have hkk : k < kb.length := by rw [HKB.out]; exact hlt
        have hset := rowAt_set kb b k HKB.out hlt
        by_cases hlk : k < K.size
        · have hx := xor_num K[k] b
          have hkb := HKK.out.1 k hlk hkk
          rw [hkb] at hset
          have hs := (hA.set k (.int .u8 (K[k].toNat : Int))).set k (.int .u8 ((K[k] ^^^ b).toNat : Int))
          rw [row64_set, row64_set, List.set_set, hset] at hs
          have HS := Lib.hid hs
          have hb2 := Lib.hid ((hbel.setCell (p := ⟨w1.heap.size, k, none⟩) HG.out (.int .u8 (K[k].toNat : Int))).setCell (p := ⟨w1.heap.size, k, none⟩) HG.out (.int .u8 ((K[k] ^^^ b).toNat : Int)))
          have hlki : (k : Int) < (K.size : Int) := by omega
          clear hA hs hbel hset hkb hkk
          go_wp2
          go_roundw
          case rel => exact ⟨k + 1, hlt, by go_num, HS.out, hb2.out⟩
          case measure => simp [intOf]; omega
        · have hx0 : bits .xor .u8 (0 : Int) (b.toNat : Int) = (b.toNat : Int) := by have := xor_num 0 b; simpa using this
          have hkb := HKK.out.2 k (by omega) hkk
          rw [hkb, show (0 : UInt8) ^^^ b = b by simp] at hset
          have hs := hA.set k (.int .u8 (b.toNat : Int))
          rw [row64_set, hset] at hs
          have HS := Lib.hid hs
          have hb2 := Lib.hid (hbel.setCell (p := ⟨w1.heap.size, k, none⟩) HG.out (.int .u8 (b.toNat : Int)))
          have hlki : ¬ (k : Int) < (K.size : Int) := by omega
          clear hA hs hbel hset hkb hkk
          go_wp2
          go_roundw
          case rel => exact ⟨k + 1, hlt, by go_num, HS.out, hb2.out⟩
          case measure => simp [intOf]; omega
      · obtain rfl : k = 64 := by omega
        rw [rowAt_full kb b HKB.out] at hA
        have hcv := conv_row64' hA (by rw [turnL_len, HKB.out])
        go_wp2
        go_ret
        exact ⟨by rw [← HKD.out]; rfl, hbel⟩
  · have HKK := Lib.hid (kbIs key kb (by rw [hkb0, kbL_short _ (by simpa using hl)]; simp))
    have HR0 := Lib.hid hrow0
    clear hkb0 hrow0 hkbl hk
    go_enter Tryd.func33, Tryd.ntmps33
    go_wp2
    have HB0 := Lib.hid ((Below.refl w.heap.size w).alloc (Nat.le_refl _) (.cells (row64 (List.replicate 64 0)) 5))
    have HA0 := Lib.hid (HR0.out w kb)
    have HG := Lib.hid (Nat.le_refl w.heap.size)
    clear HR0
    go_loopw [6] (fun i wr => ∃ k : Nat, k ≤ 64 ∧ i = .int .i64 (k : Int) ∧ Arr wr w.heap.size (row64 (rowAt kb b k)) 5 ∧ Below w.heap.size w wr) (fun i _ => 64 - (intOf i).toNat)
    case atStart => exact ⟨0, by omega, rfl, HA0.out, HB0.out⟩
    case round =>
      clear HA0 HB0
      obtain ⟨k, hk, rfl, hA, hbel⟩ := hrel
      by_cases hlt : k < 64
      · have hc := hA.cell (row64_at _ k _ (rowAt_at kb b k HKB.out hlt))
        have hf := hA.frozen k
        have hkk : k < kb.length := by rw [HKB.out]; exact hlt
        have hset := rowAt_set kb b k HKB.out hlt
        by_cases hlk : k < key.size
        · have hx := xor_num key[k] b
          have hkb := HKK.out.1 k hlk hkk
          rw [hkb] at hset
          have hs := (hA.set k (.int .u8 (key[k].toNat : Int))).set k (.int .u8 ((key[k] ^^^ b).toNat : Int))
          rw [row64_set, row64_set, List.set_set, hset] at hs
          have HS := Lib.hid hs
          have hb2 := Lib.hid ((hbel.setCell (p := ⟨w.heap.size, k, none⟩) HG.out (.int .u8 (key[k].toNat : Int))).setCell (p := ⟨w.heap.size, k, none⟩) HG.out (.int .u8 ((key[k] ^^^ b).toNat : Int)))
          have hlki : (k : Int) < (key.size : Int) := by omega
          clear hA hs hbel hset hkb hkk
          go_wp2
          go_roundw
          case rel => exact ⟨k + 1, hlt, by go_num, HS.out, hb2.out⟩
          case measure => simp [intOf]; omega
        · have hx0 : bits .xor .u8 (0 : Int) (b.toNat : Int) = (b.toNat : Int) := by have := xor_num 0 b; simpa using this
          have hkb := HKK.out.2 k (by omega) hkk
          rw [hkb, show (0 : UInt8) ^^^ b = b by simp] at hset
          have hs := hA.set k (.int .u8 (b.toNat : Int))
          rw [row64_set, hset] at hs
          have HS := Lib.hid hs
          have hb2 := Lib.hid (hbel.setCell (p := ⟨w.heap.size, k, none⟩) HG.out (.int .u8 (b.toNat : Int)))
          have hlki : ¬ (k : Int) < (key.size : Int) := by omega
          clear hA hs hbel hset hkb hkk
          go_wp2
          go_roundw
          case rel => exact ⟨k + 1, hlt, by go_num, HS.out, hb2.out⟩
          case measure => simp [intOf]; omega
      · obtain rfl : k = 64 := by omega
        rw [rowAt_full kb b HKB.out] at hA
        have hcv := conv_row64' hA (by rw [turnL_len, HKB.out])
        go_wp2
        go_ret
        exact ⟨by rw [← HKD.out]; rfl, hbel⟩
theorem rblock92 (key : ByteArray) (hk : key.size ≤ 1000000) (w : World) : Calls Tryd.prog 33 #[.string key, .int .u8 92] w fun e w' => e = .returned (.string (turnB key.data.toList 92)) ∧ Below w.heap.size w w' := rblock_any key hk 92 w
theorem rblock54 (key : ByteArray) (hk : key.size ≤ 1000000) (w : World) : Calls Tryd.prog 33 #[.string key, .int .u8 54] w fun e w' => e = .returned (.string (turnB key.data.toList 54)) ∧ Below w.heap.size w w' := rblock_any key hk 54 w

set_option maxHeartbeats 1000000 in
theorem rmac_any (key t : ByteArray) (hk : key.size ≤ 1000000) (ht : t.size ≤ 900000) (w : World) :
    Calls Tryd.prog 13 #[.string key, .string t] w fun e w' => e = .returned (.string (macB key.data.toList t.data.toList)) ∧ Below w.heap.size w w' := by
  have H92 := Lib.hid (rblock92 key hk)
  have H54 := Lib.hid (rblock54 key hk)
  have hT := turnB_size key.data.toList 92
  have hTl := turnB_list key.data.toList 92
  have hI := turnB_size key.data.toList 54
  have hIl := turnB_list key.data.toList 54
  generalize turnB key.data.toList 92 = T at *
  generalize turnB key.data.toList 54 = I at *
  have hcat : ∀ w : World, (Op.stringOp .add I t).run Tryd.prog w = .ok (.string (I ++ t)) w := fun w => cat_run I t (by omega) w
  obtain ⟨IT, hIT⟩ : ∃ IT, IT = I ++ t := ⟨_, rfl⟩
  rw [← hIT] at hcat
  have hITl : IT.data.toList = turnL (kbL key.data.toList) 54 ++ t.data.toList := by rw [hIT, ← hIl]; simp
  have hs1 := rsum_any IT (by rw [hIT, ByteArray.size_append]; omega)
  obtain ⟨D, hD⟩ : ∃ D : ByteArray, D = ⟨(shaL IT.data.toList).toArray⟩ := ⟨_, rfl⟩
  have hDs : D.size = 32 := by rw [hD]; show (shaL IT.data.toList).toArray.size = 32; rw [List.size_toArray, shaL_len]
  rw [← hD] at hs1
  have hcat2 : ∀ w : World, (Op.stringOp .add T D).run Tryd.prog w = .ok (.string (T ++ D)) w := fun w => cat_run T D (by omega) w
  obtain ⟨U, hU⟩ : ∃ U, U = T ++ D := ⟨_, rfl⟩
  rw [← hU] at hcat2
  have hs2 := rsum_any U (by rw [hU, ByteArray.size_append]; omega)
  have hUl : (⟨(shaL U.data.toList).toArray⟩ : ByteArray) = macB key.data.toList t.data.toList := by
    rw [hU, macB, macL, ← hTl, ← hITl, show (T ++ D).data.toList = T.data.toList ++ D.data.toList by simp, hD]
  rw [hUl] at hs2
  have HS1 := Lib.hid hs1
  have HS2 := Lib.hid hs2
  clear hs1 hs2 hUl hU hDs hD hITl hIT hTl hIl hT hI
  go_enter Tryd.func13, Tryd.ntmps13
  go_wp2_with (first
    | (go_at_call 33; (first
        | ((with_reducible refine (H92.out _).mono ?_); rintro e w1 ⟨rfl, hb1⟩)
        | ((with_reducible refine (H54.out _).mono ?_); rintro e w2 ⟨rfl, hb2⟩)))
    | (go_at_call 24; (first
        | ((with_reducible refine (HS1.out _).mono ?_); rintro e w3 ⟨rfl, hb3⟩)
        | ((with_reducible refine (HS2.out _).mono ?_); rintro e w4 ⟨rfl, hb4⟩))))
  go_ret
  exact ⟨rfl, Below_next (Below_next (Below_next hb1 hb2) hb3) hb4⟩
end Go.Proofs.YtmedlgnllgldiaaDoor
