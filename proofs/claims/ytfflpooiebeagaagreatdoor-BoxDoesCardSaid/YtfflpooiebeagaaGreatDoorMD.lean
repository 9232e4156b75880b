/- The document's own block, Sum, Expand, Derive of layer 3. The document's own Expand and Derive of layer 3. -/
import Derived.Test.YtfflpooiebeagaaGreatDoorMB
import Derived.Test.YtfflpooiebeagaaGreatDoorMC
namespace Go.Proofs.YtfflpooiebeagaaGreatDoor
open Go.RowKit

/-- k bytes of a block are turned, the others are 0. -/
def rowAt (kb : List UInt8) (b : UInt8) (k : Nat) : List UInt8 := turnL (kb.take k) b ++ List.replicate (64 - k) 0
theorem rowAt_zero (kb : List UInt8) (b : UInt8) : rowAt kb b 0 = List.replicate 64 0 := by simp [rowAt, turnL]
theorem rowAt_full (kb : List UInt8) (b : UInt8) (h : kb.length = 64) : rowAt kb b 64 = turnL kb b := by
  rw [rowAt, List.take_of_length_le (by omega), Nat.sub_self, List.replicate_zero, List.append_nil]
theorem rowAt_head (kb : List UInt8) (b : UInt8) (k : Nat) (h : kb.length = 64) (hk : k < 64) : (turnL (kb.take k) b).length = k := by rw [turnL_len, List.length_take]; omega
theorem rowAt_at (kb : List UInt8) (b : UInt8) (k : Nat) (h : kb.length = 64) (hk : k < 64) : (rowAt kb b k)[k]? = some 0 := by
  have e := rowAt_head kb b k h hk
  rw [rowAt, List.getElem?_append_right (by omega), e, Nat.sub_self, List.getElem?_replicate, if_pos (by omega)]
theorem rowAt_set (kb : List UInt8) (b : UInt8) (k : Nat) (h : kb.length = 64) (hk : k < 64) : (rowAt kb b k).set k (kb[k]'(by omega) ^^^ b) = rowAt kb b (k + 1) := by
  have e := rowAt_head kb b k h hk
  obtain ⟨m, hm⟩ : ∃ m, 64 - k = m + 1 := ⟨63 - k, by omega⟩
  rw [rowAt, rowAt, List.set_append_right _ _ (by omega), e, Nat.sub_self, hm, List.replicate_succ, List.set_cons_zero, List.take_succ_eq_append_getElem (by omega), turnL, turnL, List.map_append, List.append_assoc, show 64 - (k + 1) = m by omega]
  rfl
/-- What a block is made of. -/
def KbIs (K : ByteArray) (kb : List UInt8) : Prop := (∀ k (h : k < K.size) (h2 : k < kb.length), kb[k] = K[k]) ∧ (∀ k (_ : K.size ≤ k) (h2 : k < kb.length), kb[k] = 0)
theorem kbIs (K : ByteArray) (kb : List UInt8) (h : kb = K.data.toList ++ List.replicate (64 - K.size) 0) : KbIs K kb := by
  subst h
  have hl : K.data.toList.length = K.size := by simp
  refine ⟨fun k h1 h2 => ?_, fun k h1 h2 => ?_⟩
  · rw [List.getElem_append_left (by omega)]; rfl
  · rw [List.getElem_append_right (by omega), List.getElem_replicate]

theorem conv_row64' {ty : TypeId} {w : World} {g : Nat} {l : List UInt8} (h : Arr w g (row64 l) ty) (hl : l.length = 64) :
    (convert 43 9 (.slice (some ⟨g, 0, none⟩) 64 64)).run Tryz.prog w = .ok (.string ⟨l.toArray⟩) w := by
  have := conv_cells w ⟨g, 0, none⟩ l 64 (fun j v hv => by
    rw [addr_add, Nat.zero_add]; exact h.cell (by rw [row64, List.getElem?_toArray]; exact hv))
  rw [hl] at this
  exact this
theorem made64 : madeCells #[Value.int .u8 0] 64 = row64 (List.replicate 64 0) := by
  apply Array.ext'
  rw [u8s_zeros, row64]
theorem make64 (w : World) : (Instr.makeSlice 43 (.int .i64 64) (.int .i64 64)).run Tryz.prog w = .ok (.slice (some ⟨w.heap.size, 0, none⟩) 64 64) (w.alloc (.cells (row64 (List.replicate 64 0)) 5)) := by
  obtain ⟨i0, hi, hz0, hz1, hz2⟩ := info_parts Tryz.infoU8
  have := run_makeSlice (P := Tryz.prog) w 43 5 i0 (.int .u8 0) Tryz.underlying43 hi hz0 .i64 .i64 64 64 (by decide) (by decide) (by rw [hz1]; decide) (by rw [hz2]; decide) (by decide)
  rw [hz1] at this
  rw [← made64]
  exact this
set_option maxHeartbeats 2000000 in
set_option maxRecDepth 100000 in
theorem rblock_any (key : ByteArray) (hk : key.size ≤ 1000000) (b : UInt8) (w : World) :
    Calls Tryz.prog 70 #[.string key, .int .u8 (b.toNat : Int)] w fun e w' => e = .returned (.string (mturnB key.data.toList b)) ∧ Below w.heap.size w w' := by
  have hrow0 := fun (w1 : World) (kb : List UInt8) => show Arr (w1.alloc (.cells (row64 (List.replicate 64 0)) 5)) w1.heap.size (row64 (rowAt kb b 0)) 5 by rw [rowAt_zero]; exact Arr.new w1 _ _
  have hkbl := kbL_len key.data.toList
  have hmk := make64
  obtain ⟨kb, hkb0⟩ : ∃ kb, kb = kbL key.data.toList := ⟨_, rfl⟩
  have HKD := Lib.hid (show (⟨(turnL kb b).toArray⟩ : ByteArray) = mturnB key.data.toList b by rw [hkb0]; rfl)
  have HKB := Lib.hid (show kb.length = 64 by rw [hkb0]; exact hkbl)
  by_cases hl : 64 < key.size
  · have hsum := rsum_any key hk
    obtain ⟨K, hD⟩ : ∃ K : ByteArray, K = ⟨(shaL key.data.toList).toArray⟩ := ⟨_, rfl⟩
    rw [← hD] at hsum
    have HSum := Lib.hid hsum
    have hDs : K.size = 32 := by rw [hD]; show (shaL key.data.toList).toArray.size = 32; rw [List.size_toArray, shaL_len]
    have hDl : K.data.toList = shaL key.data.toList := by rw [hD]
    have HKK := Lib.hid (kbIs K kb (by rw [hkb0, kbL_long _ (by simpa using hl), hDl, hDs]))
    have HR0 := Lib.hid hrow0
    clear hsum hD hDl hkb0 hrow0 hkbl hDs
    go_enter Tryz.func70, Tryz.ntmps70
    go_wp2_with (first
      | (go_at_call 69; (with_reducible refine (HSum.out _).mono ?_); rintro e w1 ⟨rfl, hb⟩))
    have HB0 := Lib.hid (hb.alloc hb.size (.cells (row64 (List.replicate 64 0)) 5))
    have HA0 := Lib.hid (HR0.out w1 kb)
    have HG := Lib.hid hb.size
    clear hb HR0
    go_loopw [6] (fun i wr => ∃ k : Nat, k ≤ 64 ∧ i = .int .i64 (k : Int) ∧ Arr wr w1.heap.size (row64 (rowAt kb b k)) 5 ∧ Below w.heap.size w wr) (fun i _ => 64 - (intOf i).toNat)
    case atStart => exact ⟨0, by omega, rfl, HA0.out, HB0.out⟩
    case round =>
      clear HA0 HB0
      obtain ⟨k, hk, rfl, hA, hbel⟩ := hrel
      by_cases hlt : k < 64
      · have hc := hA.cell (row64_at _ k _ (rowAt_at kb b k HKB.out hlt))
        have hf := hA.frozen k
        have hkk : k < kb.length := by rw [HKB.out]; exact hlt
        have hset := rowAt_set kb b k HKB.out hlt
        by_cases hlk : k < K.size
        · have hx := xor_num K[k] b
          have hkb := HKK.out.1 k hlk hkk
          rw [hkb] at hset
          have hs := (hA.set k (.int .u8 (K[k].toNat : Int))).set k (.int .u8 ((K[k] ^^^ b).toNat : Int))
          rw [row64_set, row64_set, List.set_set, hset] at hs
          have HS := Lib.hid hs
          have hb2 := Lib.hid ((hbel.setCell (p := ⟨w1.heap.size, k, none⟩) HG.out (.int .u8 (K[k].toNat : Int))).setCell (p := ⟨w1.heap.size, k, none⟩) HG.out (.int .u8 ((K[k] ^^^ b).toNat : Int)))
          have hlki : (k : Int) < (K.size : Int) := by omega
          clear hA hs hbel hset hkb hkk
          go_wp2
          go_roundw
          case rel => exact ⟨k + 1, hlt, by go_num, HS.out, hb2.out⟩
          case measure => simp [intOf]; omega
        · have hx0 : bits .xor .u8 (0 : Int) (b.toNat : Int) = (b.toNat : Int) := by have := xor_num 0 b; simpa using this
          have hkb := HKK.out.2 k (by omega) hkk
          rw [hkb, show (0 : UInt8) ^^^ b = b by simp] at hset
          have hs := hA.set k (.int .u8 (b.toNat : Int))
          rw [row64_set, hset] at hs
          have HS := Lib.hid hs
          have hb2 := Lib.hid (hbel.setCell (p := ⟨w1.heap.size, k, none⟩) HG.out (.int .u8 (b.toNat : Int)))
          have hlki : ¬ (k : Int) < (K.size : Int) := by omega
          clear hA hs hbel hset hkb hkk
          go_wp2
          go_roundw
          case rel => exact ⟨k + 1, hlt, by go_num, HS.out, hb2.out⟩
          case measure => simp [intOf]; omega
      · obtain rfl : k = 64 := by omega
        rw [rowAt_full kb b HKB.out] at hA
        have hcv := conv_row64' hA (by rw [turnL_len, HKB.out])
        go_wp2
        go_ret
        exact ⟨by rw [← HKD.out]; rfl, hbel⟩
  · have HKK := Lib.hid (kbIs key kb (by rw [hkb0, kbL_short _ (by simpa using hl)]; simp))
    have HR0 := Lib.hid hrow0
    clear hkb0 hrow0 hkbl hk
    go_enter Tryz.func70, Tryz.ntmps70
    go_wp2
    have HB0 := Lib.hid ((Below.refl w.heap.size w).alloc (Nat.le_refl _) (.cells (row64 (List.replicate 64 0)) 5))
    have HA0 := Lib.hid (HR0.out w kb)
    have HG := Lib.hid (Nat.le_refl w.heap.size)
    clear HR0
    go_loopw [6] (fun i wr => ∃ k : Nat, k ≤ 64 ∧ i = .int .i64 (k : Int) ∧ Arr wr w.heap.size (row64 (rowAt kb b k)) 5 ∧ Below w.heap.size w wr) (fun i _ => 64 - (intOf i).toNat)
    case atStart => exact ⟨0, by omega, rfl, HA0.out, HB0.out⟩
    case round =>
      clear HA0 HB0
      obtain ⟨k, hk, rfl, hA, hbel⟩ := hrel
      by_cases hlt : k < 64
      · have hc := hA.cell (row64_at _ k _ (rowAt_at kb b k HKB.out hlt))
        have hf := hA.frozen k
        have hkk : k < kb.length := by rw [HKB.out]; exact hlt
        have hset := rowAt_set kb b k HKB.out hlt
        by_cases hlk : k < key.size
        · have hx := xor_num key[k] b
          have hkb := HKK.out.1 k hlk hkk
          rw [hkb] at hset
          have hs := (hA.set k (.int .u8 (key[k].toNat : Int))).set k (.int .u8 ((key[k] ^^^ b).toNat : Int))
          rw [row64_set, row64_set, List.set_set, hset] at hs
          have HS := Lib.hid hs
          have hb2 := Lib.hid ((hbel.setCell (p := ⟨w.heap.size, k, none⟩) HG.out (.int .u8 (key[k].toNat : Int))).setCell (p := ⟨w.heap.size, k, none⟩) HG.out (.int .u8 ((key[k] ^^^ b).toNat : Int)))
          have hlki : (k : Int) < (key.size : Int) := by omega
          clear hA hs hbel hset hkb hkk
          go_wp2
          go_roundw
          case rel => exact ⟨k + 1, hlt, by go_num, HS.out, hb2.out⟩
          case measure => simp [intOf]; omega
        · have hx0 : bits .xor .u8 (0 : Int) (b.toNat : Int) = (b.toNat : Int) := by have := xor_num 0 b; simpa using this
          have hkb := HKK.out.2 k (by omega) hkk
          rw [hkb, show (0 : UInt8) ^^^ b = b by simp] at hset
          have hs := hA.set k (.int .u8 (b.toNat : Int))
          rw [row64_set, hset] at hs
          have HS := Lib.hid hs
          have hb2 := Lib.hid (hbel.setCell (p := ⟨w.heap.size, k, none⟩) HG.out (.int .u8 (b.toNat : Int)))
          have hlki : ¬ (k : Int) < (key.size : Int) := by omega
          clear hA hs hbel hset hkb hkk
          go_wp2
          go_roundw
          case rel => exact ⟨k + 1, hlt, by go_num, HS.out, hb2.out⟩
          case measure => simp [intOf]; omega
      · obtain rfl : k = 64 := by omega
        rw [rowAt_full kb b HKB.out] at hA
        have hcv := conv_row64' hA (by rw [turnL_len, HKB.out])
        go_wp2
        go_ret
        exact ⟨by rw [← HKD.out]; rfl, hbel⟩
theorem rblock92 (key : ByteArray) (hk : key.size ≤ 1000000) (w : World) : Calls Tryz.prog 70 #[.string key, .int .u8 92] w fun e w' => e = .returned (.string (mturnB key.data.toList 92)) ∧ Below w.heap.size w w' := rblock_any key hk 92 w
theorem rblock54 (key : ByteArray) (hk : key.size ≤ 1000000) (w : World) : Calls Tryz.prog 70 #[.string key, .int .u8 54] w fun e w' => e = .returned (.string (mturnB key.data.toList 54)) ∧ Below w.heap.size w w' := rblock_any key hk 54 w

set_option maxHeartbeats 1000000 in
theorem rmac_any (key t : ByteArray) (hk : key.size ≤ 1000000) (ht : t.size ≤ 900000) (w : World) :
    Calls Tryz.prog 43 #[.string key, .string t] w fun e w' => e = .returned (.string (macB key.data.toList t.data.toList)) ∧ Below w.heap.size w w' := by
  have H92 := Lib.hid (rblock92 key hk)
  have H54 := Lib.hid (rblock54 key hk)
  have hT := mturnB_size key.data.toList 92
  have hTl := mturnB_list key.data.toList 92
  have hI := mturnB_size key.data.toList 54
  have hIl := mturnB_list key.data.toList 54
  generalize mturnB key.data.toList 92 = T at *
  generalize mturnB key.data.toList 54 = I at *
  have hcat : ∀ w : World, (Op.stringOp .add I t).run Tryz.prog w = .ok (.string (I ++ t)) w := fun w => cat_run I t (by omega) w
  obtain ⟨IT, hIT⟩ : ∃ IT, IT = I ++ t := ⟨_, rfl⟩
  rw [← hIT] at hcat
  have hITl : IT.data.toList = turnL (kbL key.data.toList) 54 ++ t.data.toList := by rw [hIT, ← hIl]; simp
  have hs1 := rsum_any IT (by rw [hIT, ByteArray.size_append]; omega)
  obtain ⟨D, hD⟩ : ∃ D : ByteArray, D = ⟨(shaL IT.data.toList).toArray⟩ := ⟨_, rfl⟩
  have hDs : D.size = 32 := by rw [hD]; show (shaL IT.data.toList).toArray.size = 32; rw [List.size_toArray, shaL_len]
  rw [← hD] at hs1
  have hcat2 : ∀ w : World, (Op.stringOp .add T D).run Tryz.prog w = .ok (.string (T ++ D)) w := fun w => cat_run T D (by omega) w
  obtain ⟨U, hU⟩ : ∃ U, U = T ++ D := ⟨_, rfl⟩
  rw [← hU] at hcat2
  have hs2 := rsum_any U (by rw [hU, ByteArray.size_append]; omega)
  have hUl : (⟨(shaL U.data.toList).toArray⟩ : ByteArray) = macB key.data.toList t.data.toList := by
    rw [hU, macB, macL, ← hTl, ← hITl, show (T ++ D).data.toList = T.data.toList ++ D.data.toList by simp, hD]
  rw [hUl] at hs2
  have HS1 := Lib.hid hs1
  have HS2 := Lib.hid hs2
  clear hs1 hs2 hUl hU hDs hD hITl hIT hTl hIl hT hI
  go_enter Tryz.func43, Tryz.ntmps43
  go_wp2_with (first
    | (go_at_call 70; (first
        | ((with_reducible refine (H92.out _).mono ?_); rintro e w1 ⟨rfl, hb1⟩)
        | ((with_reducible refine (H54.out _).mono ?_); rintro e w2 ⟨rfl, hb2⟩)))
    | (go_at_call 69; (first
        | ((with_reducible refine (HS1.out _).mono ?_); rintro e w3 ⟨rfl, hb3⟩)
        | ((with_reducible refine (HS2.out _).mono ?_); rintro e w4 ⟨rfl, hb4⟩))))
  go_ret
  exact ⟨rfl, Below_next (Below_next (Below_next hb1 hb2) hb3) hb4⟩
end Go.Proofs.YtfflpooiebeagaaGreatDoor
namespace Go.Proofs.YtfflpooiebeagaaGreatDoor
open Go.RowKit

/-- One byte as a string. -/
theorem conv_one (w : World) (b : UInt8) (v : Int) (hv : v = (b.toNat : Int)) :
    (convert 43 9 (.slice (some ⟨w.heap.size, 0, none⟩) 1 1)).run Tryz.prog (w.alloc (.cells #[.int .u8 v] 5)) = .ok (.string ⟨#[b]⟩) (w.alloc (.cells #[.int .u8 v] 5)) := by
  subst hv
  exact conv_cells _ ⟨w.heap.size, 0, none⟩ [b] 1 (fun j v hv => by
    rw [addr_add, Nat.zero_add]
    exact (Arr.new w #[.int .u8 (b.toNat : Int)] 5).cell (by simpa [u8s] using hv))
theorem byteAt_small (j : Nat) (h : j < 256) : ((byteAt j 0).toNat : Int) = (j : Int) := by
  rw [← byte_num']; omega

set_option maxHeartbeats 1000000 in
set_option maxRecDepth 100000 in
theorem rexpand_any (key info : ByteArray) (n : Int) (hk : key.size ≤ 1000000) (hi : info.size ≤ 100000) (w : World) :
    Calls Tryz.prog 42 #[.string key, .string info, .int .i64 n] w fun e w' => e = .returned (exR key.data.toList info.data.toList n) ∧ Below w.heap.size w w' := by
  unfold exR
  by_cases h1 : n < 0
  · rw [if_pos (Or.inl h1)]
    go_enter Tryz.func42, Tryz.ntmps42
    go_wp2
    go_ret2
    exact ⟨rfl, Below.refl _ _⟩
  · by_cases h2 : 8160 < n
    · rw [if_pos (Or.inr h2)]
      go_enter Tryz.func42, Tryz.ntmps42
      go_wp2
      go_ret2
      exact ⟨rfl, Below.refl _ _⟩
    · rw [if_neg (by omega)]
      obtain ⟨N, rfl⟩ : ∃ N : Nat, n = (N : Int) := ⟨n.toNat, by omega⟩
      have hN : N ≤ 8160 := by omega
      rw [Int.toNat_natCast]
      clear h1 h2
      have hN1 : ¬ (N : Int) < 0 := by omega
      have hN2 : ¬ (8160 : Int) < (N : Int) := by omega
      go_enter Tryz.func42, Tryz.ntmps42
      go_wp2
      go_loopw [8, 9, 10] (fun o p i wr => ∃ k : Nat, k ≤ 255 ∧ 32 * k < N + 32 ∧ o = .string ⟨(exL key.data.toList info.data.toList k).toArray⟩ ∧ p = .string ⟨(exPart key.data.toList info.data.toList k).toArray⟩ ∧ i = .int .i64 ((k + 1 : Nat) : Int) ∧ Below w.heap.size w wr) (fun _ _ i _ => 300 - (intOf i).toNat)
      case atStart => exact ⟨0, by omega, by omega, rfl, rfl, rfl, Below.refl _ _⟩
      case round =>
        obtain ⟨k, hk2, hkN, rfl, rfl, rfl, hbel⟩ := hrel
        have hel := exL_len key.data.toList info.data.toList k
        have hS : (ByteArray.mk (exL key.data.toList info.data.toList k).toArray).size = 32 * k := by show (exL key.data.toList info.data.toList k).toArray.size = _; rw [List.size_toArray, hel]
        by_cases hlt : 32 * k < N
        · have hlt' : (32 * (k : Int) < (N : Int)) := by omega
          have hk1 : ((k + 1 : Nat) : Int) = (k : Int) + 1 := by omega
          have hpl := exPart_len key.data.toList info.data.toList k
          have hpn : macB key.data.toList (exPart key.data.toList info.data.toList k ++ info.data.toList ++ [byteAt (k + 1) 0]) = ⟨(exPart key.data.toList info.data.toList (k + 1)).toArray⟩ := rfl
          have hps : (ByteArray.mk (exPart key.data.toList info.data.toList (k + 1)).toArray).size = 32 := by show (exPart key.data.toList info.data.toList (k + 1)).toArray.size = 32; rw [List.size_toArray, exPart_succ_len]
          have hnx : (ByteArray.mk (exL key.data.toList info.data.toList k).toArray) ++ (ByteArray.mk (exPart key.data.toList info.data.toList (k + 1)).toArray) = ⟨(exL key.data.toList info.data.toList (k + 1)).toArray⟩ := by apply ByteArray.ext; simp [exL]
          obtain ⟨P, hP⟩ : ∃ P, P = (ByteArray.mk (exPart key.data.toList info.data.toList k).toArray) := ⟨_, rfl⟩
          obtain ⟨P2, hP2⟩ : ∃ P2, P2 = (ByteArray.mk (exPart key.data.toList info.data.toList (k + 1)).toArray) := ⟨_, rfl⟩
          obtain ⟨S, hSd⟩ : ∃ S, S = (ByteArray.mk (exL key.data.toList info.data.toList k).toArray) := ⟨_, rfl⟩
          obtain ⟨S2, hS2⟩ : ∃ S2, S2 = (ByteArray.mk (exL key.data.toList info.data.toList (k + 1)).toArray) := ⟨_, rfl⟩
          obtain ⟨X, hX⟩ : ∃ X : ByteArray, X = ⟨#[byteAt (k + 1) 0]⟩ := ⟨_, rfl⟩
          have hPs : P.size ≤ 32 := by rw [hP]; show (exPart key.data.toList info.data.toList k).toArray.size ≤ 32; rw [List.size_toArray]; exact hpl
          have hXs : X.size = 1 := by rw [hX]; rfl
          have hPl : P.data.toList = exPart key.data.toList info.data.toList k := by rw [hP]
          have hXl : X.data.toList = [byteAt (k + 1) 0] := by rw [hX]
          have hcv := conv_one wr (byteAt (k + 1) 0) ((k : Int) + 1) (by rw [byteAt_small _ (by omega)]; omega)
          rw [← hX] at hcv
          have hr1 : ∀ w : World, (Op.stringOp .add P info).run Tryz.prog w = .ok (.string (P ++ info)) w := fun w => cat_run P info (by omega) w
          obtain ⟨PI, hPI⟩ : ∃ PI, PI = P ++ info := ⟨_, rfl⟩
          have hPIs : PI.size = P.size + info.size := by rw [hPI, ByteArray.size_append]
          have hPIl : PI.data.toList = P.data.toList ++ info.data.toList := by rw [hPI]; simp
          rw [← hPI] at hr1
          have hr2 : ∀ w : World, (Op.stringOp .add PI X).run Tryz.prog w = .ok (.string (PI ++ X)) w := fun w => cat_run PI X (by omega) w
          obtain ⟨PX, hPX⟩ : ∃ PX, PX = PI ++ X := ⟨_, rfl⟩
          have hPXs : PX.size = PI.size + X.size := by rw [hPX, ByteArray.size_append]
          have hPXl : PX.data.toList = PI.data.toList ++ X.data.toList := by rw [hPX]; simp
          rw [← hPX] at hr2
          have hmac := fun w => rmac_any key PX hk (by omega) w
          rw [hPXl, hPIl, hPl, hXl, hpn, ← hP2] at hmac
          have HMac := Lib.hid hmac
          rw [← hSd, ← hP2, ← hS2] at hnx
          rw [← hP2] at hps
          rw [← hSd] at hS
          have hr3 : ∀ w : World, (Op.stringOp .add S P2).run Tryz.prog w = .ok (.string S2) w := fun w => by rw [cat_run S P2 (by omega) w, hnx]
          rw [← hSd, ← hP]
          have HS2 := Lib.hid hS2
          have HP2 := Lib.hid hP2
          clear hmac hnx hPX hPXl hPI hPIl hX hXl hP hPl hP2 hS2 hSd hpn hpl hel
          have hj : (k : Int) + 1 < 300 := by omega
          go_wp2_with (first
            | (go_at_call 43; (with_reducible refine (HMac.out _).mono ?_); rintro e wy ⟨rfl, hby⟩))
          go_roundw
          case rel => exact ⟨k + 1, by omega, by omega, by rw [HS2.out], by rw [HP2.out], by go_num, Below_next (hbel.alloc hbel.size _) hby⟩
          case measure => simp [intOf]; omega
        · have hfull := exB_of key.data.toList info.data.toList N k hk2 (by omega)
          have hsl := slice_to (ByteArray.mk (exL key.data.toList info.data.toList k).toArray) N (by rw [hS]; omega)
          rw [hfull] at hsl
          obtain ⟨S, hSd⟩ : ∃ S, S = (ByteArray.mk (exL key.data.toList info.data.toList k).toArray) := ⟨_, rfl⟩
          rw [← hSd] at hS hsl hfull ⊢
          have hlt' : ¬ (32 * (k : Int) < (N : Int)) := by omega
          have hN2' : (N : Int) ≤ 32 * (k : Int) := by omega
          clear hSd hel
          go_wp2
          go_ret2
          exact ⟨rfl, hbel⟩

theorem rderive_any (salt secret info : ByteArray) (n : Int) (hk : salt.size ≤ 1000000) (hs : secret.size ≤ 900000) (hi : info.size ≤ 100000) (w : World) :
    Calls Tryz.prog 28 #[.string salt, .string secret, .string info, .int .i64 n] w fun e w' => e = .returned (exR (macL salt.data.toList secret.data.toList) info.data.toList n) ∧ Below w.heap.size w w' := by
  have HX := Lib.hid (rmac_any salt secret hk hs w)
  have hkl : (macB salt.data.toList secret.data.toList).data.toList = macL salt.data.toList secret.data.toList := by simp [macB]
  have hE := fun w => rexpand_any (macB salt.data.toList secret.data.toList) info n (by rw [macB_size]; decide) hi w
  rw [hkl] at hE
  have HE := Lib.hid hE
  clear hE hkl
  unfold exR at HE ⊢
  by_cases hc : n < 0 ∨ 8160 < n
  · rw [if_pos hc] at HE ⊢
    clear hc
    go_enter Tryz.func28, Tryz.ntmps28
    go_wp2_with (first
      | (go_at_call 43; (with_reducible refine HX.out.mono ?_); rintro e w1 ⟨rfl, hb1⟩)
      | (go_at_call 42; (with_reducible refine (HE.out _).mono ?_); rintro e w2 ⟨rfl, hb2⟩))
    go_ret2
    exact ⟨rfl, Below_next hb1 hb2⟩
  · rw [if_neg hc] at HE ⊢
    clear hc
    go_enter Tryz.func28, Tryz.ntmps28
    go_wp2_with (first
      | (go_at_call 43; (with_reducible refine HX.out.mono ?_); rintro e w1 ⟨rfl, hb1⟩)
      | (go_at_call 42; (with_reducible refine (HE.out _).mono ?_); rintro e w2 ⟨rfl, hb2⟩))
    go_ret2
    exact ⟨rfl, Below_next hb1 hb2⟩
end Go.Proofs.YtfflpooiebeagaaGreatDoor
