/- mac: the contracts of Expand and Derive. -/
import Derived.Test.YtmedlgnllgldiaaDoorMc4
namespace Go.Proofs.YtmedlgnllgldiaaDoor
open Go.RowKit

/-- Part i of what a key is expanded to. -/
def exPart (key info : List UInt8) : Nat → List UInt8
  | 0 => []
  | i + 1 => macL key (exPart key info i ++ info ++ [byteAt (i + 1) 0])
/-- The first parts, one behind the other. -/
def exL (key info : List UInt8) : Nat → List UInt8
  | 0 => []
  | i + 1 => exL key info i ++ exPart key info (i + 1)
theorem exPart_len (key info : List UInt8) (i : Nat) : (exPart key info i).length ≤ 32 := by
  cases i with
  | zero => simp [exPart]
  | succ i => rw [exPart, macL_len]; exact Nat.le_refl _
theorem exPart_succ_len (key info : List UInt8) (i : Nat) : (exPart key info (i + 1)).length = 32 := by rw [exPart, macL_len]
theorem exL_len (key info : List UInt8) (i : Nat) : (exL key info i).length = 32 * i := by
  induction i with
  | zero => rfl
  | succ i ih => rw [exL, List.length_append, ih, exPart_succ_len]; omega
theorem exL_more (key info : List UInt8) (i j : Nat) (h : i ≤ j) : ∃ r, exL key info j = exL key info i ++ r := by
  induction j with
  | zero => obtain rfl : i = 0 := by omega
            exact ⟨[], by simp⟩
  | succ j ih =>
    rcases Nat.lt_or_ge j i with h1 | h1
    · obtain rfl : i = j + 1 := by omega
      exact ⟨[], by simp⟩
    · obtain ⟨r, hr⟩ := ih h1
      exact ⟨r ++ exPart key info (j + 1), by rw [exL, hr, List.append_assoc]⟩
/-- What a key is expanded to. -/
def exB (key info : List UInt8) (n : Nat) : ByteArray := ⟨((exL key info 255).take n).toArray⟩
theorem exB_size (key info : List UInt8) (n : Nat) (h : n ≤ 8160) : (exB key info n).size = n := by
  show ((exL key info 255).take n).toArray.size = n
  rw [List.size_toArray, List.length_take, exL_len]; omega
theorem exB_of (key info : List UInt8) (n k : Nat) (hk : k ≤ 255) (h : n ≤ 32 * k) : (ByteArray.mk (exL key info k).toArray).extract 0 n = exB key info n := by
  obtain ⟨r, hr⟩ := exL_more key info k 255 hk
  apply ByteArray.ext
  rw [ByteArray.data_extract, exB, hr, List.take_append_of_le_length (by rw [exL_len]; omega)]
  simp
theorem slice_to (s : ByteArray) (n : Nat) (h : n ≤ s.size) (w : World) :
    (Instr.slice 9 (.string s) none (some (.int .i64 (n : Int))) none).run Tryd.prog w = .ok (.string (s.extract 0 n)) w := by
  have := run_slice_string_to_if (P := Tryd.prog) (w := w) 9 s .i64 (n : Int) Tryd.underlying9
  rw [this, if_pos (by omega)]
  simp
theorem bldLen_any (B b : Nat) (l : List UInt8) (w : World) (h : Bld w B b l) :
    Calls Tryd.prog 37 #[.pointer (some ⟨b, 0, none⟩)] w fun e w' => e = .returned (.int .i64 ((l.length : Nat) : Int)) ∧ w = w' :=
  (Tryd.Builder_Len B b (Lib.byteCells l) w h).mono fun _ _ ⟨h1, h2⟩ => ⟨by rw [h1, Lib.byteCells_length], h2.symm⟩
theorem high1_any (x : Nat) (hx : x < 18446744073709551616) (w : World) :
    Calls Tryd.prog 38 #[.int .u64 x, .int .i64 1] w fun e w' => e = .returned (.string ⟨#[byteAt x 0]⟩) ∧ Below w.heap.size w w' := by
  have := high_any x hx 1 w
  rw [show toldN 1 = 1 from rfl, show (lowL x 1).reverse = [byteAt x 0] from by simp [lowL]] at this
  exact this
/-- What Expand answers. -/
def exR (key info : List UInt8) (n : Int) : Value := if n < 0 ∨ 8160 < n then .tuple #[.string ByteArray.empty, .int .i64 5] else .tuple #[.string (exB key info n.toNat), .int .i64 0]

set_option maxHeartbeats 1000000 in
set_option maxRecDepth 100000 in
theorem expand_any (key info : ByteArray) (n : Int) (hk : key.size ≤ 1099511627776) (hi : info.size ≤ 100000000) (w : World) (htab : Tab w) :
    Calls Tryd.prog 17 #[.string key, .string info, .int .i64 n] w fun e w' => e = .returned (exR key.data.toList info.data.toList n) ∧ Below w.heap.size w w' := by
  unfold exR
  by_cases h1 : n < 0
  · rw [if_pos (Or.inl h1)]
    clear htab
    go_enter Tryd.func17, Tryd.ntmps17
    go_wp2
    go_ret2
    exact ⟨rfl, Below.refl _ _⟩
  · by_cases h2 : 8160 < n
    · rw [if_pos (Or.inr h2)]
      clear htab
      go_enter Tryd.func17, Tryd.ntmps17
      go_wp2
      go_ret2
      exact ⟨rfl, Below.refl _ _⟩
    · rw [if_neg (by omega)]
      obtain ⟨N, rfl⟩ : ∃ N : Nat, n = (N : Int) := ⟨n.toNat, by omega⟩
      have hN : N ≤ 8160 := by omega
      rw [Int.toNat_natCast]
      clear h1 h2
      have HTn := Lib.hid (turner_any key hk w htab)
      have HT := Lib.hid htab
      clear htab
      have hN1 : ¬ (N : Int) < 0 := by omega
      have hN2 : ¬ (8160 : Int) < (N : Int) := by omega
      go_enter Tryd.func17, Tryd.ntmps17
      go_wp2_with (first
        | (go_at_call 35; (with_reducible refine HTn.out.mono ?_); rintro e w1 ⟨⟨g, rfl, hwg, hK⟩, hb1⟩; unfold turnF))
      have hBl := Bld.new w1 w1.heap.size (Nat.le_refl _)
      have HBl := Lib.hid hBl
      have hbel := (Below.refl w1.heap.size w1).alloc (Nat.le_refl _) (.cells #[.pointer none, .slice none 0 0] 63)
      have HBe := Lib.hid hbel
      have HT1 := Lib.hid (HT.out.next hb1)
      have HK := Lib.hid hK
      have hgl := Arr.lt hK
      clear hBl hbel HT hK
      have hle1 := hb1.size
      generalize hbd : w1.heap.size = b at *
      have HBD := Lib.hid hbd
      clear hbd
      go_loopw [10, 11] (fun p i wr => ∃ k : Nat, k ≤ 255 ∧ 32 * k < N + 32 ∧ p = .string ⟨(exPart key.data.toList info.data.toList k).toArray⟩ ∧ i = .int .u64 ((k + 1 : Nat) : Int) ∧ Bld wr b b (exL key.data.toList info.data.toList k) ∧ Below b w1 wr) (fun _ i _ => 300 - (intOf i).toNat)
      case atStart => exact ⟨0, by omega, by omega, rfl, rfl, HBl.out, HBe.out⟩
      case round =>
        clear HBl HBe
        obtain ⟨k, hk2, hkN, rfl, rfl, hbl, hbel⟩ := hrel
        have hsz := hbel.size
        have HLen := Lib.hid (bldLen_any b b _ wr hbl)
        have hel := exL_len key.data.toList info.data.toList k
        rw [hel] at HLen
        have hb0 := HBD.out
        have hbw : b ≤ wr.heap.size := by omega
        have HKr := Lib.hid (show Kb wr g key.data.toList from Arr.below HK.out hbel hgl)
        have HTr := Lib.hid (HT1.out.below hbel (by have := HT1.out.lt; omega))
        clear hsz hb0
        by_cases hlt : 32 * k < N
        · have hlt' : (32 * (k : Int) < (N : Int)) := by omega
          have HH := Lib.hid (high1_any (k + 1) (by omega) wr)
          have hcat : catL [(⟨(exPart key.data.toList info.data.toList k).toArray⟩ : ByteArray), info, ⟨#[byteAt (k + 1) 0]⟩] = exPart key.data.toList info.data.toList k ++ info.data.toList ++ [byteAt (k + 1) 0] := by simp [catL]
          have hpl := exPart_len key.data.toList info.data.toList k
          have hcl : (exPart key.data.toList info.data.toList k ++ info.data.toList ++ [byteAt (k + 1) 0]).length ≤ 1000000000 := by simp; omega
          have hpart : macB key.data.toList (exPart key.data.toList info.data.toList k ++ info.data.toList ++ [byteAt (k + 1) 0]) = ⟨(exPart key.data.toList info.data.toList (k + 1)).toArray⟩ := rfl
          have HSu := Lib.hid (fun (a : Nat) (wx : World) (h1 : Kb wx g key.data.toList) (h2 : Tab wx) (h3 : ∀ i, i < 3 → wx.cell? ⟨a, i, none⟩ = some (.string ([(⟨(exPart key.data.toList info.data.toList k).toArray⟩ : ByteArray), info, ⟨#[byteAt (k + 1) 0]⟩].getD i ByteArray.empty))) =>
            sumAll_any g a key.data.toList [(⟨(exPart key.data.toList info.data.toList k).toArray⟩ : ByteArray), info, ⟨#[byteAt (k + 1) 0]⟩] 3 rfl wx h1 h3 h2 (by rw [hcat]; exact hcl) (by omega))
          rw [hcat, hpart] at HSu
          have hnx : exL key.data.toList info.data.toList (k + 1) = exL key.data.toList info.data.toList k ++ (ByteArray.mk (exPart key.data.toList info.data.toList (k + 1)).toArray).data.toList := by simp [exL]
          have hps : (ByteArray.mk (exPart key.data.toList info.data.toList (k + 1)).toArray).size = 32 := by show (exPart key.data.toList info.data.toList (k + 1)).toArray.size = 32; rw [List.size_toArray, exPart_succ_len]
          have HNX := Lib.hid hnx
          have hlen : (exL key.data.toList info.data.toList k).length + (ByteArray.mk (exPart key.data.toList info.data.toList (k + 1)).toArray).size ≤ 140737488355328 := by rw [hel, hps]; omega
          have HWr := Lib.hid (fun (wx : World) (h1 : Bld wx b b (exL key.data.toList info.data.toList k)) (h2 : b ≤ wx.heap.size) => writeString_any b b _ (ByteArray.mk (exPart key.data.toList info.data.toList (k + 1)).toArray) wx h1 hlen h2)
          rw [← hnx] at HWr
          have hk1 : ((k + 1 : Nat) : Int) = (k : Int) + 1 := by omega
          rw [hk1] at HH
          clear hcat hpl hcl hpart hnx hps hlen hel
          obtain ⟨P, hP⟩ : ∃ P, P = (ByteArray.mk (exPart key.data.toList info.data.toList k).toArray) := ⟨_, rfl⟩
          obtain ⟨P2, hP2⟩ : ∃ P2, P2 = (ByteArray.mk (exPart key.data.toList info.data.toList (k + 1)).toArray) := ⟨_, rfl⟩
          obtain ⟨X, hX⟩ : ∃ X : ByteArray, X = ⟨#[byteAt (k + 1) 0]⟩ := ⟨_, rfl⟩
          have HP2 := Lib.hid hP2
          rw [← hP, ← hP2, ← hX] at HSu
          rw [← hX] at HH
          rw [← hP2] at HWr
          rw [← hP]
          clear hP hP2 hX
          have hj : (k : Int) + 1 < 300 := by omega
          have HB := Lib.hid hbl
          have HE := Lib.hid hbel
          clear hbl hbel
          go_wp2_with (first
            | (go_at_call 37; (with_reducible refine HLen.out.mono ?_); rintro e w' ⟨rfl, rfl⟩)
            | (go_at_call 38; (with_reducible refine HH.out.mono ?_); rintro e wx ⟨rfl, hbx⟩; have hcx := Arr.new wx #[.string P, .string info, .string X] 9; have HS1 := Lib.hid (HSu.out wx.heap.size (wx.alloc (.cells #[.string P, .string info, .string X] 9)) (Arr.alloc (HKr.out.next hbx) _) ((HTr.out.next hbx).alloc _) (by intro i hi; match i, hi with | 0, _ => exact hcx.cell rfl | 1, _ => exact hcx.cell rfl | 2, _ => exact hcx.cell rfl)); clear hcx; unfold turnF at HS1; have hbxs := hbx.size; have HBx := Lib.hid ((HB.out.next hbx).next ((Below.refl _ wx).alloc (Nat.le_refl _) (.cells #[.string P, .string info, .string X] 9))))
            | (go_at_call 34; (with_reducible refine HS1.out.mono ?_); rintro e wy ⟨rfl, hby⟩; have hbys := hby.size; have HBy := Lib.hid (HBx.out.next hby); rw [World.size_alloc] at hbys)
            | (go_at_call 39; (with_reducible refine (HWr.out _ HBy.out (by omega)).mono ?_); rintro e wz ⟨rfl, hbz, hbw2⟩))
          go_roundw
          case rel => exact ⟨k + 1, by omega, by omega, by rw [HP2.out], by go_num, hbz, (HE.out.trans (((hbx.mono hbw).alloc (by omega) _).trans (hby.mono (by rw [World.size_alloc]; omega)))).trans hbw2⟩
          case measure => simp [intOf]; omega
        · have hfull := exB_of key.data.toList info.data.toList N k hk2 (by omega)
          have hS : (ByteArray.mk (exL key.data.toList info.data.toList k).toArray).size = 32 * k := by show (exL key.data.toList info.data.toList k).toArray.size = _; rw [List.size_toArray, hel]
          have hsl := slice_to (ByteArray.mk (exL key.data.toList info.data.toList k).toArray) N (by rw [hS]; omega)
          rw [hfull] at hsl
          have HSt := Lib.hid (bldString_any b b _ wr hbl hbw)
          have hlt' : ¬ (32 * (k : Int) < (N : Int)) := by omega
          have HE := Lib.hid hbel
          have hN2' : (N : Int) ≤ 32 * (k : Int) := by omega
          clear hbl hbel hfull hel
          obtain ⟨S, hSd⟩ : ∃ S, S = (ByteArray.mk (exL key.data.toList info.data.toList k).toArray) := ⟨_, rfl⟩
          rw [← hSd] at HSt hsl hS
          clear hSd
          go_wp2_with (first
            | (go_at_call 37; (with_reducible refine HLen.out.mono ?_); rintro e w' ⟨rfl, rfl⟩)
            | (go_at_call 40; (with_reducible refine HSt.out.mono ?_); rintro e wz ⟨rfl, hbz⟩))
          go_ret2
          have hx := HBD.out
          have hx2 : w.heap.size ≤ b := by omega
          exact ⟨rfl, (hb1.trans ((HE.out.mono hx2))).trans (hbz.mono hx2)⟩

/-- What Derive answers. -/
theorem derive_any (salt secret info : ByteArray) (n : Int) (hk : salt.size ≤ 1099511627776) (hs : secret.size ≤ 1000000000) (hi : info.size ≤ 100000000) (w : World) (htab : Tab w) :
    Calls Tryd.prog 19 #[.string salt, .string secret, .string info, .int .i64 n] w fun e w' => e = .returned (exR (macL salt.data.toList secret.data.toList) info.data.toList n) ∧ Below w.heap.size w w' := by
  have HT := Lib.hid htab
  have HX := Lib.hid (extract_any salt secret hk hs w htab)
  have hkl : (macB salt.data.toList secret.data.toList).data.toList = macL salt.data.toList secret.data.toList := by simp [macB]
  have hE := fun w ht => expand_any (macB salt.data.toList secret.data.toList) info n (by rw [macB_size]; decide) hi w ht
  rw [hkl] at hE
  have HE := Lib.hid hE
  clear htab hE hkl
  unfold exR at HE ⊢
  by_cases hc : n < 0 ∨ 8160 < n
  · rw [if_pos hc] at HE ⊢
    clear hc
    go_enter Tryd.func19, Tryd.ntmps19
    go_wp2_with (first
      | (go_at_call 16; (with_reducible refine HX.out.mono ?_); rintro e w1 ⟨rfl, hb1⟩)
      | (go_at_call 17; (with_reducible refine (HE.out _ (HT.out.next hb1)).mono ?_); rintro e w2 ⟨rfl, hb2⟩))
    go_ret2
    exact ⟨rfl, Below_next hb1 hb2⟩
  · rw [if_neg hc] at HE ⊢
    clear hc
    go_enter Tryd.func19, Tryd.ntmps19
    go_wp2_with (first
      | (go_at_call 16; (with_reducible refine HX.out.mono ?_); rintro e w1 ⟨rfl, hb1⟩)
      | (go_at_call 17; (with_reducible refine (HE.out _ (HT.out.next hb1)).mono ?_); rintro e w2 ⟨rfl, hb2⟩))
    go_ret2
    exact ⟨rfl, Below_next hb1 hb2⟩
end Go.Proofs.YtmedlgnllgldiaaDoor
