/- chacha: the contracts of Block, Stream, Turn. -/
import Derived.Test.YtebhmcnocpblkaaDoorChB
namespace Go.Proofs.YtebhmcnocpblkaaDoor
open Go.RowKit

/-- Have a key and a nonce their sizes? -/
def szB (key nonce : ByteArray) : Bool := decide (key.size = 32) && decide (nonce.size = 12)
theorem szB_yes {key nonce : ByteArray} (h : szB key nonce = true) : key.size = 32 ∧ nonce.size = 12 := by simpa [szB] using h
theorem szB_mk {key nonce : ByteArray} (h1 : key.size = 32) (h2 : nonce.size = 12) : szB key nonce = true := by simp [szB, h1, h2]
def blkB (key : ByteArray) (c : Nat) (nonce : ByteArray) : ByteArray := ⟨(blockL key.data.toList c nonce.data.toList).toArray⟩
theorem blkB_list (key : ByteArray) (c : Nat) (nonce : ByteArray) : (blkB key c nonce).data.toList = blockL key.data.toList c nonce.data.toList := by rw [blkB]
theorem blkB_size (key : ByteArray) (c : Nat) (nonce : ByteArray) : (blkB key c nonce).size = 64 := by
  show (blockL key.data.toList c nonce.data.toList).toArray.size = 64; rw [List.size_toArray, blockL_len]
def strmB (key : ByteArray) (c : Nat) (nonce : ByteArray) (n : Nat) : ByteArray := ⟨(strmL key.data.toList c nonce.data.toList n).toArray⟩
theorem strmB_list (key : ByteArray) (c : Nat) (nonce : ByteArray) (n : Nat) : (strmB key c nonce n).data.toList = strmL key.data.toList c nonce.data.toList n := by rw [strmB]
theorem strmB_size (key : ByteArray) (c : Nat) (nonce : ByteArray) (n : Nat) : (strmB key c nonce n).size = n := by
  show (strmL key.data.toList c nonce.data.toList n).toArray.size = n; rw [List.size_toArray, strmL_len]
/-- The document's answers. -/
def blkR (key : ByteArray) (c : Nat) (nonce : ByteArray) : Value := if szB key nonce = true then .tuple #[.string (blkB key c nonce), .int .i64 0] else .tuple #[.string ByteArray.empty, .int .i64 5]
def strR (key : ByteArray) (c : Nat) (nonce : ByteArray) (n : Int) : Value := if szB key nonce = true ∧ 0 ≤ n ∧ n ≤ 65536 then .tuple #[.string (strmB key c nonce n.toNat), .int .i64 0] else .tuple #[.string ByteArray.empty, .int .i64 5]
def turnR (key : ByteArray) (c : Nat) (nonce t : ByteArray) : Value := if szB key nonce = true ∧ t.size ≤ 65536 then .tuple #[.string ⟨(xorL t.data.toList (strmL key.data.toList c nonce.data.toList t.size)).toArray⟩, .int .i64 0] else .tuple #[.string ByteArray.empty, .int .i64 5]

theorem sized_ok {key nonce : ByteArray} (h : szB key nonce = true) (w : World) :
    Calls Tryd.prog 22 #[.string key, .string nonce] w fun e w' => e = .returned (.bool true) ∧ w = w' := by
  have := sized_any key nonce w
  rw [← szB, h] at this
  exact this
theorem sized_no {key nonce : ByteArray} (h : szB key nonce = false) (w : World) :
    Calls Tryd.prog 22 #[.string key, .string nonce] w fun e w' => e = .returned (.bool false) ∧ w = w' := by
  have := sized_any key nonce w
  rw [← szB, h] at this
  exact this

set_option maxHeartbeats 400000 in
theorem block_ok (key nonce : ByteArray) (hs : szB key nonce = true) (c : Nat) (hc : c < 4294967296) (w : World) (hp : Pl w) :
    Calls Tryd.prog 13 #[.string key, .int .u32 (c : Int), .string nonce] w fun e w' => e = .returned (.tuple #[.string (blkB key c nonce), .int .i64 0]) ∧ Below w.heap.size w w' := by
  obtain ⟨hk, hn⟩ := szB_yes hs
  have HS := Lib.hid (sized_ok hs)
  have HBg := Lib.hid (begin_any key nonce hk hn c hc)
  have hF := firstL_32 key.data.toList c nonce.data.toList
  obtain ⟨F, hFd⟩ : ∃ F, F = firstL key.data.toList c nonce.data.toList := ⟨_, rfl⟩
  have hE : blkB key c nonce = ⟨(toldL (endL F)).toArray⟩ := by rw [hFd]; rfl
  rw [← hFd] at HBg hF
  have HSt := Lib.hid (stirred_any F hF)
  have HTo := Lib.hid (told16_any (endL F) (endL_32 hF))
  rw [← hE] at HTo
  generalize endL F = G at *
  have HP := Lib.hid hp
  clear hE hF hFd hp hk hn hs hc
  generalize blkB key c nonce = B at *
  go_enter Tryd.func13, Tryd.ntmps13
  go_wp2_with (first
    | (go_at_call 22; (with_reducible refine (HS.out _).mono ?_); rintro e w' ⟨rfl, rfl⟩)
    | (go_at_call 25; (with_reducible refine (HBg.out _).mono ?_); rintro e w1 ⟨rfl, hb1⟩)
    | (go_at_call 24; (with_reducible refine (HSt.out _ (HP.out.next hb1)).mono ?_); rintro e w2 ⟨rfl, hb2⟩)
    | (go_at_call 23; (with_reducible refine (HTo.out _).mono ?_); rintro e w3 ⟨rfl, hb3⟩))
  go_ret2
  exact ⟨rfl, Below_next (Below_next hb1 hb2) hb3⟩
theorem block_no (key nonce : ByteArray) (hs : szB key nonce = false) (c : Nat) (w : World) :
    Calls Tryd.prog 13 #[.string key, .int .u32 (c : Int), .string nonce] w fun e w' => e = .returned (.tuple #[.string ByteArray.empty, .int .i64 5]) ∧ w = w' := by
  have HS := Lib.hid (sized_no hs)
  clear hs
  go_enter Tryd.func13, Tryd.ntmps13
  go_wp2_with (first
    | (go_at_call 22; (with_reducible refine (HS.out _).mono ?_); rintro e w' ⟨rfl, rfl⟩))
  go_ret2
  exact ⟨rfl, rfl⟩
theorem block_any (key nonce : ByteArray) (c : Nat) (hc : c < 4294967296) (w : World) (hp : Pl w) :
    Calls Tryd.prog 13 #[.string key, .int .u32 (c : Int), .string nonce] w fun e w' => e = .returned (blkR key c nonce) ∧ Below w.heap.size w w' := by
  unfold blkR
  cases h : szB key nonce
  · exact (block_no key nonce h c w).mono fun _ _ ⟨h1, h2⟩ => ⟨by simpa using h1, by rw [← h2]; exact Below.refl _ _⟩
  · exact (block_ok key nonce h c hc w hp).mono fun _ _ ⟨h1, h2⟩ => ⟨by simpa using h1, h2⟩

/-- How far the stream's counter is, read off the memory. -/
def ctrOf (c : Nat) (f : Value) (wr : World) : Nat :=
  match f with
  | .pointer (some a) => ((intOf ((wr.cell? ⟨a.block, 12, none⟩).getD undef) - (c : Int)) % 4294967296).toNat
  | _ => 0
theorem ctrOf_at {c m g : Nat} {key nonce : List UInt8} {wr : World} (h : Arr wr g (row16 (firstL key ((c + m) % 4294967296) nonce)) 48) (hk : key.length = 32) (hm : m ≤ 1100) : ctrOf c (.pointer (some ⟨g, 0, none⟩)) wr = m := by
  have hc := h.cell (row16_get (x := firstL key ((c + m) % 4294967296) nonce) (k := 12) (by rw [(firstL_32 _ _ _).1]; decide))
  have h12 : (firstL key ((c + m) % 4294967296) nonce).getD 12 0 = (c + m) % 4294967296 := by
    rw [List.getD_eq_getElem?_getD, firstL, numsL_get _ _ _ (by decide), first_at _ _ _ hk (mod32_lt _)]; rfl
  rw [h12] at hc
  simp only [ctrOf, hc, Option.getD_some, intOf]
  omega

set_option maxHeartbeats 1000000 in
set_option maxRecDepth 100000 in
theorem stream_ok (key nonce : ByteArray) (hs : szB key nonce = true) (c : Nat) (hc : c < 4294967296) (n : Nat) (hn : n ≤ 65536) (w : World) (hp : Pl w) :
    Calls Tryd.prog 15 #[.string key, .int .u32 (c : Int), .string nonce, .int .i64 (n : Int)] w fun e w' => e = .returned (.tuple #[.string (strmB key c nonce n), .int .i64 0]) ∧ Below w.heap.size w w' := by
  obtain ⟨hk, hnn⟩ := szB_yes hs
  have hkl : key.data.toList.length = 32 := by simpa using hk
  have HS := Lib.hid (sized_ok hs)
  have HBg := Lib.hid (begin_any key nonce hk hnn c hc)
  have h0 : ¬ (n : Int) < 0 := by omega
  have h1 : ¬ (65536 : Int) < (n : Int) := by omega
  have HP := Lib.hid hp
  have HC := Lib.hid hc
  have HKl := Lib.hid hkl
  have HFz := Lib.hid (row16_size (firstL_32 key.data.toList c nonce.data.toList).1)
  have HFo := Lib.hid (row16_one (firstL key.data.toList c nonce.data.toList))
  have HF0 : Hid ((c + 0) % 4294967296 = c) := Nat.mod_eq_of_lt hc
  obtain ⟨F0, hF0⟩ : ∃ F0, F0 = row16 (firstL key.data.toList c nonce.data.toList) := ⟨_, rfl⟩
  rw [← hF0] at HBg HFz HFo
  have HF := Lib.hid hF0
  clear hk hnn hkl hs hp hc hF0
  go_enter Tryd.func15, Tryd.ntmps15
  go_wp2_with (first
    | (go_at_call 22; (with_reducible refine (HS.out _).mono ?_); rintro e w' ⟨rfl, rfl⟩)
    | (go_at_call 25; (with_reducible refine (HBg.out _).mono ?_); rintro e w1 ⟨rfl, hb1⟩)
    | (with_reducible refine wpList_store_n16_new rfl _ _ rfl _ (by simp) _ rfl rfl _ rfl HFz.out HFo.out ?_))
  have HBl0 := Lib.hid (((Bld.new w w.heap.size (Nat.le_refl _)).next hb1).next ((Below.refl w1.heap.size w1).alloc (Nat.le_refl _) (.cells F0 48)))
  have HA0 := Lib.hid (Arr.new w1 F0 48)
  have hsz : w.heap.size < w1.heap.size := by have := hb1.size; simp at this; omega
  have HBel0 := Lib.hid ((((Below.refl w.heap.size w).alloc (Nat.le_refl _) (.cells #[.pointer none, .slice none 0 0] 58)).trans (hb1.mono (by simp))).alloc (Nat.le_of_lt hsz) (.cells F0 48))
  have HP0 := Lib.hid (((HP.out.alloc (.cells #[.pointer none, .slice none 0 0] 58)).next hb1).alloc (.cells F0 48))
  simp only [Act.put]
  obtain ⟨g0, hg0⟩ : ∃ g0, g0 = w1.heap.size := ⟨_, rfl⟩
  rw [← hg0] at hsz HA0 ⊢
  generalize w1.alloc (.cells F0 48) = w2 at *
  clear hb1 hg0 HBg HS
  have HA1 : Hid (Arr w2 g0 (row16 (firstL key.data.toList ((c + 0) % 4294967296) nonce.data.toList)) 48) := by rw [HF0.out, ← HF.out]; exact HA0.out
  have HN := Lib.hid hn
  have HSZ := Lib.hid hsz
  clear HA0 HF HF0 hn hsz HFz HFo
  have HStl := Lib.hid (stL_len key.data.toList c nonce.data.toList)
  go_loopw [11] (fun f wr => ∃ m g : Nat, f = .pointer (some ⟨g, 0, none⟩) ∧ 64 * m < n + 64 ∧ w.heap.size < g ∧ Arr wr g (row16 (firstL key.data.toList ((c + m) % 4294967296) nonce.data.toList)) 48 ∧ Bld wr w.heap.size w.heap.size (stL key.data.toList c nonce.data.toList m) ∧ Pl wr ∧ Below w.heap.size w wr) (fun f wr => 2000 - ctrOf c f wr)
  case atStart => exact ⟨0, g0, rfl, by omega, HSZ.out, HA1.out, HBl0.out, HP0.out, HBel0.out⟩
  case round =>
    clear HA1 HBl0 HP0 HBel0 HSZ
    obtain ⟨m, g, rfl, hm, hgw, ha, hbl, hp, hbel⟩ := hrel
    have hn' := HN.out
    have HLenB := Lib.hid (bldLen_any w.heap.size w.heap.size _ wr hbl)
    rw [stL_len] at HLenB
    by_cases hlt : 64 * m < n
    · have hlti : (64 * (m : Int) < (n : Int)) := by omega
      have hF := firstL_32 key.data.toList ((c + m) % 4294967296) nonce.data.toList
      have h12 : (firstL key.data.toList ((c + m) % 4294967296) nonce.data.toList).getD 12 0 = (c + m) % 4294967296 := by
        rw [List.getD_eq_getElem?_getD, firstL, numsL_get _ _ _ (by decide), first_at _ _ _ HKl.out (mod32_lt _)]; rfl
      have hcell := row16_get (x := firstL key.data.toList ((c + m) % 4294967296) nonce.data.toList) (k := 12) (by rw [hF.1]; decide)
      rw [h12] at hcell
      have hset := row16_set (firstL key.data.toList ((c + m) % 4294967296) nonce.data.toList) 12 ((c + (m + 1)) % 4294967296)
      rw [first_set _ _ _ _ HKl.out (mod32_lt _)] at hset
      have hbk : stL key.data.toList c nonce.data.toList (m + 1) = stL key.data.toList c nonce.data.toList m ++ toldL (endL (firstL key.data.toList ((c + m) % 4294967296) nonce.data.toList)) := by rw [stL, blockL]
      have hctr := ctrOf_at ha HKl.out (by omega)
      have hsum : ((((c + m) % 4294967296 : Nat) : Int) + 1) % 4294967296 = (((c + (m + 1)) % 4294967296 : Nat) : Int) := by omega
      have hbl64 : (toldL (endL (firstL key.data.toList ((c + m) % 4294967296) nonce.data.toList))).length = 64 := by rw [toldL_len, (endL_32 hF).1]
      have HNx := Lib.hid (row16_size hF.1)
      have HNo := Lib.hid (row16_one (firstL key.data.toList ((c + m) % 4294967296) nonce.data.toList))
      have HSt := Lib.hid (stirred_any _ hF)
      have HTo := Lib.hid (told16_any _ (endL_32 hF))
      generalize endL (firstL key.data.toList ((c + m) % 4294967296) nonce.data.toList) = G at *
      obtain ⟨FA, hFA⟩ : ∃ FA, FA = row16 (firstL key.data.toList ((c + m) % 4294967296) nonce.data.toList) := ⟨_, rfl⟩
      rw [← hFA] at hcell hset HNx HNo HSt ha
      obtain ⟨BB, hBB⟩ : ∃ BB, BB = ByteArray.mk (toldL G).toArray := ⟨_, rfl⟩
      rw [← bstr _ BB hBB] at hbk
      rw [← hBB] at HTo
      have hBs : BB.size = 64 := by rw [hBB]; show (toldL G).toArray.size = 64; rw [List.size_toArray, hbl64]
      have HBK := Lib.hid hbk
      have HSet := Lib.hid hset
      have HCtr := Lib.hid hctr
      have HWl := Lib.hid (show (stL key.data.toList c nonce.data.toList m).length + BB.size ≤ 140737488355328 by rw [stL_len, hBs]; omega)
      have HA := Lib.hid ha
      have HBl := Lib.hid hbl
      have HP1 := Lib.hid hp
      have HBel := Lib.hid hbel
      clear hset hbk hbl hp hbel ha hctr hFA hBB hBs hbl64 hF h12
      generalize (c + m) % 4294967296 = C at *
      obtain ⟨C2, hC2⟩ : ∃ C2, C2 = (c + (m + 1)) % 4294967296 := ⟨_, rfl⟩
      rw [← hC2] at hsum HSet
      have HC2 := Lib.hid hC2
      clear hC2
      go_wp2_with (first
        | (go_at_call 29; (with_reducible refine HLenB.out.mono ?_); rintro e w' ⟨rfl, rfl⟩)
        | (with_reducible refine wpList_load_n16 rfl _ rfl g rfl _ HNx.out HA.out ?_)
        | (go_at_call 24; (with_reducible refine (HSt.out _ HP1.out).mono ?_); rintro e w3 ⟨rfl, hb3⟩)
        | (go_at_call 23; (with_reducible refine (HTo.out _).mono ?_); rintro e w4 ⟨rfl, hb4⟩; have hb34 := Below_next hb3 hb4; have HW4 := Lib.hid (writeStringK_any w.heap.size w.heap.size _ BB w4 (HBl.out.next hb34) HWl.out (Nat.le_trans HBel.out.size hb34.size)))
        | (go_at_call 30; (with_reducible refine HW4.out.mono ?_); rintro e w5 ⟨rfl, hbl5, hb5, hk5⟩; have HA5 : Hid (Arr w5 g FA 48) := hk5 g FA _ (by decide) (by omega) (HA.out.next hb34))
        | (with_reducible refine wpList_load_n16 rfl _ rfl g rfl _ HNx.out HA5.out ?_)
        | (with_reducible refine wpList_store_n16_new rfl _ _ rfl _ (by simp) _ rfl rfl _ rfl HNx.out HNo.out ?_))
      have hnew : Arr (w5.alloc (.cells (FA.setIfInBounds 12 (.int .u32 (C2 : Int))) 48)) w5.heap.size (row16 (firstL key.data.toList ((c + (m + 1)) % 4294967296) nonce.data.toList)) 48 := by
        rw [← HC2.out, ← HSet.out]; exact Arr.new w5 _ _
      have hB5 := (HBel.out.trans (hb34.mono HBel.out.size)).trans hb5
      refine ⟨⟨m + 1, w5.heap.size, rfl, by omega, (show w.heap.size < w5.heap.size by have := HA5.out.lt; omega), hnew, ?_, ((HP1.out.next hb34).below hb5 HP.out.lt).alloc _, hB5.alloc hB5.size _⟩, ?_⟩
      · rw [HBK.out]; exact hbl5.next ((Below.refl w5.heap.size w5).alloc (Nat.le_refl _) _)
      · rw [HCtr.out, ctrOf_at hnew HKl.out (by omega)]; omega
    · have hlti : ¬ (64 * (m : Int) < (n : Int)) := by omega
      have hl := HStl.out m
      obtain ⟨SB, hSB⟩ : ∃ SB, SB = ByteArray.mk (stL key.data.toList c nonce.data.toList m).toArray := ⟨_, rfl⟩
      have hSs : SB.size = 64 * m := by rw [hSB]; show (stL key.data.toList c nonce.data.toList m).toArray.size = 64 * m; rw [List.size_toArray, hl]
      have hsl := slice_to SB n (by omega)
      have hex : SB.extract 0 n = strmB key c nonce n := by
        apply ByteArray.ext
        apply Array.ext'
        rw [ext_toList, bstr _ SB hSB, List.drop_zero, Nat.sub_zero, strmB, strmL_of _ _ _ n m (by omega)]
      rw [hex] at hsl
      have hStr := bldString_any w.heap.size w.heap.size _ wr hbl hbel.size
      rw [← hSB] at hStr
      have HStr := Lib.hid hStr
      have HBel := Lib.hid hbel
      have hle : (n : Int) ≤ (SB.size : Int) := by omega
      obtain ⟨S, hS⟩ : ∃ S, S = strmB key c nonce n := ⟨_, rfl⟩
      rw [← hS] at hsl
      have HSd := Lib.hid hS
      clear hex hSB hSs hStr hbel hbl ha hp hl HStl hS
      go_wp2_with (first
        | (go_at_call 29; (with_reducible refine HLenB.out.mono ?_); rintro e w' ⟨rfl, rfl⟩)
        | (go_at_call 31; (with_reducible refine HStr.out.mono ?_); rintro e w4 ⟨rfl, hb4⟩))
      go_ret2
      exact ⟨by rw [← HSd.out]; rfl, HBel.out.trans hb4⟩

theorem stream_no (key nonce : ByteArray) (c : Nat) (n : Int) (hs : ¬ (szB key nonce = true ∧ 0 ≤ n ∧ n ≤ 65536)) (w : World) :
    Calls Tryd.prog 15 #[.string key, .int .u32 (c : Int), .string nonce, .int .i64 n] w fun e w' => e = .returned (.tuple #[.string ByteArray.empty, .int .i64 5]) ∧ w = w' := by
  cases h : szB key nonce
  · have HS := Lib.hid (sized_no h)
    clear hs h
    go_enter Tryd.func15, Tryd.ntmps15
    go_wp2_with (first
      | (go_at_call 22; (with_reducible refine (HS.out _).mono ?_); rintro e w' ⟨rfl, rfl⟩))
    go_ret2
    exact ⟨rfl, rfl⟩
  · have HS := Lib.hid (sized_ok h)
    by_cases h0 : n < 0
    · clear hs h
      go_enter Tryd.func15, Tryd.ntmps15
      go_wp2_with (first
        | (go_at_call 22; (with_reducible refine (HS.out _).mono ?_); rintro e w' ⟨rfl, rfl⟩))
      go_ret2
      exact ⟨rfl, rfl⟩
    · have h1 : (65536 : Int) < n := by
        have h2 : ¬ n ≤ 65536 := fun hn => hs ⟨h, by omega, hn⟩
        omega
      clear hs h
      go_enter Tryd.func15, Tryd.ntmps15
      go_wp2_with (first
        | (go_at_call 22; (with_reducible refine (HS.out _).mono ?_); rintro e w' ⟨rfl, rfl⟩))
      go_ret2
      exact ⟨rfl, rfl⟩
theorem stream_any (key nonce : ByteArray) (c : Nat) (hc : c < 4294967296) (n : Int) (w : World) (hp : Pl w) :
    Calls Tryd.prog 15 #[.string key, .int .u32 (c : Int), .string nonce, .int .i64 n] w fun e w' => e = .returned (strR key c nonce n) ∧ Below w.heap.size w w' := by
  unfold strR
  by_cases h : szB key nonce = true ∧ 0 ≤ n ∧ n ≤ 65536
  · rw [if_pos h]
    obtain ⟨N, rfl⟩ : ∃ N : Nat, n = (N : Int) := ⟨n.toNat, by omega⟩
    rw [Int.toNat_natCast]
    exact stream_ok key nonce h.1 c hc N (by omega) w hp
  · rw [if_neg h]
    exact (stream_no key nonce c n h w).mono fun _ _ ⟨h1, h2⟩ => ⟨h1, by rw [← h2]; exact Below.refl _ _⟩

theorem turn_ok (key nonce : ByteArray) (hs : szB key nonce = true) (c : Nat) (hc : c < 4294967296) (t : ByteArray) (ht : t.size ≤ 65536) (w : World) (hp : Pl w) :
    Calls Tryd.prog 17 #[.string key, .int .u32 (c : Int), .string nonce, .string t] w fun e w' => e = .returned (.tuple #[.string ⟨(xorL t.data.toList (strmL key.data.toList c nonce.data.toList t.size)).toArray⟩, .int .i64 0]) ∧ Below w.heap.size w w' := by
  have HSt := Lib.hid (stream_ok key nonce hs c hc t.size ht w hp)
  have hsz := strmB_size key c nonce t.size
  have hx := xor_any t (strmB key c nonce t.size) (by omega) (by omega)
  rw [xorB, if_pos hsz, xorE, if_pos hsz, strmB_list] at hx
  have HX := Lib.hid hx
  generalize strmB key c nonce t.size = S at *
  generalize (⟨(xorL t.data.toList (strmL key.data.toList c nonce.data.toList t.size)).toArray⟩ : ByteArray) = X at *
  clear hs hc hp hsz hx
  go_enter Tryd.func17, Tryd.ntmps17
  go_wp2_with (first
    | (go_at_call 15; (with_reducible refine HSt.out.mono ?_); rintro e w1 ⟨rfl, hb1⟩)
    | (go_at_call 32; (with_reducible refine (HX.out _).mono ?_); rintro e w2 ⟨rfl, hb2⟩))
  go_ret2
  exact ⟨rfl, Below_next hb1 hb2⟩
theorem turn_no (key nonce : ByteArray) (c : Nat) (t : ByteArray) (hs : ¬ (szB key nonce = true ∧ t.size ≤ 65536)) (w : World) :
    Calls Tryd.prog 17 #[.string key, .int .u32 (c : Int), .string nonce, .string t] w fun e w' => e = .returned (.tuple #[.string ByteArray.empty, .int .i64 5]) ∧ w = w' := by
  have HSt := Lib.hid (stream_no key nonce c (t.size : Int) (fun h => hs ⟨h.1, by omega⟩) w)
  clear hs
  go_enter Tryd.func17, Tryd.ntmps17
  go_wp2_with (first
    | (go_at_call 15; (with_reducible refine HSt.out.mono ?_); rintro e w1 ⟨rfl, rfl⟩))
  go_ret2
  exact ⟨rfl, rfl⟩
theorem turn_any (key nonce : ByteArray) (c : Nat) (hc : c < 4294967296) (t : ByteArray) (w : World) (hp : Pl w) :
    Calls Tryd.prog 17 #[.string key, .int .u32 (c : Int), .string nonce, .string t] w fun e w' => e = .returned (turnR key c nonce t) ∧ Below w.heap.size w w' := by
  unfold turnR
  by_cases h : szB key nonce = true ∧ t.size ≤ 65536
  · rw [if_pos h]; exact turn_ok key nonce h.1 c hc t h.2 w hp
  · rw [if_neg h]; exact (turn_no key nonce c t h w).mono fun _ _ ⟨h1, h2⟩ => ⟨h1, by rw [← h2]; exact Below.refl _ _⟩
end Go.Proofs.YtebhmcnocpblkaaDoor
