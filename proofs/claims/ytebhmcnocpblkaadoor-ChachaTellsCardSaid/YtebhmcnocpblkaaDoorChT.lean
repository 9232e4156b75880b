/- The document's own Stream and Turn of layer 4. -/
import Derived.Test.YtebhmcnocpblkaaDoorChQ
import Derived.Test.YtebhmcnocpblkaaDoorChSizW
namespace Go.Proofs.YtebhmcnocpblkaaDoor
open Go.RowKit

theorem szB_x {key nonce : ByteArray} (h : szB key nonce = true) : ((key.size : Int) != 32) = false ∧ ((nonce.size : Int) != 12) = false := by
  obtain ⟨h1, h2⟩ := szB_yes h
  rw [h1, h2]; exact ⟨rfl, rfl⟩
theorem szB_xn {key nonce : ByteArray} (h : szB key nonce = false) : ((key.size : Int) != 32) = true ∨ (((key.size : Int) != 32) = false ∧ ((nonce.size : Int) != 12) = true) := by
  by_cases h1 : key.size = 32
  · right
    refine ⟨by rw [h1]; rfl, ?_⟩
    have : ¬ nonce.size = 12 := fun h2 => by rw [szB_mk h1 h2] at h; cases h
    simp; omega
  · left; simp; omega
theorem rblock4_no (key nonce : ByteArray) (hs : szB key nonce = false) (c : Nat) (w : World) :
    Calls Tryd.prog 14 #[.string key, .int .u32 (c : Int), .string nonce] w fun e w' => e = .returned (.tuple #[.string ByteArray.empty, .int .i64 5]) ∧ w = w' := by
  rcases szB_xn hs with h | ⟨h, h2⟩ <;> clear hs
  all_goals
    go_enter Tryd.func14, Tryd.ntmps14
    go_wp2
    go_ret2
    exact ⟨rfl, rfl⟩
theorem rblock4_any (key nonce : ByteArray) (c : Nat) (hc : c < 4294967296) (w : World) :
    Calls Tryd.prog 14 #[.string key, .int .u32 (c : Int), .string nonce] w fun e w' => e = .returned (blkR key c nonce) ∧ Below w.heap.size w w' := by
  unfold blkR
  cases h : szB key nonce
  · exact (rblock4_no key nonce h c w).mono fun _ _ ⟨h1, h2⟩ => ⟨by simpa using h1, by rw [← h2]; exact Below.refl _ _⟩
  · exact (rblock4_ok key nonce h c hc w).mono fun _ _ ⟨h1, h2⟩ => ⟨by simpa using h1, h2⟩

set_option maxHeartbeats 1000000 in
set_option maxRecDepth 100000 in
theorem rstream_ok (key nonce : ByteArray) (hs : szB key nonce = true) (c : Nat) (n : Nat) (hn : n ≤ 65536) (w : World) :
    Calls Tryd.prog 16 #[.string key, .int .u32 (c : Int), .string nonce, .int .i64 (n : Int)] w fun e w' => e = .returned (.tuple #[.string (strmB key c nonce n), .int .i64 0]) ∧ Below w.heap.size w w' := by
  obtain ⟨x1, x2⟩ := szB_x hs
  have HBk := Lib.hid (fun C hC w => rblock4_ok key nonce hs C hC w)
  have h0 : ¬ (n : Int) < 0 := by omega
  have h1 : ¬ (65536 : Int) < (n : Int) := by omega
  have HN := Lib.hid hn
  clear hn hs
  go_enter Tryd.func16, Tryd.ntmps16
  go_wp2
  go_loopw [10, 11] (fun o i wr => ∃ m : Nat, 64 * m < n + 64 ∧ o = .string ⟨(stL key.data.toList c nonce.data.toList m).toArray⟩ ∧ i = .int .u32 (m : Int) ∧ Below w.heap.size w wr) (fun _ i _ => 2000 - (intOf i).toNat)
  case atStart => exact ⟨0, by omega, rfl, rfl, Below.refl _ _⟩
  case round =>
    obtain ⟨m, hm, rfl, rfl, hbel⟩ := hrel
    have hn' := HN.out
    have hlen := stL_len key.data.toList c nonce.data.toList m
    obtain ⟨S0, hS0⟩ : ∃ S0 : ByteArray, S0 = ⟨(stL key.data.toList c nonce.data.toList m).toArray⟩ := ⟨_, rfl⟩
    have hS0s : S0.size = 64 * m := by rw [hS0]; show (stL key.data.toList c nonce.data.toList m).toArray.size = _; rw [List.size_toArray, hlen]
    by_cases hlt : 64 * m < n
    · have hlti : (S0.size : Int) < (n : Int) := by omega
      have hsum := sum2 c m
      have hC : (c + m) % 4294967296 < 4294967296 := mod32_lt _
      have hB := blkB_size key ((c + m) % 4294967296) nonce
      have HB := Lib.hid (HBk.out _ hC)
      obtain ⟨S1, hS1⟩ : ∃ S1 : ByteArray, S1 = ⟨(stL key.data.toList c nonce.data.toList (m + 1)).toArray⟩ := ⟨_, rfl⟩
      have hcat : S0 ++ blkB key ((c + m) % 4294967296) nonce = S1 := by
        apply ByteArray.ext
        apply Array.ext'
        rw [show (S0 ++ blkB key ((c + m) % 4294967296) nonce).data.toList = S0.data.toList ++ (blkB key ((c + m) % 4294967296) nonce).data.toList by simp, bstr _ S0 hS0, blkB_list, bstr _ S1 hS1, stL]
      have hrun : ∀ w : World, (Op.stringOp .add S0 (blkB key ((c + m) % 4294967296) nonce)).run Tryd.prog w = .ok (.string S1) w := fun w => by rw [cat_run S0 _ (by omega) w, hcat]
      have hinc : ((m : Int) + 1) % 4294967296 = (m : Int) + 1 := by omega
      rw [← hS0]
      have HS1d := Lib.hid hS1
      have HBel := Lib.hid hbel
      clear hcat hC hB hS1 hbel hlen hS0 hS0s
      generalize blkB key ((c + m) % 4294967296) nonce = B at *
      generalize (c + m) % 4294967296 = C at *
      go_wp2_with (first
        | (go_at_call 14; (with_reducible refine (HB.out _).mono ?_); rintro e w3 ⟨rfl, hb3⟩))
      go_roundw
      case rel => exact ⟨m + 1, by omega, by rw [HS1d.out], by go_num, HBel.out.trans (hb3.mono HBel.out.size)⟩
      case measure => simp [intOf]; omega
    · have hlti : ¬ (S0.size : Int) < (n : Int) := by omega
      have hsl := slice_to S0 n (by omega)
      have hex : S0.extract 0 n = strmB key c nonce n := by
        apply ByteArray.ext
        apply Array.ext'
        rw [ext_toList, bstr _ S0 hS0, List.drop_zero, Nat.sub_zero, strmB, strmL_of _ _ _ n m (by omega)]
      rw [hex] at hsl
      obtain ⟨S, hS⟩ : ∃ S, S = strmB key c nonce n := ⟨_, rfl⟩
      rw [← hS] at hsl
      have HSd := Lib.hid hS
      have HBel := Lib.hid hbel
      have hle : (n : Int) ≤ (S0.size : Int) := by omega
      rw [← hS0]
      clear hex hS0 hS0s hlen hS hbel
      go_wp2
      go_ret2
      exact ⟨by rw [← HSd.out]; rfl, HBel.out⟩

theorem rstream_no (key nonce : ByteArray) (c : Nat) (n : Int) (hs : ¬ (szB key nonce = true ∧ 0 ≤ n ∧ n ≤ 65536)) (w : World) :
    Calls Tryd.prog 16 #[.string key, .int .u32 (c : Int), .string nonce, .int .i64 n] w fun e w' => e = .returned (.tuple #[.string ByteArray.empty, .int .i64 5]) ∧ w = w' := by
  cases h : szB key nonce
  · rcases szB_xn h with h | ⟨h, h2⟩ <;> clear hs
    all_goals
      go_enter Tryd.func16, Tryd.ntmps16
      go_wp2
      go_ret2
      exact ⟨rfl, rfl⟩
  · obtain ⟨x1, x2⟩ := szB_x h
    by_cases h0 : n < 0
    · clear hs h
      go_enter Tryd.func16, Tryd.ntmps16
      go_wp2
      go_ret2
      exact ⟨rfl, rfl⟩
    · have h1 : (65536 : Int) < n := by
        have h2 : ¬ n ≤ 65536 := fun hn => hs ⟨h, by omega, hn⟩
        omega
      clear hs h
      go_enter Tryd.func16, Tryd.ntmps16
      go_wp2
      go_ret2
      exact ⟨rfl, rfl⟩
theorem rstream_any (key nonce : ByteArray) (c : Nat) (n : Int) (w : World) :
    Calls Tryd.prog 16 #[.string key, .int .u32 (c : Int), .string nonce, .int .i64 n] w fun e w' => e = .returned (strR key c nonce n) ∧ Below w.heap.size w w' := by
  unfold strR
  by_cases h : szB key nonce = true ∧ 0 ≤ n ∧ n ≤ 65536
  · rw [if_pos h]
    obtain ⟨N, rfl⟩ : ∃ N : Nat, n = (N : Int) := ⟨n.toNat, by omega⟩
    rw [Int.toNat_natCast]
    exact rstream_ok key nonce h.1 c N (by omega) w
  · rw [if_neg h]
    exact (rstream_no key nonce c n h w).mono fun _ _ ⟨h1, h2⟩ => ⟨h1, by rw [← h2]; exact Below.refl _ _⟩

theorem rturn_ok (key nonce : ByteArray) (hs : szB key nonce = true) (c : Nat) (t : ByteArray) (ht : t.size ≤ 65536) (w : World) :
    Calls Tryd.prog 18 #[.string key, .int .u32 (c : Int), .string nonce, .string t] w fun e w' => e = .returned (.tuple #[.string ⟨(xorL t.data.toList (strmL key.data.toList c nonce.data.toList t.size)).toArray⟩, .int .i64 0]) ∧ Below w.heap.size w w' := by
  have HSt := Lib.hid (rstream_ok key nonce hs c t.size ht w)
  have hsz := strmB_size key c nonce t.size
  have hx := rxor_any t (strmB key c nonce t.size) (by omega) (by omega)
  rw [xorB, if_pos hsz, xorE, if_pos hsz, strmB_list] at hx
  have HX := Lib.hid hx
  generalize strmB key c nonce t.size = S at *
  generalize (⟨(xorL t.data.toList (strmL key.data.toList c nonce.data.toList t.size)).toArray⟩ : ByteArray) = X at *
  clear hs hsz hx
  go_enter Tryd.func18, Tryd.ntmps18
  go_wp2_with (first
    | (go_at_call 16; (with_reducible refine HSt.out.mono ?_); rintro e w1 ⟨rfl, hb1⟩)
    | (go_at_call 33; (with_reducible refine (HX.out _).mono ?_); rintro e w2 ⟨rfl, hb2⟩))
  go_ret2
  exact ⟨rfl, Below_next hb1 hb2⟩
theorem rturn_no (key nonce : ByteArray) (c : Nat) (t : ByteArray) (hs : ¬ (szB key nonce = true ∧ t.size ≤ 65536)) (w : World) :
    Calls Tryd.prog 18 #[.string key, .int .u32 (c : Int), .string nonce, .string t] w fun e w' => e = .returned (.tuple #[.string ByteArray.empty, .int .i64 5]) ∧ w = w' := by
  have HSt := Lib.hid (rstream_no key nonce c (t.size : Int) (fun h => hs ⟨h.1, by omega⟩) w)
  clear hs
  go_enter Tryd.func18, Tryd.ntmps18
  go_wp2_with (first
    | (go_at_call 16; (with_reducible refine HSt.out.mono ?_); rintro e w1 ⟨rfl, rfl⟩))
  go_ret2
  exact ⟨rfl, rfl⟩
theorem rturn_any (key nonce : ByteArray) (c : Nat) (t : ByteArray) (w : World) :
    Calls Tryd.prog 18 #[.string key, .int .u32 (c : Int), .string nonce, .string t] w fun e w' => e = .returned (turnR key c nonce t) ∧ Below w.heap.size w w' := by
  unfold turnR
  by_cases h : szB key nonce = true ∧ t.size ≤ 65536
  · rw [if_pos h]; exact rturn_ok key nonce h.1 c t h.2 w
  · rw [if_neg h]; exact (rturn_no key nonce c t h w).mono fun _ _ ⟨h1, h2⟩ => ⟨h1, by rw [← h2]; exact Below.refl _ _⟩
end Go.Proofs.YtebhmcnocpblkaaDoor
