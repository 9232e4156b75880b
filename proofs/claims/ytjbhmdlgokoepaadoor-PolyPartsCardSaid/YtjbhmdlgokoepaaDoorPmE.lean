/- poly: the contract of read. -/
import Derived.Test.YtjbhmdlgokoepaaDoorPmD
import Derived.Test.YtjbhmdlgokoepaaDoorOctF
namespace Go.Proofs.YtjbhmdlgokoepaaDoor
open Go.RowKit

theorem numLow_dropL (l : List UInt8) (k : Nat) : numLow (l.drop k) = numLow l / 256 ^ k := by
  by_cases h : k ≤ l.length
  · have e := numLow_append (l.take k) (l.drop k)
    have hl := numLow_lt (l.take k)
    rw [List.take_append_drop, List.length_take, Nat.min_eq_left h] at e
    rw [List.length_take, Nat.min_eq_left h] at hl
    rw [e, Nat.add_mul_div_left _ _ (Nat.pow_pos (by decide)), Nat.div_eq_of_lt hl, Nat.zero_add]
  · have hl := numLow_lt l
    have := p256_le (k := l.length) (m := k) (by omega)
    rw [List.drop_eq_nil_of_le (by omega), Nat.div_eq_of_lt (by omega)]; rfl
theorem numLow_takeL (l : List UInt8) (k : Nat) : numLow (l.take k) = numLow l % 256 ^ k := by
  by_cases h : k ≤ l.length
  · have e := numLow_append (l.take k) (l.drop k)
    have hl := numLow_lt (l.take k)
    rw [List.take_append_drop, List.length_take, Nat.min_eq_left h] at e
    rw [List.length_take, Nat.min_eq_left h] at hl
    rw [e, Nat.add_mul_mod_self_left, Nat.mod_eq_of_lt hl]
  · have hl := numLow_lt l
    have := p256_le (k := l.length) (m := k) (by omega)
    rw [List.take_of_length_le (by omega), Nat.mod_eq_of_lt (by omega)]
theorem numLow_zerosL (n : Nat) : numLow (List.replicate n 0) = 0 := by
  induction n with
  | zero => rfl
  | succ n ih => rw [List.replicate_succ, numLow, ih]; rfl
/-- Where a part lies. -/
theorem part_bits (m S : Nat) (h : S + 26 ≤ 32) : m % 4294967296 / 2 ^ S % 67108864 = m / 2 ^ S % 67108864 := by
  apply Nat.eq_of_testBit_eq
  intro i
  rw [show (67108864 : Nat) = 2 ^ 26 from rfl, show (4294967296 : Nat) = 2 ^ 32 from rfl, Nat.testBit_mod_two_pow, Nat.testBit_mod_two_pow, Nat.testBit_div_two_pow, Nat.testBit_div_two_pow, Nat.testBit_mod_two_pow]
  by_cases hi : i < 26
  · simp [hi, show i + S < 32 by omega]
  · simp [hi]
theorem part_at (l : List UInt8) (k A S : Nat) (h : 26 * k = 8 * A + S) (hS : S + 26 ≤ 32) : numLow ((l.drop A).take 4) / 2 ^ S % 67108864 = numLow l / 67108864 ^ k % 67108864 := by
  rw [numLow_takeL, numLow_dropL, show (256 : Nat) ^ 4 = 4294967296 from rfl, part_bits _ _ hS, Nat.div_div_eq_div_mul, p256, ← Nat.pow_add, ← h]
  congr 2
  rw [Nat.pow_mul]
/-- What is known behind k parts. -/
structure Rea (n : Nat) (out : List Nat) (k : Nat) : Prop where
  len : out.length = 5
  lo : ∀ j, j < k → out.getD j 0 = n / 67108864 ^ j % 67108864
theorem Rea.start (n : Nat) : Rea n [0, 0, 0, 0, 0] 0 := ⟨rfl, fun _ h => absurd h (by omega)⟩
theorem Rea.step {n k : Nat} {out : List Nat} (h : Rea n out k) (hk : k < 5) : Rea n (out.set k (n / 67108864 ^ k % 67108864)) (k + 1) := by
  refine ⟨by simp [h.len], fun j hj => ?_⟩
  rw [getD_sets _ _ _ _ (by rw [h.len]; omega)]
  by_cases e : j = k
  · rw [if_pos e, e]
  · rw [if_neg e]; exact h.lo j (by omega)
theorem Rea.fin {n : Nat} {out : List Nat} (h : Rea n out 5) : out = partsP n 5 := by
  refine eq_of_getD _ _ (by rw [h.len, partsP_len]) fun j hj => ?_
  rw [h.len] at hj
  rw [h.lo j hj, partsP_get _ _ _ hj]

set_option maxHeartbeats 1000000 in
set_option maxRecDepth 100000 in
theorem read5_any (s : ByteArray) (h1 : 1 ≤ s.size) (h2 : s.size ≤ 17) (w : World) :
    Calls Tryd.prog 24 #[.string s] w fun e w' => e = .returned (.agg (row5 (partsP (numLow s.data.toList) 5))) ∧ Below w.heap.size w w' := by
  have hfm : fillMore s.size 17 = 17 - s.size := by unfold fillMore; split <;> omega
  have HF := Lib.hid (fun w => fill_any s 17 (by omega) (by omega) w)
  have hfi : fillI s 17 = s ++ zeros (17 - s.size) := by rw [fillI, if_neg (by omega), show (17 : Int).toNat = 17 from rfl, hfm]
  have hF17 : (fillI s 17).size = 17 := by rw [hfi, ByteArray.size_append, zeros_size]; omega
  have hFn : numLow (fillI s 17).data.toList = numLow s.data.toList := by
    rw [hfi, show (s ++ zeros (17 - s.size)).data.toList = s.data.toList ++ (zeros (17 - s.size)).data.toList by simp, show (zeros (17 - s.size)).data.toList = List.replicate (17 - s.size) 0 by simp [zeros], numLow_append, numLow_zerosL]; simp
  generalize fillI s 17 = B at *
  generalize numLow s.data.toList = n at *
  clear hfm hfi
  have HS := Lib.hid (Rea.start n)
  have HR0 := Lib.hid (Arr.new w zero5 50)
  have HB0 := Lib.hid ((Below.refl w.heap.size w).alloc (Nat.le_refl _) (.cells zero5 50))
  have HFn := Lib.hid hFn
  clear hFn
  go_enter Tryd.func24, Tryd.ntmps24
  go_wp2_with (first
    | (go_at_call 35; (with_reducible refine (HF.out _).mono ?_); rintro e w1 ⟨rfl, hb1⟩))
  have HR1 := Lib.hid ((HR0.out.next hb1).alloc (.cells zero5 50))
  have HX1 := Lib.hid (Arr.new w1 zero5 50)
  have HB1 := Lib.hid ((HB0.out.trans (hb1.mono HB0.out.size)).alloc (HB0.out.trans (hb1.mono HB0.out.size)).size (.cells zero5 50))
  obtain ⟨gx, hgx⟩ : ∃ gx, gx = w1.heap.size := ⟨_, rfl⟩
  have hgl : w.heap.size < gx := by rw [hgx]; exact (HR0.out.next hb1).lt
  have HGl := Lib.hid hgl
  rw [← hgx] at HX1 ⊢
  generalize w1.alloc (.cells zero5 50) = w2 at *
  clear hb1 HR0 HB0 HF hgx hgl
  have HF17 := Lib.hid hF17
  clear hF17
  go_loopw [11] (fun i wr => ∃ (k : Nat) (out : List Nat), k ≤ 5 ∧ i = .int .i64 (k : Int) ∧ Rea n out k ∧ Arr wr gx (row5 out) 50 ∧ Arr wr w.heap.size zero5 50 ∧ Below w.heap.size w wr) (fun i _ => 5 - (intOf i).toNat)
  case atStart => exact ⟨0, [0, 0, 0, 0, 0], by omega, rfl, HS.out, HX1.out, HR1.out, HB1.out⟩
  case round =>
    clear HS HX1 HR1 HB1
    obtain ⟨k, out, hk, rfl, hp, hx, hr, hbel⟩ := hrel
    have HX := Lib.hid hx
    have HR := Lib.hid hr
    have HBel := Lib.hid hbel
    by_cases hlt : k < 5
    · have hlti : (k : Int) < 5 := by omega
      have k0 : (0 : Int) ≤ (k : Int) := by omega
      obtain ⟨A, hA⟩ : ∃ A, A = 26 * k / 8 := ⟨_, rfl⟩
      obtain ⟨S, hS⟩ : ∃ S, S = 26 * k % 8 := ⟨_, rfl⟩
      have hA13 : A ≤ 13 := by omega
      have eA : 26 * (k : Int) / 8 = (A : Int) := by omega
      have eS : 26 * (k : Int) % 8 = (S : Int) := by omega
      have hpt := part_at B.data.toList k A S (by omega) (by
        rcases (show k = 0 ∨ k = 1 ∨ k = 2 ∨ k = 3 ∨ k = 4 by omega) with h | h | h | h | h <;> subst h <;> omega)
      have hS7 : (S : Int) ≤ 7 := by omega
      have hsl := slice_str B (A : Int) ((A : Int) + 4) A (A + 4) rfl (by omega) (by omega) (by have := HF17.out; omega)
      have hXs : (B.extract A (A + 4)).size = 4 := by rw [ext_size _ _ _ (by have := HF17.out; omega)]; omega
      have hXl := ext_toList B A (A + 4)
      rw [show A + 4 - A = 4 by omega] at hXl
      generalize B.extract A (A + 4) = X at *
      have hfl := fun w => fromLow_any X w
      rw [fitNum, if_pos (by omega), fitErr, if_pos (by omega), hXl] at hfl
      have hPb := numLow_lt ((B.data.toList.drop A).take 4)
      rw [← hXl, show X.data.toList.length = 4 by simpa using hXs, hXl] at hPb
      rw [HFn.out] at hpt
      generalize numLow ((B.data.toList.drop A).take 4) = P at *
      have hP32 : P < 4294967296 := hPb
      have HFl := Lib.hid hfl
      have f1 := hx.frozen k
      have c1 := hx.at5 k (by rw [hp.len]; exact hlt)
      have hst := hp.step hlt
      rw [← hpt] at hst
      have HSt := Lib.hid hst
      have HAnd := Lib.hid (and26 (P / 2 ^ S) (Nat.lt_of_le_of_lt (Nat.div_le_self _ _) (by omega)))
      clear hst hpt hfl hp hx hr hbel hA hS hXl hPb hP32
      have hS0 : (0 : Int) ≤ (S : Int) := by omega
      go_wp2_with (first
        | (go_at_call 36; (with_reducible refine (HFl.out _).mono ?_); rintro e w3 ⟨rfl, rfl⟩))
      have e1 := HAnd.out
      rw [Int.natCast_ediv, Int.natCast_pow, show ((2 : Nat) : Int) = 2 from rfl] at e1
      rw [e1]
      exact ⟨⟨k + 1, _, by omega, by go_num, HSt.out, HX.out.set5 k _, HR.out.other _ _ (by have := HGl.out; show w.heap.size ≠ gx; omega), HBel.out.setCell (p := ⟨gx, k, none⟩) (Nat.le_of_lt HGl.out) _⟩, by simp [intOf]; omega⟩
    · obtain rfl : k = 5 := by omega
      have hl5 := row5_size hp.len
      have HE := Lib.hid hp.fin
      clear hp hx hr hbel
      go_wp2_with (first
        | (with_reducible refine wpList_load_n5 rfl _ rfl gx rfl _ hl5 HX.out ?_)
        | (with_reducible refine wpList_store_n5 rfl _ _ rfl w.heap.size rfl _ rfl hl5 (row5_one _) _ rfl HR.out ?_))
      exact ret_n5 Tryd.results24 w.heap.size _ hl5 rfl (HR.out.row _) rfl ⟨by rw [HE.out], below_setRow HBel.out (by omega) _⟩
end Go.Proofs.YtjbhmdlgokoepaaDoor
