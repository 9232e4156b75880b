/- poly: a Poly of a key and a text; the contract of New. -/
import Derived.Test.YtjbhmdlgokoepaaDoorPmH
namespace Go.Proofs.YtjbhmdlgokoepaaDoor
open Go.RowKit

theorem accN_append (r : Nat) (l q : List UInt8) (m : Nat) (h : 16 * m ≤ l.length) : accN r (l ++ q) m = accN r l m := by
  induction m with
  | zero => rfl
  | succ m ih =>
    have e : partL (l ++ q) m = partL l m := by
      rw [partL, partL, List.drop_append_of_le_length (by omega), List.take_append_of_le_length (by rw [List.length_drop]; omega)]
    rw [accN, accN, ih (by omega), e]
theorem keyR_lt (key : List UInt8) : keyR key < TB := by
  have h := numLow_lt (clampL (key.take 16))
  rw [clampL_len] at h
  have : 256 ^ 16 < TB := by decide
  exact Nat.lt_trans h this
theorem keyS_lt (key : List UInt8) (hk : key.length = 32) : keyS key < TB := by
  have h := numLow_lt (key.drop 16)
  rw [List.length_drop, hk] at h
  have : 256 ^ 16 < TB := by decide
  exact Nat.lt_trans h this
/-- What a Poly's cells are, of a key and a text. -/
structure Pst (key text : List UInt8) (A : List Nat) (p : List UInt8) : Prop where
  ok : Pok (partsP (keyR key) 5) (partsP (keyS key) 5) A p
  lt : ∀ z ∈ A, z < 67108864
  num : numP A % PP = accN (keyR key) text (text.length / 16)
  part : p.take (text.length % 16) = text.drop (16 * (text.length / 16))
/-- Block g is a Poly of this key and text. -/
def PolyOf (w : World) (g : Nat) (key text : List UInt8) : Prop :=
  ∃ A p, Pst key text A p ∧ Arr w g (pcells (partsP (keyR key) 5) (partsP (keyS key) 5) A p (text.length % 16)) 53
theorem PolyOf.lt {w : World} {g : Nat} {key text : List UInt8} (h : PolyOf w g key text) : g < w.heap.size := by
  obtain ⟨A, p, _, ha⟩ := h; exact ha.lt
theorem PolyOf.next {w w' : World} {g : Nat} {key text : List UInt8} (h : PolyOf w g key text) (hb : Below w.heap.size w w') : PolyOf w' g key text := by
  obtain ⟨A, p, h1, ha⟩ := h; exact ⟨A, p, h1, ha.next hb⟩
theorem PolyOf.fr {w w' : World} {g m : Nat} {key text : List UInt8} (h : PolyOf w g key text) (hf : Fr m w w') (hn : g ≠ m) : PolyOf w' g key text := by
  obtain ⟨A, p, h1, ha⟩ := h; exact ⟨A, p, h1, ha.fr hf hn⟩
theorem PolyOf.start {w : World} {g : Nat} {key : List UInt8} (h : Arr w g (pcells (partsP (keyR key) 5) (partsP (keyS key) 5) [0, 0, 0, 0, 0] (List.replicate 16 0) 0) 53) : PolyOf w g key [] :=
  ⟨_, _, ⟨⟨partsP_len _ _, partsP_len _ _, rfl, rfl⟩, lt5 0 _ (by decide), rfl, rfl⟩, h⟩

theorem new_fin {w wx : World} (hb : Below w.heap.size w wx) {key : List UInt8} {C : Array Value} (hf : ∀ w' g, Arr w' g C 53 → PolyOf w' g key []) :
    (∃ g, Ending.returned (.tuple #[.pointer (some ⟨wx.heap.size, 0, none⟩), .int .i64 0]) = .returned (.tuple #[.pointer (some ⟨g, 0, none⟩), .int .i64 0]) ∧ w.heap.size ≤ g ∧ PolyOf (wx.alloc (.cells C 53)) g key []) ∧ Below w.heap.size w (wx.alloc (.cells C 53)) :=
  ⟨⟨_, rfl, hb.size, hf _ _ (Arr.new wx C _)⟩, hb.alloc hb.size _⟩

set_option maxHeartbeats 1000000 in
set_option maxRecDepth 100000 in
theorem polyNew_ok (key : ByteArray) (hk : key.size = 32) (w : World) (hp : Kp w) :
    Calls Tryd.prog 14 #[.string key] w fun e w' => (∃ g, e = .returned (.tuple #[.pointer (some ⟨g, 0, none⟩), .int .i64 0]) ∧ w.heap.size ≤ g ∧ PolyOf w' g key.data.toList []) ∧ Below w.heap.size w w' := by
  have e1 : ((key.size : Int) != 32) = false := by rw [hk]; rfl
  have hkl : key.data.toList.length = 32 := by simpa using hk
  have hs1 := slice_to key 16 (by omega)
  have hs2 := slice_from key 16 (by omega)
  rw [show ((16 : Nat) : Int) = 16 from rfl] at hs1 hs2
  rw [hk] at hs2
  have hx1 : (key.extract 0 16).size = 16 := by rw [ext_size _ _ _ (by omega)]
  have hx2 : (key.extract 16 32).size = 16 := by rw [ext_size _ _ _ (by omega)]
  have hl1 := ext_toList key 0 16
  have hl2 := ext_toList key 16 32
  rw [List.drop_zero, Nat.sub_zero] at hl1
  rw [List.take_of_length_le (by rw [List.length_drop, hkl]; exact Nat.le_refl _)] at hl2
  have HC := Lib.hid (clamp_ok (key.extract 0 16) hx1 w hp)
  rw [hl1] at HC
  obtain ⟨RB, hRB⟩ : ∃ RB : ByteArray, RB = ⟨(clampL (key.data.toList.take 16)).toArray⟩ := ⟨_, rfl⟩
  rw [← hRB] at HC
  have hR16 : RB.size = 16 := by rw [hRB]; show (clampL (key.data.toList.take 16)).toArray.size = 16; rw [List.size_toArray, clampL_len]
  have hRl : RB.data.toList = clampL (key.data.toList.take 16) := by rw [hRB]
  have hr := fun w => read5_any RB (by omega) (by omega) w
  have hs := fun w => read5_any (key.extract 16 32) (by omega) (by omega) w
  rw [hRl, show numLow (clampL (key.data.toList.take 16)) = keyR key.data.toList from rfl] at hr
  rw [hl2, show numLow (key.data.toList.drop 16) = keyS key.data.toList from rfl] at hs
  have HF : Hid (∀ (w' : World) (g : Nat), Arr w' g (pcells (partsP (keyR key.data.toList) 5) (partsP (keyS key.data.toList) 5) [0, 0, 0, 0, 0] (List.replicate 16 0) 0) 53 → PolyOf w' g key.data.toList []) := fun w' g h => PolyOf.start h
  obtain ⟨r0, r1, r2, r3, r4, hr5⟩ := five (partsP (keyR key.data.toList) 5) (partsP_len _ _)
  obtain ⟨s0, s1, s2, s3, s4, hs5⟩ := five (partsP (keyS key.data.toList) 5) (partsP_len _ _)
  rw [hr5] at hr HF
  rw [hs5] at hs HF
  have hr' : ∀ w, Calls Tryd.prog 24 #[.string RB] w fun e w' => e = .returned (.agg #[.int .u64 (r0 : Int), .int .u64 (r1 : Int), .int .u64 (r2 : Int), .int .u64 (r3 : Int), .int .u64 (r4 : Int)]) ∧ Below w.heap.size w w' := hr
  have hs' : ∀ w, Calls Tryd.prog 24 #[.string (key.extract 16 32)] w fun e w' => e = .returned (.agg #[.int .u64 (s0 : Int), .int .u64 (s1 : Int), .int .u64 (s2 : Int), .int .u64 (s3 : Int), .int .u64 (s4 : Int)]) ∧ Below w.heap.size w w' := hs
  have HR := Lib.hid hr'
  have HS := Lib.hid hs'
  generalize key.extract 16 32 = KS at *
  generalize key.extract 0 16 = KR at *
  clear hk hkl hp hx1 hx2 hl1 hl2 hRB hR16 hRl hr hs hr' hs' hr5 hs5
  go_enter Tryd.func14, Tryd.ntmps14
  go_wp2_with (first
    | (go_at_call 12; (with_reducible refine HC.out.mono ?_); rintro e w1 ⟨rfl, hb1⟩))
  go_region_held3 (fun _ => True) (first | exact trivial)
    (first
      | (go_at_call 24; (first
        | ((with_reducible refine (HR.out _).mono ?_); rintro e w2 ⟨rfl, hb2⟩)
        | ((with_reducible refine (HS.out _).mono ?_); rintro e w3 ⟨rfl, hb3⟩))))
  all_goals
    go_wp2_with fail
    go_ret2
    first
      | exact new_fin (Below_next (Below_next hb1.drew hb2) hb3) HF.out
      | exact new_fin (Below_next (Below_next hb1.drew hb3) hb2) HF.out
theorem polyNew_no (key : ByteArray) (hk : key.size ≠ 32) (w : World) :
    Calls Tryd.prog 14 #[.string key] w fun e w' => e = .returned (.tuple #[.pointer none, .int .i64 5]) ∧ w = w' := by
  have e1 : ((key.size : Int) != 32) = true := by simp; omega
  clear hk
  go_enter Tryd.func14, Tryd.ntmps14
  go_wp2
  go_ret2
  exact ⟨rfl, rfl⟩
end Go.Proofs.YtjbhmdlgokoepaaDoor
