/- Contracts of octet.Xor and Same. -/
import Derived.Test.YtanaingknbjgdaaOc2
import Derived.Test.YtanaingknbjgdaaOcB
import Derived.RegionTactic
import Derived.ChangeAlike
namespace Go.Proofs.Ytanaingknbjgdaa
open Go.RowKit

def xorL (a b : List UInt8) : List UInt8 := List.zipWith (· ^^^ ·) a b
def xorRow (s t : ByteArray) (k n : Nat) : List UInt8 := xorL (s.data.toList.take k) (t.data.toList.take k) ++ List.replicate (n - k) 0
theorem xorRow_zero (s t : ByteArray) (n : Nat) : xorRow s t 0 n = List.replicate n 0 := by simp [xorRow, xorL]
theorem xorRow_full (s t : ByteArray) (h : t.size = s.size) : xorRow s t s.size s.size = xorL s.data.toList t.data.toList := by
  unfold xorRow
  rw [take_all, ← h, take_all]; simp
theorem xorL_len (a b : List UInt8) (h : a.length = b.length) : (xorL a b).length = a.length := by simp [xorL, h]
theorem xorRow_len (s t : ByteArray) (h : t.size = s.size) (k : Nat) (hk : k ≤ s.size) : (xorRow s t k s.size).length = s.size := by
  unfold xorRow
  rw [List.length_append, xorL_len _ _ (by rw [take_len s k hk, take_len t k (by omega)]), take_len s k hk, List.length_replicate]; omega
theorem xorRow_set (s t : ByteArray) (h : t.size = s.size) (k : Nat) (hs : k < s.size) (ht : k < t.size) : (xorRow s t k s.size).set k (s[k] ^^^ t[k]) = xorRow s t (k + 1) s.size := by
  unfold xorRow
  have hl : (xorL (s.data.toList.take k) (t.data.toList.take k)).length = k := by
    rw [xorL_len _ _ (by rw [take_len s k (by omega), take_len t k (by omega)]), take_len s k (by omega)]
  rw [List.set_append_right _ _ (by omega), hl, Nat.sub_self, take_snoc s k hs, take_snoc t k ht]
  obtain ⟨m, hm⟩ : ∃ m, s.size - k = m + 1 := ⟨s.size - k - 1, by omega⟩
  rw [hm, show s.size - (k + 1) = m from by omega, List.replicate_succ, xorL, xorL,
    List.zipWith_append (by rw [take_len s k (by omega), take_len t k (by omega)])]
  simp

theorem xor_num (a b : UInt8) : bits .xor .u8 (a.toNat : Int) (b.toNat : Int) = ((a ^^^ b).toNat : Int) := by
  rw [u8_xor_nat _ _ a.toNat_lt b.toNat_lt, UInt8.toNat_xor]

/-- What Xor answers: the bytes turned; and which error. -/
def xorB (s t : ByteArray) : ByteArray := if t.size = s.size then ⟨(xorL s.data.toList t.data.toList).toArray⟩ else ⟨#[]⟩
def xorE (s t : ByteArray) : Int := if t.size = s.size then 0 else 5
theorem ret_strnum {k : IntKind} {a b : ByteArray} {c d : Int} (h : a = b) (h2 : c = d) : Ending.returned (.tuple #[.string a, .int k c]) = .returned (.tuple #[.string b, .int k d]) := by rw [h, h2]

set_option maxHeartbeats 400000 in
theorem xor_any (s t : ByteArray) (hs : s.size ≤ 1099511627776) (ht : t.size ≤ 1099511627776) (w : World) :
    Calls Try.prog 22 #[.string s, .string t] w fun e w' => e = .returned (.tuple #[.string (xorB s t), .int .i64 (xorE s t)]) ∧ Below w.heap.size w w' := by
  by_cases he : t.size = s.size
  · have hne : ((s.size : Int) != (t.size : Int)) = false := by rw [he]; simp
    obtain ⟨i0, hi, hz0, hz1, hz2⟩ := info_parts Try.infoU8
    have HE := Lib.hid he
    have hle : (t.size : Int) ≤ (s.size : Int) := by omega
    have hge : (s.size : Int) ≤ (t.size : Int) := by omega
    clear he
    go_enter Try.func22, Try.ntmps22
    go_wp2_with (at_make; refine wpList_make_full _ rfl _ _ 40 rfl w.heap.size 5 i0 (.int .u8 0) 1 Try.underlying40 hi hz0 hz1 _ _ _ _ s.size rfl rfl rfl rfl (by rw [hz2]; omega) (by unfold maxLen; omega) (Nat.le_refl _) ?_)
    intro w1 hown hgrow
    rw [u8s_zeros, ← xorRow_zero s t s.size] at hown
    have hbel := (Below.refl w.heap.size w).grown hgrow (Nat.le_refl _) (by simp)
    clear hgrow
    go_wp2
    go_loopw [18] (fun i wr => ∃ k : Nat, k ≤ s.size ∧ i = .int .i64 k ∧ wr.ownsRow w.heap.size 5 1 (.slice (some ⟨w.heap.size, 0, none⟩) s.size s.size) s.size (u8s (xorRow s t k s.size)) ∧ Below w.heap.size w wr) (fun i _ => s.size - (intOf i).toNat)
    case atStart => exact ⟨0, Nat.zero_le _, rfl, hown, hbel⟩
    case round =>
      clear hown hbel
      obtain ⟨k, hk, rfl, hown, hbel⟩ := hrel
      by_cases hlt : k < s.size
      · have hc := hown.cellAt k (by omega)
        rw [u8s_get _ _ (by rw [xorRow_len s t HE.out k hk]; exact hlt)] at hc
        have hf := hown.frozenAt k
        have hlt2 : k < t.size := by omega
        go_wp2
        go_region
        go_wp2
        go_roundw
        case rel => exact ⟨k + 1, by omega, by go_num, row_step hown.drew (xorRow_len s t HE.out k hk) hlt (xorRow_set s t HE.out k hlt hlt2) (xor_num _ _), hbel.drew.setCell (Nat.le_refl _) _⟩
        case measure => simp [intOf]; omega
      · obtain rfl : k = s.size := by omega
        rw [xorRow_full s t HE.out] at hown
        have hback := conv_own hown
        go_wp2
        go_ret2
        exact ⟨ret_strnum (by rw [xorB, if_pos HE.out]) (by rw [xorE, if_pos HE.out]), hbel⟩
  · have hne : ((s.size : Int) != (t.size : Int)) = true := by simp; omega
    have HE := Lib.hid he
    clear he
    go_enter Try.func22, Try.ntmps22
    go_wp2
    go_ret2
    exact ⟨ret_strnum (by rw [xorB, if_neg HE.out]) (by rw [xorE, if_neg HE.out]), Below.refl _ _⟩

theorem same_any (s t : ByteArray) (w : World) :
    Calls Try.prog 24 #[.string s, .string t] w fun e w' => e = .returned (.bool (s.toList == t.toList)) ∧ w = w' := by
  go_enter Try.func24, Try.ntmps24
  go_wp2
  go_ret
  exact ⟨rfl, rfl⟩
end Go.Proofs.Ytanaingknbjgdaa
