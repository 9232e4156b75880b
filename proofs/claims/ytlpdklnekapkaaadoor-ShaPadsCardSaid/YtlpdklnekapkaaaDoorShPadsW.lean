/- ShaPads: the law's walk. -/
import Derived.Test.YtlpdklnekapkaaaDoorSh11
import Derived.Test.YtlpdklnekapkaaaDoorOctR
import Derived.Deep.RegionHeld3
namespace Go.Proofs.YtlpdklnekapkaaaDoor
open Go.RowKit

theorem sl_from (s : ByteArray) (a : Nat) (h : a ≤ s.size) (w : World) :
    (Instr.slice 9 (.string s) (some (.int .i64 (a : Int))) none none).run Tryd.prog w = .ok (.string (s.extract a s.size)) w := by
  have := run_slice_string_l (P := Tryd.prog) w 9 s Tryd.underlying9 .i64 (a : Int) (by omega) (by omega)
  simpa using this
theorem pad_size (n : Nat) (X : ByteArray) (hX : X = ⟨(padL n).toArray⟩) : X.size = padZ n + 9 := by
  subst hX; show (padL n).toArray.size = _; rw [List.size_toArray, padL_len]
theorem pad_head (n : Nat) (X : ByteArray) (hX : X = ⟨(padL n).toArray⟩) (h : 0 < X.size) : X[0] = 128 := by
  subst hX; rfl
theorem pad_mid (n : Nat) (X : ByteArray) (hX : X = ⟨(padL n).toArray⟩) (i : Nat) (h : i < X.size) (h1 : 1 ≤ i) (h2 : i + 8 < X.size) : X[i] = 0 := by
  have hs := pad_size n X hX
  subst hX
  rw [ByteArray.getElem_eq_getElem_data]
  have hz : i - 1 < padZ n := by omega
  obtain ⟨j, rfl⟩ : ∃ j, i = j + 1 := ⟨i - 1, by omega⟩
  simp only [padL, List.getElem_toArray, List.getElem_cons_succ]
  rw [List.getElem_append_left (by simpa using hz), List.getElem_replicate]
theorem pad_end (n : Nat) (X : ByteArray) (hX : X = ⟨(padL n).toArray⟩) (a : Nat) (ha : a + 8 = X.size) : X.extract a X.size = ⟨(lowL (8 * n % 18446744073709551616) 8).reverse.toArray⟩ := by
  have hs := pad_size n X hX
  have ha2 : a = padZ n + 1 := by omega
  apply ByteArray.ext
  apply Array.ext'
  show (X.extract a X.size).data.toList = _
  rw [ext_toList, hs, ha2, hX]
  show ((padL n).drop (padZ n + 1)).take _ = _
  rw [padL, List.drop_succ_cons, List.drop_append, List.drop_eq_nil_of_le (by simp), List.nil_append, List.length_replicate, Nat.sub_self, List.drop_zero, List.take_of_length_le (by simp [lowL_len])]

set_option maxHeartbeats 1000000 in
theorem pads_main (n : Nat) (hn : n < 18446744073709551616) (w : World) (htab : Tab w) :
    Calls Tryd.prog 7 #[.int .u64 n] w fun e w' => e = .returned (.bool true) ∧ Below w.heap.size w w' := by
  have HA := Lib.hid (awake_any w htab)
  have hpad := pad_any n hn
  obtain ⟨X, hX⟩ : ∃ X : ByteArray, X = ⟨(padL n).toArray⟩ := ⟨_, rfl⟩
  rw [← hX] at hpad
  have hs := pad_size n X hX
  have hz := padZ_lt n
  have h8 := rhigh_any (8 * n % 18446744073709551616) (Nat.mod_lt _ (by decide)) 8
  rw [show toldN 8 = 8 from rfl] at h8
  have e8 : ((8 * n % 18446744073709551616 : Nat) : Int) = IntKind.u64.wrap (8 * (n : Int)) := by rw [IntKind.wrap_u64]; omega
  rw [e8] at h8
  obtain ⟨a, ha⟩ : ∃ a, a + 8 = X.size := ⟨X.size - 8, by omega⟩
  have hend := pad_end n X hX a ha
  obtain ⟨Y, hY⟩ : ∃ Y : ByteArray, Y = ⟨(lowL (8 * n % 18446744073709551616) 8).reverse.toArray⟩ := ⟨_, rfl⟩
  rw [← hY] at h8 hend
  have h0 : 0 < X.size := by omega
  have hhd := pad_head n X hX h0
  have hsl : ∀ w : World, (Instr.slice 9 (.string X) (some (.int .i64 (a : Int))) none none).run Tryd.prog w = .ok (.string Y) w := fun w => by
    rw [← hend]; exact sl_from X a (by omega) w
  have HMID := Lib.hid (pad_mid n X hX)
  have HP := Lib.hid hpad
  have H8 := Lib.hid h8
  have b1 : 9 ≤ X.size := by omega
  have b2 : X.size ≤ 72 := by omega
  have a1 : decide ((X.size : Int) < 9) = false := by simp; omega
  have a2 : decide ((72 : Int) < (X.size : Int)) = false := by simp; omega
  have hm : (n + X.size) % 64 = 0 := by rw [hs, padZ]; omega
  have t1 : (n : Int).tmod 64 = (n : Int) % 64 := Int.tmod_eq_emod_of_nonneg (by omega)
  have t2 : IntKind.u64.wrap (X.size : Int) = (X.size : Int) := by rw [IntKind.wrap_u64]; omega
  have t3 : IntKind.u64.wrap ((n : Int) % 64 + (X.size : Int)) = (n : Int) % 64 + (X.size : Int) := by rw [IntKind.wrap_u64]; omega
  have t4 : ((n : Int) % 64 + (X.size : Int)).tmod 64 = 0 := by rw [Int.tmod_eq_emod_of_nonneg (by omega)]; omega
  have t5 : ((n : Int) % 64 + (X.size : Int)) % 64 = 0 := by omega
  have t6 : IntKind.i64.wrap ((X.size : Int) - 8) = (a : Int) := by rw [IntWalk.i64_in _ (by omega)]; omega
  have t7 : (((X[0]'h0).toNat : Int) != 128) = false := by rw [hhd]; rfl
  clear hpad h8 hX hs hz e8 hY hn htab hm hhd ha hend
  go_enter Tryd.func7, Tryd.ntmps7
  go_wp2_with (first
    | (go_at_call 9; (with_reducible refine HA.out.mono ?_); rintro e w1 ⟨rfl, hb1⟩)
    | (go_at_call 16; (with_reducible refine (HP.out _).mono ?_); rintro e w2 ⟨rfl, hb2⟩; have HB2 := Lib.hid (Below_next hb1 hb2); clear hb1 hb2))
  go_region_held3 (fun _ => True) (exact trivial) (first | (go_at_call 22; (with_reducible refine (H8.out _).mono ?_); rintro e w3 ⟨rfl, hb3⟩))
  have HB3 := Lib.hid (Below_next HB2.out.drew hb3)
  clear t1 t2 t3 t4 t5 t6 t7 a1 a2 hsl hb3 HB2
  go_wp2
  go_loop [4] (fun i => ∃ k : Nat, 1 ≤ k ∧ k + 8 ≤ X.size ∧ i = .int .i64 k) (fun i => X.size - (intOf i).toNat)
  case atStart => exact ⟨1, by omega, by omega, rfl⟩
  case round =>
    obtain ⟨k, hk1, hk2, rfl⟩ := hrel
    by_cases hlt : k + 8 < X.size
    · have hkl : k < X.size := by omega
      have hz0 := HMID.out k hkl hk1 hlt
      have hzb : ((X[k].toNat : Int) != 0) = false := by rw [hz0]; rfl
      clear hz0
      go_wp2
      go_round
      case rel => exact ⟨k + 1, by omega, by omega, by go_num⟩
      case measure => simp [intOf]; omega
    · go_wp2
      go_ret
      exact ⟨rfl, HB3.out⟩

theorem wf_u64n {a : Int} (h : (Lit.int .u64 a).wf = true) : ∃ n : Nat, a = (n : Int) ∧ n < 18446744073709551616 := by
  have := wf_u64 h
  obtain ⟨n, rfl⟩ := Int.eq_ofNat_of_zero_le this.1
  exact ⟨n, rfl, by omega⟩

theorem shaPads_walk (a0 : Int) (w0 : (Lit.int .u64 a0).wf = true) (w : World) (htab : Tab w) :
    Calls Tryd.prog 7 #[.int .u64 a0] w fun e w' => e = .returned (.bool true) ∧ Below w.heap.size w w' := by
  obtain ⟨n, rfl, hn⟩ := wf_u64n w0
  exact pads_main n hn w htab
end Go.Proofs.YtlpdklnekapkaaaDoor
