/- The document's own Expand and Derive of layer 3. -/
import Derived.Test.YtmedlgnllgldiaaDoorMrA
namespace Go.Proofs.YtmedlgnllgldiaaDoor
open Go.RowKit

/-- One byte as a string. -/
theorem conv_one (w : World) (b : UInt8) (v : Int) (hv : v = (b.toNat : Int)) :
    (convert 38 9 (.slice (some ⟨w.heap.size, 0, none⟩) 1 1)).run Tryd.prog (w.alloc (.cells #[.int .u8 v] 5)) = .ok (.string ⟨#[b]⟩) (w.alloc (.cells #[.int .u8 v] 5)) := by
  subst hv
  exact conv_cells _ ⟨w.heap.size, 0, none⟩ [b] 1 (fun j v hv => by
    rw [addr_add, Nat.zero_add]
    exact (Arr.new w #[.int .u8 (b.toNat : Int)] 5).cell (by simpa [u8s] using hv))
theorem byteAt_small (j : Nat) (h : j < 256) : ((byteAt j 0).toNat : Int) = (j : Int) := by
  rw [← byte_num']; omega

set_option maxHeartbeats 1000000 in
set_option maxRecDepth 100000 in
theorem rexpand_any (key info : ByteArray) (n : Int) (hk : key.size ≤ 1000000) (hi : info.size ≤ 100000) (w : World) :
    Calls Tryd.prog 18 #[.string key, .string info, .int .i64 n] w fun e w' => e = .returned (exR key.data.toList info.data.toList n) ∧ Below w.heap.size w w' := by
  unfold exR
  by_cases h1 : n < 0
  · rw [if_pos (Or.inl h1)]
    go_enter Tryd.func18, Tryd.ntmps18
    go_wp2
    go_ret2
    exact ⟨rfl, Below.refl _ _⟩
  · by_cases h2 : 8160 < n
    · rw [if_pos (Or.inr h2)]
      go_enter Tryd.func18, Tryd.ntmps18
      go_wp2
      go_ret2
      exact ⟨rfl, Below.refl _ _⟩
    · rw [if_neg (by omega)]
      obtain ⟨N, rfl⟩ : ∃ N : Nat, n = (N : Int) := ⟨n.toNat, by omega⟩
      have hN : N ≤ 8160 := by omega
      rw [Int.toNat_natCast]
      clear h1 h2
      have hN1 : ¬ (N : Int) < 0 := by omega
      have hN2 : ¬ (8160 : Int) < (N : Int) := by omega
      go_enter Tryd.func18, Tryd.ntmps18
      go_wp2
      go_loopw [8, 9, 10] (fun o p i wr => ∃ k : Nat, k ≤ 255 ∧ 32 * k < N + 32 ∧ o = .string ⟨(exL key.data.toList info.data.toList k).toArray⟩ ∧ p = .string ⟨(exPart key.data.toList info.data.toList k).toArray⟩ ∧ i = .int .i64 ((k + 1 : Nat) : Int) ∧ Below w.heap.size w wr) (fun _ _ i _ => 300 - (intOf i).toNat)
      case atStart => exact ⟨0, by omega, by omega, rfl, rfl, rfl, Below.refl _ _⟩
      case round =>
        obtain ⟨k, hk2, hkN, rfl, rfl, rfl, hbel⟩ := hrel
        have hel := exL_len key.data.toList info.data.toList k
        have hS : (ByteArray.mk (exL key.data.toList info.data.toList k).toArray).size = 32 * k := by show (exL key.data.toList info.data.toList k).toArray.size = _; rw [List.size_toArray, hel]
        by_cases hlt : 32 * k < N
        · have hlt' : (32 * (k : Int) < (N : Int)) := by omega
          have hk1 : ((k + 1 : Nat) : Int) = (k : Int) + 1 := by omega
          have hpl := exPart_len key.data.toList info.data.toList k
          have hpn : macB key.data.toList (exPart key.data.toList info.data.toList k ++ info.data.toList ++ [byteAt (k + 1) 0]) = ⟨(exPart key.data.toList info.data.toList (k + 1)).toArray⟩ := rfl
          have hps : (ByteArray.mk (exPart key.data.toList info.data.toList (k + 1)).toArray).size = 32 := by show (exPart key.data.toList info.data.toList (k + 1)).toArray.size = 32; rw [List.size_toArray, exPart_succ_len]
          have hnx : (ByteArray.mk (exL key.data.toList info.data.toList k).toArray) ++ (ByteArray.mk (exPart key.data.toList info.data.toList (k + 1)).toArray) = ⟨(exL key.data.toList info.data.toList (k + 1)).toArray⟩ := by apply ByteArray.ext; simp [exL]
          obtain ⟨P, hP⟩ : ∃ P, P = (ByteArray.mk (exPart key.data.toList info.data.toList k).toArray) := ⟨_, rfl⟩
          obtain ⟨P2, hP2⟩ : ∃ P2, P2 = (ByteArray.mk (exPart key.data.toList info.data.toList (k + 1)).toArray) := ⟨_, rfl⟩
          obtain ⟨S, hSd⟩ : ∃ S, S = (ByteArray.mk (exL key.data.toList info.data.toList k).toArray) := ⟨_, rfl⟩
          obtain ⟨S2, hS2⟩ : ∃ S2, S2 = (ByteArray.mk (exL key.data.toList info.data.toList (k + 1)).toArray) := ⟨_, rfl⟩
          obtain ⟨X, hX⟩ : ∃ X : ByteArray, X = ⟨#[byteAt (k + 1) 0]⟩ := ⟨_, rfl⟩
          have hPs : P.size ≤ 32 := by rw [hP]; show (exPart key.data.toList info.data.toList k).toArray.size ≤ 32; rw [List.size_toArray]; exact hpl
          have hXs : X.size = 1 := by rw [hX]; rfl
          have hPl : P.data.toList = exPart key.data.toList info.data.toList k := by rw [hP]
          have hXl : X.data.toList = [byteAt (k + 1) 0] := by rw [hX]
          have hcv := conv_one wr (byteAt (k + 1) 0) ((k : Int) + 1) (by rw [byteAt_small _ (by omega)]; omega)
          rw [← hX] at hcv
          have hr1 : ∀ w : World, (Op.stringOp .add P info).run Tryd.prog w = .ok (.string (P ++ info)) w := fun w => cat_run P info (by omega) w
          obtain ⟨PI, hPI⟩ : ∃ PI, PI = P ++ info := ⟨_, rfl⟩
          have hPIs : PI.size = P.size + info.size := by rw [hPI, ByteArray.size_append]
          have hPIl : PI.data.toList = P.data.toList ++ info.data.toList := by rw [hPI]; simp
          rw [← hPI] at hr1
          have hr2 : ∀ w : World, (Op.stringOp .add PI X).run Tryd.prog w = .ok (.string (PI ++ X)) w := fun w => cat_run PI X (by omega) w
          obtain ⟨PX, hPX⟩ : ∃ PX, PX = PI ++ X := ⟨_, rfl⟩
          have hPXs : PX.size = PI.size + X.size := by rw [hPX, ByteArray.size_append]
          have hPXl : PX.data.toList = PI.data.toList ++ X.data.toList := by rw [hPX]; simp
          rw [← hPX] at hr2
          have hmac := fun w => rmac_any key PX hk (by omega) w
          rw [hPXl, hPIl, hPl, hXl, hpn, ← hP2] at hmac
          have HMac := Lib.hid hmac
          rw [← hSd, ← hP2, ← hS2] at hnx
          rw [← hP2] at hps
          rw [← hSd] at hS
          have hr3 : ∀ w : World, (Op.stringOp .add S P2).run Tryd.prog w = .ok (.string S2) w := fun w => by rw [cat_run S P2 (by omega) w, hnx]
          rw [← hSd, ← hP]
          have HS2 := Lib.hid hS2
          have HP2 := Lib.hid hP2
          clear hmac hnx hPX hPXl hPI hPIl hX hXl hP hPl hP2 hS2 hSd hpn hpl hel
          have hj : (k : Int) + 1 < 300 := by omega
          go_wp2_with (first
            | (go_at_call 13; (with_reducible refine (HMac.out _).mono ?_); rintro e wy ⟨rfl, hby⟩))
          go_roundw
          case rel => exact ⟨k + 1, by omega, by omega, by rw [HS2.out], by rw [HP2.out], by go_num, Below_next (hbel.alloc hbel.size _) hby⟩
          case measure => simp [intOf]; omega
        · have hfull := exB_of key.data.toList info.data.toList N k hk2 (by omega)
          have hsl := slice_to (ByteArray.mk (exL key.data.toList info.data.toList k).toArray) N (by rw [hS]; omega)
          rw [hfull] at hsl
          obtain ⟨S, hSd⟩ : ∃ S, S = (ByteArray.mk (exL key.data.toList info.data.toList k).toArray) := ⟨_, rfl⟩
          rw [← hSd] at hS hsl hfull ⊢
          have hlt' : ¬ (32 * (k : Int) < (N : Int)) := by omega
          have hN2' : (N : Int) ≤ 32 * (k : Int) := by omega
          clear hSd hel
          go_wp2
          go_ret2
          exact ⟨rfl, hbel⟩

theorem rderive_any (salt secret info : ByteArray) (n : Int) (hk : salt.size ≤ 1000000) (hs : secret.size ≤ 900000) (hi : info.size ≤ 100000) (w : World) :
    Calls Tryd.prog 20 #[.string salt, .string secret, .string info, .int .i64 n] w fun e w' => e = .returned (exR (macL salt.data.toList secret.data.toList) info.data.toList n) ∧ Below w.heap.size w w' := by
  have HX := Lib.hid (rmac_any salt secret hk hs w)
  have hkl : (macB salt.data.toList secret.data.toList).data.toList = macL salt.data.toList secret.data.toList := by simp [macB]
  have hE := fun w => rexpand_any (macB salt.data.toList secret.data.toList) info n (by rw [macB_size]; decide) hi w
  rw [hkl] at hE
  have HE := Lib.hid hE
  clear hE hkl
  unfold exR at HE ⊢
  by_cases hc : n < 0 ∨ 8160 < n
  · rw [if_pos hc] at HE ⊢
    clear hc
    go_enter Tryd.func20, Tryd.ntmps20
    go_wp2_with (first
      | (go_at_call 13; (with_reducible refine HX.out.mono ?_); rintro e w1 ⟨rfl, hb1⟩)
      | (go_at_call 18; (with_reducible refine (HE.out _).mono ?_); rintro e w2 ⟨rfl, hb2⟩))
    go_ret2
    exact ⟨rfl, Below_next hb1 hb2⟩
  · rw [if_neg hc] at HE ⊢
    clear hc
    go_enter Tryd.func20, Tryd.ntmps20
    go_wp2_with (first
      | (go_at_call 13; (with_reducible refine HX.out.mono ?_); rintro e w1 ⟨rfl, hb1⟩)
      | (go_at_call 18; (with_reducible refine (HE.out _).mono ?_); rintro e w2 ⟨rfl, hb2⟩))
    go_ret2
    exact ⟨rfl, Below_next hb1 hb2⟩
end Go.Proofs.YtmedlgnllgldiaaDoor
