/- The document's own layer 7: Key. -/
import Derived.Test.YtfflpooiebeagaaGreatDoorBxC
import Derived.Test.YtfflpooiebeagaaGreatDoorMD
namespace Go.Proofs.YtfflpooiebeagaaGreatDoor
open Go.RowKit

theorem keyR_ok {m d : ByteArray} {e : Nat} (h : bxKeyOk m d) : bxKeyR m d e = .tuple #[.string (bxKeyB m d e), .int .i64 0] := by rw [bxKeyR, if_pos h]; rfl
theorem keyR_no {m d : ByteArray} {e : Nat} (h : ¬ bxKeyOk m d) : bxKeyR m d e = .tuple #[.string ByteArray.empty, .int .i64 5] := by rw [bxKeyR, if_neg h]; rfl
theorem infoB_size (d : ByteArray) (e : Nat) : (infoB d e).size = d.size + 10 := by
  rw [infoB, ByteArray.size_append, ByteArray.size_append]
  have h1 : (⟨((lowL d.size 2).reverse).toArray⟩ : ByteArray).size = 2 := by show ((lowL d.size 2).reverse).toArray.size = _; rw [List.size_toArray, List.length_reverse, lowL_len]
  have h2 : (⟨((lowL e 8).reverse).toArray⟩ : ByteArray).size = 8 := by show ((lowL e 8).reverse).toArray.size = _; rw [List.size_toArray, List.length_reverse, lowL_len]
  omega
set_option maxHeartbeats 1000000 in
theorem rkey7_any (master domain : ByteArray) (_ : master.size ≤ 1000) (hd : domain.size ≤ 1000) (epoch : Nat) (he : epoch < 18446744073709551616) (w : World) :
    Calls Tryz.prog 18 #[.string master, .string domain, .int .u64 (epoch : Int)] w fun e w' => e = .returned (bxKeyR master domain epoch) ∧ Below w.heap.size w w' := by
  by_cases hm32 : master.size = 32
  · have b1 : (master.size : Int) = 32 := by omega
    by_cases hd255 : domain.size ≤ 255
    · have b2 : decide (255 < (domain.size : Int)) = false := decide_eq_false (by omega)
      rw [keyR_ok ⟨hm32, hd255⟩]
      have H1 := Lib.hid (fun w => rhigh_any domain.size (by omega) 2 w)
      have H2 := Lib.hid (fun w => rhigh_any epoch he 8 w)
      rw [show toldN 2 = 2 from rfl] at H1
      rw [show toldN 8 = 8 from rfl] at H2
      have hD := fun w => rderive_any saltB master (infoB domain epoch) 32 (by decide) (by omega) (by rw [infoB_size]; omega) w
      have hR : exR (macL saltB.data.toList master.data.toList) (infoB domain epoch).data.toList 32 = .tuple #[.string (bxKeyB master domain epoch), .int .i64 0] := rfl
      rw [hR] at hD
      have hz := infoB_size domain epoch
      obtain ⟨A, hA⟩ : ∃ A : ByteArray, A = ⟨((lowL domain.size 2).reverse).toArray⟩ := ⟨_, rfl⟩
      obtain ⟨Z, hZ⟩ : ∃ Z : ByteArray, Z = ⟨((lowL epoch 8).reverse).toArray⟩ := ⟨_, rfl⟩
      have hI : infoB domain epoch = A ++ domain ++ Z := by rw [hA, hZ]; rfl
      rw [← hA] at H1
      rw [← hZ] at H2
      have hAs : A.size ≤ 1000 := by
        have := congrArg ByteArray.size hI
        rw [hz, ByteArray.size_append, ByteArray.size_append] at this; omega
      have hZs : Z.size ≤ 1000 := by
        have := congrArg ByteArray.size hI
        rw [hz, ByteArray.size_append, ByteArray.size_append] at this; omega
      have c1 : ∀ w : World, (Op.stringOp .add A domain).run Tryz.prog w = .ok (.string (A ++ domain)) w := fun w => cat_run _ _ (by omega) w
      have c2 : ∀ w : World, (Op.stringOp .add (A ++ domain) Z).run Tryz.prog w = .ok (.string (infoB domain epoch)) w := fun w => by rw [hI]; exact cat_run _ _ (by rw [ByteArray.size_append]; omega) w
      generalize A ++ domain = AD at *
      generalize infoB domain epoch = I at *
      generalize bxKeyB master domain epoch = KB at *
      have d0 : (0 : Int) ≤ (domain.size : Int) := by omega
      have d1 : (domain.size : Int) ≤ 255 := by omega
      have HDe := Lib.hid hD
      rw [show saltB = ⟨#[112, 111, 115, 116, 104, 111, 114, 110]⟩ from rfl] at HDe
      clear hD hR hz hA hZ hI hAs hZs hd he hd255 hm32
      go_enter Tryz.func18, Tryz.ntmps18
      go_wp2_with (first
        | (go_at_call 29; (first
          | ((with_reducible refine (H1.out _).mono ?_); rintro e w1 ⟨rfl, hb1⟩)
          | ((with_reducible refine (H2.out _).mono ?_); rintro e w2 ⟨rfl, hb2⟩)))
        | (go_at_call 28; (with_reducible refine (HDe.out _).mono ?_); rintro e w3 ⟨rfl, hb3⟩))
      go_ret2
      exact ⟨rfl, Below_next (Below_next hb1 hb2) hb3⟩
    · have b2 : decide (255 < (domain.size : Int)) = true := decide_eq_true (by omega)
      rw [keyR_no (fun h => hd255 h.2)]
      clear hd he hd255 hm32
      go_enter Tryz.func18, Tryz.ntmps18
      go_wp2
      go_ret2
      exact ⟨rfl, Below.refl _ _⟩
  · have b1 : ¬ (master.size : Int) = 32 := by omega
    rw [keyR_no (fun h => hm32 h.1)]
    clear hd he hm32
    go_enter Tryz.func18, Tryz.ntmps18
    go_wp2
    go_ret2
    exact ⟨rfl, Below.refl _ _⟩
end Go.Proofs.YtfflpooiebeagaaGreatDoor
