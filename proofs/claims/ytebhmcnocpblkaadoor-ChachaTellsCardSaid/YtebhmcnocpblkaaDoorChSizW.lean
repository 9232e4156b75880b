/- ChachaSizes: the law's walk. -/
import Derived.Test.YtebhmcnocpblkaaDoorChK
namespace Go.Proofs.YtebhmcnocpblkaaDoor
open Go.RowKit

theorem wf_u32 {a : Int} (h : (Lit.int .u32 a).wf = true) : 0 ≤ a ∧ a ≤ 4294967295 := by simpa [Lit.wf, IntKind.min, IntKind.max, IntKind.signed, IntKind.bits] using h
theorem szB_e {key nonce : ByteArray} (h : szB key nonce = true) : ((key.size : Int) == 32) = true ∧ ((nonce.size : Int) == 12) = true := by
  obtain ⟨h1, h2⟩ := szB_yes h
  rw [h1, h2]; exact ⟨rfl, rfl⟩
theorem szB_n {key nonce : ByteArray} (h : szB key nonce = false) : ((key.size : Int) == 32) = false ∨ (((key.size : Int) == 32) = true ∧ ((nonce.size : Int) == 12) = false) := by
  by_cases h1 : key.size = 32
  · right
    refine ⟨by rw [h1]; rfl, ?_⟩
    have : ¬ nonce.size = 12 := fun h2 => by rw [szB_mk h1 h2] at h; cases h
    simp; omega
  · left; simp; omega
set_option maxHeartbeats 1000000 in
set_option maxRecDepth 100000 in
theorem chachaSizes_walk (key nonce : ByteArray) (c n : Int) (_ : key.size ≤ maxLen) (_ : nonce.size ≤ maxLen) (hc : (Lit.int .u32 c).wf = true) (_ : (Lit.int .i64 n).wf = true) (W : World) (hp : Pl W) :
    Calls Tryd.prog 8 #[.string key, .string nonce, .int .u32 c, .int .i64 n] W fun e w' => e = .returned (.bool true) ∧ Below W.heap.size W w' := by
  obtain ⟨hc0, hc1⟩ := wf_u32 hc
  obtain ⟨C, rfl⟩ : ∃ C : Nat, c = (C : Int) := ⟨c.toNat, by omega⟩
  have hC : C < 4294967296 := by omega
  clear hc0 hc1 hc
  have HA := Lib.hid (awake4_any W hp)
  have HP := Lib.hid hp
  clear hp
  have HL := Lib.hid (fun w => lg4_2 w key nonce)
  generalize largeB [key, nonce] = L at *
  cases L
  · by_cases hbig : 2048 < n ∧ n ≤ 65536
    · obtain ⟨hb1, hb2⟩ := hbig
      clear hC
      go_enter Tryd.func8, Tryd.ntmps8
      go_wp2_with (first
        | (go_at_call 9; (with_reducible refine HA.out.mono ?_); rintro e w1 ⟨rfl, hb1⟩)
        | (go_at_call 10; (with_reducible refine (HL.out _).mono ?_); rintro e w2 ⟨rfl, rfl⟩))
      go_ret
      exact ⟨rfl, hb1.alloc hb1.size _⟩
    · have hsm : ¬ 2048 < n ∨ 65536 < n := by omega
      clear hbig
      cases hs : szB key nonce
      · have HBk := Lib.hid (fun w => block_no key nonce hs C w)
        have HSt := Lib.hid (fun w => stream_no key nonce C n (by rw [hs]; rintro ⟨h, _⟩; cases h) w)
        clear hC
        rcases szB_n hs with he | ⟨he, he2⟩ <;> clear hs <;> rcases hsm with hsm | hsm
        all_goals
          go_enter Tryd.func8, Tryd.ntmps8
          go_wp2_with (first
            | (go_at_call 9; (with_reducible refine HA.out.mono ?_); rintro e w1 ⟨rfl, hb1⟩)
            | (go_at_call 10; (with_reducible refine (HL.out _).mono ?_); rintro e w2 ⟨rfl, rfl⟩)
            | (go_at_call 13; (with_reducible refine (HBk.out _).mono ?_); rintro e w3 ⟨rfl, rfl⟩)
            | (go_at_call 15; (with_reducible refine (HSt.out _).mono ?_); rintro e w4 ⟨rfl, rfl⟩))
          go_ret
          exact ⟨rfl, hb1.alloc hb1.size _⟩
      · obtain ⟨he1, he2⟩ := szB_e hs
        have HBk := Lib.hid (fun w hp => block_ok key nonce hs C hC w hp)
        have hbs := blkB_size key C nonce
        generalize blkB key C nonce = B at *
        by_cases h0 : n < 0 ∨ 65536 < n
        · have HSt := Lib.hid (fun w => stream_no key nonce C n (by rintro ⟨_, h1, h2⟩; omega) w)
          clear hC hs hsm
          rcases h0 with h0 | h0
          all_goals
            go_enter Tryd.func8, Tryd.ntmps8
            go_wp2_with (first
              | (go_at_call 9; (with_reducible refine HA.out.mono ?_); rintro e w1 ⟨rfl, hb1⟩)
              | (go_at_call 10; (with_reducible refine (HL.out _).mono ?_); rintro e w2 ⟨rfl, rfl⟩)
              | (go_at_call 13; (with_reducible refine (HBk.out _ ((HP.out.next hb1).alloc _)).mono ?_); rintro e w3 ⟨rfl, hb3⟩)
              | (go_at_call 15; (with_reducible refine (HSt.out _).mono ?_); rintro e w4 ⟨rfl, rfl⟩))
            go_ret
            exact ⟨rfl, Below_next (hb1.alloc hb1.size _) hb3⟩
        · obtain ⟨m, rfl⟩ : ∃ m : Nat, n = (m : Int) := ⟨n.toNat, by omega⟩
          have hm : m ≤ 2048 := by omega
          have HSt := Lib.hid (fun w hp => stream_ok key nonce hs C hC m (by omega) w hp)
          have hss := strmB_size key C nonce m
          generalize strmB key C nonce m = S at *
          have h1 : ¬ 2048 < (m : Int) := by omega
          clear hC hs hsm h0
          go_enter Tryd.func8, Tryd.ntmps8
          go_wp2_with (first
            | (go_at_call 9; (with_reducible refine HA.out.mono ?_); rintro e w1 ⟨rfl, hb1⟩)
            | (go_at_call 10; (with_reducible refine (HL.out _).mono ?_); rintro e w2 ⟨rfl, rfl⟩)
            | (go_at_call 13; (with_reducible refine (HBk.out _ ((HP.out.next hb1).alloc _)).mono ?_); rintro e w3 ⟨rfl, hb3⟩)
            | (go_at_call 15; (with_reducible refine (HSt.out _ (((HP.out.next hb1).alloc _).next hb3)).mono ?_); rintro e w4 ⟨rfl, hb4⟩))
          go_ret
          exact ⟨rfl, Below_next (Below_next (hb1.alloc hb1.size _) hb3) hb4⟩
  · clear hC
    go_enter Tryd.func8, Tryd.ntmps8
    go_wp2_with (first
      | (go_at_call 9; (with_reducible refine HA.out.mono ?_); rintro e w1 ⟨rfl, hb1⟩)
      | (go_at_call 10; (with_reducible refine (HL.out _).mono ?_); rintro e w2 ⟨rfl, rfl⟩))
    go_ret
    exact ⟨rfl, hb1.alloc hb1.size _⟩
end Go.Proofs.YtebhmcnocpblkaaDoor
