/- box, the landed code: real, fit, Open. -/
import Derived.Test.YtfflpooiebeagaaDoorBxP
import Derived.Test.YtfflpooiebeagaaDoorR7S
namespace Go.Proofs.YtfflpooiebeagaaDoor
open Go.RowKit

theorem eql_some (bm : Nat) (w : World) : (binOp .eql 52 (.map (some bm)) (.map none)).run Tryd.prog w = .ok (.bool false) w := by kernel_rfl
theorem eql_nil (w : World) : (binOp .eql 52 (.map none) (.map none)).run Tryd.prog w = .ok (.bool true) w := by kernel_rfl
set_option maxRecDepth 100000 in
theorem breal_no {own : Nat → Prop} {p : Value} {st : StB} (hi : st.ideal = true) (w : World) (h : BxL w own p st) :
    Calls Tryd.prog 16 #[p] w fun e w' => e = .returned (.bool false) ∧ Below w.heap.size w w' := by
  obtain ⟨g, mv, rfl, _, _, hA, _, hm⟩ := h
  have c1 : w.cell? ⟨g, 1, none⟩ = some mv := hA.cell rfl
  rcases hm with ⟨rfl, rfl⟩ | ⟨_, bm, F, rfl, _, hM, _⟩
  · cases hi
  clear hM hi
  have q := eql_some bm
  go_enter Tryd.func16, Tryd.ntmps16
  go_wp2
  go_ret
  exact ⟨rfl, Below.refl _ _⟩
set_option maxRecDepth 100000 in
theorem breal_yes {own : Nat → Prop} {p : Value} {st : StB} (hi : st.ideal = false) (w : World) (h : BxL w own p st) :
    Calls Tryd.prog 16 #[p] w fun e w' => e = .returned (.bool true) ∧ Below w.heap.size w w' := by
  obtain ⟨g, mv, rfl, _, _, hA, _, hm⟩ := h
  have c1 : w.cell? ⟨g, 1, none⟩ = some mv := hA.cell rfl
  rcases hm with ⟨rfl, rfl⟩ | ⟨h2, _⟩
  · clear hi
    have q := eql_nil
    go_enter Tryd.func16, Tryd.ntmps16
    go_wp2
    go_ret
    exact ⟨rfl, Below.refl _ _⟩
  · rw [h2] at hi; cases hi

set_option maxRecDepth 100000 in
theorem bfit_ok {k n d : ByteArray} (hk : k.size = 32) (hn : n.size = 12) (hd : d.size ≤ 4096) {m : Int} (h0 : 0 ≤ m) (h1 : m ≤ 16384) (w : World) :
    Calls Tryd.prog 18 #[.string k, .string n, .string d, .int .i64 m] w fun e w' => e = .returned (.bool true) ∧ Below w.heap.size w w' := by
  have b1 : (k.size : Int) = 32 := by omega
  have b2 : (n.size : Int) = 12 := by omega
  have b3 : decide ((d.size : Int) ≤ 4096) = true := decide_eq_true (by omega)
  have b4 : decide (0 ≤ m) = true := decide_eq_true h0
  have b5 : decide (m ≤ 16384) = true := decide_eq_true h1
  clear hk hn hd
  go_enter Tryd.func18, Tryd.ntmps18
  go_wp2
  go_ret
  exact ⟨rfl, Below.refl _ _⟩
set_option maxRecDepth 100000 in
theorem bfit_no {k n d : ByteArray} {m : Int} (h : ¬ (k.size = 32 ∧ n.size = 12 ∧ d.size ≤ 4096 ∧ 0 ≤ m ∧ m ≤ 16384)) (w : World) :
    Calls Tryd.prog 18 #[.string k, .string n, .string d, .int .i64 m] w fun e w' => e = .returned (.bool false) ∧ Below w.heap.size w w' := by

  by_cases hk : k.size = 32
  · have b1 : (k.size : Int) = 32 := by omega
    by_cases hn : n.size = 12
    · have b2 : (n.size : Int) = 12 := by omega
      by_cases hd : d.size ≤ 4096
      · have b3 : decide ((d.size : Int) ≤ 4096) = true := decide_eq_true (by omega)
        by_cases h0 : 0 ≤ m
        · have b4 : decide (0 ≤ m) = true := decide_eq_true h0
          have b5 : decide (m ≤ 16384) = false := decide_eq_false (fun h1 => h ⟨hk, hn, hd, h0, h1⟩)
          clear hk hn hd h
          go_enter Tryd.func18, Tryd.ntmps18
          go_wp2
          go_ret
          exact ⟨rfl, Below.refl _ _⟩
        · have b4 : decide (0 ≤ m) = false := decide_eq_false h0
          clear hk hn hd h
          go_enter Tryd.func18, Tryd.ntmps18
          go_wp2
          go_ret
          exact ⟨rfl, Below.refl _ _⟩
      · have b3 : decide ((d.size : Int) ≤ 4096) = false := decide_eq_false (by omega)
        clear hk hn hd h
        go_enter Tryd.func18, Tryd.ntmps18
        go_wp2
        go_ret
        exact ⟨rfl, Below.refl _ _⟩
    · have b2 : ¬ (n.size : Int) = 12 := by omega
      clear hk hn h
      go_enter Tryd.func18, Tryd.ntmps18
      go_wp2
      go_ret
      exact ⟨rfl, Below.refl _ _⟩
  · have b1 : ¬ (k.size : Int) = 32 := by omega
    clear hk h
    go_enter Tryd.func18, Tryd.ntmps18
    go_wp2
    go_ret
    exact ⟨rfl, Below.refl _ _⟩


set_option maxHeartbeats 2000000 in
set_option maxRecDepth 100000 in
theorem boxOpen_any {own : Nat → Prop} {p : Value} {st : StB} (k n d s : ByteArray) (hk : k.size ≤ 1000) (hn : n.size ≤ 1000) (hs63 : s.size ≤ 9223372036854775807) (w : World) (h : BxL w own p st)
    (hreal : ∀ w1 : World, Below w.heap.size w w1 → Calls Tryd.prog 19 #[.string k, .string n, .string d, .string s] w1 fun e w' => e = .returned (openR k n d s) ∧ Below w1.heap.size w1 w') :
    Calls Tryd.prog 11 #[p, .string k, .string n, .string d, .string s] w fun e w' => e = .returned (bxOpenR st k n d s) ∧ Below w.heap.size w w' := by
  have HO := Lib.hid hreal
  cases hi : st.ideal with
  | false =>
    have HBr := Lib.hid (breal_yes hi w h)
    obtain ⟨g, mv, rfl, _, _, _, _⟩ := h
    rw [bxOpenR, open_real hi]
    rw [openR] at HO
    show Calls _ _ _ _ fun e w' => e = .returned (.tuple #[.string (openS k n d s), .int .i64 (openE k n d s)]) ∧ _
    generalize openS k n d s = OS at *
    generalize openE k n d s = OE at *
    clear hreal
    go_enter Tryd.func11, Tryd.ntmps11
    go_wp2_with (first
      | (go_at_call 16; (with_reducible refine HBr.out.mono ?_); rintro e w0 ⟨rfl, hb0⟩)
      | (go_at_call 19; (with_reducible refine (HO.out _ hb0).mono ?_); rintro e w1 ⟨rfl, hb1⟩))
    go_ret2
    exact ⟨rfl, Below_next hb0 hb1⟩
  | true =>
  have HBr := Lib.hid (breal_no hi w h)
  obtain ⟨g, mv, rfl, _, _, hA, hwf, hm⟩ := h
  have c2 : w.cell? ⟨g, 1, none⟩ = some mv := hA.cell rfl
  rcases hm with ⟨rfl, _⟩ | ⟨_, bm, F, rfl, _, hM, hR⟩
  · cases hi
  clear hreal HO
  have hkey := keyB_of hk hn
  have e1 : IntKind.i64.wrap ((s.size : Int) - 16) = (s.size : Int) - 16 := by rw [IntKind.wrap_i64]; omega
  by_cases ho : openOk k n d s
  · obtain ⟨hz, hd, hs1, hs2⟩ := id ho
    obtain ⟨hk2, hn2⟩ := szB_yes hz
    have HS := Lib.hid (fun w => bfit_ok (m := (s.size : Int) - 16) hk2 hn2 hd (by omega) (by omega) w)
    have hF := hR k n hk hn
    cases hf : findB st.T k n with
    | none =>
      rw [bxOpenR, open_none hi ho hf]
      rw [hf, Option.map_none] at hF
      clear hz hd hs1 hs2 hk2 hn2 ho hk hn hs63
      go_enter Tryd.func11, Tryd.ntmps11
      go_wp2_with (first
        | (go_at_call 16; (with_reducible refine HBr.out.mono ?_); rintro e w0 ⟨rfl, hb0⟩)
        | (go_at_call 18; (with_reducible refine (HS.out _).mono ?_); rintro e w1 ⟨rfl, hb1⟩; have hb01 := Below_next hb0 hb1; have c21 := (World.cell?_of_block (a := ⟨g, 1, none⟩) (hb01.block g (Arr.lt hA))).trans c2; have hM1 := hM.next hb01 hM.lt)
        | (at_lookup; with_reducible refine wpList_look_is_ok rfl _ _ 52 rfl _ _ keyB.keyed mapB (zeroB7 _) bm _ F rfl hM1 (.agg #[.string k, .string n]) (kbs [k, n]) rfl hkey ?_; rw [hF]; simp only [Option.getD_none, Option.isSome_none]))
      go_ret2
      exact ⟨rfl, hb01.alloc hb01.size _⟩
    | some r =>
      rw [hf, Option.map_some, rowV] at hF
      by_cases hrd : r.d = d
      · by_cases hrs : r.s = s
        · rw [bxOpenR, open_row hi ho hf ⟨hrd, hrs⟩]
          rw [hrd, hrs] at hF
          clear hz hd hs1 hs2 hk2 hn2 ho hk hn hs63 hrd hrs
          go_enter Tryd.func11, Tryd.ntmps11
          go_wp2_with (first
            | (go_at_call 16; (with_reducible refine HBr.out.mono ?_); rintro e w0 ⟨rfl, hb0⟩)
            | (go_at_call 18; (with_reducible refine (HS.out _).mono ?_); rintro e w1 ⟨rfl, hb1⟩; have hb01 := Below_next hb0 hb1; have c21 := (World.cell?_of_block (a := ⟨g, 1, none⟩) (hb01.block g (Arr.lt hA))).trans c2; have hM1 := hM.next hb01 hM.lt)
            | (at_lookup; with_reducible refine wpList_look_is_ok rfl _ _ 52 rfl _ _ keyB.keyed mapB (zeroB7 _) bm _ F rfl hM1 (.agg #[.string k, .string n]) (kbs [k, n]) rfl hkey ?_; rw [hF]; simp only [Option.getD_some, Option.isSome_some]))
          go_ret2
          exact ⟨rfl, hb01.alloc hb01.size _⟩
        · rw [bxOpenR, open_other hi ho hf (fun h => hrs h.2)]
          rw [hrd] at hF
          have q := tl7_ne hrs
          clear hz hd hs1 hs2 hk2 hn2 ho hk hn hs63 hrd hrs
          go_enter Tryd.func11, Tryd.ntmps11
          go_wp2_with (first
            | (go_at_call 16; (with_reducible refine HBr.out.mono ?_); rintro e w0 ⟨rfl, hb0⟩)
            | (go_at_call 18; (with_reducible refine (HS.out _).mono ?_); rintro e w1 ⟨rfl, hb1⟩; have hb01 := Below_next hb0 hb1; have c21 := (World.cell?_of_block (a := ⟨g, 1, none⟩) (hb01.block g (Arr.lt hA))).trans c2; have hM1 := hM.next hb01 hM.lt)
            | (at_lookup; with_reducible refine wpList_look_is_ok rfl _ _ 52 rfl _ _ keyB.keyed mapB (zeroB7 _) bm _ F rfl hM1 (.agg #[.string k, .string n]) (kbs [k, n]) rfl hkey ?_; rw [hF]; simp only [Option.getD_some, Option.isSome_some]))
          go_ret2
          exact ⟨rfl, hb01.alloc hb01.size _⟩
      · rw [bxOpenR, open_other hi ho hf (fun h => hrd h.1)]
        have q := tl7_ne hrd
        clear hz hd hs1 hs2 hk2 hn2 ho hk hn hs63 hrd
        go_enter Tryd.func11, Tryd.ntmps11
        go_wp2_with (first
          | (go_at_call 16; (with_reducible refine HBr.out.mono ?_); rintro e w0 ⟨rfl, hb0⟩)
          | (go_at_call 18; (with_reducible refine (HS.out _).mono ?_); rintro e w1 ⟨rfl, hb1⟩; have hb01 := Below_next hb0 hb1; have c21 := (World.cell?_of_block (a := ⟨g, 1, none⟩) (hb01.block g (Arr.lt hA))).trans c2; have hM1 := hM.next hb01 hM.lt)
          | (at_lookup; with_reducible refine wpList_look_is_ok rfl _ _ 52 rfl _ _ keyB.keyed mapB (zeroB7 _) bm _ F rfl hM1 (.agg #[.string k, .string n]) (kbs [k, n]) rfl hkey ?_; rw [hF]; simp only [Option.getD_some, Option.isSome_some]))
        go_ret2
        exact ⟨rfl, hb01.alloc hb01.size _⟩
  · rw [bxOpenR, open_size hi ho]
    have HS := Lib.hid (fun w => bfit_no (k := k) (n := n) (d := d) (m := (s.size : Int) - 16) (fun ⟨a, b, c, e, f⟩ => by rcases noOpen7 ho with h | h | h | h | h <;> omega) w)
    clear ho hk hn hs63 hM hR hkey
    go_enter Tryd.func11, Tryd.ntmps11
    go_wp2_with (first
      | (go_at_call 16; (with_reducible refine HBr.out.mono ?_); rintro e w0 ⟨rfl, hb0⟩)
      | (go_at_call 18; (with_reducible refine (HS.out _).mono ?_); rintro e w1 ⟨rfl, hb1⟩))
    go_ret2
    exact ⟨rfl, Below_next hb0 hb1⟩
end Go.Proofs.YtfflpooiebeagaaDoor
