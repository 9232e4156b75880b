/- box, the landed code : Seal whole; the record. -/
import Derived.Test.YtfflpooiebeagaaDoorBxS
import Derived.Test.YtfflpooiebeagaaDoorLwK
namespace Go.Proofs.YtfflpooiebeagaaDoor
open Go.RowKit

set_option maxHeartbeats 1000000 in
set_option maxRecDepth 100000 in
theorem boxSeal_size {own : Nat → Prop} {p : Value} {st : StB} (k n d t : ByteArray) (ht63 : t.size ≤ 9223372036854775807) (hi : st.ideal = true) (ho : ¬ sealOk k n d t) (w : World) (h : BxL w own p st) :
    Calls Tryd.prog 10 #[p, .string k, .string n, .string d, .string t] w fun e w' => e = .returned (bxSealR st k n d t) ∧ SealL own p (bxSealT st k n d t) w w' := by
  have HBx := Lib.hid h
  have HBr := Lib.hid (breal_no hi w h)
  obtain ⟨g, mv, rfl, _, _, _, _, _⟩ := h
  rw [bxSealR, bxSealT, _root_.Go.Proofs.YtfflpooiebeagaaDoor.seal_size hi ho]
  show Calls _ _ _ _ fun e w' => e = .returned (.tuple #[.string ⟨#[]⟩, .int .i64 5]) ∧ SealL own _ st w w'
  have HS := Lib.hid (fun w => bfit_no (k := k) (n := n) (d := d) (m := (t.size : Int)) (fun ⟨a, b, c, e, f⟩ => by rcases noSeal7 ho with h | h | h | h <;> omega) w)
  clear ho hi ht63
  go_enter Tryd.func10, Tryd.ntmps10
  go_wp2_with (first
    | (go_at_call 16; (with_reducible refine HBr.out.mono ?_); rintro e w0 ⟨rfl, hb0⟩)
    | (go_at_call 18; (with_reducible refine (HS.out _).mono ?_); rintro e w1 ⟨rfl, hb1⟩))
  go_ret2
  exact ⟨rfl, SealL.same HBx.out (Below_next hb0 hb1)⟩

set_option maxHeartbeats 1000000 in
theorem boxSeal_any {own : Nat → Prop} {p : Value} {st : StB} (k n d t : ByteArray) (hk : k.size ≤ 1000) (hn : n.size ≤ 1000) (ht63 : t.size ≤ 9223372036854775807) (hTl : st.T.length ≤ 1000) (hdr : st.draws.size ≤ 1048576) (w : World) (h : BxL w own p st)
    (hreal : ∀ w1 : World, Below w.heap.size w w1 → Calls Tryd.prog 17 #[.string k, .string n, .string d, .string t] w1 fun e w' => e = .returned (sealR k n d t) ∧ Below w1.heap.size w1 w') :
    Calls Tryd.prog 10 #[p, .string k, .string n, .string d, .string t] w fun e w' => e = .returned (bxSealR st k n d t) ∧ SealL own p (bxSealT st k n d t) w w' := by
  cases hi : st.ideal
  · have HO := Lib.hid hreal
    have HBx := Lib.hid h
    have HBr := Lib.hid (breal_yes hi w h)
    obtain ⟨g, mv, rfl, _, _, _, _, _⟩ := h
    rw [bxSealR, bxSealT, seal_real hi]
    rw [sealR] at HO
    show Calls _ _ _ _ fun e w' => e = .returned (.tuple #[.string (sealS k n d t), .int .i64 (sealE k n d t)]) ∧ SealL own _ st w w'
    generalize sealS k n d t = OS at *
    generalize sealE k n d t = OE at *
    clear hreal hi
    go_enter Tryd.func10, Tryd.ntmps10
    go_wp2_with (first
      | (go_at_call 16; (with_reducible refine HBr.out.mono ?_); rintro e w0 ⟨rfl, hb0⟩)
      | (go_at_call 17; (with_reducible refine (HO.out _ hb0).mono ?_); rintro e w1 ⟨rfl, hb1⟩))
    go_ret2
    exact ⟨rfl, SealL.same HBx.out (Below_next hb0 hb1)⟩
  · by_cases ho : sealOk k n d t
    · cases hf : findB st.T k n with
      | none =>
        by_cases hs : st.draws.size < t.size + 16
        · exact boxSeal_spent k n d t hk hn hi ho hf w h hs
        · exact boxSeal_new k n d t hk hn hi ho hf w h hs hdr hTl
      | some r =>
        by_cases hrd : r.d = d
        · by_cases hrt : r.t = t
          · exact boxSeal_again k n d t hk hn hi ho hf w h hrd hrt
          · exact boxSeal_text k n d t hk hn hi ho hf w h hrd hrt
        · exact boxSeal_data k n d t hk hn hi ho hf w h hrd
    · exact boxSeal_size k n d t ht63 hi ho w h

theorem boxB (hS : ∀ (k n d t : ByteArray) (w : World), PKB w → Calls Tryd.prog 17 #[.string k, .string n, .string d, .string t] w fun e w' => e = .returned (sealR k n d t) ∧ Below w.heap.size w w')
    (hO : ∀ (k n d s : ByteArray), s.size ≤ 9223372036854775807 → ∀ w : World, PKB w → Calls Tryd.prog 19 #[.string k, .string n, .string d, .string s] w fun e w' => e = .returned (openR k n d s) ∧ Below w.heap.size w w') : BoxB PKB BxL where
  next := fun h hb => h.next hb
  alloc := fun o h => h.alloc o
  keep := fun h hk => h.keep hk
  lt := fun h g hg => by obtain ⟨_, _, _, _, hlt, _⟩ := h; exact hlt g hg
  ptr := fun h => by obtain ⟨g, _, hp, _⟩ := h; exact ⟨g, hp⟩
  key := fun m d hm hd e he w h => boxKey_any m d (by omega) (by omega) e he w h.1
  real := fun w _ => boxReal_any w
  ideal := fun draws _ w _ => boxIdeal_any draws w
  seal' := fun k n d t hk hn _ ht hT hdr w h hb => boxSeal_any k n d t hk hn (by omega) hT hdr w hb fun w1 h1 => hS k n d t w1 (h.next h1)
  open' := fun k n d s hk hn _ hs _ _ w h hb => boxOpen_any k n d s hk hn (by omega) w hb fun w1 h1 => hO k n d s (by omega) w1 (h.next h1)
  len := fun _ w _ hb => boxLen_any w hb
  left := fun _ w _ hb => boxLeft_any w hb
end Go.Proofs.YtfflpooiebeagaaDoor
