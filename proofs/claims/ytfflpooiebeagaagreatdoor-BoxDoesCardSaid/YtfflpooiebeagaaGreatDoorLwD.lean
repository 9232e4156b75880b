/- BoxDoes: its walk over the record. -/
import Derived.Test.YtfflpooiebeagaaGreatDoorLwC
import Derived.Test.YtfflpooiebeagaaGreatDoorR7S
import Derived.Deep.RegionHeld3
namespace Go.Proofs.YtfflpooiebeagaaGreatDoor
open Go.RowKit

/-- A box and the document's own, that hold the same. -/
structure DSt (Bx : World → (Nat → Prop) → Value → StB → Prop) (W w : World) (own own2 : Nat → Prop) (p : Value) (g : Nat) (st : StB) : Prop where
  bx : Bx w own p st
  rb : RBx w own2 g st
  o1 : ∀ h, own h → W.heap.size ≤ h
  o2 : ∀ h, own2 h → W.heap.size ≤ h
  l1 : ∀ h, own h → h < w.heap.size
  l2 : ∀ h, own2 h → h < w.heap.size
  dis : ∀ h, own h → ¬ own2 h
  bel : Below W.heap.size W w
section
variable {P : World → Prop} {Bx : World → (Nat → Prop) → Value → StB → Prop} {W : World} {own own2 : Nat → Prop} {p : Value} {g : Nat} {st st' : StB}
theorem DSt.next (C : BoxB P Bx) {w w' : World} (h : DSt Bx W w own own2 p g st) (hb : Below w.heap.size w w') : DSt Bx W w' own own2 p g st :=
  ⟨C.nextB h.bx hb, h.rb.keep fun x hx => hb.block x (h.l2 x hx), h.o1, h.o2, fun x hx => Nat.lt_of_lt_of_le (h.l1 x hx) hb.size, fun x hx => Nat.lt_of_lt_of_le (h.l2 x hx) hb.size, h.dis, h.bel.trans (hb.mono h.bel.size)⟩
theorem DSt.mid {w w' : World} (h : DSt Bx W w own own2 p g st) (hf : Fro own w w') : RBx w' own2 g st ∧ ∀ x, own2 x → x < w'.heap.size :=
  ⟨h.rb.keep fun x hx => hf.block x (h.l2 x hx) fun e => h.dis x e hx, fun x hx => Nat.lt_of_lt_of_le (h.l2 x hx) hf.size⟩
theorem DSt.fin (C : BoxB P Bx) {w w' w'' : World} {own' : Nat → Prop} (h : DSt Bx W w own own2 p g st) (hbx : Bx w' own' p st') (ho : ∀ x, own' x → own x ∨ w.heap.size ≤ x) (hf : Fro own w w') (hs : SealP own2 g st' w' w'') : ∃ own3 own4 : Nat → Prop, DSt Bx W w'' own3 own4 p g st' := by
  obtain ⟨o, hr, ho2, hf2⟩ := hs
  obtain ⟨o3, hr3, hs3, hl3⟩ := hr.lt
  have hsep : ∀ x, own' x → ¬ own2 x := fun x h1 h2 => by
    rcases ho x h1 with h3 | h3
    · exact h.dis x h3 h2
    · have := h.l2 x h2; omega
  have hW := h.bel.size
  refine ⟨own', o3, C.keep hbx fun x hx => hf2.block x (C.lt hbx x hx) (hsep x hx), hr3, fun x hx => ?_, fun x hx => ?_, fun x hx => Nat.lt_of_lt_of_le (C.lt hbx x hx) hf2.size, hl3, fun x hx hx3 => ?_, (h.bel.trans (hf.below h.o1 hW)).trans (hf2.below h.o2 (Nat.le_trans hW hf.size))⟩
  · rcases ho x hx with h3 | h3
    · exact h.o1 x h3
    · omega
  · rcases ho2 x (hs3 x hx) with h3 | h3
    · exact h.o2 x h3
    · have := hf.size; omega
  · rcases ho2 x (hs3 x hx3) with h3 | h3
    · exact hsep x hx h3
    · have := C.lt hbx x hx; omega
end
theorem RBx.cells {w : World} {own : Nat → Prop} {g : Nat} {st : StB} (h : RBx w own g st) : ∃ (a : Option Addr) (cap : Nat), (w.cell? ⟨g, 1, none⟩ = some (.string st.draws) ∧ w.cell? ⟨g, 2, none⟩ = some (.slice a st.T.length cap)) ∧ g < w.heap.size := by
  obtain ⟨h0, tv, hg, hown, hnil, hob⟩ := h
  cases hT : st.T with
  | nil =>
    have := hnil hT
    subst this
    exact ⟨none, 0, ⟨hg.cell rfl, hg.cell rfl⟩, Arr.lt hg⟩
  | cons r T =>
    rw [← hT]
    obtain ⟨hb, cap, rfl, _⟩ := rows_at hown (by rw [hT]; exact Nat.succ_pos _)
    exact ⟨_, cap, ⟨hg.cell rfl, hg.cell rfl⟩, Arr.lt hg⟩
theorem cells_next {w w' : World} {g : Nat} {u v : Value} (h : w.cell? ⟨g, 1, none⟩ = some u ∧ w.cell? ⟨g, 2, none⟩ = some v) (hg : g < w.heap.size) (hb : Below w.heap.size w w') : w'.cell? ⟨g, 1, none⟩ = some u ∧ w'.cell? ⟨g, 2, none⟩ = some v :=
  ⟨(World.cell?_of_block (a := ⟨g, 1, none⟩) (hb.block g hg)).trans h.1, (World.cell?_of_block (a := ⟨g, 2, none⟩) (hb.block g hg)).trans h.2⟩
theorem sealS1_size {st : StB} (hwf : WfB st.T) (k n d t : ByteArray) : (bxSeal st k n d t).1.size ≤ 17000 ∨ (bxSeal st k n d t).2.1 ≠ 0 := by
  unfold bxSeal idealS
  split
  · split
    · rename_i ho
      split
      · rename_i r hf
        split
        · have := (hwf.ok r (findB_some hf).1); have h2 := this.1.2.2; exact .inl (by show r.s.size ≤ _; have := this.2; omega)
        · exact .inl (Nat.zero_le _)
      · split
        · exact .inl (Nat.zero_le _)
        · rename_i hs
          have := newB_size hs; have h2 := ho.2.2; exact .inl (by show (newB st t).size ≤ _; omega)
    · exact .inl (Nat.zero_le _)
  · by_cases ho : sealOk k n d t
    · refine .inl ?_
      show (sealS k n d t).size ≤ _
      rw [sealS, if_pos ho, sealB_size]; have := ho.2.2; omega
    · refine .inl ?_
      show (sealS k n d t).size ≤ _
      rw [sealS, if_neg ho]; exact Nat.zero_le _

theorem put_act (w : World) (X : ActB) (last : ByteArray) : Arr (w.alloc (.cells ((actC X).setIfInBounds 4 (.string last)) 33)) w.heap.size (actC {X with T := last}) 33 := Arr.new w _ _

def InvD (Bx : World → (Nat → Prop) → Value → StB → Prop) (W wr : World) (p : Value) (g : Nat) (last : ByteArray) (k : Nat) : Prop :=
  ∃ (st : StB) (own own2 : Nat → Prop), WfB st.T ∧ st.T.length ≤ k ∧ st.draws.size ≤ 8192 ∧ last.size ≤ 17000 ∧ DSt Bx W wr own own2 p g st
theorem InvD.put {Bx : World → (Nat → Prop) → Value → StB → Prop} {W wr : World} {p : Value} {g : Nat} {last : ByteArray} {k : Nat} {st : StB} {own own2 : Nat → Prop} (h1 : WfB st.T) (h2 : st.T.length ≤ k) (h3 : st.draws.size ≤ 8192) (h4 : last.size ≤ 17000) (h5 : DSt Bx W wr own own2 p g st) : InvD Bx W wr p g last k := ⟨st, own, own2, h1, h2, h3, h4, h5⟩
theorem sealT_len7 (st : StB) (k n d t : ByteArray) : (bxSealT st k n d t).T.length ≤ st.T.length + 1 ∧ (bxSealT st k n d t).draws.size ≤ st.draws.size := by
  unfold bxSealT bxSeal idealS
  split
  · split
    · split
      · split <;> exact ⟨Nat.le_succ _, Nat.le_refl _⟩
      · split
        · exact ⟨Nat.le_succ _, Nat.le_refl _⟩
        · refine ⟨by show (st.T ++ [_]).length ≤ _; rw [List.length_append]; exact Nat.le_refl _, ?_⟩
          show (st.draws.extract _ _).size ≤ _
          rw [ByteArray.size_extract]; omega
    · exact ⟨Nat.le_succ _, Nat.le_refl _⟩
  · exact ⟨Nat.le_succ _, Nat.le_refl _⟩


set_option maxHeartbeats 4000000 in
set_option maxRecDepth 100000 in
theorem boxDoes_walk {P : World → Prop} {Bx : World → (Nat → Prop) → Value → StB → Prop} (C : BoxC P Bx) (ideal : Bool) (draws : ByteArray) (a : Option Addr) (len cap : Nat) (zs : List ActB) (W : World) (_ : draws.size ≤ maxLen) (hl : IsActs W a len cap zs) (hp : P W) :
    Calls Tryz.prog 3 #[.bool ideal, .string draws, .slice a len cap] W fun e w' => e = .returned (.bool true) ∧ Below W.heap.size W w' := by
  have HA := Lib.hid (C.awake W hp)
  have HC := Lib.hid C
  have HP := Lib.hid hp
  have HL := Lib.hid hl
  by_cases hd : 8192 < draws.size
  · have b1 : decide (8192 < (draws.size : Int)) = true := decide_eq_true (by omega)
    clear hd hp C hl
    go_enter Tryz.func3, Tryz.ntmps3
    go_wp2_with (first
      | (go_at_call 6; (with_reducible refine HA.out.mono ?_); rintro e w1 ⟨rfl, hb1⟩))
    go_ret
    exact ⟨rfl, hb1⟩
  have b1 : decide (8192 < (draws.size : Int)) = false := decide_eq_false (by omega)
  have HD := Lib.hid (show draws.size ≤ 8192 by omega)
  have HLn := Lib.hid hl.len
  have HRl := Lib.hid C.real
  have HId := Lib.hid (fun w h => C.ideal draws (by omega) w h)
  clear hd hp C hl
  cases ideal
  · go_enter Tryz.func3, Tryz.ntmps3
    go_wp2_with (first
      | (go_at_call 6; (with_reducible refine HA.out.mono ?_); rintro e w1 ⟨rfl, hb1⟩)
      | (go_at_call 7; (with_reducible refine (HRl.out _ (HC.out.next HP.out hb1)).mono ?_); rintro e w2 ⟨p0, own0, rfl, hbx2, hown2, hb2⟩))
    have hbA := hb1.trans (hb2.mono hb1.size)
    have hbD := hbA.alloc hbA.size (.cells #[.bool false, .string ⟨#[]⟩, .slice none 0 0] 29)
    have hlt := HC.out.lt hbx2
    have hD0 : DSt Bx W (w2.alloc (.cells #[.bool false, .string ⟨#[]⟩, .slice none 0 0] 29)) own0 (fun h => h = w2.heap.size) p0 w2.heap.size realB :=
      ⟨HC.out.nextB hbx2 ((Below.refl w2.heap.size w2).alloc (Nat.le_refl _) _), ⟨rfl, _, Arr.new w2 _ _, World.ownsRow_nil _ _ _ _, fun _ => rfl, fun h e => by cases e⟩, fun h hh => Nat.le_trans hb1.size (hown2 h hh), fun h hh => by subst hh; exact hbA.size, fun h hh => Nat.lt_of_lt_of_le (hlt h hh) (by simp), fun h hh => by subst hh; simp, fun h h1 h2 => by have := hlt h h1; omega, hbD⟩
    have HD0 := Lib.hid hD0
    have HDr := Lib.hid (show realB.draws.size ≤ 8192 from Nat.zero_le _)
    have HDt := Lib.hid (show realB.T = [] from rfl)
    generalize realB = st0 at *
    generalize p0 = p at *
    generalize w2.heap.size = g at *
    generalize w2.alloc (.cells #[.bool false, .string ⟨#[]⟩, .slice none 0 0] 29) = w0 at *
    clear hD0 hbA hbD hlt hb1 hb2 hbx2 hown2 HA HRl HId HD b1
    go_loopw [9, 10] (fun s9 i wr => ∃ (k : Nat) (last : ByteArray), s9 = .string last ∧ i = .int .i64 (k : Int) ∧ k ≤ 40 ∧ InvD Bx W wr p g last k) (fun _ i _ => 41 - (intOf i).toNat)
    case atStart => exact ⟨0, _, rfl, rfl, by omega, InvD.put (by rw [HDt.out]; exact WfB.nil) (by rw [HDt.out]; exact Nat.le_refl _) HDr.out (Nat.zero_le _) HD0.out⟩
    case round =>
      clear HD0 HDr HDt
      obtain ⟨k, last, rfl, rfl, hk, st, own, own2, hwf, hTl, hdr, hls, hD⟩ := hrel
      by_cases hlt : k < len
      · by_cases h40 : k < 40
        · have e1 : decide ((k : Int) < (len : Int)) = true := decide_eq_true (by omega)
          have e2 : decide ((k : Int) < 40) = true := decide_eq_true (by omega)
          have hk0 : (0 : Int) ≤ (k : Int) := by omega
          have hli : (k : Int) < (len : Int) := by omega
          obtain ⟨x, y, rfl, hy, hok, hld⟩ := HL.out.load hlt
          have HLg := Lib.hid (large7_any y)
          have hld1 := hld wr hD.bel
          cases hg : largeA y
          · rw [hg] at HLg
            have hsz := fixedA_sizes hg
            have hno := largeA_no hg
            have HFx := Lib.hid (fixed7_any y hok.kind (by omega) (by omega))
            generalize fixedA y = X at *
            have hx0 : (actC X)[0]? = some (.int .i64 X.kind) := rfl
            have hx1 : (actC X)[1]? = some (.string X.K) := rfl
            have hx2 : (actC X)[2]? = some (.string X.N) := rfl
            have hx3 : (actC X)[3]? = some (.string X.D) := rfl
            have hx4 : (actC X)[4]? = some (.string X.T) := rfl
            by_cases hk0 : X.kind = 0
            · have q0 : (X.kind == 0) = true := by rw [hk0]; rfl
              have hSe := fun (w : World) (h1 : P w) (h2 : Bx w own p st) => HC.out.seal' X.K X.N X.D X.T (by omega) (by omega) (by omega) (by omega) (by omega) (by omega) w h1 h2
              have hRs := fun (w : World) (h : RBx w own2 g st) (hl : ∀ h, own2 h → h < w.heap.size) => rseal7_any own2 g st (by omega) (by omega) X.K X.N X.D X.T (by omega) w h hl
              have hz := sealS1_size hwf X.K X.N X.D X.T
              have hwf6 := sealT_wf hwf X.K X.N X.D X.T
              have hl6 := (sealT_len7 st X.K X.N X.D X.T).1
              have hr6 := (sealT_len7 st X.K X.N X.D X.T).2
              generalize bxSealT st X.K X.N X.D X.T = st6 at *
              rw [bxSealR, pairR] at hSe hRs
              generalize (bxSeal st X.K X.N X.D X.T).1 = S at *
              generalize (bxSeal st X.K X.N X.D X.T).2.1 = E at *
              have HSeal := Lib.hid hSe
              have HRs := Lib.hid hRs
              have HZ := Lib.hid hz
              have hl6' : st6.T.length ≤ k + 1 := by omega
              have hr6' : st6.draws.size ≤ 8192 := by omega
              clear hSe hRs hz hl6 hr6
              by_cases hE : E = 0
              · subst hE
                go_wp2_with (first
                  | (with_reducible refine wpList_load_eq rfl _ _ rfl (.pointer (some (x.add (k * 5)))) rfl _ hld1 ?_)
                  | (go_at_call 9; (with_reducible refine (HLg.out _).mono ?_); rintro e w1 ⟨rfl, hb1⟩; have hld2 := hld w1 (hD.bel.trans (hb1.mono hD.bel.size)))
                  | (with_reducible refine wpList_load_eq rfl _ _ rfl (.pointer (some (x.add (k * 5)))) rfl _ hld2 ?_)
                  | (go_at_call 10; (with_reducible refine (HFx.out _).mono ?_); rintro e w2 ⟨rfl, hb2⟩; have hb3 := (Below_next hb1 hb2).alloc (Below_next hb1 hb2).size (.cells (actC X) 33); have hD3 := hD.next HC.out.toBoxB hb3; have hs2 := (Below_next hb1 hb2).size; have hact3 : Arr (w2.alloc (.cells (actC X) 33)) w2.heap.size (actC X) 33 := Arr.new w2 _ _; have c31 := ActAt.c1 (x := X) hact3; have c32 := ActAt.c2 (x := X) hact3; have c33 := ActAt.c3 (x := X) hact3; have c34 := ActAt.c4 (x := X) hact3)
                  | (with_reducible refine wpList_store_act_new rfl _ _ rfl _ (by simp) _ rfl rfl _ rfl (actC_size _) (actC_one _) ?_)
                  | (go_at_call 11; (with_reducible refine (HSeal.out _ (HC.out.next HP.out hD3.bel) hD3.bx).mono ?_); rintro e w5 ⟨rfl, own5, hbx5, hown5, hf5⟩; obtain ⟨hr5, hl5⟩ := hD3.mid hf5; have hact5 : Arr w5 w2.heap.size (actC X) 33 := (hf5.block _ (Arr.lt hact3) (fun h => by have := hD.l1 _ h; omega)).trans hact3; have c51 := ActAt.c1 (x := X) hact5; have c52 := ActAt.c2 (x := X) hact5; have c53 := ActAt.c3 (x := X) hact5; have c54 := ActAt.c4 (x := X) hact5)
                  | (go_at_call 12; (with_reducible refine (HRs.out _ hr5 hl5).mono ?_); rintro e w6 ⟨rfl, hS6⟩; obtain ⟨own6, own7, hD6⟩ := hD3.fin HC.out.toBoxB hbx5 hown5 hf5 hS6))
                obtain ⟨ta, tc, hc6, hg6⟩ := hD6.rb.cells
                have HD6 := Lib.hid hD6
                have hc6d := cells_next hc6 hg6 (Below.drew (Below.refl _ _))
                have hd6 := hD6.next HC.out.toBoxB (Below.drew (Below.refl _ _))
                have hg6d : g < (World.drew w6).heap.size := hg6
                have HLn := Lib.hid (HC.out.len (st := st6) (by omega) _ (HC.out.next HP.out hd6.bel) hd6.bx)
                go_region_held3 (fun w' => w'.cell? ⟨g, 1, none⟩ = some (.string st6.draws) ∧ w'.cell? ⟨g, 2, none⟩ = some (.slice ta st6.T.length tc)) (first | with_reducible exact hc6 | with_reducible exact hc6d | with_reducible exact hc7 | with_reducible exact hc8) (first
                  | (go_at_call 15; (with_reducible refine HLn.out.mono ?_); rintro e w7 ⟨rfl, hb7⟩; have hc7 := cells_next hc6d hg6d hb7; have hd7 := hd6.next HC.out.toBoxB hb7; have hg7 := Nat.lt_of_lt_of_le hg6d hb7.size)
                  | (go_at_call 16; (with_reducible refine (HC.out.left (st := st6) (by omega) _ (HC.out.next HP.out hd7.bel) hd7.bx).mono ?_); rintro e w8 ⟨rfl, hb8⟩; have hc8 := cells_next hc7 hg7 hb8; have hd8 := hd7.next HC.out.toBoxB hb8))
                go_wp2
                exact ⟨⟨k + 1, _, rfl, by simp, by omega, InvD.put hwf6 hl6' hr6' (HZ.out.resolve_right (fun h => h rfl)) hd8⟩, by simp only [intOf]; omega⟩
              · have q5 : (E == 0) = false := beq_false_of_ne hE
                go_wp2_with (first
                  | (with_reducible refine wpList_load_eq rfl _ _ rfl (.pointer (some (x.add (k * 5)))) rfl _ hld1 ?_)
                  | (go_at_call 9; (with_reducible refine (HLg.out _).mono ?_); rintro e w1 ⟨rfl, hb1⟩; have hld2 := hld w1 (hD.bel.trans (hb1.mono hD.bel.size)))
                  | (with_reducible refine wpList_load_eq rfl _ _ rfl (.pointer (some (x.add (k * 5)))) rfl _ hld2 ?_)
                  | (go_at_call 10; (with_reducible refine (HFx.out _).mono ?_); rintro e w2 ⟨rfl, hb2⟩; have hb3 := (Below_next hb1 hb2).alloc (Below_next hb1 hb2).size (.cells (actC X) 33); have hD3 := hD.next HC.out.toBoxB hb3; have hs2 := (Below_next hb1 hb2).size; have hact3 : Arr (w2.alloc (.cells (actC X) 33)) w2.heap.size (actC X) 33 := Arr.new w2 _ _; have c31 := ActAt.c1 (x := X) hact3; have c32 := ActAt.c2 (x := X) hact3; have c33 := ActAt.c3 (x := X) hact3; have c34 := ActAt.c4 (x := X) hact3)
                  | (with_reducible refine wpList_store_act_new rfl _ _ rfl _ (by simp) _ rfl rfl _ rfl (actC_size _) (actC_one _) ?_)
                  | (go_at_call 11; (with_reducible refine (HSeal.out _ (HC.out.next HP.out hD3.bel) hD3.bx).mono ?_); rintro e w5 ⟨rfl, own5, hbx5, hown5, hf5⟩; obtain ⟨hr5, hl5⟩ := hD3.mid hf5; have hact5 : Arr w5 w2.heap.size (actC X) 33 := (hf5.block _ (Arr.lt hact3) (fun h => by have := hD.l1 _ h; omega)).trans hact3; have c51 := ActAt.c1 (x := X) hact5; have c52 := ActAt.c2 (x := X) hact5; have c53 := ActAt.c3 (x := X) hact5; have c54 := ActAt.c4 (x := X) hact5)
                  | (go_at_call 12; (with_reducible refine (HRs.out _ hr5 hl5).mono ?_); rintro e w6 ⟨rfl, hS6⟩; obtain ⟨own6, own7, hD6⟩ := hD3.fin HC.out.toBoxB hbx5 hown5 hf5 hS6))
                obtain ⟨ta, tc, hc6, hg6⟩ := hD6.rb.cells
                have HD6 := Lib.hid hD6
                have hc6d := cells_next hc6 hg6 (Below.drew (Below.refl _ _))
                have hd6 := hD6.next HC.out.toBoxB (Below.drew (Below.refl _ _))
                have hg6d : g < (World.drew w6).heap.size := hg6
                have HLn := Lib.hid (HC.out.len (st := st6) (by omega) _ (HC.out.next HP.out hd6.bel) hd6.bx)
                go_region_held3 (fun w' => w'.cell? ⟨g, 1, none⟩ = some (.string st6.draws) ∧ w'.cell? ⟨g, 2, none⟩ = some (.slice ta st6.T.length tc)) (first | with_reducible exact hc6 | with_reducible exact hc6d | with_reducible exact hc7 | with_reducible exact hc8) (first
                  | (go_at_call 15; (with_reducible refine HLn.out.mono ?_); rintro e w7 ⟨rfl, hb7⟩; have hc7 := cells_next hc6d hg6d hb7; have hd7 := hd6.next HC.out.toBoxB hb7; have hg7 := Nat.lt_of_lt_of_le hg6d hb7.size)
                  | (go_at_call 16; (with_reducible refine (HC.out.left (st := st6) (by omega) _ (HC.out.next HP.out hd7.bel) hd7.bx).mono ?_); rintro e w8 ⟨rfl, hb8⟩; have hc8 := cells_next hc7 hg7 hb8; have hd8 := hd7.next HC.out.toBoxB hb8))
                go_wp2
                exact ⟨⟨k + 1, _, rfl, by simp, by omega, InvD.put hwf6 hl6' hr6' hls hd8⟩, by simp only [intOf]; omega⟩
            have q0 : (X.kind == 0) = false := beq_false_of_ne hk0
            by_cases hk1 : X.kind = 1
            · have q1 : (X.kind == 1) = true := by rw [hk1]; rfl
              have q2 : (X.kind == 2) = false := by rw [hk1]; rfl
              have hOp := fun (w : World) (h1 : P w) (h2 : Bx w own p st) => HC.out.open' X.K X.N X.D X.T (by omega) (by omega) (by omega) (by omega) (by omega) (by omega) w h1 h2
              have hRo := fun (w : World) (h : RBx w own2 g st) => ropen7_any own2 g st (by omega) X.K X.N X.D X.T (by omega) w h
              rw [bxOpenR, pairR] at hOp hRo
              generalize (bxOpen st X.K X.N X.D X.T).1 = S at *
              generalize (bxOpen st X.K X.N X.D X.T).2 = E at *
              have HOpen := Lib.hid hOp
              have HRo := Lib.hid hRo
              clear hOp hRo
              go_wp2_with (first
                | (with_reducible refine wpList_load_eq rfl _ _ rfl (.pointer (some (x.add (k * 5)))) rfl _ hld1 ?_)
                | (go_at_call 9; (with_reducible refine (HLg.out _).mono ?_); rintro e w1 ⟨rfl, hb1⟩; have hld2 := hld w1 (hD.bel.trans (hb1.mono hD.bel.size)))
                | (with_reducible refine wpList_load_eq rfl _ _ rfl (.pointer (some (x.add (k * 5)))) rfl _ hld2 ?_)
                | (go_at_call 10; (with_reducible refine (HFx.out _).mono ?_); rintro e w2 ⟨rfl, hb2⟩; have hb3 := (Below_next hb1 hb2).alloc (Below_next hb1 hb2).size (.cells (actC X) 33); have hD3 := hD.next HC.out.toBoxB hb3; have hs2 := (Below_next hb1 hb2).size; have hact3 : Arr (w2.alloc (.cells (actC X) 33)) w2.heap.size (actC X) 33 := Arr.new w2 _ _; have hact4 := hact3; have hD4 := hD3; have c30 := ActAt.c0 (x := X) hact3; have c31 := ActAt.c1 (x := X) hact3; have c32 := ActAt.c2 (x := X) hact3; have c33 := ActAt.c3 (x := X) hact3; have c34 := ActAt.c4 (x := X) hact3)
                | (with_reducible refine wpList_store_act_new rfl _ _ rfl _ (by simp) _ rfl rfl _ rfl (actC_size _) (actC_one _) ?_)
                | (go_at_call 13; (with_reducible refine (HOpen.out _ (HC.out.next HP.out hD4.bel) hD4.bx).mono ?_); rintro e w5 ⟨rfl, hb5⟩; have hact5 : Arr w5 w2.heap.size (actC X) 33 := hact4.next hb5; have hD5 := hD4.next HC.out.toBoxB hb5; have c51 := ActAt.c1 (x := X) hact5; have c52 := ActAt.c2 (x := X) hact5; have c53 := ActAt.c3 (x := X) hact5; have c54 := ActAt.c4 (x := X) hact5)
                | (go_at_call 14; (with_reducible refine (HRo.out _ hD5.rb).mono ?_); rintro e w6 ⟨rfl, hb6⟩; have hD6 := hD5.next HC.out.toBoxB hb6))
              obtain ⟨ta, tc, hc6, hg6⟩ := hD6.rb.cells
              have HD6 := Lib.hid hD6
              have hc6d := cells_next hc6 hg6 (Below.drew (Below.refl _ _))
              have hd6 := hD6.next HC.out.toBoxB (Below.drew (Below.refl _ _))
              have hg6d : g < (World.drew w6).heap.size := hg6
              have HLn := Lib.hid (HC.out.len (st := st) (by omega) _ (HC.out.next HP.out hd6.bel) hd6.bx)
              go_region_held3 (fun w' => w'.cell? ⟨g, 1, none⟩ = some (.string st.draws) ∧ w'.cell? ⟨g, 2, none⟩ = some (.slice ta st.T.length tc)) (first | with_reducible exact hc6 | with_reducible exact hc6d | with_reducible exact hc7 | with_reducible exact hc8) (first
                | (go_at_call 15; (with_reducible refine HLn.out.mono ?_); rintro e w7 ⟨rfl, hb7⟩; have hc7 := cells_next hc6d hg6d hb7; have hd7 := hd6.next HC.out.toBoxB hb7; have hg7 := Nat.lt_of_lt_of_le hg6d hb7.size)
                | (go_at_call 16; (with_reducible refine (HC.out.left (st := st) (by omega) _ (HC.out.next HP.out hd7.bel) hd7.bx).mono ?_); rintro e w8 ⟨rfl, hb8⟩; have hc8 := cells_next hc7 hg7 hb8; have hd8 := hd7.next HC.out.toBoxB hb8))
              go_wp2
              exact ⟨⟨k + 1, _, rfl, by simp, by omega, InvD.put hwf (by omega) hdr hls hd8⟩, by simp only [intOf]; omega⟩
            have q1 : (X.kind == 1) = false := beq_false_of_ne hk1
            by_cases hk2 : X.kind = 2
            · have q2 : (X.kind == 2) = true := by rw [hk2]; rfl
              have hOp := fun (w : World) (h1 : P w) (h2 : Bx w own p st) => HC.out.open' X.K X.N X.D last (by omega) (by omega) (by omega) (by omega) (by omega) (by omega) w h1 h2
              have hRo := fun (w : World) (h : RBx w own2 g st) => ropen7_any own2 g st (by omega) X.K X.N X.D last (by omega) w h
              rw [bxOpenR, pairR] at hOp hRo
              generalize (bxOpen st X.K X.N X.D last).1 = S at *
              generalize (bxOpen st X.K X.N X.D last).2 = E at *
              have HOpen := Lib.hid hOp
              have HRo := Lib.hid hRo
              clear hOp hRo
              go_wp2_with (first
                | (with_reducible refine wpList_load_eq rfl _ _ rfl (.pointer (some (x.add (k * 5)))) rfl _ hld1 ?_)
                | (go_at_call 9; (with_reducible refine (HLg.out _).mono ?_); rintro e w1 ⟨rfl, hb1⟩; have hld2 := hld w1 (hD.bel.trans (hb1.mono hD.bel.size)))
                | (with_reducible refine wpList_load_eq rfl _ _ rfl (.pointer (some (x.add (k * 5)))) rfl _ hld2 ?_)
                | (go_at_call 10; (with_reducible refine (HFx.out _).mono ?_); rintro e w2 ⟨rfl, hb2⟩; have hb3 := (Below_next hb1 hb2).alloc (Below_next hb1 hb2).size (.cells (actC X) 33); have hD3 := hD.next HC.out.toBoxB hb3; have hs2 := (Below_next hb1 hb2).size; have hact3 : Arr (w2.alloc (.cells (actC X) 33)) w2.heap.size (actC X) 33 := Arr.new w2 _ _; have c30 := ActAt.c0 (x := X) hact3; have c34 := ActAt.c4 (x := X) hact3; have f34 := Arr.frozen hact3 4; have hact4 := put_act w2 X last; have hb4 := (Below_next hb1 hb2).alloc (Below_next hb1 hb2).size (.cells ((actC X).setIfInBounds 4 (.string last)) 33); have hD4 := hD.next HC.out.toBoxB hb4; have c41 := ActAt.c1 (x := {X with T := last}) hact4; have c42 := ActAt.c2 (x := {X with T := last}) hact4; have c43 := ActAt.c3 (x := {X with T := last}) hact4; have c44 := ActAt.c4 (x := {X with T := last}) hact4)
                | (with_reducible refine wpList_store_act_new rfl _ _ rfl _ (by simp) _ rfl rfl _ rfl (actC_size _) (actC_one _) ?_)
                | (go_at_call 13; (with_reducible refine (HOpen.out _ (HC.out.next HP.out hD4.bel) hD4.bx).mono ?_); rintro e w5 ⟨rfl, hb5⟩; have hact5 : Arr w5 w2.heap.size (actC {X with T := last}) 33 := hact4.next hb5; have hD5 := hD4.next HC.out.toBoxB hb5; have c51 := ActAt.c1 (x := {X with T := last}) hact5; have c52 := ActAt.c2 (x := {X with T := last}) hact5; have c53 := ActAt.c3 (x := {X with T := last}) hact5; have c54 := ActAt.c4 (x := {X with T := last}) hact5)
                | (go_at_call 14; (with_reducible refine (HRo.out _ hD5.rb).mono ?_); rintro e w6 ⟨rfl, hb6⟩; have hD6 := hD5.next HC.out.toBoxB hb6))
              obtain ⟨ta, tc, hc6, hg6⟩ := hD6.rb.cells
              have HD6 := Lib.hid hD6
              have hc6d := cells_next hc6 hg6 (Below.drew (Below.refl _ _))
              have hd6 := hD6.next HC.out.toBoxB (Below.drew (Below.refl _ _))
              have hg6d : g < (World.drew w6).heap.size := hg6
              have HLn := Lib.hid (HC.out.len (st := st) (by omega) _ (HC.out.next HP.out hd6.bel) hd6.bx)
              go_region_held3 (fun w' => w'.cell? ⟨g, 1, none⟩ = some (.string st.draws) ∧ w'.cell? ⟨g, 2, none⟩ = some (.slice ta st.T.length tc)) (first | with_reducible exact hc6 | with_reducible exact hc6d | with_reducible exact hc7 | with_reducible exact hc8) (first
                | (go_at_call 15; (with_reducible refine HLn.out.mono ?_); rintro e w7 ⟨rfl, hb7⟩; have hc7 := cells_next hc6d hg6d hb7; have hd7 := hd6.next HC.out.toBoxB hb7; have hg7 := Nat.lt_of_lt_of_le hg6d hb7.size)
                | (go_at_call 16; (with_reducible refine (HC.out.left (st := st) (by omega) _ (HC.out.next HP.out hd7.bel) hd7.bx).mono ?_); rintro e w8 ⟨rfl, hb8⟩; have hc8 := cells_next hc7 hg7 hb8; have hd8 := hd7.next HC.out.toBoxB hb8))
              go_wp2
              exact ⟨⟨k + 1, _, rfl, by simp, by omega, InvD.put hwf (by omega) hdr hls hd8⟩, by simp only [intOf]; omega⟩
            have q2 : (X.kind == 2) = false := beq_false_of_ne hk2
            go_wp2_with (first
              | (with_reducible refine wpList_load_eq rfl _ _ rfl (.pointer (some (x.add (k * 5)))) rfl _ hld1 ?_)
              | (go_at_call 9; (with_reducible refine (HLg.out _).mono ?_); rintro e w1 ⟨rfl, hb1⟩; have hld2 := hld w1 (hD.bel.trans (hb1.mono hD.bel.size)))
              | (with_reducible refine wpList_load_eq rfl _ _ rfl (.pointer (some (x.add (k * 5)))) rfl _ hld2 ?_)
              | (go_at_call 10; (with_reducible refine (HFx.out _).mono ?_); rintro e w2 ⟨rfl, hb2⟩; have hb3 := (Below_next hb1 hb2).alloc (Below_next hb1 hb2).size (.cells (actC X) 33); have hD3 := hD.next HC.out.toBoxB hb3; have hs2 := (Below_next hb1 hb2).size; have hact3 : Arr (w2.alloc (.cells (actC X) 33)) w2.heap.size (actC X) 33 := Arr.new w2 _ _; have c30 := ActAt.c0 (x := X) hact3)
              | (with_reducible refine wpList_store_act_new rfl _ _ rfl _ (by simp) _ rfl rfl _ rfl (actC_size _) (actC_one _) ?_))
            have hD6 := hD3
            obtain ⟨ta, tc, hc6, hg6⟩ := hD6.rb.cells
            have HD6 := Lib.hid hD6
            have hc6d := cells_next hc6 hg6 (Below.drew (Below.refl _ _))
            have hd6 := hD6.next HC.out.toBoxB (Below.drew (Below.refl _ _))
            have hg6d : g < (World.drew (w2.alloc (.cells (actC X) 33))).heap.size := hg6
            have HLn := Lib.hid (HC.out.len (st := st) (by omega) _ (HC.out.next HP.out hd6.bel) hd6.bx)
            go_region_held3 (fun w' => w'.cell? ⟨g, 1, none⟩ = some (.string st.draws) ∧ w'.cell? ⟨g, 2, none⟩ = some (.slice ta st.T.length tc)) (first | with_reducible exact hc6 | with_reducible exact hc6d | with_reducible exact hc7 | with_reducible exact hc8) (first
              | (go_at_call 15; (with_reducible refine HLn.out.mono ?_); rintro e w7 ⟨rfl, hb7⟩; have hc7 := cells_next hc6d hg6d hb7; have hd7 := hd6.next HC.out.toBoxB hb7; have hg7 := Nat.lt_of_lt_of_le hg6d hb7.size)
              | (go_at_call 16; (with_reducible refine (HC.out.left (st := st) (by omega) _ (HC.out.next HP.out hd7.bel) hd7.bx).mono ?_); rintro e w8 ⟨rfl, hb8⟩; have hc8 := cells_next hc7 hg7 hb8; have hd8 := hd7.next HC.out.toBoxB hb8))
            go_wp2
            exact ⟨⟨k + 1, _, rfl, by simp, by omega, InvD.put hwf (by omega) hdr hls hd8⟩, by simp only [intOf]; omega⟩
          · rw [hg] at HLg
            go_wp2_with (first
              | (with_reducible refine wpList_load_eq rfl _ _ rfl (.pointer (some (x.add (k * 5)))) rfl _ hld1 ?_)
              | (go_at_call 9; (with_reducible refine (HLg.out _).mono ?_); rintro e w1 ⟨rfl, hb1⟩))
            go_ret
            exact ⟨rfl, hD.bel.trans (hb1.mono hD.bel.size)⟩
        · have e1 : decide ((k : Int) < (len : Int)) = true := decide_eq_true (by omega)
          have e2 : decide ((k : Int) < 40) = false := decide_eq_false (by omega)
          go_wp2
          go_ret
          exact ⟨rfl, hD.bel⟩
      · have e1 : decide ((k : Int) < (len : Int)) = false := decide_eq_false (by omega)
        go_wp2
        go_ret
        exact ⟨rfl, hD.bel⟩
  · go_enter Tryz.func3, Tryz.ntmps3
    go_wp2_with (first
      | (go_at_call 6; (with_reducible refine HA.out.mono ?_); rintro e w1 ⟨rfl, hb1⟩)
      | (go_at_call 7; (with_reducible refine (HRl.out _ (HC.out.next HP.out hb1)).mono ?_); rintro e w2 ⟨p0, own0, rfl, hbx2, hown2, hb2⟩)
      | (go_at_call 8; (with_reducible refine (HId.out _ (HC.out.next HP.out ((hb1.trans (hb2.mono hb1.size)).alloc (Nat.le_trans hb1.size hb2.size) (.cells #[.bool false, .string ⟨#[]⟩, .slice none 0 0] 29)))).mono ?_); rintro e w3 ⟨p, own, rfl, hbx3, hown3, hb3⟩))
    have hbA := hb1.trans (hb2.mono hb1.size)
    have hbB := hbA.alloc hbA.size (.cells #[.bool false, .string ⟨#[]⟩, .slice none 0 0] 29)
    have hbC := hbB.trans (hb3.mono hbB.size)
    have hbD := hbC.alloc hbC.size (.cells #[.bool true, .string draws, .slice none 0 0] 29)
    have hlt := HC.out.lt hbx3
    have hD0 : DSt Bx W (w3.alloc (.cells #[.bool true, .string draws, .slice none 0 0] 29)) own (fun h => h = w3.heap.size) p w3.heap.size (idealB draws) :=
      ⟨HC.out.nextB hbx3 ((Below.refl w3.heap.size w3).alloc (Nat.le_refl _) _), ⟨rfl, _, Arr.new w3 _ _, World.ownsRow_nil _ _ _ _, fun _ => rfl, fun h e => by cases e⟩, fun h hh => Nat.le_trans hbB.size (hown3 h hh), fun h hh => by subst hh; exact hbC.size, fun h hh => Nat.lt_of_lt_of_le (hlt h hh) (by simp), fun h hh => by subst hh; simp, fun h h1 h2 => by have := hlt h h1; omega, hbD⟩
    have HD0 := Lib.hid hD0
    have HDr := Lib.hid (show (idealB draws).draws.size ≤ 8192 from HD.out)
    have HDt := Lib.hid (show (idealB draws).T = [] from rfl)
    generalize idealB draws = st0 at *
    generalize w3.heap.size = g at *
    generalize w3.alloc (.cells #[.bool true, .string draws, .slice none 0 0] 29) = w0 at *
    clear hD0 hbA hbB hbC hbD hlt hb1 hb2 hb3 hbx2 hbx3 hown2 hown3 HA HRl HId HD b1
    go_loopw [9, 10] (fun s9 i wr => ∃ (k : Nat) (last : ByteArray), s9 = .string last ∧ i = .int .i64 (k : Int) ∧ k ≤ 40 ∧ InvD Bx W wr p g last k) (fun _ i _ => 41 - (intOf i).toNat)
    case atStart => exact ⟨0, _, rfl, rfl, by omega, InvD.put (by rw [HDt.out]; exact WfB.nil) (by rw [HDt.out]; exact Nat.le_refl _) HDr.out (Nat.zero_le _) HD0.out⟩
    case round =>
      clear HD0 HDr HDt
      obtain ⟨k, last, rfl, rfl, hk, st, own, own2, hwf, hTl, hdr, hls, hD⟩ := hrel
      by_cases hlt : k < len
      · by_cases h40 : k < 40
        · have e1 : decide ((k : Int) < (len : Int)) = true := decide_eq_true (by omega)
          have e2 : decide ((k : Int) < 40) = true := decide_eq_true (by omega)
          have hk0 : (0 : Int) ≤ (k : Int) := by omega
          have hli : (k : Int) < (len : Int) := by omega
          obtain ⟨x, y, rfl, hy, hok, hld⟩ := HL.out.load hlt
          have HLg := Lib.hid (large7_any y)
          have hld1 := hld wr hD.bel
          cases hg : largeA y
          · rw [hg] at HLg
            have hsz := fixedA_sizes hg
            have hno := largeA_no hg
            have HFx := Lib.hid (fixed7_any y hok.kind (by omega) (by omega))
            generalize fixedA y = X at *
            have hx0 : (actC X)[0]? = some (.int .i64 X.kind) := rfl
            have hx1 : (actC X)[1]? = some (.string X.K) := rfl
            have hx2 : (actC X)[2]? = some (.string X.N) := rfl
            have hx3 : (actC X)[3]? = some (.string X.D) := rfl
            have hx4 : (actC X)[4]? = some (.string X.T) := rfl
            by_cases hk0 : X.kind = 0
            · have q0 : (X.kind == 0) = true := by rw [hk0]; rfl
              have hSe := fun (w : World) (h1 : P w) (h2 : Bx w own p st) => HC.out.seal' X.K X.N X.D X.T (by omega) (by omega) (by omega) (by omega) (by omega) (by omega) w h1 h2
              have hRs := fun (w : World) (h : RBx w own2 g st) (hl : ∀ h, own2 h → h < w.heap.size) => rseal7_any own2 g st (by omega) (by omega) X.K X.N X.D X.T (by omega) w h hl
              have hz := sealS1_size hwf X.K X.N X.D X.T
              have hwf6 := sealT_wf hwf X.K X.N X.D X.T
              have hl6 := (sealT_len7 st X.K X.N X.D X.T).1
              have hr6 := (sealT_len7 st X.K X.N X.D X.T).2
              generalize bxSealT st X.K X.N X.D X.T = st6 at *
              rw [bxSealR, pairR] at hSe hRs
              generalize (bxSeal st X.K X.N X.D X.T).1 = S at *
              generalize (bxSeal st X.K X.N X.D X.T).2.1 = E at *
              have HSeal := Lib.hid hSe
              have HRs := Lib.hid hRs
              have HZ := Lib.hid hz
              have hl6' : st6.T.length ≤ k + 1 := by omega
              have hr6' : st6.draws.size ≤ 8192 := by omega
              clear hSe hRs hz hl6 hr6
              by_cases hE : E = 0
              · subst hE
                go_wp2_with (first
                  | (with_reducible refine wpList_load_eq rfl _ _ rfl (.pointer (some (x.add (k * 5)))) rfl _ hld1 ?_)
                  | (go_at_call 9; (with_reducible refine (HLg.out _).mono ?_); rintro e w1 ⟨rfl, hb1⟩; have hld2 := hld w1 (hD.bel.trans (hb1.mono hD.bel.size)))
                  | (with_reducible refine wpList_load_eq rfl _ _ rfl (.pointer (some (x.add (k * 5)))) rfl _ hld2 ?_)
                  | (go_at_call 10; (with_reducible refine (HFx.out _).mono ?_); rintro e w2 ⟨rfl, hb2⟩; have hb3 := (Below_next hb1 hb2).alloc (Below_next hb1 hb2).size (.cells (actC X) 33); have hD3 := hD.next HC.out.toBoxB hb3; have hs2 := (Below_next hb1 hb2).size; have hact3 : Arr (w2.alloc (.cells (actC X) 33)) w2.heap.size (actC X) 33 := Arr.new w2 _ _; have c31 := ActAt.c1 (x := X) hact3; have c32 := ActAt.c2 (x := X) hact3; have c33 := ActAt.c3 (x := X) hact3; have c34 := ActAt.c4 (x := X) hact3)
                  | (with_reducible refine wpList_store_act_new rfl _ _ rfl _ (by simp) _ rfl rfl _ rfl (actC_size _) (actC_one _) ?_)
                  | (go_at_call 11; (with_reducible refine (HSeal.out _ (HC.out.next HP.out hD3.bel) hD3.bx).mono ?_); rintro e w5 ⟨rfl, own5, hbx5, hown5, hf5⟩; obtain ⟨hr5, hl5⟩ := hD3.mid hf5; have hact5 : Arr w5 w2.heap.size (actC X) 33 := (hf5.block _ (Arr.lt hact3) (fun h => by have := hD.l1 _ h; omega)).trans hact3; have c51 := ActAt.c1 (x := X) hact5; have c52 := ActAt.c2 (x := X) hact5; have c53 := ActAt.c3 (x := X) hact5; have c54 := ActAt.c4 (x := X) hact5)
                  | (go_at_call 12; (with_reducible refine (HRs.out _ hr5 hl5).mono ?_); rintro e w6 ⟨rfl, hS6⟩; obtain ⟨own6, own7, hD6⟩ := hD3.fin HC.out.toBoxB hbx5 hown5 hf5 hS6))
                obtain ⟨ta, tc, hc6, hg6⟩ := hD6.rb.cells
                have HD6 := Lib.hid hD6
                have hc6d := cells_next hc6 hg6 (Below.drew (Below.refl _ _))
                have hd6 := hD6.next HC.out.toBoxB (Below.drew (Below.refl _ _))
                have hg6d : g < (World.drew w6).heap.size := hg6
                have HLn := Lib.hid (HC.out.len (st := st6) (by omega) _ (HC.out.next HP.out hd6.bel) hd6.bx)
                go_region_held3 (fun w' => w'.cell? ⟨g, 1, none⟩ = some (.string st6.draws) ∧ w'.cell? ⟨g, 2, none⟩ = some (.slice ta st6.T.length tc)) (first | with_reducible exact hc6 | with_reducible exact hc6d | with_reducible exact hc7 | with_reducible exact hc8) (first
                  | (go_at_call 15; (with_reducible refine HLn.out.mono ?_); rintro e w7 ⟨rfl, hb7⟩; have hc7 := cells_next hc6d hg6d hb7; have hd7 := hd6.next HC.out.toBoxB hb7; have hg7 := Nat.lt_of_lt_of_le hg6d hb7.size)
                  | (go_at_call 16; (with_reducible refine (HC.out.left (st := st6) (by omega) _ (HC.out.next HP.out hd7.bel) hd7.bx).mono ?_); rintro e w8 ⟨rfl, hb8⟩; have hc8 := cells_next hc7 hg7 hb8; have hd8 := hd7.next HC.out.toBoxB hb8))
                go_wp2
                exact ⟨⟨k + 1, _, rfl, by simp, by omega, InvD.put hwf6 hl6' hr6' (HZ.out.resolve_right (fun h => h rfl)) hd8⟩, by simp only [intOf]; omega⟩
              · have q5 : (E == 0) = false := beq_false_of_ne hE
                go_wp2_with (first
                  | (with_reducible refine wpList_load_eq rfl _ _ rfl (.pointer (some (x.add (k * 5)))) rfl _ hld1 ?_)
                  | (go_at_call 9; (with_reducible refine (HLg.out _).mono ?_); rintro e w1 ⟨rfl, hb1⟩; have hld2 := hld w1 (hD.bel.trans (hb1.mono hD.bel.size)))
                  | (with_reducible refine wpList_load_eq rfl _ _ rfl (.pointer (some (x.add (k * 5)))) rfl _ hld2 ?_)
                  | (go_at_call 10; (with_reducible refine (HFx.out _).mono ?_); rintro e w2 ⟨rfl, hb2⟩; have hb3 := (Below_next hb1 hb2).alloc (Below_next hb1 hb2).size (.cells (actC X) 33); have hD3 := hD.next HC.out.toBoxB hb3; have hs2 := (Below_next hb1 hb2).size; have hact3 : Arr (w2.alloc (.cells (actC X) 33)) w2.heap.size (actC X) 33 := Arr.new w2 _ _; have c31 := ActAt.c1 (x := X) hact3; have c32 := ActAt.c2 (x := X) hact3; have c33 := ActAt.c3 (x := X) hact3; have c34 := ActAt.c4 (x := X) hact3)
                  | (with_reducible refine wpList_store_act_new rfl _ _ rfl _ (by simp) _ rfl rfl _ rfl (actC_size _) (actC_one _) ?_)
                  | (go_at_call 11; (with_reducible refine (HSeal.out _ (HC.out.next HP.out hD3.bel) hD3.bx).mono ?_); rintro e w5 ⟨rfl, own5, hbx5, hown5, hf5⟩; obtain ⟨hr5, hl5⟩ := hD3.mid hf5; have hact5 : Arr w5 w2.heap.size (actC X) 33 := (hf5.block _ (Arr.lt hact3) (fun h => by have := hD.l1 _ h; omega)).trans hact3; have c51 := ActAt.c1 (x := X) hact5; have c52 := ActAt.c2 (x := X) hact5; have c53 := ActAt.c3 (x := X) hact5; have c54 := ActAt.c4 (x := X) hact5)
                  | (go_at_call 12; (with_reducible refine (HRs.out _ hr5 hl5).mono ?_); rintro e w6 ⟨rfl, hS6⟩; obtain ⟨own6, own7, hD6⟩ := hD3.fin HC.out.toBoxB hbx5 hown5 hf5 hS6))
                obtain ⟨ta, tc, hc6, hg6⟩ := hD6.rb.cells
                have HD6 := Lib.hid hD6
                have hc6d := cells_next hc6 hg6 (Below.drew (Below.refl _ _))
                have hd6 := hD6.next HC.out.toBoxB (Below.drew (Below.refl _ _))
                have hg6d : g < (World.drew w6).heap.size := hg6
                have HLn := Lib.hid (HC.out.len (st := st6) (by omega) _ (HC.out.next HP.out hd6.bel) hd6.bx)
                go_region_held3 (fun w' => w'.cell? ⟨g, 1, none⟩ = some (.string st6.draws) ∧ w'.cell? ⟨g, 2, none⟩ = some (.slice ta st6.T.length tc)) (first | with_reducible exact hc6 | with_reducible exact hc6d | with_reducible exact hc7 | with_reducible exact hc8) (first
                  | (go_at_call 15; (with_reducible refine HLn.out.mono ?_); rintro e w7 ⟨rfl, hb7⟩; have hc7 := cells_next hc6d hg6d hb7; have hd7 := hd6.next HC.out.toBoxB hb7; have hg7 := Nat.lt_of_lt_of_le hg6d hb7.size)
                  | (go_at_call 16; (with_reducible refine (HC.out.left (st := st6) (by omega) _ (HC.out.next HP.out hd7.bel) hd7.bx).mono ?_); rintro e w8 ⟨rfl, hb8⟩; have hc8 := cells_next hc7 hg7 hb8; have hd8 := hd7.next HC.out.toBoxB hb8))
                go_wp2
                exact ⟨⟨k + 1, _, rfl, by simp, by omega, InvD.put hwf6 hl6' hr6' hls hd8⟩, by simp only [intOf]; omega⟩
            have q0 : (X.kind == 0) = false := beq_false_of_ne hk0
            by_cases hk1 : X.kind = 1
            · have q1 : (X.kind == 1) = true := by rw [hk1]; rfl
              have q2 : (X.kind == 2) = false := by rw [hk1]; rfl
              have hOp := fun (w : World) (h1 : P w) (h2 : Bx w own p st) => HC.out.open' X.K X.N X.D X.T (by omega) (by omega) (by omega) (by omega) (by omega) (by omega) w h1 h2
              have hRo := fun (w : World) (h : RBx w own2 g st) => ropen7_any own2 g st (by omega) X.K X.N X.D X.T (by omega) w h
              rw [bxOpenR, pairR] at hOp hRo
              generalize (bxOpen st X.K X.N X.D X.T).1 = S at *
              generalize (bxOpen st X.K X.N X.D X.T).2 = E at *
              have HOpen := Lib.hid hOp
              have HRo := Lib.hid hRo
              clear hOp hRo
              go_wp2_with (first
                | (with_reducible refine wpList_load_eq rfl _ _ rfl (.pointer (some (x.add (k * 5)))) rfl _ hld1 ?_)
                | (go_at_call 9; (with_reducible refine (HLg.out _).mono ?_); rintro e w1 ⟨rfl, hb1⟩; have hld2 := hld w1 (hD.bel.trans (hb1.mono hD.bel.size)))
                | (with_reducible refine wpList_load_eq rfl _ _ rfl (.pointer (some (x.add (k * 5)))) rfl _ hld2 ?_)
                | (go_at_call 10; (with_reducible refine (HFx.out _).mono ?_); rintro e w2 ⟨rfl, hb2⟩; have hb3 := (Below_next hb1 hb2).alloc (Below_next hb1 hb2).size (.cells (actC X) 33); have hD3 := hD.next HC.out.toBoxB hb3; have hs2 := (Below_next hb1 hb2).size; have hact3 : Arr (w2.alloc (.cells (actC X) 33)) w2.heap.size (actC X) 33 := Arr.new w2 _ _; have hact4 := hact3; have hD4 := hD3; have c30 := ActAt.c0 (x := X) hact3; have c31 := ActAt.c1 (x := X) hact3; have c32 := ActAt.c2 (x := X) hact3; have c33 := ActAt.c3 (x := X) hact3; have c34 := ActAt.c4 (x := X) hact3)
                | (with_reducible refine wpList_store_act_new rfl _ _ rfl _ (by simp) _ rfl rfl _ rfl (actC_size _) (actC_one _) ?_)
                | (go_at_call 13; (with_reducible refine (HOpen.out _ (HC.out.next HP.out hD4.bel) hD4.bx).mono ?_); rintro e w5 ⟨rfl, hb5⟩; have hact5 : Arr w5 w2.heap.size (actC X) 33 := hact4.next hb5; have hD5 := hD4.next HC.out.toBoxB hb5; have c51 := ActAt.c1 (x := X) hact5; have c52 := ActAt.c2 (x := X) hact5; have c53 := ActAt.c3 (x := X) hact5; have c54 := ActAt.c4 (x := X) hact5)
                | (go_at_call 14; (with_reducible refine (HRo.out _ hD5.rb).mono ?_); rintro e w6 ⟨rfl, hb6⟩; have hD6 := hD5.next HC.out.toBoxB hb6))
              obtain ⟨ta, tc, hc6, hg6⟩ := hD6.rb.cells
              have HD6 := Lib.hid hD6
              have hc6d := cells_next hc6 hg6 (Below.drew (Below.refl _ _))
              have hd6 := hD6.next HC.out.toBoxB (Below.drew (Below.refl _ _))
              have hg6d : g < (World.drew w6).heap.size := hg6
              have HLn := Lib.hid (HC.out.len (st := st) (by omega) _ (HC.out.next HP.out hd6.bel) hd6.bx)
              go_region_held3 (fun w' => w'.cell? ⟨g, 1, none⟩ = some (.string st.draws) ∧ w'.cell? ⟨g, 2, none⟩ = some (.slice ta st.T.length tc)) (first | with_reducible exact hc6 | with_reducible exact hc6d | with_reducible exact hc7 | with_reducible exact hc8) (first
                | (go_at_call 15; (with_reducible refine HLn.out.mono ?_); rintro e w7 ⟨rfl, hb7⟩; have hc7 := cells_next hc6d hg6d hb7; have hd7 := hd6.next HC.out.toBoxB hb7; have hg7 := Nat.lt_of_lt_of_le hg6d hb7.size)
                | (go_at_call 16; (with_reducible refine (HC.out.left (st := st) (by omega) _ (HC.out.next HP.out hd7.bel) hd7.bx).mono ?_); rintro e w8 ⟨rfl, hb8⟩; have hc8 := cells_next hc7 hg7 hb8; have hd8 := hd7.next HC.out.toBoxB hb8))
              go_wp2
              exact ⟨⟨k + 1, _, rfl, by simp, by omega, InvD.put hwf (by omega) hdr hls hd8⟩, by simp only [intOf]; omega⟩
            have q1 : (X.kind == 1) = false := beq_false_of_ne hk1
            by_cases hk2 : X.kind = 2
            · have q2 : (X.kind == 2) = true := by rw [hk2]; rfl
              have hOp := fun (w : World) (h1 : P w) (h2 : Bx w own p st) => HC.out.open' X.K X.N X.D last (by omega) (by omega) (by omega) (by omega) (by omega) (by omega) w h1 h2
              have hRo := fun (w : World) (h : RBx w own2 g st) => ropen7_any own2 g st (by omega) X.K X.N X.D last (by omega) w h
              rw [bxOpenR, pairR] at hOp hRo
              generalize (bxOpen st X.K X.N X.D last).1 = S at *
              generalize (bxOpen st X.K X.N X.D last).2 = E at *
              have HOpen := Lib.hid hOp
              have HRo := Lib.hid hRo
              clear hOp hRo
              go_wp2_with (first
                | (with_reducible refine wpList_load_eq rfl _ _ rfl (.pointer (some (x.add (k * 5)))) rfl _ hld1 ?_)
                | (go_at_call 9; (with_reducible refine (HLg.out _).mono ?_); rintro e w1 ⟨rfl, hb1⟩; have hld2 := hld w1 (hD.bel.trans (hb1.mono hD.bel.size)))
                | (with_reducible refine wpList_load_eq rfl _ _ rfl (.pointer (some (x.add (k * 5)))) rfl _ hld2 ?_)
                | (go_at_call 10; (with_reducible refine (HFx.out _).mono ?_); rintro e w2 ⟨rfl, hb2⟩; have hb3 := (Below_next hb1 hb2).alloc (Below_next hb1 hb2).size (.cells (actC X) 33); have hD3 := hD.next HC.out.toBoxB hb3; have hs2 := (Below_next hb1 hb2).size; have hact3 : Arr (w2.alloc (.cells (actC X) 33)) w2.heap.size (actC X) 33 := Arr.new w2 _ _; have c30 := ActAt.c0 (x := X) hact3; have c34 := ActAt.c4 (x := X) hact3; have f34 := Arr.frozen hact3 4; have hact4 := put_act w2 X last; have hb4 := (Below_next hb1 hb2).alloc (Below_next hb1 hb2).size (.cells ((actC X).setIfInBounds 4 (.string last)) 33); have hD4 := hD.next HC.out.toBoxB hb4; have c41 := ActAt.c1 (x := {X with T := last}) hact4; have c42 := ActAt.c2 (x := {X with T := last}) hact4; have c43 := ActAt.c3 (x := {X with T := last}) hact4; have c44 := ActAt.c4 (x := {X with T := last}) hact4)
                | (with_reducible refine wpList_store_act_new rfl _ _ rfl _ (by simp) _ rfl rfl _ rfl (actC_size _) (actC_one _) ?_)
                | (go_at_call 13; (with_reducible refine (HOpen.out _ (HC.out.next HP.out hD4.bel) hD4.bx).mono ?_); rintro e w5 ⟨rfl, hb5⟩; have hact5 : Arr w5 w2.heap.size (actC {X with T := last}) 33 := hact4.next hb5; have hD5 := hD4.next HC.out.toBoxB hb5; have c51 := ActAt.c1 (x := {X with T := last}) hact5; have c52 := ActAt.c2 (x := {X with T := last}) hact5; have c53 := ActAt.c3 (x := {X with T := last}) hact5; have c54 := ActAt.c4 (x := {X with T := last}) hact5)
                | (go_at_call 14; (with_reducible refine (HRo.out _ hD5.rb).mono ?_); rintro e w6 ⟨rfl, hb6⟩; have hD6 := hD5.next HC.out.toBoxB hb6))
              obtain ⟨ta, tc, hc6, hg6⟩ := hD6.rb.cells
              have HD6 := Lib.hid hD6
              have hc6d := cells_next hc6 hg6 (Below.drew (Below.refl _ _))
              have hd6 := hD6.next HC.out.toBoxB (Below.drew (Below.refl _ _))
              have hg6d : g < (World.drew w6).heap.size := hg6
              have HLn := Lib.hid (HC.out.len (st := st) (by omega) _ (HC.out.next HP.out hd6.bel) hd6.bx)
              go_region_held3 (fun w' => w'.cell? ⟨g, 1, none⟩ = some (.string st.draws) ∧ w'.cell? ⟨g, 2, none⟩ = some (.slice ta st.T.length tc)) (first | with_reducible exact hc6 | with_reducible exact hc6d | with_reducible exact hc7 | with_reducible exact hc8) (first
                | (go_at_call 15; (with_reducible refine HLn.out.mono ?_); rintro e w7 ⟨rfl, hb7⟩; have hc7 := cells_next hc6d hg6d hb7; have hd7 := hd6.next HC.out.toBoxB hb7; have hg7 := Nat.lt_of_lt_of_le hg6d hb7.size)
                | (go_at_call 16; (with_reducible refine (HC.out.left (st := st) (by omega) _ (HC.out.next HP.out hd7.bel) hd7.bx).mono ?_); rintro e w8 ⟨rfl, hb8⟩; have hc8 := cells_next hc7 hg7 hb8; have hd8 := hd7.next HC.out.toBoxB hb8))
              go_wp2
              exact ⟨⟨k + 1, _, rfl, by simp, by omega, InvD.put hwf (by omega) hdr hls hd8⟩, by simp only [intOf]; omega⟩
            have q2 : (X.kind == 2) = false := beq_false_of_ne hk2
            go_wp2_with (first
              | (with_reducible refine wpList_load_eq rfl _ _ rfl (.pointer (some (x.add (k * 5)))) rfl _ hld1 ?_)
              | (go_at_call 9; (with_reducible refine (HLg.out _).mono ?_); rintro e w1 ⟨rfl, hb1⟩; have hld2 := hld w1 (hD.bel.trans (hb1.mono hD.bel.size)))
              | (with_reducible refine wpList_load_eq rfl _ _ rfl (.pointer (some (x.add (k * 5)))) rfl _ hld2 ?_)
              | (go_at_call 10; (with_reducible refine (HFx.out _).mono ?_); rintro e w2 ⟨rfl, hb2⟩; have hb3 := (Below_next hb1 hb2).alloc (Below_next hb1 hb2).size (.cells (actC X) 33); have hD3 := hD.next HC.out.toBoxB hb3; have hs2 := (Below_next hb1 hb2).size; have hact3 : Arr (w2.alloc (.cells (actC X) 33)) w2.heap.size (actC X) 33 := Arr.new w2 _ _; have c30 := ActAt.c0 (x := X) hact3)
              | (with_reducible refine wpList_store_act_new rfl _ _ rfl _ (by simp) _ rfl rfl _ rfl (actC_size _) (actC_one _) ?_))
            have hD6 := hD3
            obtain ⟨ta, tc, hc6, hg6⟩ := hD6.rb.cells
            have HD6 := Lib.hid hD6
            have hc6d := cells_next hc6 hg6 (Below.drew (Below.refl _ _))
            have hd6 := hD6.next HC.out.toBoxB (Below.drew (Below.refl _ _))
            have hg6d : g < (World.drew (w2.alloc (.cells (actC X) 33))).heap.size := hg6
            have HLn := Lib.hid (HC.out.len (st := st) (by omega) _ (HC.out.next HP.out hd6.bel) hd6.bx)
            go_region_held3 (fun w' => w'.cell? ⟨g, 1, none⟩ = some (.string st.draws) ∧ w'.cell? ⟨g, 2, none⟩ = some (.slice ta st.T.length tc)) (first | with_reducible exact hc6 | with_reducible exact hc6d | with_reducible exact hc7 | with_reducible exact hc8) (first
              | (go_at_call 15; (with_reducible refine HLn.out.mono ?_); rintro e w7 ⟨rfl, hb7⟩; have hc7 := cells_next hc6d hg6d hb7; have hd7 := hd6.next HC.out.toBoxB hb7; have hg7 := Nat.lt_of_lt_of_le hg6d hb7.size)
              | (go_at_call 16; (with_reducible refine (HC.out.left (st := st) (by omega) _ (HC.out.next HP.out hd7.bel) hd7.bx).mono ?_); rintro e w8 ⟨rfl, hb8⟩; have hc8 := cells_next hc7 hg7 hb8; have hd8 := hd7.next HC.out.toBoxB hb8))
            go_wp2
            exact ⟨⟨k + 1, _, rfl, by simp, by omega, InvD.put hwf (by omega) hdr hls hd8⟩, by simp only [intOf]; omega⟩
          · rw [hg] at HLg
            go_wp2_with (first
              | (with_reducible refine wpList_load_eq rfl _ _ rfl (.pointer (some (x.add (k * 5)))) rfl _ hld1 ?_)
              | (go_at_call 9; (with_reducible refine (HLg.out _).mono ?_); rintro e w1 ⟨rfl, hb1⟩))
            go_ret
            exact ⟨rfl, hD.bel.trans (hb1.mono hD.bel.size)⟩
        · have e1 : decide ((k : Int) < (len : Int)) = true := decide_eq_true (by omega)
          have e2 : decide ((k : Int) < 40) = false := decide_eq_false (by omega)
          go_wp2
          go_ret
          exact ⟨rfl, hD.bel⟩
      · have e1 : decide ((k : Int) < (len : Int)) = false := decide_eq_false (by omega)
        go_wp2
        go_ret
        exact ⟨rfl, hD.bel⟩
end Go.Proofs.YtfflpooiebeagaaGreatDoor
