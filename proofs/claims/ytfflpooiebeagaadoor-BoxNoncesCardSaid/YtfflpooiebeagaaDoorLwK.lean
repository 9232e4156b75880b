/- awake of layer 7 over the record BoxB. -/
import Derived.Test.YtfflpooiebeagaaDoorBxC
import Derived.Test.YtfflpooiebeagaaDoorM1
namespace Go.Proofs.YtfflpooiebeagaaDoor
open Go.RowKit

/-- An ideal box and a real one, apart. -/
def Duo (P : World → Prop) (Bx : World → (Nat → Prop) → Value → StB → Prop) (W : World) (p q : Value) (st : StB) (w : World) : Prop :=
  ∃ own1 own2 : Nat → Prop, Bx w own1 p st ∧ Bx w own2 q realB ∧ (∀ g, own1 g → W.heap.size ≤ g) ∧ (∀ g, own2 g → W.heap.size ≤ g) ∧ (∀ g, own1 g → ¬ own2 g) ∧ P w ∧ Below W.heap.size W w
section
variable {P : World → Prop} {Bx : World → (Nat → Prop) → Value → StB → Prop} (C : BoxB P Bx) {W w : World} {p q : Value} {st : StB}
theorem Duo.below (h : Duo P Bx W p q st w) : Below W.heap.size W w := by obtain ⟨_, _, _, _, _, _, _, _, h⟩ := h; exact h
include C in
theorem Duo.next {w' : World} (h : Duo P Bx W p q st w) (hb : Below w.heap.size w w') : Duo P Bx W p q st w' := by
  obtain ⟨o1, o2, h1, h2, h3, h4, h5, h6, h7⟩ := h
  exact ⟨o1, o2, C.nextB h1 hb, C.nextB h2 hb, h3, h4, h5, C.next h6 hb, h7.trans (hb.mono h7.size)⟩
theorem Duo.pw (h : Duo P Bx W p q st w) : P w := by obtain ⟨_, _, _, _, _, _, _, h, _⟩ := h; exact h
include C in
theorem Duo.seal1 (h : Duo P Bx W p q st w) (hp0 : P W) (k n d t : ByteArray) (hk : k.size ≤ 1000) (hn : n.size ≤ 1000) (hd : d.size ≤ 1000) (ht : t.size ≤ 1000) (h1 : st.T.length ≤ 1000) (h2 : st.draws.size ≤ 1048576) {R : Value} {st' : StB} (hR : bxSealR st k n d t = R) (hT : bxSealT st k n d t = st') :
    Calls Tryd.prog 10 #[p, .string k, .string n, .string d, .string t] w fun e w' => e = .returned R ∧ Duo P Bx W p q st' w' := by
  obtain ⟨o1, o2, x1, x2, h3, h4, h5, h6, h7⟩ := h
  refine (C.seal' k n d t hk hn (by omega) (by omega) h1 h2 w h6 x1).mono ?_
  rintro e w' ⟨rfl, o', y1, y2, y3⟩
  rw [hT] at y1
  have hb := y3.below h3 h7.size
  refine ⟨by rw [hR], o', o2, y1, C.other x2 y3 (fun g g2 g1 => h5 g g1 g2), fun g hg => ?_, h4, fun g hg hg2 => ?_, C.next hp0 (h7.trans hb), h7.trans hb⟩
  · rcases y2 g hg with e | e
    · exact h3 g e
    · have := h7.size; omega
  · rcases y2 g hg with e | e
    · exact h5 g e hg2
    · have := C.lt x2 g hg2; omega
include C in
theorem Duo.seal2 (h : Duo P Bx W p q st w) (hp0 : P W) (k n d t : ByteArray) (hk : k.size ≤ 1000) (hn : n.size ≤ 1000) (hd : d.size ≤ 1000) (ht : t.size ≤ 1000) {R : Value} (hR : bxSealR realB k n d t = R) :
    Calls Tryd.prog 10 #[q, .string k, .string n, .string d, .string t] w fun e w' => e = .returned R ∧ Duo P Bx W p q st w' := by
  obtain ⟨o1, o2, x1, x2, h3, h4, h5, h6, h7⟩ := h
  refine (C.seal' k n d t hk hn (by omega) (by omega) (Nat.zero_le _) (Nat.zero_le _) w h6 x2).mono ?_
  rintro e w' ⟨rfl, o', y1, y2, y3⟩
  have hb := y3.below h4 h7.size
  refine ⟨by rw [hR], o1, o', C.other x1 y3 (fun g g1 g2 => h5 g g1 g2), y1, h3, fun g hg => ?_, fun g hg hg2 => ?_, C.next hp0 (h7.trans hb), h7.trans hb⟩
  · rcases y2 g hg with e | e
    · exact h4 g e
    · have := h7.size; omega
  · rcases y2 g hg2 with e | e
    · exact h5 g hg e
    · have := C.lt x1 g hg; omega
include C in
theorem Duo.open1 (h : Duo P Bx W p q st w) (k n d s : ByteArray) (hk : k.size ≤ 1000) (hn : n.size ≤ 1000) (hd : d.size ≤ 1000) (hs : s.size ≤ 1000) (h1 : st.T.length ≤ 1000) (h2 : st.draws.size ≤ 1048576) {R : Value} (hR : bxOpenR st k n d s = R) :
    Calls Tryd.prog 11 #[p, .string k, .string n, .string d, .string s] w fun e w' => e = .returned R ∧ Duo P Bx W p q st w' := by
  obtain ⟨o1, o2, x1, x2, h3, h4, h5, h6, h7⟩ := h
  refine (C.open' k n d s hk hn (by omega) (by omega) h1 h2 w h6 x1).mono ?_
  rintro e w' ⟨rfl, hb⟩
  exact ⟨by rw [hR], Duo.next C ⟨o1, o2, x1, x2, h3, h4, h5, h6, h7⟩ hb⟩
include C in
theorem Duo.len1 (h : Duo P Bx W p q st w) (h1 : st.T.length ≤ 1000) {i : Int} (hi : (st.T.length : Int) = i) : Calls Tryd.prog 12 #[p] w fun e w' => e = .returned (.int .i64 i) ∧ Duo P Bx W p q st w' := by
  obtain ⟨o1, o2, x1, x2, h3, h4, h5, h6, h7⟩ := h
  refine (C.len h1 w h6 x1).mono ?_
  rintro e w' ⟨rfl, hb⟩
  exact ⟨by rw [hi], Duo.next C ⟨o1, o2, x1, x2, h3, h4, h5, h6, h7⟩ hb⟩
include C in
theorem Duo.len2 (h : Duo P Bx W p q st w) : Calls Tryd.prog 12 #[q] w fun e w' => e = .returned (.int .i64 0) ∧ Duo P Bx W p q st w' := by
  obtain ⟨o1, o2, x1, x2, h3, h4, h5, h6, h7⟩ := h
  refine (C.len (Nat.zero_le _) w h6 x2).mono ?_
  rintro e w' ⟨rfl, hb⟩
  exact ⟨rfl, Duo.next C ⟨o1, o2, x1, x2, h3, h4, h5, h6, h7⟩ hb⟩
include C in
theorem Duo.left1 (h : Duo P Bx W p q st w) (h1 : st.draws.size ≤ 1048576) {i : Int} (hi : (st.draws.size : Int) = i) : Calls Tryd.prog 13 #[p] w fun e w' => e = .returned (.int .i64 i) ∧ Duo P Bx W p q st w' := by
  obtain ⟨o1, o2, x1, x2, h3, h4, h5, h6, h7⟩ := h
  refine (C.left h1 w h6 x1).mono ?_
  rintro e w' ⟨rfl, hb⟩
  exact ⟨by rw [hi], Duo.next C ⟨o1, o2, x1, x2, h3, h4, h5, h6, h7⟩ hb⟩
include C in
theorem Duo.key (h : Duo P Bx W p q st w) (master domain : ByteArray) (hm : master.size ≤ 100) (hd : domain.size ≤ 500) (epoch : Nat) (he : epoch < 18446744073709551616) {R : Value} (hR : bxKeyR master domain epoch = R) :
    Calls Tryd.prog 15 #[.string master, .string domain, .int .u64 (epoch : Int)] w fun e w' => e = .returned R ∧ Duo P Bx W p q st w' := by
  refine (C.key master domain hm hd epoch he w h.pw).mono ?_
  rintro e w' ⟨rfl, hb⟩
  exact ⟨by rw [hR], h.next C hb⟩
end

def exDr : ByteArray := ⟨#[48, 49, 50, 51, 52, 53, 54, 55, 56, 57, 97, 98, 99, 100, 101, 102, 103, 104, 105, 106, 107, 108, 109, 110, 111, 112, 113, 114, 115, 116, 117, 118, 119, 120, 121, 122, 43, 45, 42, 47]⟩
def exSt : StB := afterB (idealB exDr) (zeros 32) (zeros 12) ⟨#[100]⟩ ⟨#[116, 101, 120, 116]⟩
theorem ex7_ok (d t : ByteArray) (hd : d.size ≤ 4096) (ht : t.size ≤ 16384) : sealOk (zeros 32) (zeros 12) d t := ⟨szB_mk (zeros_size 32) (zeros_size 12), hd, ht⟩
theorem ex7_new : newB (idealB exDr) ⟨#[116, 101, 120, 116]⟩ = ⟨#[48, 49, 50, 51, 52, 53, 54, 55, 56, 57, 97, 98, 99, 100, 101, 102, 103, 104, 105, 106]⟩ := by decide +kernel
theorem ex7_one : bxSeal (idealB exDr) (zeros 32) (zeros 12) ⟨#[100]⟩ ⟨#[116, 101, 120, 116]⟩ = (⟨#[48, 49, 50, 51, 52, 53, 54, 55, 56, 57, 97, 98, 99, 100, 101, 102, 103, 104, 105, 106]⟩, 0, exSt) := by
  rw [seal_new rfl (ex7_ok _ _ (by decide) (by decide)) rfl (by decide +kernel), ex7_new]; rfl
theorem ex7_find : findB exSt.T (zeros 32) (zeros 12) = some ⟨zeros 32, zeros 12, ⟨#[100]⟩, ⟨#[116, 101, 120, 116]⟩, newB (idealB exDr) ⟨#[116, 101, 120, 116]⟩⟩ := by
  show findB ([] ++ [_]) _ _ = _
  rw [findB_append, show sameB (zeros 32) (zeros 12) ⟨zeros 32, zeros 12, ⟨#[100]⟩, ⟨#[116, 101, 120, 116]⟩, newB (idealB exDr) ⟨#[116, 101, 120, 116]⟩⟩ = true from sameB_iff.2 ⟨rfl, rfl⟩]; rfl
theorem ex7_draws : exSt.draws.size = 20 := by decide +kernel
theorem ex7_two : bxSeal exSt (zeros 32) (zeros 12) ⟨#[100]⟩ ⟨#[116, 101, 120, 116]⟩ = (⟨#[48, 49, 50, 51, 52, 53, 54, 55, 56, 57, 97, 98, 99, 100, 101, 102, 103, 104, 105, 106]⟩, 0, exSt) := by
  rw [seal_again rfl (ex7_ok _ _ (by decide) (by decide)) ex7_find ⟨rfl, rfl⟩, ex7_new]
theorem ex7_three : bxSeal exSt (zeros 32) (zeros 12) ⟨#[100]⟩ ⟨#[111, 116, 104, 101, 114]⟩ = (⟨#[]⟩, 11, exSt) := by
  rw [seal_twice rfl (ex7_ok _ _ (by decide) (by decide)) ex7_find (by decide +kernel)]; rfl
theorem ex7_open : bxOpen exSt (zeros 32) (zeros 12) ⟨#[100]⟩ ⟨#[48, 49, 50, 51, 52, 53, 54, 55, 56, 57, 97, 98, 99, 100, 101, 102, 103, 104, 105, 106]⟩ = (⟨#[116, 101, 120, 116]⟩, 0) := by
  rw [open_row rfl ⟨szB_mk (zeros_size 32) (zeros_size 12), by decide, by decide, by decide⟩ ex7_find ⟨rfl, ex7_new⟩]
theorem ex7_shut : bxOpen exSt (zeros 32) (zeros 12) ⟨#[120]⟩ ⟨#[48, 49, 50, 51, 52, 53, 54, 55, 56, 57, 97, 98, 99, 100, 101, 102, 103, 104, 105, 106]⟩ = (⟨#[]⟩, 20) := by
  rw [open_other rfl ⟨szB_mk (zeros_size 32) (zeros_size 12), by decide, by decide, by decide⟩ ex7_find (by decide +kernel)]; rfl
theorem ex7_nonce : ¬ zeros 12 = ⟨#[97, 98, 99, 100, 101, 102, 103, 104, 105, 106, 107, 108]⟩ := by decide +kernel
theorem ex7_spent : bxSeal exSt (zeros 32) ⟨#[97, 98, 99, 100, 101, 102, 103, 104, 105, 106, 107, 108]⟩ ⟨#[]⟩ ⟨#[109, 117, 99, 104, 32, 109, 111, 114, 101]⟩ = (⟨#[]⟩, 21, exSt) := by
  have hf : findB exSt.T (zeros 32) ⟨#[97, 98, 99, 100, 101, 102, 103, 104, 105, 106, 107, 108]⟩ = none := by
    show findB ([] ++ [_]) _ _ = _
    rw [findB_append, show sameB (zeros 32) ⟨#[97, 98, 99, 100, 101, 102, 103, 104, 105, 106, 107, 108]⟩ ⟨zeros 32, zeros 12, ⟨#[100]⟩, ⟨#[116, 101, 120, 116]⟩, newB (idealB exDr) ⟨#[116, 101, 120, 116]⟩⟩ = false from Bool.eq_false_iff.2 (fun e => ex7_nonce (sameB_iff.1 e).2)]; rfl
  rw [seal_spent rfl ⟨szB_mk (zeros_size 32) (by decide), by decide, by decide⟩ hf (by rw [ex7_draws]; decide)]; rfl
theorem ex7_real : ∃ V : ByteArray, V.size = 16 ∧ bxSealR realB (zeros 32) (zeros 12) ⟨#[]⟩ ⟨#[]⟩ = .tuple #[.string V, .int .i64 0] := by
  have hok := ex7_ok ⟨#[]⟩ ⟨#[]⟩ (by decide) (by decide)
  refine ⟨sealB (zeros 32) (zeros 12) ⟨#[]⟩ ⟨#[]⟩, by rw [sealB_size]; rfl, ?_⟩
  rw [bxSealR, seal_real rfl, sealS, sealE, if_pos hok, if_pos hok]; rfl
theorem ex7_key (epoch : Nat) : ∃ K : ByteArray, K.size = 32 ∧ bxKeyR (zeros 32) ⟨#[97, 46, 98]⟩ epoch = .tuple #[.string K, .int .i64 0] := by
  refine ⟨bxKeyB (zeros 32) ⟨#[97, 46, 98]⟩ epoch, bxKeyB_size _ _ _, ?_⟩
  rw [bxKeyR, if_pos ⟨zeros_size 32, by decide⟩]; rfl
theorem ex7_nokey : bxKeyR ⟨#[]⟩ ⟨#[]⟩ 0 = .tuple #[.string ⟨#[]⟩, .int .i64 5] := by
  rw [bxKeyR, if_neg (fun h => absurd h.1 (by decide))]; rfl
theorem ex7_len : (exSt.T.length : Int) = 1 := rfl

set_option maxHeartbeats 4000000 in
set_option maxRecDepth 100000 in
theorem awake7_walk {P : World → Prop} {Bx : World → (Nat → Prop) → Value → StB → Prop} (C : BoxB P Bx) (W : World) (hp : P W) :
    Calls Tryd.prog 6 #[] W fun e w' => e = .returned (.bool true) ∧ Below W.heap.size W w' := by
  have HP := Lib.hid hp
  have HC := Lib.hid C
  clear hp C
  have HI := Lib.hid (fun w h => HC.out.ideal exDr (by decide) w h)
  rw [exDr] at HI
  go_enter Tryd.func6, Tryd.ntmps6
  go_wp2_with (first
    | (go_at_call 7; (with_reducible refine (HI.out _ HP.out).mono ?_); rintro e w1 ⟨p, own1, rfl, hbx1, hown1, hb1⟩; have HRl := Lib.hid (HC.out.real w1 (HC.out.next HP.out hb1)))
    | (go_at_call 14; (with_reducible refine HRl.out.mono ?_); rintro e w2 ⟨q, own2, rfl, hbx2, hown2, hb2⟩; obtain ⟨gp, hgp⟩ := HC.out.ptr hbx1; obtain ⟨gq, hgq⟩ := HC.out.ptr hbx2; subst hgp; subst hgq))
  have mk32 := makeZ 32 (by decide)
  have mk12 := makeZ 12 (by decide)
  rw [show ((32 : Nat) : Int) = 32 from rfl] at mk32
  rw [show ((12 : Nat) : Int) = 12 from rfl] at mk12
  have cvg : ∀ (n : Nat) {w : World} {g : Nat}, Arr w g (zrow n) 5 → (convert 42 9 (.slice (some ⟨g, 0, none⟩) n n)).run Tryd.prog w = .ok (.string (zeros n)) w := by
    intro n w g h
    have := conv_cells w ⟨g, 0, none⟩ (List.replicate n 0) n (fun j v hv => by
      rw [addr_add, Nat.zero_add]; exact h.cell (by rw [zrow, List.getElem?_toArray]; exact hv))
    rw [List.length_replicate] at this
    rw [this, zeros]; simp
  have sz1 : ∀ o, w2.heap.size + 1 = (w2.alloc o).heap.size := fun o => by show _ = (w2.heap.push _).size; simp
  have q1 := cvg 32 (Arr.new w2 (zrow 32) 5)
  have q2 := cvg 32 (Arr.new w2 (zrow 32) 5).drew
  have q3 := cvg 32 ((Arr.new w2 (zrow 32) 5).alloc (.cells (zrow 12) 5))
  have q4 := cvg 32 ((Arr.new w2 (zrow 32) 5).alloc (.cells (zrow 12) 5)).drew
  have q5 := cvg 32 ((Arr.new w2 (zrow 32) 5).drew.alloc (.cells (zrow 12) 5))
  have q6 := cvg 32 (Arr.newAt (w2.alloc (.cells (zrow 12) 5)) (zrow 32) 5 (sz1 _))
  have q7 := cvg 32 (Arr.newAt (w2.alloc (.cells (zrow 12) 5)) (zrow 32) 5 (sz1 _)).drew
  have q8 := cvg 32 (Arr.newAt (w2.alloc (.cells (zrow 12) 5)).drew (zrow 32) 5 (sz1 _))
  have q9 := cvg 32 (Arr.newAt (w2.alloc (.cells (zrow 12) 5)).drew (zrow 32) 5 (sz1 _)).drew
  have q10 := cvg 12 (Arr.new w2 (zrow 12) 5)
  have q11 := cvg 12 (Arr.new w2 (zrow 12) 5).drew
  have q12 := cvg 12 ((Arr.new w2 (zrow 12) 5).alloc (.cells (zrow 32) 5))
  have q13 := cvg 12 ((Arr.new w2 (zrow 12) 5).alloc (.cells (zrow 32) 5)).drew
  have q14 := cvg 12 ((Arr.new w2 (zrow 12) 5).drew.alloc (.cells (zrow 32) 5))
  have q15 := cvg 12 (Arr.newAt (w2.alloc (.cells (zrow 32) 5)) (zrow 12) 5 (sz1 _))
  have q16 := cvg 12 (Arr.newAt (w2.alloc (.cells (zrow 32) 5)) (zrow 12) 5 (sz1 _)).drew
  have q17 := cvg 12 (Arr.newAt (w2.alloc (.cells (zrow 32) 5)).drew (zrow 12) 5 (sz1 _))
  have q18 := cvg 12 (Arr.newAt (w2.alloc (.cells (zrow 32) 5)).drew (zrow 12) 5 (sz1 _)).drew
  clear cvg sz1
  have hlt1 := HC.out.lt hbx1
  have hd0 : Duo P Bx W (.pointer (some ⟨gp, 0, none⟩)) (.pointer (some ⟨gq, 0, none⟩)) (idealB exDr) w2 :=
    ⟨own1, own2, HC.out.nextB hbx1 hb2, hbx2, hown1, fun g h => Nat.le_trans hb1.size (hown2 g h), fun g h h2 => by have := hlt1 g h; have := hown2 g h2; omega, HC.out.next HP.out (hb1.trans (hb2.mono hb1.size)), hb1.trans (hb2.mono hb1.size)⟩
  have HD0 := Lib.hid hd0
  clear hd0 hbx1 hbx2 hown1 hown2 hb1 hb2 hlt1 HI HRl
  go_region
  · have HB0 := Lib.hid (((Below.refl w2.heap.size w2).alloc (Nat.le_refl _) (.cells (zrow 32) 5)).alloc (by show _ ≤ (w2.heap.push _).size; simp) (.cells (zrow 12) 5)).drew
    have HD := Lib.hid (HD0.out.next HC.out HB0.out)
    clear mk32 mk12 q1 q2 q3 q4 q5 q6 q7 q8 q9 q10 q11 q12 q13 q14 q15 q16 q17 q18 HB0 HD0
    generalize ((w2.alloc (.cells (zrow 32) 5)).alloc (.cells (zrow 12) 5)).drew = w3 at HD ⊢
    obtain ⟨V, hV, hVr⟩ := ex7_real
    obtain ⟨X1, hX1, hX1r⟩ := ex7_key 1
    obtain ⟨X2, hX2, hX2r⟩ := ex7_key 2
    have r1 : bxSealR (idealB exDr) (zeros 32) (zeros 12) ⟨#[100]⟩ ⟨#[116, 101, 120, 116]⟩ = .tuple #[.string ⟨#[48, 49, 50, 51, 52, 53, 54, 55, 56, 57, 97, 98, 99, 100, 101, 102, 103, 104, 105, 106]⟩, .int .i64 0] := by rw [bxSealR, ex7_one]; rfl
    have t1 : bxSealT (idealB exDr) (zeros 32) (zeros 12) ⟨#[100]⟩ ⟨#[116, 101, 120, 116]⟩ = exSt := by rw [bxSealT, ex7_one]
    have r2 : bxSealR exSt (zeros 32) (zeros 12) ⟨#[100]⟩ ⟨#[116, 101, 120, 116]⟩ = .tuple #[.string ⟨#[48, 49, 50, 51, 52, 53, 54, 55, 56, 57, 97, 98, 99, 100, 101, 102, 103, 104, 105, 106]⟩, .int .i64 0] := by rw [bxSealR, ex7_two]; rfl
    have t2 : bxSealT exSt (zeros 32) (zeros 12) ⟨#[100]⟩ ⟨#[116, 101, 120, 116]⟩ = exSt := by rw [bxSealT, ex7_two]
    have r3 : bxSealR exSt (zeros 32) (zeros 12) ⟨#[100]⟩ ⟨#[111, 116, 104, 101, 114]⟩ = .tuple #[.string ⟨#[]⟩, .int .i64 11] := by rw [bxSealR, ex7_three]; rfl
    have t3 : bxSealT exSt (zeros 32) (zeros 12) ⟨#[100]⟩ ⟨#[111, 116, 104, 101, 114]⟩ = exSt := by rw [bxSealT, ex7_three]
    have r4 : bxOpenR exSt (zeros 32) (zeros 12) ⟨#[100]⟩ ⟨#[48, 49, 50, 51, 52, 53, 54, 55, 56, 57, 97, 98, 99, 100, 101, 102, 103, 104, 105, 106]⟩ = .tuple #[.string ⟨#[116, 101, 120, 116]⟩, .int .i64 0] := by rw [bxOpenR, ex7_open]; rfl
    have r5 : bxOpenR exSt (zeros 32) (zeros 12) ⟨#[120]⟩ ⟨#[48, 49, 50, 51, 52, 53, 54, 55, 56, 57, 97, 98, 99, 100, 101, 102, 103, 104, 105, 106]⟩ = .tuple #[.string ⟨#[]⟩, .int .i64 20] := by rw [bxOpenR, ex7_shut]; rfl
    have r6 : bxSealR exSt (zeros 32) ⟨#[97, 98, 99, 100, 101, 102, 103, 104, 105, 106, 107, 108]⟩ ⟨#[]⟩ ⟨#[109, 117, 99, 104, 32, 109, 111, 114, 101]⟩ = .tuple #[.string ⟨#[]⟩, .int .i64 21] := by rw [bxSealR, ex7_spent]; rfl
    have t6 : bxSealT exSt (zeros 32) ⟨#[97, 98, 99, 100, 101, 102, 103, 104, 105, 106, 107, 108]⟩ ⟨#[]⟩ ⟨#[109, 117, 99, 104, 32, 109, 111, 114, 101]⟩ = exSt := by rw [bxSealT, ex7_spent]
    have hex : ((⟨#[48, 49, 50, 51, 52, 53, 54, 55, 56, 57, 97, 98, 99, 100, 101, 102, 103, 104, 105, 106, 107, 108, 109, 110, 111, 112, 113, 114, 115, 116, 117, 118, 119, 120, 121, 122, 43, 45, 42, 47]⟩ : ByteArray).extract 0 20).toList = [48, 49, 50, 51, 52, 53, 54, 55, 56, 57, 97, 98, 99, 100, 101, 102, 103, 104, 105, 106] := by decide +kernel
    have z32 := zeros_size 32
    have z12 := zeros_size 12
    have C1 := Lib.hid (fun w (h : Duo P Bx W (.pointer (some ⟨gp, 0, none⟩)) (.pointer (some ⟨gq, 0, none⟩)) (idealB exDr) w) => h.seal1 HC.out HP.out (zeros 32) (zeros 12) ⟨#[100]⟩ ⟨#[116, 101, 120, 116]⟩ (by omega) (by omega) (by decide) (by decide) (by decide) (by decide) r1 t1)
    have C2 := Lib.hid (fun w (h : Duo P Bx W (.pointer (some ⟨gp, 0, none⟩)) (.pointer (some ⟨gq, 0, none⟩)) exSt w) => h.seal1 HC.out HP.out (zeros 32) (zeros 12) ⟨#[100]⟩ ⟨#[116, 101, 120, 116]⟩ (by omega) (by omega) (by decide) (by decide) (by decide) (by rw [ex7_draws]; decide) r2 t2)
    have C3 := Lib.hid (fun w (h : Duo P Bx W (.pointer (some ⟨gp, 0, none⟩)) (.pointer (some ⟨gq, 0, none⟩)) exSt w) => h.seal1 HC.out HP.out (zeros 32) (zeros 12) ⟨#[100]⟩ ⟨#[111, 116, 104, 101, 114]⟩ (by omega) (by omega) (by decide) (by decide) (by decide) (by rw [ex7_draws]; decide) r3 t3)
    have C4 := Lib.hid (fun w (h : Duo P Bx W (.pointer (some ⟨gp, 0, none⟩)) (.pointer (some ⟨gq, 0, none⟩)) exSt w) => h.open1 HC.out (zeros 32) (zeros 12) ⟨#[100]⟩ ⟨#[48, 49, 50, 51, 52, 53, 54, 55, 56, 57, 97, 98, 99, 100, 101, 102, 103, 104, 105, 106]⟩ (by omega) (by omega) (by decide) (by decide) (by decide) (by rw [ex7_draws]; decide) r4)
    have C5 := Lib.hid (fun w (h : Duo P Bx W (.pointer (some ⟨gp, 0, none⟩)) (.pointer (some ⟨gq, 0, none⟩)) exSt w) => h.open1 HC.out (zeros 32) (zeros 12) ⟨#[120]⟩ ⟨#[48, 49, 50, 51, 52, 53, 54, 55, 56, 57, 97, 98, 99, 100, 101, 102, 103, 104, 105, 106]⟩ (by omega) (by omega) (by decide) (by decide) (by decide) (by rw [ex7_draws]; decide) r5)
    have C6 := Lib.hid (fun w (h : Duo P Bx W (.pointer (some ⟨gp, 0, none⟩)) (.pointer (some ⟨gq, 0, none⟩)) exSt w) => h.seal1 HC.out HP.out (zeros 32) ⟨#[97, 98, 99, 100, 101, 102, 103, 104, 105, 106, 107, 108]⟩ ⟨#[]⟩ ⟨#[109, 117, 99, 104, 32, 109, 111, 114, 101]⟩ (by omega) (by decide) (by decide) (by decide) (by decide) (by rw [ex7_draws]; decide) r6 t6)
    have C7 := Lib.hid (fun w (h : Duo P Bx W (.pointer (some ⟨gp, 0, none⟩)) (.pointer (some ⟨gq, 0, none⟩)) exSt w) => h.seal2 HC.out HP.out (zeros 32) (zeros 12) ⟨#[]⟩ ⟨#[]⟩ (by omega) (by omega) (by decide) (by decide) hVr)
    have c_ := (fun w (h : Duo P Bx W (.pointer (some ⟨gp, 0, none⟩)) (.pointer (some ⟨gq, 0, none⟩)) exSt w) => h.key HC.out (zeros 32) ⟨#[97, 46, 98]⟩ (by omega) (by decide) 1 (by decide) hX1r)
    rw [show ((1 : Nat) : Int) = 1 from rfl] at c_
    have C8 := Lib.hid c_
    clear c_
    have c_ := (fun w (h : Duo P Bx W (.pointer (some ⟨gp, 0, none⟩)) (.pointer (some ⟨gq, 0, none⟩)) exSt w) => h.key HC.out (zeros 32) ⟨#[97, 46, 98]⟩ (by omega) (by decide) 2 (by decide) hX2r)
    rw [show ((2 : Nat) : Int) = 2 from rfl] at c_
    have C9 := Lib.hid c_
    clear c_
    have c_ := (fun w (h : Duo P Bx W (.pointer (some ⟨gp, 0, none⟩)) (.pointer (some ⟨gq, 0, none⟩)) exSt w) => h.key HC.out ⟨#[]⟩ ⟨#[]⟩ (by decide) (by decide) 0 (by decide) ex7_nokey)
    rw [show ((0 : Nat) : Int) = 0 from rfl] at c_
    have C10 := Lib.hid c_
    clear c_
    have C11 := Lib.hid (fun w (h : Duo P Bx W (.pointer (some ⟨gp, 0, none⟩)) (.pointer (some ⟨gq, 0, none⟩)) exSt w) => h.len1 HC.out (by decide) ex7_len)
    have C12 := Lib.hid (fun w (h : Duo P Bx W (.pointer (some ⟨gp, 0, none⟩)) (.pointer (some ⟨gq, 0, none⟩)) exSt w) => h.left1 HC.out (by rw [ex7_draws]; decide) (i := 20) (by rw [ex7_draws]; rfl))
    have C13 := Lib.hid (fun w (h : Duo P Bx W (.pointer (some ⟨gp, 0, none⟩)) (.pointer (some ⟨gq, 0, none⟩)) exSt w) => h.len2 HC.out)
    have hVi : (V.size : Int) = 16 := by omega
    have hX1i : (X1.size : Int) = 32 := by omega
    have hX2i : (X2.size : Int) = 32 := by omega
    clear r1 t1 r2 t2 r3 t3 r4 r5 r6 t6 hVr hX1r hX2r hV hX1 hX2
    generalize zeros 32 = k0 at *
    generalize zeros 12 = n0 at *
    go_wp2_with (first
      | (go_at_call 10; (first
        | ((with_reducible refine (C1.out _ HD.out).mono ?_); rintro e w4 ⟨rfl, hd4⟩; have H4 := Lib.hid hd4; clear hd4)
        | ((with_reducible refine (C2.out _ H4.out).mono ?_); rintro e w5 ⟨rfl, hd5⟩; have H5 := Lib.hid hd5; clear hd5 H4)
        | ((with_reducible refine (C3.out _ H5.out).mono ?_); rintro e w6 ⟨rfl, hd6⟩; have H6 := Lib.hid hd6; clear hd6 H5)
        | ((with_reducible refine (C6.out _ H8.out).mono ?_); rintro e w9 ⟨rfl, hd9⟩; have H9 := Lib.hid hd9; clear hd9)
        | ((with_reducible refine (C7.out _ H9.out).mono ?_); rintro e w10 ⟨rfl, hd10⟩; have H10 := Lib.hid hd10; clear hd10)))
      | (go_at_call 11; (first
        | ((with_reducible refine (C4.out _ H6.out).mono ?_); rintro e w7 ⟨rfl, hd7⟩; have H7 := Lib.hid hd7; clear hd7)
        | ((with_reducible refine (C5.out _ H7.out).mono ?_); rintro e w8 ⟨rfl, hd8⟩; have H8 := Lib.hid hd8; clear hd8)))
      | (go_at_call 15; (first
        | ((with_reducible refine (C8.out _ H10.out).mono ?_); rintro e w11 ⟨rfl, hd11⟩; have H11 := Lib.hid hd11; clear hd11)
        | ((with_reducible refine (C9.out _ H11.out).mono ?_); rintro e w12 ⟨rfl, hd12⟩; have H12 := Lib.hid hd12; clear hd12)
        | ((with_reducible refine (C10.out _ H12.out).mono ?_); rintro e w13 ⟨rfl, hd13⟩; have H13 := Lib.hid hd13; clear hd13)))
      | (go_at_call 12; (first
        | ((with_reducible refine (C11.out _ H13.out).mono ?_); rintro e w14 ⟨rfl, hd14⟩; have H14 := Lib.hid hd14; clear hd14)
        | ((with_reducible refine (C13.out _ H15.out).mono ?_); rintro e w16 ⟨rfl, hd16⟩; have H16 := Lib.hid hd16; clear hd16)))
      | (go_at_call 13; (with_reducible refine (C12.out _ H14.out).mono ?_); rintro e w15 ⟨rfl, hd15⟩; have H15 := Lib.hid hd15; clear hd15))
    go_ret
    exact ⟨rfl, H16.out.below⟩
  · have HB0 := Lib.hid (((Below.refl w2.heap.size w2).alloc (Nat.le_refl _) (.cells (zrow 12) 5)).alloc (by show _ ≤ (w2.heap.push _).size; simp) (.cells (zrow 32) 5)).drew
    have HD := Lib.hid (HD0.out.next HC.out HB0.out)
    clear mk32 mk12 q1 q2 q3 q4 q5 q6 q7 q8 q9 q10 q11 q12 q13 q14 q15 q16 q17 q18 HB0 HD0
    generalize ((w2.alloc (.cells (zrow 12) 5)).alloc (.cells (zrow 32) 5)).drew = w3 at HD ⊢
    obtain ⟨V, hV, hVr⟩ := ex7_real
    obtain ⟨X1, hX1, hX1r⟩ := ex7_key 1
    obtain ⟨X2, hX2, hX2r⟩ := ex7_key 2
    have r1 : bxSealR (idealB exDr) (zeros 32) (zeros 12) ⟨#[100]⟩ ⟨#[116, 101, 120, 116]⟩ = .tuple #[.string ⟨#[48, 49, 50, 51, 52, 53, 54, 55, 56, 57, 97, 98, 99, 100, 101, 102, 103, 104, 105, 106]⟩, .int .i64 0] := by rw [bxSealR, ex7_one]; rfl
    have t1 : bxSealT (idealB exDr) (zeros 32) (zeros 12) ⟨#[100]⟩ ⟨#[116, 101, 120, 116]⟩ = exSt := by rw [bxSealT, ex7_one]
    have r2 : bxSealR exSt (zeros 32) (zeros 12) ⟨#[100]⟩ ⟨#[116, 101, 120, 116]⟩ = .tuple #[.string ⟨#[48, 49, 50, 51, 52, 53, 54, 55, 56, 57, 97, 98, 99, 100, 101, 102, 103, 104, 105, 106]⟩, .int .i64 0] := by rw [bxSealR, ex7_two]; rfl
    have t2 : bxSealT exSt (zeros 32) (zeros 12) ⟨#[100]⟩ ⟨#[116, 101, 120, 116]⟩ = exSt := by rw [bxSealT, ex7_two]
    have r3 : bxSealR exSt (zeros 32) (zeros 12) ⟨#[100]⟩ ⟨#[111, 116, 104, 101, 114]⟩ = .tuple #[.string ⟨#[]⟩, .int .i64 11] := by rw [bxSealR, ex7_three]; rfl
    have t3 : bxSealT exSt (zeros 32) (zeros 12) ⟨#[100]⟩ ⟨#[111, 116, 104, 101, 114]⟩ = exSt := by rw [bxSealT, ex7_three]
    have r4 : bxOpenR exSt (zeros 32) (zeros 12) ⟨#[100]⟩ ⟨#[48, 49, 50, 51, 52, 53, 54, 55, 56, 57, 97, 98, 99, 100, 101, 102, 103, 104, 105, 106]⟩ = .tuple #[.string ⟨#[116, 101, 120, 116]⟩, .int .i64 0] := by rw [bxOpenR, ex7_open]; rfl
    have r5 : bxOpenR exSt (zeros 32) (zeros 12) ⟨#[120]⟩ ⟨#[48, 49, 50, 51, 52, 53, 54, 55, 56, 57, 97, 98, 99, 100, 101, 102, 103, 104, 105, 106]⟩ = .tuple #[.string ⟨#[]⟩, .int .i64 20] := by rw [bxOpenR, ex7_shut]; rfl
    have r6 : bxSealR exSt (zeros 32) ⟨#[97, 98, 99, 100, 101, 102, 103, 104, 105, 106, 107, 108]⟩ ⟨#[]⟩ ⟨#[109, 117, 99, 104, 32, 109, 111, 114, 101]⟩ = .tuple #[.string ⟨#[]⟩, .int .i64 21] := by rw [bxSealR, ex7_spent]; rfl
    have t6 : bxSealT exSt (zeros 32) ⟨#[97, 98, 99, 100, 101, 102, 103, 104, 105, 106, 107, 108]⟩ ⟨#[]⟩ ⟨#[109, 117, 99, 104, 32, 109, 111, 114, 101]⟩ = exSt := by rw [bxSealT, ex7_spent]
    have hex : ((⟨#[48, 49, 50, 51, 52, 53, 54, 55, 56, 57, 97, 98, 99, 100, 101, 102, 103, 104, 105, 106, 107, 108, 109, 110, 111, 112, 113, 114, 115, 116, 117, 118, 119, 120, 121, 122, 43, 45, 42, 47]⟩ : ByteArray).extract 0 20).toList = [48, 49, 50, 51, 52, 53, 54, 55, 56, 57, 97, 98, 99, 100, 101, 102, 103, 104, 105, 106] := by decide +kernel
    have z32 := zeros_size 32
    have z12 := zeros_size 12
    have C1 := Lib.hid (fun w (h : Duo P Bx W (.pointer (some ⟨gp, 0, none⟩)) (.pointer (some ⟨gq, 0, none⟩)) (idealB exDr) w) => h.seal1 HC.out HP.out (zeros 32) (zeros 12) ⟨#[100]⟩ ⟨#[116, 101, 120, 116]⟩ (by omega) (by omega) (by decide) (by decide) (by decide) (by decide) r1 t1)
    have C2 := Lib.hid (fun w (h : Duo P Bx W (.pointer (some ⟨gp, 0, none⟩)) (.pointer (some ⟨gq, 0, none⟩)) exSt w) => h.seal1 HC.out HP.out (zeros 32) (zeros 12) ⟨#[100]⟩ ⟨#[116, 101, 120, 116]⟩ (by omega) (by omega) (by decide) (by decide) (by decide) (by rw [ex7_draws]; decide) r2 t2)
    have C3 := Lib.hid (fun w (h : Duo P Bx W (.pointer (some ⟨gp, 0, none⟩)) (.pointer (some ⟨gq, 0, none⟩)) exSt w) => h.seal1 HC.out HP.out (zeros 32) (zeros 12) ⟨#[100]⟩ ⟨#[111, 116, 104, 101, 114]⟩ (by omega) (by omega) (by decide) (by decide) (by decide) (by rw [ex7_draws]; decide) r3 t3)
    have C4 := Lib.hid (fun w (h : Duo P Bx W (.pointer (some ⟨gp, 0, none⟩)) (.pointer (some ⟨gq, 0, none⟩)) exSt w) => h.open1 HC.out (zeros 32) (zeros 12) ⟨#[100]⟩ ⟨#[48, 49, 50, 51, 52, 53, 54, 55, 56, 57, 97, 98, 99, 100, 101, 102, 103, 104, 105, 106]⟩ (by omega) (by omega) (by decide) (by decide) (by decide) (by rw [ex7_draws]; decide) r4)
    have C5 := Lib.hid (fun w (h : Duo P Bx W (.pointer (some ⟨gp, 0, none⟩)) (.pointer (some ⟨gq, 0, none⟩)) exSt w) => h.open1 HC.out (zeros 32) (zeros 12) ⟨#[120]⟩ ⟨#[48, 49, 50, 51, 52, 53, 54, 55, 56, 57, 97, 98, 99, 100, 101, 102, 103, 104, 105, 106]⟩ (by omega) (by omega) (by decide) (by decide) (by decide) (by rw [ex7_draws]; decide) r5)
    have C6 := Lib.hid (fun w (h : Duo P Bx W (.pointer (some ⟨gp, 0, none⟩)) (.pointer (some ⟨gq, 0, none⟩)) exSt w) => h.seal1 HC.out HP.out (zeros 32) ⟨#[97, 98, 99, 100, 101, 102, 103, 104, 105, 106, 107, 108]⟩ ⟨#[]⟩ ⟨#[109, 117, 99, 104, 32, 109, 111, 114, 101]⟩ (by omega) (by decide) (by decide) (by decide) (by decide) (by rw [ex7_draws]; decide) r6 t6)
    have C7 := Lib.hid (fun w (h : Duo P Bx W (.pointer (some ⟨gp, 0, none⟩)) (.pointer (some ⟨gq, 0, none⟩)) exSt w) => h.seal2 HC.out HP.out (zeros 32) (zeros 12) ⟨#[]⟩ ⟨#[]⟩ (by omega) (by omega) (by decide) (by decide) hVr)
    have c_ := (fun w (h : Duo P Bx W (.pointer (some ⟨gp, 0, none⟩)) (.pointer (some ⟨gq, 0, none⟩)) exSt w) => h.key HC.out (zeros 32) ⟨#[97, 46, 98]⟩ (by omega) (by decide) 1 (by decide) hX1r)
    rw [show ((1 : Nat) : Int) = 1 from rfl] at c_
    have C8 := Lib.hid c_
    clear c_
    have c_ := (fun w (h : Duo P Bx W (.pointer (some ⟨gp, 0, none⟩)) (.pointer (some ⟨gq, 0, none⟩)) exSt w) => h.key HC.out (zeros 32) ⟨#[97, 46, 98]⟩ (by omega) (by decide) 2 (by decide) hX2r)
    rw [show ((2 : Nat) : Int) = 2 from rfl] at c_
    have C9 := Lib.hid c_
    clear c_
    have c_ := (fun w (h : Duo P Bx W (.pointer (some ⟨gp, 0, none⟩)) (.pointer (some ⟨gq, 0, none⟩)) exSt w) => h.key HC.out ⟨#[]⟩ ⟨#[]⟩ (by decide) (by decide) 0 (by decide) ex7_nokey)
    rw [show ((0 : Nat) : Int) = 0 from rfl] at c_
    have C10 := Lib.hid c_
    clear c_
    have C11 := Lib.hid (fun w (h : Duo P Bx W (.pointer (some ⟨gp, 0, none⟩)) (.pointer (some ⟨gq, 0, none⟩)) exSt w) => h.len1 HC.out (by decide) ex7_len)
    have C12 := Lib.hid (fun w (h : Duo P Bx W (.pointer (some ⟨gp, 0, none⟩)) (.pointer (some ⟨gq, 0, none⟩)) exSt w) => h.left1 HC.out (by rw [ex7_draws]; decide) (i := 20) (by rw [ex7_draws]; rfl))
    have C13 := Lib.hid (fun w (h : Duo P Bx W (.pointer (some ⟨gp, 0, none⟩)) (.pointer (some ⟨gq, 0, none⟩)) exSt w) => h.len2 HC.out)
    have hVi : (V.size : Int) = 16 := by omega
    have hX1i : (X1.size : Int) = 32 := by omega
    have hX2i : (X2.size : Int) = 32 := by omega
    clear r1 t1 r2 t2 r3 t3 r4 r5 r6 t6 hVr hX1r hX2r hV hX1 hX2
    generalize zeros 32 = k0 at *
    generalize zeros 12 = n0 at *
    go_wp2_with (first
      | (go_at_call 10; (first
        | ((with_reducible refine (C1.out _ HD.out).mono ?_); rintro e w4 ⟨rfl, hd4⟩; have H4 := Lib.hid hd4; clear hd4)
        | ((with_reducible refine (C2.out _ H4.out).mono ?_); rintro e w5 ⟨rfl, hd5⟩; have H5 := Lib.hid hd5; clear hd5 H4)
        | ((with_reducible refine (C3.out _ H5.out).mono ?_); rintro e w6 ⟨rfl, hd6⟩; have H6 := Lib.hid hd6; clear hd6 H5)
        | ((with_reducible refine (C6.out _ H8.out).mono ?_); rintro e w9 ⟨rfl, hd9⟩; have H9 := Lib.hid hd9; clear hd9)
        | ((with_reducible refine (C7.out _ H9.out).mono ?_); rintro e w10 ⟨rfl, hd10⟩; have H10 := Lib.hid hd10; clear hd10)))
      | (go_at_call 11; (first
        | ((with_reducible refine (C4.out _ H6.out).mono ?_); rintro e w7 ⟨rfl, hd7⟩; have H7 := Lib.hid hd7; clear hd7)
        | ((with_reducible refine (C5.out _ H7.out).mono ?_); rintro e w8 ⟨rfl, hd8⟩; have H8 := Lib.hid hd8; clear hd8)))
      | (go_at_call 15; (first
        | ((with_reducible refine (C8.out _ H10.out).mono ?_); rintro e w11 ⟨rfl, hd11⟩; have H11 := Lib.hid hd11; clear hd11)
        | ((with_reducible refine (C9.out _ H11.out).mono ?_); rintro e w12 ⟨rfl, hd12⟩; have H12 := Lib.hid hd12; clear hd12)
        | ((with_reducible refine (C10.out _ H12.out).mono ?_); rintro e w13 ⟨rfl, hd13⟩; have H13 := Lib.hid hd13; clear hd13)))
      | (go_at_call 12; (first
        | ((with_reducible refine (C11.out _ H13.out).mono ?_); rintro e w14 ⟨rfl, hd14⟩; have H14 := Lib.hid hd14; clear hd14)
        | ((with_reducible refine (C13.out _ H15.out).mono ?_); rintro e w16 ⟨rfl, hd16⟩; have H16 := Lib.hid hd16; clear hd16)))
      | (go_at_call 13; (with_reducible refine (C12.out _ H14.out).mono ?_); rintro e w15 ⟨rfl, hd15⟩; have H15 := Lib.hid hd15; clear hd15))
    go_ret
    exact ⟨rfl, H16.out.below⟩
end Go.Proofs.YtfflpooiebeagaaDoor
