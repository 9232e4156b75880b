/- The document's own layer 7: Seal and Open. -/
import Derived.Test.YtfflpooiebeagaaGreatDoorR7A
import Derived.Test.YtfflpooiebeagaaGreatDoorM7
import Derived.Maps.AppendAt
import Derived.Laws.AppendOwnNone
namespace Go.Proofs.YtfflpooiebeagaaGreatDoor
open Go.RowKit

theorem infoRow : (Tryz.prog.info? 55).map (fun i => (i.zero, i.size, i.bytes)) = some (some (.agg #[.string ⟨#[]⟩, .string ⟨#[]⟩, .string ⟨#[]⟩, .string ⟨#[]⟩, .string ⟨#[]⟩]), 5, 80) := by kernel_rfl
/-- The cells of a row that is there. -/
theorem row_cells {w : World} {T : List RowB} {hb n cap : Nat} (hown : w.ownsRow 0 55 5 (.slice (some ⟨hb, 0, none⟩) n cap) T.length (rowsC T)) {i : Nat} {r : RowB} (hi : T[i]? = some r) :
    w.cell? ⟨hb, i * 5 + 2, none⟩ = some (.string r.d) ∧ w.cell? ⟨hb, i * 5 + 3, none⟩ = some (.string r.t) ∧ w.cell? ⟨hb, i * 5 + 4, none⟩ = some (.string r.s) := by
  have hcell := hown.cells (g := hb) rfl
  have e2 := hcell (i * 5 + 2) _ (rowsC_get hi (f := 2) (by omega))
  have e3 := hcell (i * 5 + 3) _ (rowsC_get hi (f := 3) (by omega))
  have e4 := hcell (i * 5 + 4) _ (rowsC_get hi (f := 4) (by omega))
  rw [Addr.add_mid, Nat.zero_add] at e2 e3 e4
  exact ⟨e2, e3, e4⟩
theorem rows_at {w : World} {tv : Value} {T : List RowB} (hown : w.ownsRow 0 55 5 tv T.length (rowsC T)) (hT : 0 < T.length) : ∃ hb cap, tv = .slice (some ⟨hb, 0, none⟩) T.length cap ∧ T.length ≤ cap := by
  rcases hown.2 with ⟨_, h0⟩ | ⟨hb, cap, cur, rfl, _, _, hnc, _⟩
  · omega
  · exact ⟨hb, cap, rfl, hnc⟩

theorem noOpen7 {k n d s : ByteArray} (h : ¬ openOk k n d s) : ¬ k.size = 32 ∨ (k.size = 32 ∧ ¬ n.size = 12) ∨ (k.size = 32 ∧ n.size = 12 ∧ 4096 < d.size) ∨ (k.size = 32 ∧ n.size = 12 ∧ ¬ 4096 < d.size ∧ s.size < 16) ∨ (k.size = 32 ∧ n.size = 12 ∧ ¬ 4096 < d.size ∧ ¬ s.size < 16 ∧ 16400 < s.size) := by
  by_cases h1 : k.size = 32
  · by_cases h2 : n.size = 12
    · by_cases h3 : 4096 < d.size
      · exact .inr (.inr (.inl ⟨h1, h2, h3⟩))
      · by_cases h4 : s.size < 16
        · exact .inr (.inr (.inr (.inl ⟨h1, h2, h3, h4⟩)))
        · by_cases h5 : 16400 < s.size
          · exact .inr (.inr (.inr (.inr ⟨h1, h2, h3, h4, h5⟩)))
          · exact absurd ⟨szB_mk h1 h2, by omega, by omega, by omega⟩ h
    · exact .inr (.inl ⟨h1, h2⟩)
  · exact .inl h1
theorem noSeal7 {k n d t : ByteArray} (h : ¬ sealOk k n d t) : ¬ k.size = 32 ∨ (k.size = 32 ∧ ¬ n.size = 12) ∨ (k.size = 32 ∧ n.size = 12 ∧ 4096 < d.size) ∨ (k.size = 32 ∧ n.size = 12 ∧ ¬ 4096 < d.size ∧ 16384 < t.size) := by
  by_cases h1 : k.size = 32
  · by_cases h2 : n.size = 12
    · by_cases h3 : 4096 < d.size
      · exact .inr (.inr (.inl ⟨h1, h2, h3⟩))
      · by_cases h4 : 16384 < t.size
        · exact .inr (.inr (.inr ⟨h1, h2, h3, h4⟩))
        · exact absurd ⟨szB_mk h1 h2, by omega, by omega⟩ h
    · exact .inr (.inl ⟨h1, h2⟩)
  · exact .inl h1
set_option maxHeartbeats 2000000 in
theorem ropen7_any (own : Nat → Prop) (g : Nat) (st : StB) (hlen : st.T.length ≤ 1000) (k n d s : ByteArray) (hs63 : s.size ≤ 9223372036854775807) (w : World) (h : RBx w own g st) :
    Calls Tryz.prog 14 #[.pointer (some ⟨g, 0, none⟩), .string k, .string n, .string d, .string s] w fun e w' => e = .returned (bxOpenR st k n d s) ∧ Below w.heap.size w w' := by
  have HF := Lib.hid (rfind_any own g st hlen k n w h)
  obtain ⟨h0, tv, hg, hown, _⟩ := h
  have c0 := hg.cell (j := 0) (v := .bool st.ideal) rfl
  have c2 := hg.cell (j := 2) (v := tv) rfl
  cases hi : st.ideal
  · have hR : bxOpenR st k n d s = .tuple #[.string (openS k n d s), .int .i64 (openE k n d s)] := by rw [bxOpenR, open_real hi]; rfl
    rw [hR]
    have HO := Lib.hid (ropen_any k n d s hs63 w)
    rw [openR] at HO
    rw [hi] at c0
    generalize openS k n d s = OS at *
    generalize openE k n d s = OE at *
    clear hR hown
    go_enter Tryz.func14, Tryz.ntmps14
    go_wp2_with (first
      | (go_at_call 25; (with_reducible refine HO.out.mono ?_); rintro e w1 ⟨rfl, hb1⟩))
    go_ret2
    exact ⟨rfl, hb1⟩
  rw [hi] at c0
  by_cases ho : openOk k n d s
  · obtain ⟨hz, hd, hs1, hs2⟩ := ho
    obtain ⟨hk, hn⟩ := szB_yes hz
    have b1 : (k.size : Int) = 32 := by omega
    have b2 : (n.size : Int) = 12 := by omega
    have b3 : decide (4096 < (d.size : Int)) = false := decide_eq_false (by omega)
    have b4 : decide ((s.size : Int) < 16) = false := decide_eq_false (by omega)
    have b5 : decide (16400 < (s.size : Int)) = false := decide_eq_false (by omega)
    cases hf : findB st.T k n with
    | none =>
      have hR : bxOpenR st k n d s = .tuple #[.string ⟨#[]⟩, .int .i64 20] := by rw [bxOpenR, open_none hi ⟨hz, hd, hs1, hs2⟩ hf]; rfl
      rw [hR]
      rw [idxB_none hf] at HF
      clear hR hown hz hd hs1 hs2 hk hn hf
      go_enter Tryz.func14, Tryz.ntmps14
      go_wp2_with (first
        | (go_at_call 23; (with_reducible refine HF.out.mono ?_); rintro e w' ⟨rfl, rfl⟩))
      go_ret2
      exact ⟨rfl, Below.refl _ _⟩
    | some r =>
      obtain ⟨i, hix, hri, hil⟩ := idxB_some hf
      obtain ⟨hb, cap, rfl, hnc⟩ := rows_at hown (by omega)
      obtain ⟨r2, r3, r4⟩ := row_cells hown hri
      rw [hix] at HF
      have hi0 : ¬ (i : Int) < 0 := by omega
      have hi1 : (0 : Int) ≤ (i : Int) := by omega
      have hil' : (i : Int) < (st.T.length : Int) := by omega
      by_cases hrd : r.d = d
      · have q1 : (r.d.toList == d.toList) = true := by rw [tl7r]; exact decide_eq_true hrd
        by_cases hrs : r.s = s
        · have q2 : (r.s.toList == s.toList) = true := by rw [tl7r]; exact decide_eq_true hrs
          have hR : bxOpenR st k n d s = .tuple #[.string r.t, .int .i64 0] := by rw [bxOpenR, open_row hi ⟨hz, hd, hs1, hs2⟩ hf ⟨hrd, hrs⟩]; rfl
          rw [hR]
          clear hR hown hz hd hs1 hs2 hk hn hf hrd hrs
          go_enter Tryz.func14, Tryz.ntmps14
          go_wp2_with (first
            | (go_at_call 23; (with_reducible refine HF.out.mono ?_); rintro e w' ⟨rfl, rfl⟩))
          go_ret2
          exact ⟨rfl, Below.refl _ _⟩
        · have q2 : (r.s.toList == s.toList) = false := by rw [tl7r]; exact decide_eq_false hrs
          have hR : bxOpenR st k n d s = .tuple #[.string ⟨#[]⟩, .int .i64 20] := by rw [bxOpenR, open_other hi ⟨hz, hd, hs1, hs2⟩ hf (fun h => hrs h.2)]; rfl
          rw [hR]
          clear hR hown hz hd hs1 hs2 hk hn hf hrd hrs
          go_enter Tryz.func14, Tryz.ntmps14
          go_wp2_with (first
            | (go_at_call 23; (with_reducible refine HF.out.mono ?_); rintro e w' ⟨rfl, rfl⟩))
          go_ret2
          exact ⟨rfl, Below.refl _ _⟩
      · have q1 : (r.d.toList == d.toList) = false := by rw [tl7r]; exact decide_eq_false hrd
        have hR : bxOpenR st k n d s = .tuple #[.string ⟨#[]⟩, .int .i64 20] := by rw [bxOpenR, open_other hi ⟨hz, hd, hs1, hs2⟩ hf (fun h => hrd h.1)]; rfl
        rw [hR]
        clear hR hown hz hd hs1 hs2 hk hn hf hrd
        go_enter Tryz.func14, Tryz.ntmps14
        go_wp2_with (first
          | (go_at_call 23; (with_reducible refine HF.out.mono ?_); rintro e w' ⟨rfl, rfl⟩))
        go_ret2
        exact ⟨rfl, Below.refl _ _⟩
  · have hR : bxOpenR st k n d s = .tuple #[.string ⟨#[]⟩, .int .i64 5] := by rw [bxOpenR, open_size hi ho]; rfl
    rw [hR]
    clear hR hown
    rcases noOpen7 ho with h1 | ⟨h1, h2⟩ | ⟨h1, h2, h3⟩ | ⟨h1, h2, h3, h4⟩ | ⟨h1, h2, h3, h4, h5⟩
    · have b1 : ¬ (k.size : Int) = 32 := by omega
      clear ho
      go_enter Tryz.func14, Tryz.ntmps14
      go_wp2
      go_ret2
      exact ⟨rfl, Below.refl _ _⟩
    · have b1 : (k.size : Int) = 32 := by omega
      have b2 : ¬ (n.size : Int) = 12 := by omega
      clear ho
      go_enter Tryz.func14, Tryz.ntmps14
      go_wp2
      go_ret2
      exact ⟨rfl, Below.refl _ _⟩
    · have b1 : (k.size : Int) = 32 := by omega
      have b2 : (n.size : Int) = 12 := by omega
      have b3 : decide (4096 < (d.size : Int)) = true := decide_eq_true (by omega)
      clear ho
      go_enter Tryz.func14, Tryz.ntmps14
      go_wp2
      go_ret2
      exact ⟨rfl, Below.refl _ _⟩
    · have b1 : (k.size : Int) = 32 := by omega
      have b2 : (n.size : Int) = 12 := by omega
      have b3 : decide (4096 < (d.size : Int)) = false := decide_eq_false (by omega)
      have b4 : decide ((s.size : Int) < 16) = true := decide_eq_true (by omega)
      clear ho
      go_enter Tryz.func14, Tryz.ntmps14
      go_wp2
      go_ret2
      exact ⟨rfl, Below.refl _ _⟩
    · have b1 : (k.size : Int) = 32 := by omega
      have b2 : (n.size : Int) = 12 := by omega
      have b3 : decide (4096 < (d.size : Int)) = false := decide_eq_false (by omega)
      have b4 : decide ((s.size : Int) < 16) = false := decide_eq_false (by omega)
      have b5 : decide (16400 < (s.size : Int)) = true := decide_eq_true (by omega)
      clear ho
      go_enter Tryz.func14, Tryz.ntmps14
      go_wp2
      go_ret2
      exact ⟨rfl, Below.refl _ _⟩

theorem ownsRow_base0 {w : World} {B : Nat} {v : Value} {n sz : Nat} {xs : List Value} {e : TypeId} (h : w.ownsRow B e sz v n xs) : w.ownsRow 0 e sz v n xs := by
  refine ⟨h.1, ?_⟩
  rcases h.2 with hn | ⟨g, cap, cur, rfl, hb, rest⟩
  · exact .inl hn
  · exact .inr ⟨g, cap, cur, rfl, Nat.zero_le _, rest⟩
theorem rowC_one (r : RowB) : ∀ u ∈ rowC r, u.oneCell' = true := by
  intro u h
  simp only [rowC, List.mem_cons, List.not_mem_nil, or_false] at h
  rcases h with rfl | rfl | rfl | rfl | rfl <;> rfl
theorem row_new (w' : World) (B : Nat) (hw : B = w'.heap.size) (k n d t s : ByteArray) : ∀ j u, (rowC ⟨k, n, d, t, s⟩)[j]? = some u → (w'.alloc (.cells #[.string k, .string n, .string d, .string t, .string s] 55)).cell? ((⟨B, 0, none⟩ : Addr).add j) = some u := by
  intro j u hj
  subst hw
  rw [Addr.add_mid, Nat.zero_add]
  exact (Arr.new w' _ _).cell (by rw [← Array.getElem?_toList]; exact hj)
/-- What the reference's Seal leaves. -/
def SealP (own : Nat → Prop) (g : Nat) (st' : StB) (w w' : World) : Prop := ∃ own' : Nat → Prop, RBx w' own' g st' ∧ (∀ h, own' h → own h ∨ w.heap.size ≤ h) ∧ Fro own w w'
theorem SealP.same {own : Nat → Prop} {g : Nat} {st : StB} {w w' : World} (h : RBx w own g st) (hlt : ∀ h, own h → h < w.heap.size) (hb : Below w.heap.size w w') : SealP own g st w w' :=
  ⟨own, h.keep fun h h1 => hb.block h (hlt h h1), fun _ h => .inl h, Fro.of_below hb⟩
theorem rseal_end (own : Nat → Prop) (g : Nat) (st : StB) (k n d t NW DR : ByteArray) (tv : Value) (w : World) (hgl : g < w.heap.size) (h0 : own g) {W2 : World} (hA2 : Arr W2 g #[.bool true, .string DR, tv] 29) (hW2s : W2.heap.size = w.heap.size + 1) (hW2k : ∀ h, h < w.heap.size → h ≠ g → W2.heap[h]? = w.heap[h]?) (hos : W2.os = w.os) (htp : W2.tape = w.tape) (hop : W2.output = w.output)
    (w3 w5 : World) (v1 v2 : Value) (gr : W2.grownBy w3 (some w.heap.size)) (o1 : w3.ownsRow w.heap.size 55 5 v1 st.T.length (rowsC st.T)) (gr2 : (w3.alloc (.cells #[.string k, .string n, .string d, .string t, .string NW] 55)).grownBy w5 v1.ownBlock) (o2 : w5.ownsRow w.heap.size 55 5 v2 (st.T.length + 1) (rowsC st.T ++ rowC ⟨k, n, d, t, NW⟩)) :
    w5.cell? ⟨g, 2, none⟩ = some tv ∧ w5.frozen? ⟨g, 2, none⟩ = false ∧ SealP own g ⟨true, DR, st.T ++ [⟨k, n, d, t, NW⟩]⟩ w (w5.setCell ⟨g, 2, none⟩ v2) := by
  have hg3 : Arr w3 g #[.bool true, .string DR, tv] 29 := (gr.block g (by omega) (fun e => by injection e with e; omega)).trans hA2
  have hg4 := hg3.alloc (.cells #[.string k, .string n, .string d, .string t, .string NW] 55)
  have hg5 : Arr w5 g #[.bool true, .string DR, tv] 29 := (gr2.block g (Arr.lt hg4) (fun e => by have := (o1.lt g e.symm).1; omega)).trans hg4
  have hg6 := hg5.set 2 v2
  refine ⟨hg5.cell rfl, hg5.frozen 2, fun h => h = g ∨ v2.ownBlock = some h, ⟨.inl rfl, v2, hg6, ?_, fun h => by simp at h, fun h e => .inr e⟩, ?_, ⟨?_, ?_, ?_, ?_, ?_⟩⟩
  · have e1 : (st.T ++ [(⟨k, n, d, t, NW⟩ : RowB)]).length = st.T.length + 1 := by rw [List.length_append]; rfl
    have e2 : rowsC (st.T ++ [⟨k, n, d, t, NW⟩]) = rowsC st.T ++ rowC ⟨k, n, d, t, NW⟩ := by rw [rowsC_append, rowsC, rowsC, List.append_nil]
    show (w5.setCell ⟨g, 2, none⟩ v2).ownsRow 0 55 5 v2 (st.T ++ [(⟨k, n, d, t, NW⟩ : RowB)]).length (rowsC (st.T ++ [⟨k, n, d, t, NW⟩]))
    rw [e1, e2]
    exact ownsRow_of5 (ownsRow_base0 o2) fun h e => Below.heap_setCell _ _ _ _ (by have := (o2.lt h e).1; show h ≠ g; omega)
  · rintro h (rfl | e)
    · exact .inl h0
    · exact .inr (o2.lt h e).1
  · exact gr2.os.trans (gr.os.trans hos)
  · exact gr2.tape.trans (gr.tape.trans htp)
  · exact gr2.output.trans (gr.output.trans hop)
  · have h1 := gr.size
    have h2 := gr2.size
    have h3 : (w3.alloc (.cells #[.string k, .string n, .string d, .string t, .string NW] 55)).heap.size = w3.heap.size + 1 := Array.size_push _
    have h4 : (w5.setCell ⟨g, 2, none⟩ v2).heap.size = w5.heap.size := by simp [World.setCell]
    omega
  · intro h h1 h2
    have hne : h ≠ g := fun e => h2 (e ▸ h0)
    have h3 : (w3.alloc (.cells #[.string k, .string n, .string d, .string t, .string NW] 55)).heap.size = w3.heap.size + 1 := Array.size_push _
    have h4 := gr.size
    refine (Below.heap_setCell _ _ _ _ hne).trans ((gr2.block h (by omega) (fun e => by have := (o1.lt h e.symm).1; omega)).trans ((Lib.alloc_old _ _ h (by omega)).trans ((gr.block h (by omega) (fun e => by injection e with e; omega)).trans (hW2k h h1 hne))))
theorem RBx.lt {w : World} {own : Nat → Prop} {g : Nat} {st : StB} (h : RBx w own g st) : ∃ own' : Nat → Prop, RBx w own' g st ∧ (∀ h, own' h → own h) ∧ ∀ h, own' h → h < w.heap.size := by
  obtain ⟨h0, tv, h1, h2, h3⟩ := h
  refine ⟨fun h => h = g ∨ tv.ownBlock = some h, ⟨.inl rfl, tv, h1, h2, h3.1, fun h e => .inr e⟩, ?_, ?_⟩
  · rintro h (rfl | e)
    · exact h0
    · exact h3.2 h e
  · rintro h (rfl | e)
    · exact Arr.lt h1
    · exact (h2.lt h e).2
set_option maxHeartbeats 4000000 in
set_option maxRecDepth 100000 in
theorem rseal7_any (own : Nat → Prop) (g : Nat) (st : StB) (hlen : st.T.length ≤ 1000) (_ : st.draws.size ≤ 1048576) (k n d t : ByteArray) (ht : t.size ≤ 1048576) (w : World) (h : RBx w own g st) (hlt : ∀ h, own h → h < w.heap.size) :
    Calls Tryz.prog 12 #[.pointer (some ⟨g, 0, none⟩), .string k, .string n, .string d, .string t] w fun e w' => e = .returned (bxSealR st k n d t) ∧ SealP own g (bxSealT st k n d t) w w' := by
  have HF := Lib.hid (rfind_any own g st hlen k n w h)
  have HW := Lib.hid h
  have HLt := Lib.hid hlt
  obtain ⟨h0, tv, hg, hown, hnil, hob⟩ := h
  have c0 := hg.cell (j := 0) (v := .bool st.ideal) rfl
  have c1 := hg.cell (j := 1) (v := .string st.draws) rfl
  have c2 := hg.cell (j := 2) (v := tv) rfl
  have f1 := hg.frozen 1
  have f2 := hg.frozen 2
  cases hi : st.ideal
  · have hR : bxSealR st k n d t = .tuple #[.string (sealS k n d t), .int .i64 (sealE k n d t)] := by rw [bxSealR, seal_real hi]; rfl
    have hT : bxSealT st k n d t = st := by rw [bxSealT, seal_real hi]
    rw [hR, hT]
    have HO := Lib.hid (rseal_any k n d t w)
    rw [sealR] at HO
    rw [hi] at c0
    generalize sealS k n d t = OS at *
    generalize sealE k n d t = OE at *
    clear hR hT hown hlt
    go_enter Tryz.func12, Tryz.ntmps12
    go_wp2_with (first
      | (go_at_call 19; (with_reducible refine HO.out.mono ?_); rintro e w1 ⟨rfl, hb1⟩))
    go_ret2
    exact ⟨rfl, SealP.same HW.out HLt.out hb1⟩
  rw [hi] at c0
  by_cases ho : sealOk k n d t
  · obtain ⟨hz, hd, hs1⟩ := ho
    obtain ⟨hk, hn⟩ := szB_yes hz
    have b1 : (k.size : Int) = 32 := by omega
    have b2 : (n.size : Int) = 12 := by omega
    have b3 : decide (4096 < (d.size : Int)) = false := decide_eq_false (by omega)
    have b4 : decide (16384 < (t.size : Int)) = false := decide_eq_false (by omega)
    cases hf : findB st.T k n with
    | some r =>
      obtain ⟨i, hix, hri, hil⟩ := idxB_some hf
      obtain ⟨hb, cap, rfl, hnc⟩ := rows_at hown (by omega)
      obtain ⟨r2, r3, r4⟩ := row_cells hown hri
      rw [hix] at HF
      have hi0 : ¬ (i : Int) < 0 := by omega
      have hi1 : (0 : Int) ≤ (i : Int) := by omega
      have hil' : (i : Int) < (st.T.length : Int) := by omega
      by_cases hrd : r.d = d
      · have q1 : (r.d.toList == d.toList) = true := by rw [tl7r]; exact decide_eq_true hrd
        by_cases hrt : r.t = t
        · have q2 : (r.t.toList == t.toList) = true := by rw [tl7r]; exact decide_eq_true hrt
          have hE := seal_again hi ⟨hz, hd, hs1⟩ hf ⟨hrd, hrt⟩
          have hR : bxSealR st k n d t = .tuple #[.string r.s, .int .i64 0] := by rw [bxSealR, hE]; rfl
          have hT : bxSealT st k n d t = st := by rw [bxSealT, hE]
          rw [hR, hT]
          clear hR hT hE hown hz hd hs1 hk hn hf hrd hrt hlt
          go_enter Tryz.func12, Tryz.ntmps12
          go_wp2_with (first
            | (go_at_call 23; (with_reducible refine HF.out.mono ?_); rintro e w' ⟨rfl, rfl⟩))
          go_ret2
          exact ⟨rfl, SealP.same HW.out HLt.out (Below.refl _ _)⟩
        · have q2 : (r.t.toList == t.toList) = false := by rw [tl7r]; exact decide_eq_false hrt
          have hE := seal_twice hi ⟨hz, hd, hs1⟩ hf (fun h => hrt h.2)
          have hR : bxSealR st k n d t = .tuple #[.string ⟨#[]⟩, .int .i64 11] := by rw [bxSealR, hE]; rfl
          have hT : bxSealT st k n d t = st := by rw [bxSealT, hE]
          rw [hR, hT]
          clear hR hT hE hown hz hd hs1 hk hn hf hrd hrt hlt
          go_enter Tryz.func12, Tryz.ntmps12
          go_wp2_with (first
            | (go_at_call 23; (with_reducible refine HF.out.mono ?_); rintro e w' ⟨rfl, rfl⟩))
          go_ret2
          exact ⟨rfl, SealP.same HW.out HLt.out (Below.refl _ _)⟩
      · have q1 : (r.d.toList == d.toList) = false := by rw [tl7r]; exact decide_eq_false hrd
        have hE := seal_twice hi ⟨hz, hd, hs1⟩ hf (fun h => hrd h.1)
        have hR : bxSealR st k n d t = .tuple #[.string ⟨#[]⟩, .int .i64 11] := by rw [bxSealR, hE]; rfl
        have hT : bxSealT st k n d t = st := by rw [bxSealT, hE]
        rw [hR, hT]
        clear hR hT hE hown hz hd hs1 hk hn hf hrd hlt
        go_enter Tryz.func12, Tryz.ntmps12
        go_wp2_with (first
          | (go_at_call 23; (with_reducible refine HF.out.mono ?_); rintro e w' ⟨rfl, rfl⟩))
        go_ret2
        exact ⟨rfl, SealP.same HW.out HLt.out (Below.refl _ _)⟩
    | none =>
      rw [idxB_none hf] at HF
      by_cases hsp : st.draws.size < t.size + 16
      · have w16 : IntKind.i64.wrap ((t.size : Int) + 16) = (t.size : Int) + 16 := by rw [IntKind.wrap_i64]; omega
        have b5 : decide ((st.draws.size : Int) < (t.size : Int) + 16) = true := decide_eq_true (by omega)
        have hE := seal_spent hi ⟨hz, hd, hs1⟩ hf hsp
        have hR : bxSealR st k n d t = .tuple #[.string ⟨#[]⟩, .int .i64 21] := by rw [bxSealR, hE]; rfl
        have hT : bxSealT st k n d t = st := by rw [bxSealT, hE]
        rw [hR, hT]
        clear hR hT hE hown hz hd hs1 hk hn hf hlt hsp
        go_enter Tryz.func12, Tryz.ntmps12
        go_wp2_with (first
          | (go_at_call 23; (with_reducible refine HF.out.mono ?_); rintro e w' ⟨rfl, rfl⟩))
        go_ret2
        exact ⟨rfl, SealP.same HW.out HLt.out (Below.refl _ _)⟩
      · have hE := seal_new hi ⟨hz, hd, hs1⟩ hf hsp
        have hR : bxSealR st k n d t = .tuple #[.string (newB st t), .int .i64 0] := by rw [bxSealR, hE]; rfl
        have hT : bxSealT st k n d t = afterB st k n d t := by rw [bxSealT, hE]
        rw [hR, hT]
        clear hR hT hE
        obtain ⟨i0, hi0, hz0, hz1, hz2⟩ := info_parts infoRow
        have w16 : IntKind.i64.wrap ((t.size : Int) + 16) = ((t.size + 16 : Nat) : Int) := by rw [IntKind.wrap_i64]; omega
        have hN16 : t.size + 16 ≤ st.draws.size := by omega
        have b5 : decide ((st.draws.size : Int) < ((t.size + 16 : Nat) : Int)) = false := decide_eq_false (by omega)
        have hsl1 := slice_to st.draws (t.size + 16) hN16
        have hsl2 := slice_from st.draws (t.size + 16) hN16
        obtain ⟨NW, hNW⟩ : ∃ NW, NW = newB st t := ⟨_, rfl⟩
        obtain ⟨DR, hDR⟩ : ∃ DR, DR = st.draws.extract (t.size + 16) st.draws.size := ⟨_, rfl⟩
        rw [show st.draws.extract 0 (t.size + 16) = NW from hNW.symm] at hsl1
        rw [← hDR] at hsl2
        rw [← hNW]
        obtain ⟨N6, hN6⟩ : ∃ N6, N6 = t.size + 16 := ⟨_, rfl⟩
        rw [← hN6] at hsl1 hsl2 b5 w16 hN16
        have n60 : (0 : Int) ≤ (N6 : Int) := by omega
        have n61 : (N6 : Int) ≤ (st.draws.size : Int) := by omega
        have hAf : afterB st k n d t = ⟨true, DR, st.T ++ [⟨k, n, d, t, NW⟩]⟩ := by rw [afterB, hNW, hDR, hi]
        have hA1 : Arr (w.setCell ⟨g, 1, none⟩ (.string DR)) g #[.bool true, .string DR, tv] 29 := by
          have := hg.set 1 (.string DR)
          rw [hi] at this
          exact this
        have hAs : (w.setCell ⟨g, 1, none⟩ (.string DR)).heap.size = w.heap.size := by simp [World.setCell]
        have hgl := Arr.lt hg
        have hA2 := hA1.alloc (.cells #[] 55)
        have c22 := hA2.cell (j := 2) (v := tv) rfl
        have hE0 : ((w.setCell ⟨g, 1, none⟩ (.string DR)).alloc (.cells #[] 55)).ownsRow w.heap.size 55 5 (.slice (some ⟨w.heap.size, 0, none⟩) 0 0) 0 [] :=
          ⟨rfl, .inr ⟨w.heap.size, 0, #[], rfl, Nat.le_refl _, by have := Arr.new (w.setCell ⟨g, 1, none⟩ (.string DR)) #[] 55; rw [hAs] at this; exact this, Nat.le_refl _, Nat.zero_le _, rfl, rfl⟩⟩
        have hW2s : ((w.setCell ⟨g, 1, none⟩ (.string DR)).alloc (.cells #[] 55)).heap.size = w.heap.size + 1 := by rw [← hAs]; exact Array.size_push _
        have hW2k : ∀ h, h < w.heap.size → h ≠ g → ((w.setCell ⟨g, 1, none⟩ (.string DR)).alloc (.cells #[] 55)).heap[h]? = w.heap[h]? := fun h h1 h2 => (Lib.alloc_old _ _ h (by rw [hAs]; exact h1)).trans (Below.heap_setCell _ _ _ _ h2)
        have HSt : Hid (st.ideal = true) := Lib.hid hi
        have HEnd := Lib.hid (fun (w3 w5 : World) (v1 v2 : Value) (gr : World.grownBy ((w.setCell ⟨g, 1, none⟩ (.string DR)).alloc (.cells #[] 55)) w3 (some w.heap.size)) (o1 : w3.ownsRow w.heap.size 55 5 v1 st.T.length (rowsC st.T)) (gr2 : (w3.alloc (.cells #[.string k, .string n, .string d, .string t, .string NW] 55)).grownBy w5 v1.ownBlock) (o2 : w5.ownsRow w.heap.size 55 5 v2 (st.T.length + 1) (rowsC st.T ++ rowC ⟨k, n, d, t, NW⟩)) =>
          rseal_end own g st k n d t NW DR tv w hgl h0 hA2 hW2s hW2k rfl rfl rfl w3 w5 v1 v2 gr o1 gr2 o2)
        rw [← hAf] at HEnd
        have HRow := Lib.hid (fun (w' : World) (B : Nat) (hw : B = w'.heap.size) => row_new w' B hw k n d t NW)
        have HTl : Hid (st.T.length ≤ 1000) := Lib.hid hlen
        have HOw := Lib.hid hown
        have HW2s := Lib.hid hW2s
        have HHg := Lib.hid hg
        have HW2k := Lib.hid hW2k
        clear hW2k
        have HE0 := Lib.hid hE0
        have HA2 := Lib.hid hA2
        have HGl := Lib.hid hgl
        clear hz hd hs1 hk hn hf hlt hNW hDR hN6 hAf hg hown hlen hob hA1 hAs hA2 hE0 hW2s hi hgl
        by_cases hTe : st.T = []
        · obtain rfl := hnil hTe
          have hl0 : st.T.length = 0 := by rw [hTe]; rfl
          have hr0 : rowsC st.T = [] := by rw [hTe]; rfl
          go_enter Tryz.func12, Tryz.ntmps12
          go_wp2_with (first
            | (go_at_call 23; (with_reducible refine HF.out.mono ?_); rintro e w' ⟨rfl, rfl⟩)
            | (at_builtin; with_reducible refine wpList_append_own_none rfl _ _ 27 rfl w.heap.size 55 i0 5 Tryz.underlying27 hi0 (.slice (some ⟨w.heap.size, 0, none⟩) 0 0) 0 [] rfl HE0.out rfl ?_)
            | (at_builtin; refine wpList_append_own_at _ rfl _ _ 27 rfl w.heap.size 55 i0 _ 5 80 Tryz.underlying27 hi0 hz0 hz1 hz2 rfl (by decide) (.slice (some ⟨w.heap.size, 0, none⟩) 0 0) 0 [] rfl (HE0.out.alloc _) ⟨w.heap.size + 1, 0, none⟩ 1 1 (rowC ⟨k, n, d, t, NW⟩) rfl rfl (HRow.out _ _ HW2s.out.symm) (rowC_one _) (by decide) (by decide) (by rw [show (((w.setCell ⟨g, 1, none⟩ (.string DR)).alloc (.cells #[] 55)).alloc (.cells #[.string k, .string n, .string d, .string t, .string NW] 55)).heap.size = ((w.setCell ⟨g, 1, none⟩ (.string DR)).alloc (.cells #[] 55)).heap.size + 1 from Array.size_push _, HW2s.out]; omega) ?_; intro v2 w5 o2 gr2 _ _; obtain ⟨ao, n', cp, rfl⟩ : ∃ ao n' cp, v2 = .slice ao n' cp := (by rcases o2.2 with ⟨hv, _⟩ | ⟨_, _, _, hv, _⟩; exact ⟨_, _, _, hv⟩; exact ⟨_, _, _, hv⟩); obtain ⟨c25, f25, hP⟩ := HEnd.out ((w.setCell ⟨g, 1, none⟩ (.string DR)).alloc (.cells #[] 55)) w5 (.slice (some ⟨w.heap.size, 0, none⟩) 0 0) (.slice ao n' cp) ⟨rfl, rfl, rfl, Nat.le_refl _, fun _ _ _ => rfl⟩ (by rw [hl0, hr0]; exact HE0.out) gr2 (by rw [hl0, hr0]; exact o2)))
          go_ret2
          exact ⟨rfl, hP⟩
        · obtain ⟨hb, cap, rfl, hnc⟩ := rows_at HOw.out (List.length_pos_iff.2 hTe)
          have hcl := HOw.out.cells (g := hb) rfl
          have hbl := (HOw.out.lt hb rfl).2
          have hbg : hb ≠ g := by
            rcases HOw.out.2 with ⟨e, _⟩ | ⟨hb', cap', cur, e, _, hgg, _⟩
            · cases e
            · cases e
              intro e
              have h1 := HHg.out
              rw [Arr, ← e, hgg] at h1
              simp only [Option.some.injEq, Obj.cells.injEq] at h1
              exact absurd h1.2.1 (by decide)
          have HCl2 : Hid (∀ j u, (rowsC st.T)[j]? = some u → ((w.setCell ⟨g, 1, none⟩ (.string DR)).alloc (.cells #[] 55)).cell? ((⟨hb, 0, none⟩ : Addr).add j) = some u) := Lib.hid (fun j u hj => by
            have h1 := hcl j u hj
            rw [Addr.add_mid] at h1 ⊢
            exact (World.cell?_of_block (a := ⟨hb, 0 + j, none⟩) (HW2k.out hb hbl hbg)).trans h1)
          clear hcl hbl hbg
          go_enter Tryz.func12, Tryz.ntmps12
          go_wp2_with (first
            | (go_at_call 23; (with_reducible refine HF.out.mono ?_); rintro e w' ⟨rfl, rfl⟩)
            | (at_builtin; first
              | (refine wpList_append_own_at _ rfl _ _ 27 rfl w.heap.size 55 i0 _ 5 80 Tryz.underlying27 hi0 hz0 hz1 hz2 rfl (by decide) (.slice (some ⟨w.heap.size, 0, none⟩) 0 0) 0 [] rfl HE0.out ⟨hb, 0, none⟩ st.T.length cap (rowsC st.T) rfl (by rw [rowsC_len]) HCl2.out (rowsC_one st.T) (Nat.le_trans (show 0 + st.T.length ≤ 1000 by have := HTl.out; omega) (by decide)) (by have := HTl.out; omega) (by rw [HW2s.out]; omega) ?_; intro v1 w3 o1 gr1 _ _; rw [Nat.zero_add, List.nil_append] at o1)
              | (refine wpList_append_own_at _ rfl _ _ 27 rfl w.heap.size 55 i0 _ 5 80 Tryz.underlying27 hi0 hz0 hz1 hz2 rfl (by decide) v1 st.T.length (rowsC st.T) rfl (o1.alloc _) ⟨w3.heap.size, 0, none⟩ 1 1 (rowC ⟨k, n, d, t, NW⟩) rfl rfl (HRow.out _ _ rfl) (rowC_one _) (Nat.le_trans (show st.T.length + 1 ≤ 2000 by have := HTl.out; omega) (by decide)) (by have := HTl.out; omega) (by rw [show (w3.alloc (.cells #[.string k, .string n, .string d, .string t, .string NW] 55)).heap.size = w3.heap.size + 1 from Array.size_push _]; have := gr1.size; rw [HW2s.out] at this; omega) ?_; intro v2 w5 o2 gr2 _ _; obtain ⟨ao, n', cp, rfl⟩ : ∃ ao n' cp, v2 = .slice ao n' cp := (by rcases o2.2 with ⟨hv, _⟩ | ⟨_, _, _, hv, _⟩; exact ⟨_, _, _, hv⟩; exact ⟨_, _, _, hv⟩); obtain ⟨c25, f25, hP⟩ := HEnd.out w3 w5 v1 (.slice ao n' cp) gr1 o1 gr2 o2)))
          go_ret2
          exact ⟨rfl, hP⟩
  · have hE := seal_size (st := st) hi ho
    have hR : bxSealR st k n d t = .tuple #[.string ⟨#[]⟩, .int .i64 5] := by rw [bxSealR, hE]; rfl
    have hT : bxSealT st k n d t = st := by rw [bxSealT, hE]
    rw [hR, hT]
    clear hR hT hE hown hlt
    rcases noSeal7 ho with h1 | ⟨h1, h2⟩ | ⟨h1, h2, h3⟩ | ⟨h1, h2, h3, h4⟩
    · have b1 : ¬ (k.size : Int) = 32 := by omega
      clear ho
      go_enter Tryz.func12, Tryz.ntmps12
      go_wp2
      go_ret2
      exact ⟨rfl, SealP.same HW.out HLt.out (Below.refl _ _)⟩
    · have b1 : (k.size : Int) = 32 := by omega
      have b2 : ¬ (n.size : Int) = 12 := by omega
      clear ho
      go_enter Tryz.func12, Tryz.ntmps12
      go_wp2
      go_ret2
      exact ⟨rfl, SealP.same HW.out HLt.out (Below.refl _ _)⟩
    · have b1 : (k.size : Int) = 32 := by omega
      have b2 : (n.size : Int) = 12 := by omega
      have b3 : decide (4096 < (d.size : Int)) = true := decide_eq_true (by omega)
      clear ho
      go_enter Tryz.func12, Tryz.ntmps12
      go_wp2
      go_ret2
      exact ⟨rfl, SealP.same HW.out HLt.out (Below.refl _ _)⟩
    · have b1 : (k.size : Int) = 32 := by omega
      have b2 : (n.size : Int) = 12 := by omega
      have b3 : decide (4096 < (d.size : Int)) = false := decide_eq_false (by omega)
      have b4 : decide (16384 < (t.size : Int)) = true := decide_eq_true (by omega)
      clear ho
      go_enter Tryz.func12, Tryz.ntmps12
      go_wp2
      go_ret2
      exact ⟨rfl, SealP.same HW.out HLt.out (Below.refl _ _)⟩
end Go.Proofs.YtfflpooiebeagaaGreatDoor
