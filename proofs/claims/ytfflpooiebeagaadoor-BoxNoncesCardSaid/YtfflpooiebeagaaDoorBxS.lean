/- box, the landed code: Seal. -/
import Derived.Test.YtfflpooiebeagaaDoorBxO
import Derived.Deep.RegionHeld3
import Derived.StillTailTactics
namespace Go.Proofs.YtfflpooiebeagaaDoor
open Go.RowKit

theorem MapIs.look_ok_run {P : Program} {k : TypeId} {w : World} {b n : Nat} {F : List UInt8 → Option Value} (h : MapIs w P k b n F) (K : Maps.Keyed P k) {t e : TypeId} (ht : P.underlying t = some (.map k e)) {z : Value} (hz : (zeroValue e).run P w = .ok z w) {key : Value} {kb : List UInt8} (hkey : Go.keyOf P k key = some (.string kb)) :
    (Instr.lookup t (.map (some b)) key true).run P w = .ok (.tuple #[(F kb).getD z, .bool (F kb).isSome]) w := by
  obtain ⟨D, hD, hs, hh, ha⟩ := h.at
  obtain ⟨v, ps, hrun, hv⟩ := hD.look_ok K ht hz (zd := .held z) (zp := []) rfl hkey
  rw [ha] at hv
  simp only [heldR, Option.some.injEq, Prod.mk.injEq, DataW.held.injEq] at hv
  rw [hrun, hv.1, hh]

/-- What Seal leaves. -/
def SealL (own : Nat → Prop) (p : Value) (st' : StB) (w w' : World) : Prop := ∃ own' : Nat → Prop, BxL w' own' p st' ∧ (∀ g, own' g → own g ∨ w.heap.size ≤ g) ∧ Fro own w w'
theorem SealL.same {own : Nat → Prop} {p : Value} {st : StB} {w w' : World} (h : BxL w own p st) (hb : Below w.heap.size w w') : SealL own p st w w' := by
  have hlt : ∀ g, own g → g < w.heap.size := by obtain ⟨g, mv, _, _, hlt, _⟩ := h; exact hlt
  exact ⟨own, h.keep fun g hg => hb.block g (hlt g hg), fun g hg => .inl hg, Fro.of_below hb⟩
/-- What the region that looks up reads. -/
theorem look_s {g bm B N : Nat} {k n : ByteArray} {R : Value} {w w' : World} {u : Value} {F : List UInt8 → Option Value} (hA : Arr w g #[u, .map (some bm)] 54) (hU : Arr w B #[.string k, .string n] 57) (hM : MapIs w Tryd.prog (keyTy 52) bm N F)
    (hL : ∀ w', MapIs w' Tryd.prog (keyTy 52) bm N F → (Instr.lookup 52 (.map (some bm)) (.agg #[.string k, .string n]) true).run Tryd.prog w' = .ok R w') (hb : Below w.heap.size w w') :
    w'.cell? ⟨g, 1, none⟩ = some (.map (some bm)) ∧ w'.cell? ⟨B, 0, none⟩ = some (.string k) ∧ w'.cell? ⟨B, 1, none⟩ = some (.string n) ∧ (Instr.lookup 52 (.map (some bm)) (.agg #[.string k, .string n]) true).run Tryd.prog w' = .ok R w' :=
  ⟨(hA.next hb).cell rfl, (hU.next hb).cell rfl, (hU.next hb).cell rfl, hL _ (hM.next hb hM.lt)⟩

/-- The world ahead of the new row. -/
structure NewW (own : Nat → Prop) (w w4 : World) (g bm B : Nat) (k n DR : ByteArray) (N : Nat) (F : List UInt8 → Option Value) : Prop where
  fro : Fro own w w4
  arr : Arr w4 g #[.string DR, .map (some bm)] 54
  use : Arr w4 B #[.string k, .string n] 57
  map : MapIs w4 Tryd.prog (keyTy 52) bm N F
theorem NewW.drew {own : Nat → Prop} {w w4 : World} {g bm B N : Nat} {k n DR : ByteArray} {F : List UInt8 → Option Value} (h : NewW own w w4 g bm B k n DR N F) : NewW own w w4.drew g bm B k n DR N F :=
  ⟨⟨h.fro.os, h.fro.tape, h.fro.output, h.fro.size, h.fro.block⟩, h.arr, h.use, h.map.drew⟩
theorem new_w {own : Nat → Prop} {w w3 : World} {g bm B N : Nat} {k n DR dr : ByteArray} {F : List UInt8 → Option Value} (hb : Below w.heap.size w w3.drew) (hA : Arr w3.drew g #[.string dr, .map (some bm)] 54) (hU : Arr w3.drew B #[.string k, .string n] 57)
    (hM : MapIs w3.drew Tryd.prog (keyTy 52) bm N F) (hog : own g) (hg : g < w.heap.size) (hB : w.heap.size ≤ B) : NewW own w (w3.setCell ⟨g, 0, none⟩ (.string DR)).drew g bm B k n DR N F := by
  have hA' : Arr w3 g #[.string dr, .map (some bm)] 54 := hA
  have hU' : Arr w3 B #[.string k, .string n] 57 := hU
  have hM' : MapIs w3 Tryd.prog (keyTy 52) bm N F := hM.of rfl
  exact NewW.drew ⟨⟨hb.os, hb.tape, hb.output, by simp [World.setCell]; exact hb.size, fun x hx hn => (Below.heap_setCell _ _ _ _ (by show x ≠ g; exact fun e => hn (e ▸ hog))).trans (hb.block x hx)⟩,
    Arr.set hA' 0 (.string DR), (Below.heap_setCell _ _ _ _ (by show B ≠ g; omega)).trans hU', hM'.of (Below.heap_setCell _ _ _ _ (by show bm ≠ g; exact hM'.ne hA'))⟩
theorem new_end {own : Nat → Prop} {w w5 w8 : World} {g bm B N : Nat} {k n DR : ByteArray} {F F8 : List UInt8 → Option Value} {st2 : StB} (hog : own g) (hom : own bm) (hlt : ∀ h, own h → h < w.heap.size) (h : NewW own w w5 g bm B k n DR N F) (hg8 : w5.grownBy w8 (some bm))
    (hM8 : MapIs w8 Tryd.prog (keyTy 52) bm st2.T.length F8) (hi : st2.ideal = true) (hd : st2.draws = DR) (hwf : WfB st2.T) (hR : RelB F8 st2.T) : SealL own (.pointer (some ⟨g, 0, none⟩)) st2 w w8 := by
  have hne := h.map.ne h.arr
  have hs := h.fro.size
  refine ⟨own, ⟨g, _, rfl, hog, fun x hx => Nat.lt_of_lt_of_le (hlt x hx) (Nat.le_trans hs hg8.size), ?_, hwf, .inr ⟨hi, bm, F8, rfl, hom, hM8, hR⟩⟩, fun x hx => .inl hx, ⟨hg8.os.trans h.fro.os, hg8.tape.trans h.fro.tape, hg8.output.trans h.fro.output, Nat.le_trans hs hg8.size, fun x hx hn => (hg8.block x (by omega) (fun e => by injection e with e; exact hn (e ▸ hom))).trans (h.fro.block x hx hn)⟩⟩
  rw [hd]
  exact (hg8.block g (Arr.lt h.arr) (fun e => by injection e with e; exact hne e.symm)).trans h.arr

set_option maxHeartbeats 2000000 in
set_option maxRecDepth 100000 in
theorem boxSeal_again {own : Nat → Prop} {p : Value} {st : StB} (k n d t : ByteArray) (hk : k.size ≤ 1000) (hn : n.size ≤ 1000) (hi : st.ideal = true) (ho : sealOk k n d t) {r : RowB} (hf : findB st.T k n = some r) (w : World) (h : BxL w own p st) (hrd : r.d = d) (hrt : r.t = t) :
    Calls Tryd.prog 10 #[p, .string k, .string n, .string d, .string t] w fun e w' => e = .returned (bxSealR st k n d t) ∧ SealL own p (bxSealT st k n d t) w w' := by
  have HBx := Lib.hid h
  have HBr := Lib.hid (breal_no hi w h)
  obtain ⟨g, mv, rfl, how, hlt, hA, hwf, hm⟩ := h
  rcases hm with ⟨rfl, _⟩ | ⟨_, bm, F, rfl, hobm, hM, hR⟩
  · cases hi
  have hkey := keyB_of hk hn
  have hF := hR k n hk hn

  rw [hf, Option.map_some, rowV, hrd, hrt] at hF
  rw [bxSealR, bxSealT, seal_again hi ho hf ⟨hrd, hrt⟩]
  show Calls _ _ _ _ fun e w' => e = .returned (.tuple #[.string r.s, .int .i64 0]) ∧ SealL own _ st w w'
  obtain ⟨hz, hd, ht⟩ := ho
  obtain ⟨hk2, hn2⟩ := szB_yes hz
  have HS := Lib.hid (fun w => bfit_ok (m := (t.size : Int)) hk2 hn2 hd (by omega) (by omega) w)
  have HL := Lib.hid (fun (w' : World) (h : MapIs w' Tryd.prog (keyTy 52) bm st.T.length F) => h.look_ok_run keyB.keyed mapB (zeroB7 _) hkey)
  rw [hF] at HL
  simp only [Option.getD_some, Option.isSome_some] at HL
  have HA := Lib.hid hA
  have HM := Lib.hid hM
  clear hrd hrt hf hR hz hd ht hk2 hn2 hk hn hi hA hM hF hwf
  go_enter Tryd.func10, Tryd.ntmps10
  go_wp2_with (first
    | (go_at_call 16; (with_reducible refine HBr.out.mono ?_); rintro e w0 ⟨rfl, hb0⟩)
    | (go_at_call 18; (with_reducible refine (HS.out _).mono ?_); rintro e w1 ⟨rfl, hb11⟩))
  have hb1 := Below_next hb0 hb11
  have hb2 := hb1.alloc hb1.size (.cells #[.string k, .string n] 57)
  have hU := Arr.new w1 #[.string k, .string n] 57
  have hA2 := HA.out.next hb2
  have hM2 := HM.out.next hb2 HM.out.lt
  have hAny := fun (w' : World) (hb : Below (w1.alloc (.cells #[.string k, .string n] 57)).heap.size (w1.alloc (.cells #[.string k, .string n] 57)) w') => look_s (R := .tuple #[.agg #[.string d, .string t, .string r.s], .bool true]) hA2 hU hM2 HL.out hb
  have hbr := Below.refl (w1.alloc (.cells #[.string k, .string n] 57)).heap.size (w1.alloc (.cells #[.string k, .string n] 57))
  have hS0 := hAny _ hbr
  have hS1 := hAny _ hbr.drew
  have hS2 := hAny _ (hbr.alloc (Nat.le_refl _) (.cells #[.string ⟨#[]⟩, .string ⟨#[]⟩, .string ⟨#[]⟩] 59))
  have hS3 := hAny _ (hbr.alloc (Nat.le_refl _) (.cells #[.string ⟨#[]⟩, .string ⟨#[]⟩, .string ⟨#[]⟩] 59)).drew
  have hS4 := hAny _ (hbr.alloc (Nat.le_refl _) (.cells #[.string d, .string t, .string r.s] 59))
  have hS5 := hAny _ (hbr.alloc (Nat.le_refl _) (.cells #[.string d, .string t, .string r.s] 59)).drew
  have HB3 := Lib.hid ((hb2.alloc hb2.size (.cells #[.string d, .string t, .string r.s] 59)).drew)
  have HU3 := Lib.hid (hU.next (hbr.alloc (Nat.le_refl _) (.cells #[.string d, .string t, .string r.s] 59)).drew)
  clear hAny hbr hA2 hU hM2 hb2
  go_region_held3 (fun w' => w'.cell? ⟨g, 1, none⟩ = some (.map (some bm)) ∧ w'.cell? ⟨w1.heap.size, 0, none⟩ = some (.string k) ∧ w'.cell? ⟨w1.heap.size, 1, none⟩ = some (.string n) ∧ (Instr.lookup 52 (.map (some bm)) (.agg #[.string k, .string n]) true).run Tryd.prog w' = .ok (.tuple #[.agg #[.string d, .string t, .string r.s], .bool true]) w') (first | with_reducible exact hS0 | with_reducible exact hS1 | with_reducible exact hS2 | with_reducible exact hS3 | with_reducible exact hS4 | with_reducible exact hS5) (fail)
  all_goals
    clear hS0 hS1 hS2 hS3 hS4 hS5
    go_wp2
    go_ret2
    exact ⟨rfl, SealL.same HBx.out HB3.out⟩

set_option maxHeartbeats 2000000 in
set_option maxRecDepth 100000 in
theorem boxSeal_text {own : Nat → Prop} {p : Value} {st : StB} (k n d t : ByteArray) (hk : k.size ≤ 1000) (hn : n.size ≤ 1000) (hi : st.ideal = true) (ho : sealOk k n d t) {r : RowB} (hf : findB st.T k n = some r) (w : World) (h : BxL w own p st) (hrd : r.d = d) (hrt : ¬ r.t = t) :
    Calls Tryd.prog 10 #[p, .string k, .string n, .string d, .string t] w fun e w' => e = .returned (bxSealR st k n d t) ∧ SealL own p (bxSealT st k n d t) w w' := by
  have HBx := Lib.hid h
  have HBr := Lib.hid (breal_no hi w h)
  obtain ⟨g, mv, rfl, how, hlt, hA, hwf, hm⟩ := h
  rcases hm with ⟨rfl, _⟩ | ⟨_, bm, F, rfl, hobm, hM, hR⟩
  · cases hi
  have hkey := keyB_of hk hn
  have hF := hR k n hk hn

  rw [hf, Option.map_some, rowV, hrd] at hF
  rw [bxSealR, bxSealT, seal_twice hi ho hf (fun h => hrt h.2)]
  have q := tl7_ne hrt
  show Calls _ _ _ _ fun e w' => e = .returned (.tuple #[.string ⟨#[]⟩, .int .i64 11]) ∧ SealL own _ st w w'
  obtain ⟨hz, hd, ht⟩ := ho
  obtain ⟨hk2, hn2⟩ := szB_yes hz
  have HS := Lib.hid (fun w => bfit_ok (m := (t.size : Int)) hk2 hn2 hd (by omega) (by omega) w)
  have HL := Lib.hid (fun (w' : World) (h : MapIs w' Tryd.prog (keyTy 52) bm st.T.length F) => h.look_ok_run keyB.keyed mapB (zeroB7 _) hkey)
  rw [hF] at HL
  simp only [Option.getD_some, Option.isSome_some] at HL
  have HA := Lib.hid hA
  have HM := Lib.hid hM
  clear hrd hrt hf hR hz hd ht hk2 hn2 hk hn hi hA hM hF hwf
  go_enter Tryd.func10, Tryd.ntmps10
  go_wp2_with (first
    | (go_at_call 16; (with_reducible refine HBr.out.mono ?_); rintro e w0 ⟨rfl, hb0⟩)
    | (go_at_call 18; (with_reducible refine (HS.out _).mono ?_); rintro e w1 ⟨rfl, hb11⟩))
  have hb1 := Below_next hb0 hb11
  have hb2 := hb1.alloc hb1.size (.cells #[.string k, .string n] 57)
  have hU := Arr.new w1 #[.string k, .string n] 57
  have hA2 := HA.out.next hb2
  have hM2 := HM.out.next hb2 HM.out.lt
  have hAny := fun (w' : World) (hb : Below (w1.alloc (.cells #[.string k, .string n] 57)).heap.size (w1.alloc (.cells #[.string k, .string n] 57)) w') => look_s (R := .tuple #[.agg #[.string d, .string r.t, .string r.s], .bool true]) hA2 hU hM2 HL.out hb
  have hbr := Below.refl (w1.alloc (.cells #[.string k, .string n] 57)).heap.size (w1.alloc (.cells #[.string k, .string n] 57))
  have hS0 := hAny _ hbr
  have hS1 := hAny _ hbr.drew
  have hS2 := hAny _ (hbr.alloc (Nat.le_refl _) (.cells #[.string ⟨#[]⟩, .string ⟨#[]⟩, .string ⟨#[]⟩] 59))
  have hS3 := hAny _ (hbr.alloc (Nat.le_refl _) (.cells #[.string ⟨#[]⟩, .string ⟨#[]⟩, .string ⟨#[]⟩] 59)).drew
  have hS4 := hAny _ (hbr.alloc (Nat.le_refl _) (.cells #[.string d, .string r.t, .string r.s] 59))
  have hS5 := hAny _ (hbr.alloc (Nat.le_refl _) (.cells #[.string d, .string r.t, .string r.s] 59)).drew
  have HB3 := Lib.hid ((hb2.alloc hb2.size (.cells #[.string d, .string r.t, .string r.s] 59)).drew)
  have HU3 := Lib.hid (hU.next (hbr.alloc (Nat.le_refl _) (.cells #[.string d, .string r.t, .string r.s] 59)).drew)
  clear hAny hbr hA2 hU hM2 hb2
  go_region_held3 (fun w' => w'.cell? ⟨g, 1, none⟩ = some (.map (some bm)) ∧ w'.cell? ⟨w1.heap.size, 0, none⟩ = some (.string k) ∧ w'.cell? ⟨w1.heap.size, 1, none⟩ = some (.string n) ∧ (Instr.lookup 52 (.map (some bm)) (.agg #[.string k, .string n]) true).run Tryd.prog w' = .ok (.tuple #[.agg #[.string d, .string r.t, .string r.s], .bool true]) w') (first | with_reducible exact hS0 | with_reducible exact hS1 | with_reducible exact hS2 | with_reducible exact hS3 | with_reducible exact hS4 | with_reducible exact hS5) (fail)
  all_goals
    clear hS0 hS1 hS2 hS3 hS4 hS5
    go_wp2
    go_ret2
    exact ⟨rfl, SealL.same HBx.out HB3.out⟩

set_option maxHeartbeats 2000000 in
set_option maxRecDepth 100000 in
theorem boxSeal_data {own : Nat → Prop} {p : Value} {st : StB} (k n d t : ByteArray) (hk : k.size ≤ 1000) (hn : n.size ≤ 1000) (hi : st.ideal = true) (ho : sealOk k n d t) {r : RowB} (hf : findB st.T k n = some r) (w : World) (h : BxL w own p st) (hrd : ¬ r.d = d) :
    Calls Tryd.prog 10 #[p, .string k, .string n, .string d, .string t] w fun e w' => e = .returned (bxSealR st k n d t) ∧ SealL own p (bxSealT st k n d t) w w' := by
  have HBx := Lib.hid h
  have HBr := Lib.hid (breal_no hi w h)
  obtain ⟨g, mv, rfl, how, hlt, hA, hwf, hm⟩ := h
  rcases hm with ⟨rfl, _⟩ | ⟨_, bm, F, rfl, hobm, hM, hR⟩
  · cases hi
  have hkey := keyB_of hk hn
  have hF := hR k n hk hn

  rw [hf, Option.map_some, rowV] at hF
  rw [bxSealR, bxSealT, seal_twice hi ho hf (fun h => hrd h.1)]
  have q := tl7_ne hrd
  show Calls _ _ _ _ fun e w' => e = .returned (.tuple #[.string ⟨#[]⟩, .int .i64 11]) ∧ SealL own _ st w w'
  obtain ⟨hz, hd, ht⟩ := ho
  obtain ⟨hk2, hn2⟩ := szB_yes hz
  have HS := Lib.hid (fun w => bfit_ok (m := (t.size : Int)) hk2 hn2 hd (by omega) (by omega) w)
  have HL := Lib.hid (fun (w' : World) (h : MapIs w' Tryd.prog (keyTy 52) bm st.T.length F) => h.look_ok_run keyB.keyed mapB (zeroB7 _) hkey)
  rw [hF] at HL
  simp only [Option.getD_some, Option.isSome_some] at HL
  have HA := Lib.hid hA
  have HM := Lib.hid hM
  clear hrd hf hR hz hd ht hk2 hn2 hk hn hi hA hM hF hwf
  go_enter Tryd.func10, Tryd.ntmps10
  go_wp2_with (first
    | (go_at_call 16; (with_reducible refine HBr.out.mono ?_); rintro e w0 ⟨rfl, hb0⟩)
    | (go_at_call 18; (with_reducible refine (HS.out _).mono ?_); rintro e w1 ⟨rfl, hb11⟩))
  have hb1 := Below_next hb0 hb11
  have hb2 := hb1.alloc hb1.size (.cells #[.string k, .string n] 57)
  have hU := Arr.new w1 #[.string k, .string n] 57
  have hA2 := HA.out.next hb2
  have hM2 := HM.out.next hb2 HM.out.lt
  have hAny := fun (w' : World) (hb : Below (w1.alloc (.cells #[.string k, .string n] 57)).heap.size (w1.alloc (.cells #[.string k, .string n] 57)) w') => look_s (R := .tuple #[.agg #[.string r.d, .string r.t, .string r.s], .bool true]) hA2 hU hM2 HL.out hb
  have hbr := Below.refl (w1.alloc (.cells #[.string k, .string n] 57)).heap.size (w1.alloc (.cells #[.string k, .string n] 57))
  have hS0 := hAny _ hbr
  have hS1 := hAny _ hbr.drew
  have hS2 := hAny _ (hbr.alloc (Nat.le_refl _) (.cells #[.string ⟨#[]⟩, .string ⟨#[]⟩, .string ⟨#[]⟩] 59))
  have hS3 := hAny _ (hbr.alloc (Nat.le_refl _) (.cells #[.string ⟨#[]⟩, .string ⟨#[]⟩, .string ⟨#[]⟩] 59)).drew
  have hS4 := hAny _ (hbr.alloc (Nat.le_refl _) (.cells #[.string r.d, .string r.t, .string r.s] 59))
  have hS5 := hAny _ (hbr.alloc (Nat.le_refl _) (.cells #[.string r.d, .string r.t, .string r.s] 59)).drew
  have HB3 := Lib.hid ((hb2.alloc hb2.size (.cells #[.string r.d, .string r.t, .string r.s] 59)).drew)
  have HU3 := Lib.hid (hU.next (hbr.alloc (Nat.le_refl _) (.cells #[.string r.d, .string r.t, .string r.s] 59)).drew)
  clear hAny hbr hA2 hU hM2 hb2
  go_region_held3 (fun w' => w'.cell? ⟨g, 1, none⟩ = some (.map (some bm)) ∧ w'.cell? ⟨w1.heap.size, 0, none⟩ = some (.string k) ∧ w'.cell? ⟨w1.heap.size, 1, none⟩ = some (.string n) ∧ (Instr.lookup 52 (.map (some bm)) (.agg #[.string k, .string n]) true).run Tryd.prog w' = .ok (.tuple #[.agg #[.string r.d, .string r.t, .string r.s], .bool true]) w') (first | with_reducible exact hS0 | with_reducible exact hS1 | with_reducible exact hS2 | with_reducible exact hS3 | with_reducible exact hS4 | with_reducible exact hS5) (fail)
  all_goals
    clear hS0 hS1 hS2 hS3 hS4 hS5
    go_wp2
    go_ret2
    exact ⟨rfl, SealL.same HBx.out HB3.out⟩

set_option maxHeartbeats 2000000 in
set_option maxRecDepth 100000 in
theorem boxSeal_spent {own : Nat → Prop} {p : Value} {st : StB} (k n d t : ByteArray) (hk : k.size ≤ 1000) (hn : n.size ≤ 1000) (hi : st.ideal = true) (ho : sealOk k n d t) (hf : findB st.T k n = none) (w : World) (h : BxL w own p st) (hs : st.draws.size < t.size + 16) :
    Calls Tryd.prog 10 #[p, .string k, .string n, .string d, .string t] w fun e w' => e = .returned (bxSealR st k n d t) ∧ SealL own p (bxSealT st k n d t) w w' := by
  have HBx := Lib.hid h
  have HBr := Lib.hid (breal_no hi w h)
  obtain ⟨g, mv, rfl, how, hlt, hA, hwf, hm⟩ := h
  rcases hm with ⟨rfl, _⟩ | ⟨_, bm, F, rfl, hobm, hM, hR⟩
  · cases hi
  have hkey := keyB_of hk hn
  have hF := hR k n hk hn

  rw [hf, Option.map_none] at hF
  rw [bxSealR, bxSealT, seal_spent hi ho hf hs]
  show Calls _ _ _ _ fun e w' => e = .returned (.tuple #[.string ⟨#[]⟩, .int .i64 21]) ∧ SealL own _ st w w'
  obtain ⟨hz, hd, ht⟩ := ho
  obtain ⟨hk2, hn2⟩ := szB_yes hz
  have HS := Lib.hid (fun w => bfit_ok (m := (t.size : Int)) hk2 hn2 hd (by omega) (by omega) w)
  have HL := Lib.hid (fun (w' : World) (h : MapIs w' Tryd.prog (keyTy 52) bm st.T.length F) => h.look_ok_run keyB.keyed mapB (zeroB7 _) hkey)
  rw [hF] at HL
  simp only [Option.getD_none, Option.isSome_none] at HL
  have HA := Lib.hid hA
  have HM := Lib.hid hM
  have e2 : IntKind.i64.wrap ((t.size : Int) + 16) = (t.size : Int) + 16 := by rw [IntKind.wrap_i64]; omega
  have e3 : decide ((st.draws.size : Int) < (t.size : Int) + 16) = true := decide_eq_true (by omega)
  clear hf hR hs hz hd ht hk2 hn2 hk hn hi hA hM hF hwf
  go_enter Tryd.func10, Tryd.ntmps10
  go_wp2_with (first
    | (go_at_call 16; (with_reducible refine HBr.out.mono ?_); rintro e w0 ⟨rfl, hb0⟩)
    | (go_at_call 18; (with_reducible refine (HS.out _).mono ?_); rintro e w1 ⟨rfl, hb11⟩))
  have hb1 := Below_next hb0 hb11
  have hb2 := hb1.alloc hb1.size (.cells #[.string k, .string n] 57)
  have hU := Arr.new w1 #[.string k, .string n] 57
  have hA2 := HA.out.next hb2
  have hM2 := HM.out.next hb2 HM.out.lt
  have hAny := fun (w' : World) (hb : Below (w1.alloc (.cells #[.string k, .string n] 57)).heap.size (w1.alloc (.cells #[.string k, .string n] 57)) w') => look_s (R := .tuple #[.agg #[.string ⟨#[]⟩, .string ⟨#[]⟩, .string ⟨#[]⟩], .bool false]) hA2 hU hM2 HL.out hb
  have hbr := Below.refl (w1.alloc (.cells #[.string k, .string n] 57)).heap.size (w1.alloc (.cells #[.string k, .string n] 57))
  have hS0 := hAny _ hbr
  have hS1 := hAny _ hbr.drew
  have hS2 := hAny _ (hbr.alloc (Nat.le_refl _) (.cells #[.string ⟨#[]⟩, .string ⟨#[]⟩, .string ⟨#[]⟩] 59))
  have hS3 := hAny _ (hbr.alloc (Nat.le_refl _) (.cells #[.string ⟨#[]⟩, .string ⟨#[]⟩, .string ⟨#[]⟩] 59)).drew
  have hS4 := hAny _ (hbr.alloc (Nat.le_refl _) (.cells #[.string ⟨#[]⟩, .string ⟨#[]⟩, .string ⟨#[]⟩] 59))
  have hS5 := hAny _ (hbr.alloc (Nat.le_refl _) (.cells #[.string ⟨#[]⟩, .string ⟨#[]⟩, .string ⟨#[]⟩] 59)).drew
  have HB3 := Lib.hid ((hb2.alloc hb2.size (.cells #[.string ⟨#[]⟩, .string ⟨#[]⟩, .string ⟨#[]⟩] 59)).drew)
  have HU3 := Lib.hid (hU.next (hbr.alloc (Nat.le_refl _) (.cells #[.string ⟨#[]⟩, .string ⟨#[]⟩, .string ⟨#[]⟩] 59)).drew)
  have HA3 := Lib.hid (hA2.next (hbr.alloc (Nat.le_refl _) (.cells #[.string ⟨#[]⟩, .string ⟨#[]⟩, .string ⟨#[]⟩] 59)).drew)
  clear hAny hbr hA2 hU hM2 hb2
  go_region_held3 (fun w' => w'.cell? ⟨g, 1, none⟩ = some (.map (some bm)) ∧ w'.cell? ⟨w1.heap.size, 0, none⟩ = some (.string k) ∧ w'.cell? ⟨w1.heap.size, 1, none⟩ = some (.string n) ∧ (Instr.lookup 52 (.map (some bm)) (.agg #[.string k, .string n]) true).run Tryd.prog w' = .ok (.tuple #[.agg #[.string ⟨#[]⟩, .string ⟨#[]⟩, .string ⟨#[]⟩], .bool false]) w') (first | with_reducible exact hS0 | with_reducible exact hS1 | with_reducible exact hS2 | with_reducible exact hS3 | with_reducible exact hS4 | with_reducible exact hS5) (fail)
  all_goals
    clear hS0 hS1 hS2 hS3 hS4 hS5
    have c1 := HA3.out.cell (j := 0) (v := .string st.draws) rfl
    go_wp2
    go_ret2
    exact ⟨rfl, SealL.same HBx.out HB3.out⟩

set_option maxHeartbeats 2000000 in
set_option maxRecDepth 100000 in
theorem boxSeal_new {own : Nat → Prop} {p : Value} {st : StB} (k n d t : ByteArray) (hk : k.size ≤ 1000) (hn : n.size ≤ 1000) (hi : st.ideal = true) (ho : sealOk k n d t) (hf : findB st.T k n = none) (w : World) (h : BxL w own p st) (hs : ¬ st.draws.size < t.size + 16) (hdr : st.draws.size ≤ 1048576) (hTl : st.T.length ≤ 1000) :
    Calls Tryd.prog 10 #[p, .string k, .string n, .string d, .string t] w fun e w' => e = .returned (bxSealR st k n d t) ∧ SealL own p (bxSealT st k n d t) w w' := by
  have HBx := Lib.hid h
  have HBr := Lib.hid (breal_no hi w h)
  obtain ⟨g, mv, rfl, how, hlt, hA, hwf, hm⟩ := h
  rcases hm with ⟨rfl, _⟩ | ⟨_, bm, F, rfl, hobm, hM, hR⟩
  · cases hi
  have hkey := keyB_of hk hn
  have hF := hR k n hk hn

  rw [hf, Option.map_none] at hF
  rw [bxSealR, bxSealT, seal_new hi ho hf hs]
  have hwf2 : WfB (afterB st k n d t).T := hwf.snoc hf ho (newB_size hs)
  show Calls _ _ _ _ fun e w' => e = .returned (.tuple #[.string (newB st t), .int .i64 0]) ∧ SealL own _ (afterB st k n d t) w w'
  have hsl := slice_to st.draws (t.size + 16) (by omega)
  rw [show ((t.size + 16 : Nat) : Int) = (t.size : Int) + 16 by omega, show st.draws.extract 0 (t.size + 16) = newB st t from rfl] at hsl
  have hsr := slice_from st.draws (t.size + 16) (by omega)
  rw [show ((t.size + 16 : Nat) : Int) = (t.size : Int) + 16 by omega] at hsr
  have hrl2 : RelB (putF F (kbs [k, n]) (.agg #[.string d, .string t, .string (newB st t)])) (afterB st k n d t).T := hR.put (r := ⟨k, n, d, t, newB st t⟩) hk hn hf
  have hlen : (afterB st k n d t).T.length = st.T.length + 1 := by show (st.T ++ [_]).length = _; rw [List.length_append]; rfl
  have hpn : putN F (kbs [k, n]) st.T.length = st.T.length + 1 := by rw [putN, hF]; rfl
  have hid2 : (afterB st k n d t).ideal = true := hi
  have hdr2 : (afterB st k n d t).draws = st.draws.extract (t.size + 16) st.draws.size := rfl
  generalize afterB st k n d t = st2 at *
  generalize newB st t = NB at *
  generalize st.draws.extract (t.size + 16) st.draws.size = DR at *
  obtain ⟨hz, hd, ht⟩ := ho
  obtain ⟨hk2, hn2⟩ := szB_yes hz
  have HS := Lib.hid (fun w => bfit_ok (m := (t.size : Int)) hk2 hn2 hd (by omega) (by omega) w)
  have HL := Lib.hid (fun (w' : World) (h : MapIs w' Tryd.prog (keyTy 52) bm st.T.length F) => h.look_ok_run keyB.keyed mapB (zeroB7 _) hkey)
  rw [hF] at HL
  simp only [Option.getD_none, Option.isSome_none] at HL
  have HA := Lib.hid hA
  have HM := Lib.hid hM
  have e2 : IntKind.i64.wrap ((t.size : Int) + 16) = (t.size : Int) + 16 := by rw [IntKind.wrap_i64]; omega
  have e3 : decide ((st.draws.size : Int) < (t.size : Int) + 16) = false := decide_eq_false (by omega)
  clear hf hs hdr hz hd ht hk2 hn2 hk hn hi hA hM hF hwf hR
  go_enter Tryd.func10, Tryd.ntmps10
  go_wp2_with (first
    | (go_at_call 16; (with_reducible refine HBr.out.mono ?_); rintro e w0 ⟨rfl, hb0⟩)
    | (go_at_call 18; (with_reducible refine (HS.out _).mono ?_); rintro e w1 ⟨rfl, hb11⟩))
  have hb1 := Below_next hb0 hb11
  have hb2 := hb1.alloc hb1.size (.cells #[.string k, .string n] 57)
  have hU := Arr.new w1 #[.string k, .string n] 57
  have hA2 := HA.out.next hb2
  have hM2 := HM.out.next hb2 HM.out.lt
  have hAny := fun (w' : World) (hb : Below (w1.alloc (.cells #[.string k, .string n] 57)).heap.size (w1.alloc (.cells #[.string k, .string n] 57)) w') => look_s (R := .tuple #[.agg #[.string ⟨#[]⟩, .string ⟨#[]⟩, .string ⟨#[]⟩], .bool false]) hA2 hU hM2 HL.out hb
  have hbr := Below.refl (w1.alloc (.cells #[.string k, .string n] 57)).heap.size (w1.alloc (.cells #[.string k, .string n] 57))
  have hS0 := hAny _ hbr
  have hS1 := hAny _ hbr.drew
  have hS2 := hAny _ (hbr.alloc (Nat.le_refl _) (.cells #[.string ⟨#[]⟩, .string ⟨#[]⟩, .string ⟨#[]⟩] 59))
  have hS3 := hAny _ (hbr.alloc (Nat.le_refl _) (.cells #[.string ⟨#[]⟩, .string ⟨#[]⟩, .string ⟨#[]⟩] 59)).drew
  have hS4 := hAny _ (hbr.alloc (Nat.le_refl _) (.cells #[.string ⟨#[]⟩, .string ⟨#[]⟩, .string ⟨#[]⟩] 59))
  have hS5 := hAny _ (hbr.alloc (Nat.le_refl _) (.cells #[.string ⟨#[]⟩, .string ⟨#[]⟩, .string ⟨#[]⟩] 59)).drew
  have HB3 := Lib.hid ((hb2.alloc hb2.size (.cells #[.string ⟨#[]⟩, .string ⟨#[]⟩, .string ⟨#[]⟩] 59)).drew)
  have HU3 := Lib.hid (hU.next (hbr.alloc (Nat.le_refl _) (.cells #[.string ⟨#[]⟩, .string ⟨#[]⟩, .string ⟨#[]⟩] 59)).drew)
  have HA3 := Lib.hid (hA2.next (hbr.alloc (Nat.le_refl _) (.cells #[.string ⟨#[]⟩, .string ⟨#[]⟩, .string ⟨#[]⟩] 59)).drew)
  have HM3 := Lib.hid (hM2.next (hbr.alloc (Nat.le_refl _) (.cells #[.string ⟨#[]⟩, .string ⟨#[]⟩, .string ⟨#[]⟩] 59)).drew hM2.lt)
  clear hAny hbr hA2 hU hM2 hb2
  go_region_held3 (fun w' => w'.cell? ⟨g, 1, none⟩ = some (.map (some bm)) ∧ w'.cell? ⟨w1.heap.size, 0, none⟩ = some (.string k) ∧ w'.cell? ⟨w1.heap.size, 1, none⟩ = some (.string n) ∧ (Instr.lookup 52 (.map (some bm)) (.agg #[.string k, .string n]) true).run Tryd.prog w' = .ok (.tuple #[.agg #[.string ⟨#[]⟩, .string ⟨#[]⟩, .string ⟨#[]⟩], .bool false]) w') (first | with_reducible exact hS0 | with_reducible exact hS1 | with_reducible exact hS2 | with_reducible exact hS3 | with_reducible exact hS4 | with_reducible exact hS5) (fail)
  all_goals
    clear hS0 hS1 hS2 hS3 hS4 hS5
    have c1 := HA3.out.cell (j := 0) (v := .string st.draws) rfl
    have f1 := HA3.out.frozen 0
    have HN := Lib.hid (new_w (own := own) (w3 := ((w1.alloc (.cells #[.string k, .string n] 57)).alloc (.cells #[.string ⟨#[]⟩, .string ⟨#[]⟩, .string ⟨#[]⟩] 59))) (B := w1.heap.size) (DR := DR) HB3.out HA3.out HU3.out HM3.out how (hlt g how) hb1.size)
    go_wp2
    generalize World.drew (World.setCell ((w1.alloc (.cells #[.string k, .string n] 57)).alloc (.cells #[.string ⟨#[]⟩, .string ⟨#[]⟩, .string ⟨#[]⟩] 59)) ⟨g, 0, none⟩ (.string DR)) = w4 at *
    have c2 := HN.out.arr.cell (j := 1) (v := .map (some bm)) rfl
    have u0 := HN.out.use.cell (j := 0) (v := .string k) rfl
    have u1 := HN.out.use.cell (j := 1) (v := .string n) rfl
    go_still_tail 9, (by kernel_rfl)
    change wpList _ _ _ _ _ w4.drew
    have HN5 := Lib.hid HN.out.drew
    generalize w4.drew = w5 at *
    have hM5 := HN5.out.map
    go_wp2_with (first
      | (at_mapUpdate; with_reducible refine wpList_store_is rfl _ _ _ 52 rfl _ _ keyB.keyed mapB bm _ F rfl hM5 (Nat.le_trans (Nat.lt_succ_of_le hTl) (by decide)) (.agg #[.string k, .string n]) (.agg #[.string d, .string t, .string NB]) (kbs [k, n]) rfl rfl hkey ?_; intro w8 hmap8 hg8 hz8))
    go_ret2
    rw [hpn, ← hlen] at hmap8
    exact ⟨rfl, new_end how hobm hlt HN5.out hg8 hmap8 hid2 hdr2 hwf2 hrl2⟩

end Go.Proofs.YtfflpooiebeagaaDoor
