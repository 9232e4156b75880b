/- BoxOpens: its walk over the record. -/
import Derived.Test.YtfflpooiebeagaaDoorLwC
import Derived.Test.YtfflpooiebeagaaDoorMpR
namespace Go.Proofs.YtfflpooiebeagaaDoor
open Go.RowKit

theorem mapO : Tryd.prog.underlying 26 = some (.map (keyTy 26) (elTy 26)) := by kernel_rfl
theorem keyO : StrKey Tryd.prog (keyTy 26) 9 4 where
  keyed := Maps.Keyed.of_law (deep_law_laid laidOut7 (m := 2) (by omega) (of_decide_eq_true (by kernel_rfl)) (by kernel_rfl) (by kernel_rfl))
  fields := by kernel_rfl
  str := Tryd.underlying9
  one := by kernel_rfl
  all := by kernel_rfl
  isKey := by kernel_rfl
  pos := of_decide_eq_true (by kernel_rfl)
theorem zeroO (w : World) : (zeroValue (elTy 26)).run Tryd.prog w = .ok (.string ⟨#[]⟩) w := by kernel_rfl
theorem keyTyO : keyTy 26 = keyTy 26 := rfl

/-- What is opened: the text of the row of that key and nonce, if data and sealed bytes are its own. -/
def outO (T : List RowB) (k n d s : ByteArray) : Option ByteArray := (findB T k n).bind fun r => if r.d = d ∧ r.s = s then some r.t else none
def RelO (F : List UInt8 → Option Value) (T : List RowB) : Prop := ∀ k n d s : ByteArray, (∀ x ∈ [k, n, d, s], x.size ≤ maxLen) → F (kbs [k, n, d, s]) = (outO T k n d s).map Value.string
theorem le4 {k n d s : ByteArray} (h1 : k.size ≤ maxLen) (h2 : n.size ≤ maxLen) (h3 : d.size ≤ maxLen) (h4 : s.size ≤ maxLen) : ∀ x ∈ [k, n, d, s], x.size ≤ maxLen := by
  intro x hx
  simp only [List.mem_cons, List.not_mem_nil, or_false] at hx
  rcases hx with rfl | rfl | rfl | rfl <;> assumption
theorem keyO_of {k n d s : ByteArray} (h : ∀ x ∈ [k, n, d, s], x.size ≤ maxLen) : Go.keyOf Tryd.prog (keyTy 26) (.agg #[.string k, .string n, .string d, .string s]) = some (.string (kbs [k, n, d, s])) := keyO.keyOf (xs := [k, n, d, s]) rfl h
theorem RelO.put {F : List UInt8 → Option Value} {T : List RowB} (h : RelO F T) {r : RowB} (hz : ∀ x ∈ [r.k, r.n, r.d, r.s], x.size ≤ maxLen) (hf : findB T r.k r.n = none) : RelO (putF F (kbs [r.k, r.n, r.d, r.s]) (.string r.t)) (T ++ [r]) := by
  intro k n d s h1
  rw [outO, findB_append]
  by_cases e : r.k = k ∧ r.n = n
  · obtain ⟨rfl, rfl⟩ := e
    rw [hf, if_pos (sameB_iff.2 ⟨rfl, rfl⟩), Option.none_or, Option.bind_some]
    by_cases e2 : r.d = d ∧ r.s = s
    · obtain ⟨rfl, rfl⟩ := e2
      rw [putF, if_pos rfl, if_pos ⟨rfl, rfl⟩]; rfl
    · have hne : ¬ kbs [r.k, r.n, d, s] = kbs [r.k, r.n, r.d, r.s] := fun e3 => by
        have := keyO.inj rfl h1 rfl hz e3
        simp only [List.cons.injEq, and_true] at this
        exact e2 ⟨this.2.2.1.symm, this.2.2.2.symm⟩
      rw [putF, if_neg hne, h _ _ _ _ h1, outO, hf, if_neg e2]; rfl
  · have hne : ¬ kbs [k, n, d, s] = kbs [r.k, r.n, r.d, r.s] := fun e3 => by
      have := keyO.inj rfl h1 rfl hz e3
      simp only [List.cons.injEq, and_true] at this
      exact e ⟨this.1.symm, this.2.1.symm⟩
    rw [putF, if_neg hne, h _ _ _ _ h1, outO, if_neg (fun e2 => e (sameB_iff.1 e2)), Option.or_none]
theorem putF_same {F : List UInt8 → Option Value} {kb : List UInt8} {v : Value} (h : F kb = some v) : putF F kb v = F := by
  funext x
  unfold putF
  split
  · rename_i e; rw [e, h]
  · rfl

theorem open_out {st : StB} (hi : st.ideal = true) (hw : WfB st.T) {k n d s t : ByteArray} (h : outO st.T k n d s = some t) : bxOpen st k n d s = (t, 0) := by
  unfold outO at h
  cases hf : findB st.T k n with
  | none => rw [hf] at h; cases h
  | some r =>
    rw [hf, Option.bind_some] at h
    split at h
    · rename_i hr
      injection h with h
      obtain ⟨hm, rfl, rfl⟩ := findB_some hf
      have hok := hw.ok r hm
      obtain ⟨rfl, rfl⟩ := hr
      rw [open_row hi ⟨hok.1.1, hok.1.2.1, by have := hok.2; omega, by have := hok.2; have := hok.1.2.2; omega⟩ hf ⟨rfl, rfl⟩, h]
    · cases h
theorem open_out_none {st : StB} (hi : st.ideal = true) {k n d s : ByteArray} (h : outO st.T k n d s = none) : ∃ E : Int, (E = 5 ∨ E = 20) ∧ bxOpen st k n d s = (ByteArray.empty, E) := by
  by_cases ho : openOk k n d s
  · cases hf : findB st.T k n with
    | none => exact ⟨20, .inr rfl, open_none hi ho hf⟩
    | some r =>
      by_cases hr : r.d = d ∧ r.s = s
      · rw [outO, hf, Option.bind_some, if_pos hr] at h; cases h
      · exact ⟨20, .inr rfl, open_other hi ho hf hr⟩
  · exact ⟨5, .inl rfl, open_size hi ho⟩
/-- The texts of a table are short. -/
theorem out_small {T : List RowB} (hw : WfB T) {k n d s t : ByteArray} (h : outO T k n d s = some t) : k.size ≤ 1000 ∧ n.size ≤ 1000 ∧ d.size ≤ 1048576 ∧ s.size ≤ 1048576 := by
  unfold outO at h
  cases hf : findB T k n with
  | none => rw [hf] at h; cases h
  | some r =>
    rw [hf, Option.bind_some] at h
    split at h
    · rename_i hr
      obtain ⟨hm, rfl, rfl⟩ := findB_some hf
      obtain ⟨⟨h1, h2, h3⟩, h4⟩ := hw.ok r hm
      obtain ⟨rfl, rfl⟩ := hr
      have := szB_yes h1
      exact ⟨by omega, by omega, by omega, by omega⟩
    · cases h

def InvO (_ : World → Prop) (Bx : World → (Nat → Prop) → Value → StB → Prop) (W wr : World) (p : Value) (bm k : Nat) : Prop :=
  ∃ (st : StB) (own : Nat → Prop) (F : List UInt8 → Option Value), st.ideal = true ∧ WfB st.T ∧ st.T.length ≤ k ∧ st.draws.size ≤ 8192 ∧ Bx wr own p st ∧ (∀ g, own g → W.heap.size ≤ g) ∧ ¬ own bm ∧ W.heap.size ≤ bm ∧
    MapIs wr Tryd.prog (keyTy 26) bm st.T.length F ∧ RelO F st.T ∧ (∀ kb v, F kb = some v → ∃ c : ByteArray, v = .string c) ∧ Below W.heap.size W wr
theorem putF_str {F : List UInt8 → Option Value} (h : ∀ kb v, F kb = some v → ∃ c : ByteArray, v = .string c) (kb : List UInt8) (t : ByteArray) : ∀ kb' v, putF F kb (.string t) kb' = some v → ∃ c : ByteArray, v = .string c := by
  intro kb' v hv
  unfold putF at hv
  split at hv
  · injection hv with hv; exact ⟨t, hv.symm⟩
  · exact h kb' v hv
def mk4 (x : ByteArray × ByteArray × ByteArray × ByteArray) : Value := .agg #[.string x.1, .string x.2.1, .string x.2.2.1, .string x.2.2.2]
set_option maxRecDepth 100000 in
theorem inv4 (key : Value) (kl : Lit) (h : Go.keyOf Tryd.prog (keyTy 26) key = some kl) : ∃ x, key = mk4 x := by
  obtain ⟨xs, h1, _, rfl⟩ := keyO.inv h
  match xs, h1 with
  | [a, b, c, d], _ => exact ⟨(a, b, c, d), rfl⟩
set_option maxRecDepth 100000 in
theorem key4 {x : ByteArray × ByteArray × ByteArray × ByteArray} {kb : List UInt8} (h : Go.keyOf Tryd.prog (keyTy 26) (mk4 x) = some (.string kb)) : kb = kbs [x.1, x.2.1, x.2.2.1, x.2.2.2] ∧ ∀ y ∈ [x.1, x.2.1, x.2.2.1, x.2.2.2], y.size ≤ maxLen := by
  obtain ⟨xs, h1, h2, h3⟩ := keyO.inv h
  match xs, h1 with
  | [a, b, c, d], _ =>
    simp only [mk4, List.map_cons, List.map_nil, Value.agg.injEq, Array.mk.injEq, List.cons.injEq, Value.string.injEq, and_true] at h3
    obtain ⟨e1, e2, e3, e4⟩ := h3
    rw [e1, e2, e3, e4]
    refine ⟨?_, h2⟩
    rw [mk4, e1, e2, e3, e4, keyO_of h2] at h
    injection h with h
    injection h with h
    exact h.symm

set_option maxHeartbeats 4000000 in
set_option maxRecDepth 100000 in
theorem boxOpens_walk {P : World → Prop} {Bx : World → (Nat → Prop) → Value → StB → Prop} (C : BoxC P Bx) (draws : ByteArray) (a : Option Addr) (len cap : Nat) (zs : List ActB) (W : World) (_ : draws.size ≤ maxLen) (hl : IsActs W a len cap zs) (hp : P W) :
    Calls Tryd.prog 3 #[.string draws, .slice a len cap] W fun e w' => e = .returned (.bool true) ∧ Below W.heap.size W w' := by
  have HA := Lib.hid (C.awake W hp)
  have HC := Lib.hid C
  have HP := Lib.hid hp
  have HL := Lib.hid hl
  have hmm := @run_makeMap Tryd.prog
  by_cases hd : 8192 < draws.size
  · have b1 : decide (8192 < (draws.size : Int)) = true := decide_eq_true (by omega)
    clear hd hp C hl
    go_enter Tryd.func3, Tryd.ntmps3
    go_wp2_with (first
      | (go_at_call 6; (with_reducible refine HA.out.mono ?_); rintro e w1 ⟨rfl, hb1⟩))
    go_ret
    exact ⟨rfl, hb1⟩
  have b1 : decide (8192 < (draws.size : Int)) = false := decide_eq_false (by omega)
  have HD := Lib.hid (show draws.size ≤ 8192 by omega)
  have HLn := Lib.hid hl.len
  clear hd hp C hl
  go_enter Tryd.func3, Tryd.ntmps3
  go_wp2_with (first
    | (go_at_call 6; (with_reducible refine HA.out.mono ?_); rintro e w1 ⟨rfl, hb1⟩; have HI := Lib.hid (HC.out.ideal draws (Nat.le_trans HD.out (by decide)) w1 (HC.out.next HP.out hb1)))
    | (go_at_call 7; (with_reducible refine HI.out.mono ?_); rintro e w2 ⟨p, own, rfl, hbx, hown, hb2⟩))
  have HB0 := Lib.hid ((hb1.trans (hb2.mono hb1.size)).alloc (Nat.le_trans hb1.size hb2.size) (.map #[] 0))
  have HBx0 := Lib.hid (HC.out.nextB hbx ((Below.refl w2.heap.size w2).alloc (Nat.le_refl _) (.map #[] 0)))
  have HM0 := Lib.hid (MapIs.new w2 Tryd.prog (keyTy 26))
  have hlt0 := HC.out.lt hbx
  have HO := Lib.hid (fun (g : Nat) (h : own g) => Nat.le_trans hb1.size (hown g h))
  obtain ⟨bm, hbm⟩ : ∃ bm, bm = w2.heap.size := ⟨_, rfl⟩
  have HNB := Lib.hid (show ¬ own bm from fun h => by have := hlt0 bm h; omega)
  have HBM := Lib.hid (show W.heap.size ≤ bm by have := hb1.size; have := hb2.size; omega)
  rw [← hbm] at HM0 ⊢
  generalize w2.alloc (.map #[] 0) = w3 at *
  clear hb1 hb2 hbx hown hlt0 hbm HI HA hmm b1
  go_loopw [7] (fun i wr => ∃ k : Nat, i = .int .i64 (k : Int) ∧ k ≤ 40 ∧ InvO P Bx W wr p bm k) (fun i _ => 41 - (intOf i).toNat)
  case atStart => exact ⟨0, rfl, by omega, idealB draws, own, _, rfl, WfB.nil, Nat.le_refl _, HD.out, HBx0.out, HO.out, HNB.out, HBM.out, HM0.out, fun _ _ _ _ _ => rfl, (fun _ _ h => by cases h), HB0.out⟩
  case round =>
    clear HBx0 HO HNB HBM HM0 HB0 HD
    obtain ⟨k, rfl, hk, st, own, F, hi, hwf, hTl, hdr, hbx, hown, hnb, hbm, hmap, hrl, hstr, hbel⟩ := hrel
    by_cases hlt : k < len
    · by_cases h40 : k < 40
      · have e1 : decide ((k : Int) < (len : Int)) = true := decide_eq_true (by omega)
        have e2 : decide ((k : Int) < 40) = true := decide_eq_true (by omega)
        have hk0 : (0 : Int) ≤ (k : Int) := by omega
        have hli : (k : Int) < (len : Int) := by omega
        obtain ⟨x, y, rfl, hy, hok, hld⟩ := HL.out.load hlt
        have HLg := Lib.hid (large7_any y)
        have hld1 := hld wr hbel
        cases hg : largeA y
        · rw [hg] at HLg
          have hsz := fixedA_sizes hg
          have hno := largeA_no hg
          have HFx := Lib.hid (fixed7_any y hok.kind (by omega) (by omega))
          generalize fixedA y = X at *
          have hx0 : (actC X)[0]? = some (.int .i64 X.kind) := rfl
          have hx1 : (actC X)[1]? = some (.string X.K) := rfl
          have hx2 : (actC X)[2]? = some (.string X.N) := rfl
          have hx3 : (actC X)[3]? = some (.string X.D) := rfl
          have hx4 : (actC X)[4]? = some (.string X.T) := rfl
          have hxl : ∀ m, m ≤ 500 → m ≤ maxLen := fun m h => Nat.le_trans h (by decide)
          by_cases hkd : X.kind = 0
          · have hk0 : (X.kind == 0) = true := by rw [hkd]; rfl
            have HSeal := Lib.hid (fun (w : World) (h1 : P w) (h2 : Bx w own p st) => HC.out.seal' X.K X.N X.D X.T (by omega) (by omega) (by omega) (by omega) (by omega) (by omega) w h1 h2)
            by_cases hso : sealOk X.K X.N X.D X.T
            · cases hfd : findB st.T X.K X.N with
              | some r =>
                by_cases hr : r.d = X.D ∧ r.t = X.T
                · have hS := seal_again hi hso hfd hr
                  have hR : bxSealR st X.K X.N X.D X.T = .tuple #[.string r.s, .int .i64 0] := by rw [bxSealR, hS]; rfl
                  have hT : bxSealT st X.K X.N X.D X.T = st := by rw [bxSealT, hS]
                  rw [hR, hT] at HSeal
                  have hrm := findB_some hfd
                  have hrs := (hwf.ok r hrm.1).2
                  have hrt := (hwf.ok r hrm.1).1.2.2
                  have hkz : ∀ x ∈ [X.K, X.N, X.D, r.s], x.size ≤ maxLen := le4 (hxl _ (by omega)) (hxl _ (by omega)) (hxl _ (by omega)) (Nat.le_trans (show r.s.size ≤ 20000 by omega) (by decide))
                  have hkey := keyO_of hkz
                  have hF : F (kbs [X.K, X.N, X.D, r.s]) = some (.string X.T) := by
                    rw [hrl _ _ _ _ hkz, outO, hfd, Option.bind_some, if_pos ⟨hr.1, rfl⟩, Option.map_some, hr.2]
                  have hpF := putF_same hF
                  have hpN : putN F (kbs [X.K, X.N, X.D, r.s]) st.T.length = st.T.length := by rw [putN, hF]; rfl
                  generalize r.s = RS at *
                  clear hrm hrs hrt hfd
                  clear hR hT hS
                  go_wp2_with (first
                    | (with_reducible refine wpList_load_eq rfl _ _ rfl (.pointer (some (x.add (k * 5)))) rfl _ hld1 ?_)
                    | (go_at_call 8; (with_reducible refine (HLg.out _).mono ?_); rintro e w1 ⟨rfl, hb1⟩; have hld2 := hld w1 (hbel.trans (hb1.mono hbel.size)))
                    | (with_reducible refine wpList_load_eq rfl _ _ rfl (.pointer (some (x.add (k * 5)))) rfl _ hld2 ?_)
                    | (go_at_call 9; (with_reducible refine (HFx.out _).mono ?_); rintro e w2 ⟨rfl, hb2⟩; have hb3 := (Below_next hb1 hb2).alloc (Below_next hb1 hb2).size (.cells (actC X) 29); have hbx3 := HC.out.nextB hbx hb3; have hP3 := HC.out.next HP.out (hbel.trans (hb3.mono hbel.size)); have hact3 : ActAt (w2.alloc (.cells (actC X) 29)) w2.heap.size X := Arr.new w2 _ _; have HSeal4 := Lib.hid (HSeal.out _ hP3 hbx3))
                    | (with_reducible refine wpList_store_act_new rfl _ _ rfl _ (by simp) _ rfl rfl _ rfl (actC_size _) (actC_one _) ?_)
                    | (go_at_call 10; (with_reducible refine HSeal4.out.mono ?_); rintro e w5 ⟨rfl, own5, hbx5, hown5, hf5⟩; obtain ⟨hs1, hs2, hb5, ho5, hn5⟩ := seal_sep HC.out.toBoxB hbel hbx hown hb3 hown5 hf5; have hact5 : ActAt w5 w2.heap.size X := (hs1 _ (Below_next hb1 hb2).size (Arr.lt hact3)).trans hact3; have hmap5 := (hmap.next hb3 hmap.lt).of (hs2 bm hnb hmap.lt); have c51 := hact5.c1; have c52 := hact5.c2; have c53 := hact5.c3; have c54 := hact5.c4; clear hs1 hs2)
                    | (at_mapUpdate; with_reducible refine wpList_store_is rfl _ _ _ 26 rfl _ _ keyO.keyed mapO bm _ F rfl hmap5 (Nat.lt_of_le_of_lt (show st.T.length ≤ 100 by omega) (by decide)) (.agg #[.string X.K, .string X.N, .string X.D, .string RS]) (.string X.T) (kbs [X.K, X.N, X.D, RS]) rfl rfl hkey ?_; intro w8 hmap8 hg8 hz8))
                  have hb8 : Below W.heap.size W w8 := hb5.trans ⟨hg8.os, hg8.tape, hg8.output, hg8.size, fun g h => hg8.block g (Nat.lt_of_lt_of_le h hb5.size) fun e => by injection e with e; omega⟩
                  have hbx8 : Bx w8 own5 p st := HC.out.keep hbx5 fun g h => hg8.block g (HC.out.lt hbx5 g h) fun e => hn5 bm hnb hmap.lt (by injection e with e; exact e ▸ h)
                  rw [hpF, hpN] at hmap8
                  exact ⟨⟨k + 1, by simp, by omega, st, own5, F, hi, hwf, by omega, hdr, hbx8, ho5, hn5 bm hnb hmap.lt, hbm, hmap8, hrl, hstr, hb8⟩, by simp only [intOf]; omega⟩
                · have hS := seal_twice hi hso hfd hr
                  have hR : bxSealR st X.K X.N X.D X.T = .tuple #[.string ⟨#[]⟩, .int .i64 11] := by rw [bxSealR, hS]; rfl
                  have hT : bxSealT st X.K X.N X.D X.T = st := by rw [bxSealT, hS]
                  rw [hR, hT] at HSeal
                  clear hR hT hS
                  go_wp2_with (first
                    | (with_reducible refine wpList_load_eq rfl _ _ rfl (.pointer (some (x.add (k * 5)))) rfl _ hld1 ?_)
                    | (go_at_call 8; (with_reducible refine (HLg.out _).mono ?_); rintro e w1 ⟨rfl, hb1⟩; have hld2 := hld w1 (hbel.trans (hb1.mono hbel.size)))
                    | (with_reducible refine wpList_load_eq rfl _ _ rfl (.pointer (some (x.add (k * 5)))) rfl _ hld2 ?_)
                    | (go_at_call 9; (with_reducible refine (HFx.out _).mono ?_); rintro e w2 ⟨rfl, hb2⟩; have hb3 := (Below_next hb1 hb2).alloc (Below_next hb1 hb2).size (.cells (actC X) 29); have hbx3 := HC.out.nextB hbx hb3; have hP3 := HC.out.next HP.out (hbel.trans (hb3.mono hbel.size)); have hact3 : ActAt (w2.alloc (.cells (actC X) 29)) w2.heap.size X := Arr.new w2 _ _; have HSeal4 := Lib.hid (HSeal.out _ hP3 hbx3))
                    | (with_reducible refine wpList_store_act_new rfl _ _ rfl _ (by simp) _ rfl rfl _ rfl (actC_size _) (actC_one _) ?_)
                    | (go_at_call 10; (with_reducible refine HSeal4.out.mono ?_); rintro e w5 ⟨rfl, own5, hbx5, hown5, hf5⟩; obtain ⟨hs1, hs2, hb5, ho5, hn5⟩ := seal_sep HC.out.toBoxB hbel hbx hown hb3 hown5 hf5; have hact5 : ActAt w5 w2.heap.size X := (hs1 _ (Below_next hb1 hb2).size (Arr.lt hact3)).trans hact3; have hmap5 := (hmap.next hb3 hmap.lt).of (hs2 bm hnb hmap.lt); have c51 := hact5.c1; have c52 := hact5.c2; have c53 := hact5.c3; have c54 := hact5.c4; clear hs1 hs2))
                  exact ⟨⟨k + 1, by simp, by omega, st, own5, F, hi, hwf, by omega, hdr, hbx5, ho5, hn5 bm hnb hmap.lt, hbm, hmap5, hrl, hstr, hb5⟩, by simp only [intOf]; omega⟩
              | none =>
                by_cases hsp : st.draws.size < X.T.size + 16
                · have hS := seal_spent hi hso hfd hsp
                  have hR : bxSealR st X.K X.N X.D X.T = .tuple #[.string ⟨#[]⟩, .int .i64 21] := by rw [bxSealR, hS]; rfl
                  have hT : bxSealT st X.K X.N X.D X.T = st := by rw [bxSealT, hS]
                  rw [hR, hT] at HSeal
                  clear hR hT hS
                  go_wp2_with (first
                    | (with_reducible refine wpList_load_eq rfl _ _ rfl (.pointer (some (x.add (k * 5)))) rfl _ hld1 ?_)
                    | (go_at_call 8; (with_reducible refine (HLg.out _).mono ?_); rintro e w1 ⟨rfl, hb1⟩; have hld2 := hld w1 (hbel.trans (hb1.mono hbel.size)))
                    | (with_reducible refine wpList_load_eq rfl _ _ rfl (.pointer (some (x.add (k * 5)))) rfl _ hld2 ?_)
                    | (go_at_call 9; (with_reducible refine (HFx.out _).mono ?_); rintro e w2 ⟨rfl, hb2⟩; have hb3 := (Below_next hb1 hb2).alloc (Below_next hb1 hb2).size (.cells (actC X) 29); have hbx3 := HC.out.nextB hbx hb3; have hP3 := HC.out.next HP.out (hbel.trans (hb3.mono hbel.size)); have hact3 : ActAt (w2.alloc (.cells (actC X) 29)) w2.heap.size X := Arr.new w2 _ _; have HSeal4 := Lib.hid (HSeal.out _ hP3 hbx3))
                    | (with_reducible refine wpList_store_act_new rfl _ _ rfl _ (by simp) _ rfl rfl _ rfl (actC_size _) (actC_one _) ?_)
                    | (go_at_call 10; (with_reducible refine HSeal4.out.mono ?_); rintro e w5 ⟨rfl, own5, hbx5, hown5, hf5⟩; obtain ⟨hs1, hs2, hb5, ho5, hn5⟩ := seal_sep HC.out.toBoxB hbel hbx hown hb3 hown5 hf5; have hact5 : ActAt w5 w2.heap.size X := (hs1 _ (Below_next hb1 hb2).size (Arr.lt hact3)).trans hact3; have hmap5 := (hmap.next hb3 hmap.lt).of (hs2 bm hnb hmap.lt); have c51 := hact5.c1; have c52 := hact5.c2; have c53 := hact5.c3; have c54 := hact5.c4; clear hs1 hs2))
                  exact ⟨⟨k + 1, by simp, by omega, st, own5, F, hi, hwf, by omega, hdr, hbx5, ho5, hn5 bm hnb hmap.lt, hbm, hmap5, hrl, hstr, hb5⟩, by simp only [intOf]; omega⟩
                · have hS := seal_new hi hso hfd hsp
                  have hns := newB_size hsp
                  have hda : (afterB st X.K X.N X.D X.T).draws.size = st.draws.size - (X.T.size + 16) := by
                    show (st.draws.extract (X.T.size + 16) st.draws.size).size = _; rw [ext_size _ _ _ (Nat.le_refl _)]
                  have hwf2 : WfB (afterB st X.K X.N X.D X.T).T := hwf.snoc hfd hso hns
                  have hkz : ∀ x ∈ [X.K, X.N, X.D, newB st X.T], x.size ≤ maxLen := le4 (hxl _ (by omega)) (hxl _ (by omega)) (hxl _ (by omega)) (Nat.le_trans (show (newB st X.T).size ≤ 20000 by omega) (by decide))
                  have hkey := keyO_of hkz
                  have hrl2 : RelO (putF F (kbs [X.K, X.N, X.D, newB st X.T]) (.string X.T)) (afterB st X.K X.N X.D X.T).T := hrl.put (r := ⟨X.K, X.N, X.D, X.T, newB st X.T⟩) hkz hfd
                  have hlen : (afterB st X.K X.N X.D X.T).T.length = st.T.length + 1 := by show (st.T ++ [_]).length = _; rw [List.length_append]; rfl
                  have hF : F (kbs [X.K, X.N, X.D, newB st X.T]) = none := by rw [hrl _ _ _ _ hkz, outO, hfd]; rfl
                  have hpn : putN F (kbs [X.K, X.N, X.D, newB st X.T]) st.T.length = st.T.length + 1 := by rw [putN, hF]; rfl
                  have hid2 : (afterB st X.K X.N X.D X.T).ideal = true := hi
                  have hda2 : (afterB st X.K X.N X.D X.T).draws.size ≤ 8192 := by omega
                  generalize afterB st X.K X.N X.D X.T = st2 at *
                  generalize newB st X.T = NB at *
                  have hR : bxSealR st X.K X.N X.D X.T = .tuple #[.string NB, .int .i64 0] := by rw [bxSealR, hS]; rfl
                  have hT : bxSealT st X.K X.N X.D X.T = st2 := by rw [bxSealT, hS]
                  rw [hR, hT] at HSeal
                  clear hR hT hS
                  go_wp2_with (first
                    | (with_reducible refine wpList_load_eq rfl _ _ rfl (.pointer (some (x.add (k * 5)))) rfl _ hld1 ?_)
                    | (go_at_call 8; (with_reducible refine (HLg.out _).mono ?_); rintro e w1 ⟨rfl, hb1⟩; have hld2 := hld w1 (hbel.trans (hb1.mono hbel.size)))
                    | (with_reducible refine wpList_load_eq rfl _ _ rfl (.pointer (some (x.add (k * 5)))) rfl _ hld2 ?_)
                    | (go_at_call 9; (with_reducible refine (HFx.out _).mono ?_); rintro e w2 ⟨rfl, hb2⟩; have hb3 := (Below_next hb1 hb2).alloc (Below_next hb1 hb2).size (.cells (actC X) 29); have hbx3 := HC.out.nextB hbx hb3; have hP3 := HC.out.next HP.out (hbel.trans (hb3.mono hbel.size)); have hact3 : ActAt (w2.alloc (.cells (actC X) 29)) w2.heap.size X := Arr.new w2 _ _; have HSeal4 := Lib.hid (HSeal.out _ hP3 hbx3))
                    | (with_reducible refine wpList_store_act_new rfl _ _ rfl _ (by simp) _ rfl rfl _ rfl (actC_size _) (actC_one _) ?_)
                    | (go_at_call 10; (with_reducible refine HSeal4.out.mono ?_); rintro e w5 ⟨rfl, own5, hbx5, hown5, hf5⟩; obtain ⟨hs1, hs2, hb5, ho5, hn5⟩ := seal_sep HC.out.toBoxB hbel hbx hown hb3 hown5 hf5; have hact5 : ActAt w5 w2.heap.size X := (hs1 _ (Below_next hb1 hb2).size (Arr.lt hact3)).trans hact3; have hmap5 := (hmap.next hb3 hmap.lt).of (hs2 bm hnb hmap.lt); have c51 := hact5.c1; have c52 := hact5.c2; have c53 := hact5.c3; have c54 := hact5.c4; clear hs1 hs2)
                    | (at_mapUpdate; with_reducible refine wpList_store_is rfl _ _ _ 26 rfl _ _ keyO.keyed mapO bm _ F rfl hmap5 (Nat.lt_of_le_of_lt (show st.T.length ≤ 100 by omega) (by decide)) (.agg #[.string X.K, .string X.N, .string X.D, .string NB]) (.string X.T) (kbs [X.K, X.N, X.D, NB]) rfl rfl hkey ?_; intro w8 hmap8 hg8 hz8))
                  have hb8 : Below W.heap.size W w8 := hb5.trans ⟨hg8.os, hg8.tape, hg8.output, hg8.size, fun g h => hg8.block g (Nat.lt_of_lt_of_le h hb5.size) fun e => by injection e with e; omega⟩
                  have hbx8 : Bx w8 own5 p st2 := HC.out.keep hbx5 fun g h => hg8.block g (HC.out.lt hbx5 g h) fun e => hn5 bm hnb hmap.lt (by injection e with e; exact e ▸ h)
                  rw [hpn, ← hlen] at hmap8
                  exact ⟨⟨k + 1, by simp, by omega, st2, own5, _, hid2, hwf2, by omega, hda2, hbx8, ho5, hn5 bm hnb hmap.lt, hbm, hmap8, hrl2, putF_str hstr _ _, hb8⟩, by simp only [intOf]; omega⟩
            · have hS := seal_size (st := st) hi hso
              have hR : bxSealR st X.K X.N X.D X.T = .tuple #[.string ⟨#[]⟩, .int .i64 5] := by rw [bxSealR, hS]; rfl
              have hT : bxSealT st X.K X.N X.D X.T = st := by rw [bxSealT, hS]
              rw [hR, hT] at HSeal
              clear hR hT hS
              go_wp2_with (first
                | (with_reducible refine wpList_load_eq rfl _ _ rfl (.pointer (some (x.add (k * 5)))) rfl _ hld1 ?_)
                | (go_at_call 8; (with_reducible refine (HLg.out _).mono ?_); rintro e w1 ⟨rfl, hb1⟩; have hld2 := hld w1 (hbel.trans (hb1.mono hbel.size)))
                | (with_reducible refine wpList_load_eq rfl _ _ rfl (.pointer (some (x.add (k * 5)))) rfl _ hld2 ?_)
                | (go_at_call 9; (with_reducible refine (HFx.out _).mono ?_); rintro e w2 ⟨rfl, hb2⟩; have hb3 := (Below_next hb1 hb2).alloc (Below_next hb1 hb2).size (.cells (actC X) 29); have hbx3 := HC.out.nextB hbx hb3; have hP3 := HC.out.next HP.out (hbel.trans (hb3.mono hbel.size)); have hact3 : ActAt (w2.alloc (.cells (actC X) 29)) w2.heap.size X := Arr.new w2 _ _; have HSeal4 := Lib.hid (HSeal.out _ hP3 hbx3))
                | (with_reducible refine wpList_store_act_new rfl _ _ rfl _ (by simp) _ rfl rfl _ rfl (actC_size _) (actC_one _) ?_)
                | (go_at_call 10; (with_reducible refine HSeal4.out.mono ?_); rintro e w5 ⟨rfl, own5, hbx5, hown5, hf5⟩; obtain ⟨hs1, hs2, hb5, ho5, hn5⟩ := seal_sep HC.out.toBoxB hbel hbx hown hb3 hown5 hf5; have hact5 : ActAt w5 w2.heap.size X := (hs1 _ (Below_next hb1 hb2).size (Arr.lt hact3)).trans hact3; have hmap5 := (hmap.next hb3 hmap.lt).of (hs2 bm hnb hmap.lt); have c51 := hact5.c1; have c52 := hact5.c2; have c53 := hact5.c3; have c54 := hact5.c4; clear hs1 hs2))
              exact ⟨⟨k + 1, by simp, by omega, st, own5, F, hi, hwf, by omega, hdr, hbx5, ho5, hn5 bm hnb hmap.lt, hbm, hmap5, hrl, hstr, hb5⟩, by simp only [intOf]; omega⟩
          · have hk0 : (X.kind == 0) = false := beq_false_of_ne hkd
            have HOpen := Lib.hid (fun (w : World) (h1 : P w) (h2 : Bx w own p st) => HC.out.open' X.K X.N X.D X.T (by omega) (by omega) (by omega) (by omega) (by omega) (by omega) w h1 h2)
            have hkz : ∀ x ∈ [X.K, X.N, X.D, X.T], x.size ≤ maxLen := le4 (hxl _ (by omega)) (hxl _ (by omega)) (hxl _ (by omega)) (hxl _ (by omega))
            have hkey := keyO_of hkz
            have hF := hrl _ _ _ _ hkz
            cases ho : outO st.T X.K X.N X.D X.T with
            | some t =>
              have hR : bxOpenR st X.K X.N X.D X.T = .tuple #[.string t, .int .i64 0] := by rw [bxOpenR, open_out hi hwf ho]; rfl
              rw [hR] at HOpen
              rw [ho, Option.map_some] at hF
              clear hR ho
              go_wp2_with (first
                | (with_reducible refine wpList_load_eq rfl _ _ rfl (.pointer (some (x.add (k * 5)))) rfl _ hld1 ?_)
                | (go_at_call 8; (with_reducible refine (HLg.out _).mono ?_); rintro e w1 ⟨rfl, hb1⟩; have hld2 := hld w1 (hbel.trans (hb1.mono hbel.size)))
                | (with_reducible refine wpList_load_eq rfl _ _ rfl (.pointer (some (x.add (k * 5)))) rfl _ hld2 ?_)
                | (go_at_call 9; (with_reducible refine (HFx.out _).mono ?_); rintro e w2 ⟨rfl, hb2⟩; have hb3 := (Below_next hb1 hb2).alloc (Below_next hb1 hb2).size (.cells (actC X) 29); have hbx3 := HC.out.nextB hbx hb3; have hP3 := HC.out.next HP.out (hbel.trans (hb3.mono hbel.size)); have hact3 : ActAt (w2.alloc (.cells (actC X) 29)) w2.heap.size X := Arr.new w2 _ _; have HOpen4 := Lib.hid (HOpen.out _ hP3 hbx3))
                | (with_reducible refine wpList_store_act_new rfl _ _ rfl _ (by simp) _ rfl rfl _ rfl (actC_size _) (actC_one _) ?_)
                | (go_at_call 11; (with_reducible refine HOpen4.out.mono ?_); rintro e w5 ⟨rfl, hb5⟩; have hact5 := hact3.next hb5; have hmap5 := (hmap.next hb3 hmap.lt).next hb5 (Nat.lt_of_lt_of_le hmap.lt hb3.size); have c51 := hact5.c1; have c52 := hact5.c2; have c53 := hact5.c3; have c54 := hact5.c4; have hbx5 := HC.out.nextB hbx3 hb5; have hbel5 := (hbel.trans (hb3.mono hbel.size)).trans (hb5.mono (hbel.trans (hb3.mono hbel.size)).size))
                | (at_lookup; with_reducible refine wpList_look_is_ok rfl _ _ 26 rfl _ _ keyO.keyed mapO (zeroO _) bm _ F rfl hmap5 (.agg #[.string X.K, .string X.N, .string X.D, .string X.T]) (kbs [X.K, X.N, X.D, X.T]) rfl hkey ?_; rw [hF]; simp only [Option.getD_some, Option.isSome_some]))
              exact ⟨⟨k + 1, by simp, by omega, st, own, F, hi, hwf, by omega, hdr, hbx5, hown, hnb, hbm, hmap5, hrl, hstr, hbel5⟩, by simp only [intOf]; omega⟩
            | none =>
              obtain ⟨E, hE, hO⟩ := open_out_none hi ho
              have hR : bxOpenR st X.K X.N X.D X.T = .tuple #[.string ⟨#[]⟩, .int .i64 E] := by rw [bxOpenR, hO]; rfl
              have hE0 : (E == 0) = false := beq_false_of_ne (by omega)
              rw [hR] at HOpen
              rw [ho, Option.map_none] at hF
              clear hR ho hO hE
              go_wp2_with (first
                | (with_reducible refine wpList_load_eq rfl _ _ rfl (.pointer (some (x.add (k * 5)))) rfl _ hld1 ?_)
                | (go_at_call 8; (with_reducible refine (HLg.out _).mono ?_); rintro e w1 ⟨rfl, hb1⟩; have hld2 := hld w1 (hbel.trans (hb1.mono hbel.size)))
                | (with_reducible refine wpList_load_eq rfl _ _ rfl (.pointer (some (x.add (k * 5)))) rfl _ hld2 ?_)
                | (go_at_call 9; (with_reducible refine (HFx.out _).mono ?_); rintro e w2 ⟨rfl, hb2⟩; have hb3 := (Below_next hb1 hb2).alloc (Below_next hb1 hb2).size (.cells (actC X) 29); have hbx3 := HC.out.nextB hbx hb3; have hP3 := HC.out.next HP.out (hbel.trans (hb3.mono hbel.size)); have hact3 : ActAt (w2.alloc (.cells (actC X) 29)) w2.heap.size X := Arr.new w2 _ _; have HOpen4 := Lib.hid (HOpen.out _ hP3 hbx3))
                | (with_reducible refine wpList_store_act_new rfl _ _ rfl _ (by simp) _ rfl rfl _ rfl (actC_size _) (actC_one _) ?_)
                | (go_at_call 11; (with_reducible refine HOpen4.out.mono ?_); rintro e w5 ⟨rfl, hb5⟩; have hact5 := hact3.next hb5; have hmap5 := (hmap.next hb3 hmap.lt).next hb5 (Nat.lt_of_lt_of_le hmap.lt hb3.size); have c51 := hact5.c1; have c52 := hact5.c2; have c53 := hact5.c3; have c54 := hact5.c4; have hbx5 := HC.out.nextB hbx3 hb5; have hbel5 := (hbel.trans (hb3.mono hbel.size)).trans (hb5.mono (hbel.trans (hb3.mono hbel.size)).size))
                | (at_lookup; with_reducible refine wpList_look_is_ok rfl _ _ 26 rfl _ _ keyO.keyed mapO (zeroO _) bm _ F rfl hmap5 (.agg #[.string X.K, .string X.N, .string X.D, .string X.T]) (kbs [X.K, X.N, X.D, X.T]) rfl hkey ?_; rw [hF]; simp only [Option.getD_none, Option.isSome_none]))
              exact ⟨⟨k + 1, by simp, by omega, st, own, F, hi, hwf, by omega, hdr, hbx5, hown, hnb, hbm, hmap5, hrl, hstr, hbel5⟩, by simp only [intOf]; omega⟩
        · rw [hg] at HLg
          go_wp2_with (first
            | (with_reducible refine wpList_load_eq rfl _ _ rfl (.pointer (some (x.add (k * 5)))) rfl _ hld1 ?_)
            | (go_at_call 8; (with_reducible refine (HLg.out _).mono ?_); rintro e w1 ⟨rfl, hb1⟩))
          go_ret
          exact ⟨rfl, hbel.trans (hb1.mono hbel.size)⟩
      · have e1 : decide ((k : Int) < (len : Int)) = true := decide_eq_true (by omega)
        have e2 : decide ((k : Int) < 40) = false := decide_eq_false (by omega)
        have hst40 : st.T.length ≤ 40 := by omega
        have hlt1 := HC.out.lt hbx
        have hbmr := hmap.lt
        go_wp2_with (first
          | (at_range; with_reducible refine wpList_range_is rfl _ 26 rfl _ _ keyO.keyed mapO bm _ F rfl hmap ?_; intro w1 hr1 hb1 hs1))
        have hbel1 := hbel.trans (hb1.mono hbel.size)
        have hbx1 := HC.out.nextB hbx hb1
        obtain ⟨rr, hrr⟩ : ∃ rr, rr = wr.heap.size := ⟨_, rfl⟩
        rw [← hrr] at hr1 ⊢
        have hnr : ¬ own rr := fun h => by have := hlt1 rr h; omega
        have hWr : W.heap.size ≤ rr := by have := hbel.size; omega
        clear hb1 hs1 hlt1 hbmr hrr hbel hbx hmap HL
        go_frame
        go_loopw [114] (fun _ wq => ∃ cnt : Nat, MapRng wq Tryd.prog (keyTy 26) bm rr st.T.length F cnt ∧ Bx wq own p st ∧ Below W.heap.size W wq) (fun _ wq => wq.rangeLeft bm rr)
        case atStart => exact ⟨_, hr1, hbx1, hbel1⟩
        case round =>
          clear hr1 hbx1 hbel1
          obtain ⟨cnt, hr, hbx2, hbel2⟩ := hrel
          rename_i wq
          have HLen := Lib.hid (HC.out.len (by omega) _ (HC.out.next HP.out hbel2) hbx2)
          have hmap2 := hr.is
          go_wp2_with (at_next; refine wpList_next_is rfl _ rfl _ _ _ keyO mk4 Value.string bm rr _ F cnt inv4 hstr rfl hr ?_ ?_)
          · go_wp2_with (first
              | (go_at_call 12; (with_reducible refine HLen.out.mono ?_); rintro e w4 ⟨rfl, hb4⟩; have hm4 := hmap2.next hb4 hmap2.lt)
              | (at_len; with_reducible refine wpList_len_is rfl _ 26 rfl _ _ mapO bm _ F rfl hm4 ?_))
            go_ret
            exact ⟨rfl, hbel2.trans (hb4.mono hbel2.size)⟩
          · intro k1 n1 d1 s1 c kb w2 cnt2 hkey hF2 hr2 hlt2 hg2 hs2 hen
            obtain ⟨rfl, hz4⟩ := key4 (x := (k1, n1, d1, s1)) hkey
            simp only at hz4 hF2
            have ho : outO st.T k1 n1 d1 s1 = some c := by
              have := hrl _ _ _ _ hz4
              rw [hF2] at this
              cases hq : outO st.T k1 n1 d1 s1 with
              | none => rw [hq] at this; cases this
              | some t => rw [hq] at this; simp only [Option.map_some, Option.some.injEq, Value.string.injEq] at this; rw [this]
            simp only [mk4] at hen
            obtain ⟨z1, z2, z3, z4⟩ := out_small hwf ho
            have hR : bxOpenR st k1 n1 d1 s1 = .tuple #[.string c, .int .i64 0] := by rw [bxOpenR, open_out hi hwf ho]; rfl
            have HOpen := Lib.hid (fun (w : World) (h1 : P w) (h2 : Bx w own p st) => HC.out.open' k1 n1 d1 s1 z1 z2 z3 z4 (by omega) (by omega) w h1 h2)
            rw [hR] at HOpen
            have hbw2 : Below W.heap.size W w2 := hbel2.trans ⟨hg2.os, hg2.tape, hg2.output, hg2.size, fun g h => hg2.block g (Nat.lt_of_lt_of_le h hbel2.size) fun e => by injection e with e; omega⟩
            have hbxw2 : Bx w2 own p st := HC.out.keep hbx2 fun g h => hg2.block g (HC.out.lt hbx2 g h) fun e => hnr (by injection e with e; exact e ▸ h)
            have HP2 := Lib.hid (HC.out.next HP.out hbw2)
            have HB2 := Lib.hid hbxw2
            clear hR ho hkey hF2 hz4 z1 z2 z3 z4
            go_wp2_with (first
              | (go_at_call 11; (refine (HOpen.out _ (HC.out.alloc _ HP2.out) (HC.out.nextB HB2.out ((Below.refl w2.heap.size w2).alloc (Nat.le_refl _) _))).mono ?_); rintro e w3 ⟨rfl, hb3⟩))
            have hb23 := Below_next ((Below.refl w2.heap.size w2).alloc (Nat.le_refl _) _) hb3
            refine ⟨⟨cnt2, hr2.next hb23, HC.out.nextB HB2.out hb23, hbw2.trans (hb23.mono hbw2.size)⟩, ?_⟩
            rw [(hr2.next hb23).left, hr.left]; exact hlt2
    · have e1 : decide ((k : Int) < (len : Int)) = false := decide_eq_false (by omega)
      have hst40 : st.T.length ≤ 40 := by omega
      have hlt1 := HC.out.lt hbx
      have hbmr := hmap.lt
      go_wp2_with (first
        | (at_range; with_reducible refine wpList_range_is rfl _ 26 rfl _ _ keyO.keyed mapO bm _ F rfl hmap ?_; intro w1 hr1 hb1 hs1))
      have hbel1 := hbel.trans (hb1.mono hbel.size)
      have hbx1 := HC.out.nextB hbx hb1
      obtain ⟨rr, hrr⟩ : ∃ rr, rr = wr.heap.size := ⟨_, rfl⟩
      rw [← hrr] at hr1 ⊢
      have hnr : ¬ own rr := fun h => by have := hlt1 rr h; omega
      have hWr : W.heap.size ≤ rr := by have := hbel.size; omega
      clear hb1 hs1 hlt1 hbmr hrr hbel hbx hmap HL
      go_frame
      go_loopw [114] (fun _ wq => ∃ cnt : Nat, MapRng wq Tryd.prog (keyTy 26) bm rr st.T.length F cnt ∧ Bx wq own p st ∧ Below W.heap.size W wq) (fun _ wq => wq.rangeLeft bm rr)
      case atStart => exact ⟨_, hr1, hbx1, hbel1⟩
      case round =>
        clear hr1 hbx1 hbel1
        obtain ⟨cnt, hr, hbx2, hbel2⟩ := hrel
        rename_i wq
        have HLen := Lib.hid (HC.out.len (by omega) _ (HC.out.next HP.out hbel2) hbx2)
        have hmap2 := hr.is
        go_wp2_with (at_next; refine wpList_next_is rfl _ rfl _ _ _ keyO mk4 Value.string bm rr _ F cnt inv4 hstr rfl hr ?_ ?_)
        · go_wp2_with (first
            | (go_at_call 12; (with_reducible refine HLen.out.mono ?_); rintro e w4 ⟨rfl, hb4⟩; have hm4 := hmap2.next hb4 hmap2.lt)
            | (at_len; with_reducible refine wpList_len_is rfl _ 26 rfl _ _ mapO bm _ F rfl hm4 ?_))
          go_ret
          exact ⟨rfl, hbel2.trans (hb4.mono hbel2.size)⟩
        · intro k1 n1 d1 s1 c kb w2 cnt2 hkey hF2 hr2 hlt2 hg2 hs2 hen
          obtain ⟨rfl, hz4⟩ := key4 (x := (k1, n1, d1, s1)) hkey
          simp only at hz4 hF2
          have ho : outO st.T k1 n1 d1 s1 = some c := by
            have := hrl _ _ _ _ hz4
            rw [hF2] at this
            cases hq : outO st.T k1 n1 d1 s1 with
            | none => rw [hq] at this; cases this
            | some t => rw [hq] at this; simp only [Option.map_some, Option.some.injEq, Value.string.injEq] at this; rw [this]
          simp only [mk4] at hen
          obtain ⟨z1, z2, z3, z4⟩ := out_small hwf ho
          have hR : bxOpenR st k1 n1 d1 s1 = .tuple #[.string c, .int .i64 0] := by rw [bxOpenR, open_out hi hwf ho]; rfl
          have HOpen := Lib.hid (fun (w : World) (h1 : P w) (h2 : Bx w own p st) => HC.out.open' k1 n1 d1 s1 z1 z2 z3 z4 (by omega) (by omega) w h1 h2)
          rw [hR] at HOpen
          have hbw2 : Below W.heap.size W w2 := hbel2.trans ⟨hg2.os, hg2.tape, hg2.output, hg2.size, fun g h => hg2.block g (Nat.lt_of_lt_of_le h hbel2.size) fun e => by injection e with e; omega⟩
          have hbxw2 : Bx w2 own p st := HC.out.keep hbx2 fun g h => hg2.block g (HC.out.lt hbx2 g h) fun e => hnr (by injection e with e; exact e ▸ h)
          have HP2 := Lib.hid (HC.out.next HP.out hbw2)
          have HB2 := Lib.hid hbxw2
          clear hR ho hkey hF2 hz4 z1 z2 z3 z4
          go_wp2_with (first
            | (go_at_call 11; (refine (HOpen.out _ (HC.out.alloc _ HP2.out) (HC.out.nextB HB2.out ((Below.refl w2.heap.size w2).alloc (Nat.le_refl _) _))).mono ?_); rintro e w3 ⟨rfl, hb3⟩))
          have hb23 := Below_next ((Below.refl w2.heap.size w2).alloc (Nat.le_refl _) _) hb3
          refine ⟨⟨cnt2, hr2.next hb23, HC.out.nextB HB2.out hb23, hbw2.trans (hb23.mono hbw2.size)⟩, ?_⟩
          rw [(hr2.next hb23).left, hr.left]; exact hlt2
end Go.Proofs.YtfflpooiebeagaaDoor
