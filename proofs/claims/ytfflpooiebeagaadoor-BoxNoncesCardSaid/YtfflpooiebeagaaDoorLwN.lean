/- BoxNonces: its walk over the record. -/
import Derived.Test.YtfflpooiebeagaaDoorLwC
namespace Go.Proofs.YtfflpooiebeagaaDoor
open Go.RowKit

theorem mapN : Tryd.prog.underlying 44 = some (.map (keyTy 44) (elTy 44)) := by kernel_rfl
theorem keyN : StrKey Tryd.prog (keyTy 44) 9 2 where
  keyed := Maps.Keyed.of_law (deep_law_laid laidOut7 (m := 2) (by omega) (of_decide_eq_true (by kernel_rfl)) (by kernel_rfl) (by kernel_rfl))
  fields := by kernel_rfl
  str := Tryd.underlying9
  one := by kernel_rfl
  all := by kernel_rfl
  isKey := by kernel_rfl
  pos := of_decide_eq_true (by kernel_rfl)
theorem zeroN (w : World) : (zeroValue (elTy 44)).run Tryd.prog w = .ok (.agg #[.string ⟨#[]⟩, .string ⟨#[]⟩, .string ⟨#[]⟩]) w := by kernel_rfl
def rowN (r : RowB) : Value := .agg #[.string r.d, .string r.t, .string r.s]
def RelN (F : List UInt8 → Option Value) (T : List RowB) : Prop := ∀ k n : ByteArray, k.size ≤ 1000 → n.size ≤ 1000 → F (kbs [k, n]) = (findB T k n).map rowN
theorem small_le {n : Nat} (h : n ≤ 1000) : n ≤ maxLen := Nat.le_trans h (by decide)
theorem two_le {k n : ByteArray} (hk : k.size ≤ 1000) (hn : n.size ≤ 1000) : ∀ x ∈ [k, n], x.size ≤ maxLen := by
  intro x hx
  rcases List.mem_cons.1 hx with rfl | hx
  · exact small_le hk
  · obtain rfl := List.mem_singleton.1 hx; exact small_le hn
theorem keyN_of {k n : ByteArray} (hk : k.size ≤ 1000) (hn : n.size ≤ 1000) : Go.keyOf Tryd.prog (keyTy 44) (.agg #[.string k, .string n]) = some (.string (kbs [k, n])) := keyN.keyOf (xs := [k, n]) rfl (two_le hk hn)
theorem RelN.put {F : List UInt8 → Option Value} {T : List RowB} (h : RelN F T) {r : RowB} (hk : r.k.size ≤ 1000) (hn : r.n.size ≤ 1000) (hf : findB T r.k r.n = none) : RelN (putF F (kbs [r.k, r.n]) (rowN r)) (T ++ [r]) := by
  intro k n h1 h2
  rw [findB_append]
  by_cases e : r.k = k ∧ r.n = n
  · obtain ⟨rfl, rfl⟩ := e
    rw [hf, putF, if_pos rfl]
    simp [sameB]
  · have hne : ¬ kbs [k, n] = kbs [r.k, r.n] := fun e2 => by
      have := keyN.inj rfl (two_le h1 h2) rfl (two_le hk hn) e2
      simp only [List.cons.injEq, and_true] at this
      exact e ⟨this.1.symm, this.2.symm⟩
    rw [putF, if_neg hne, h k n h1 h2, if_neg (fun e2 => e (sameB_iff.1 e2))]
    cases findB T k n <;> rfl

/-- What the rounds keep. -/
def InvN (_ : World → Prop) (Bx : World → (Nat → Prop) → Value → StB → Prop) (W wr : World) (p : Value) (bm k : Nat) : Prop :=
  ∃ (st : StB) (own : Nat → Prop) (F : List UInt8 → Option Value), st.ideal = true ∧ WfB st.T ∧ st.T.length ≤ k ∧ st.draws.size ≤ 8192 ∧ Bx wr own p st ∧ (∀ g, own g → W.heap.size ≤ g) ∧ ¬ own bm ∧ W.heap.size ≤ bm ∧
    MapIs wr Tryd.prog (keyTy 44) bm st.T.length F ∧ RelN F st.T ∧ Below W.heap.size W wr

set_option maxHeartbeats 4000000 in
set_option maxRecDepth 100000 in
theorem boxNonces_walk {P : World → Prop} {Bx : World → (Nat → Prop) → Value → StB → Prop} (C : BoxC P Bx) (draws : ByteArray) (a : Option Addr) (len cap : Nat) (zs : List ActB) (W : World) (_ : draws.size ≤ maxLen) (hl : IsActs W a len cap zs) (hp : P W) :
    Calls Tryd.prog 5 #[.string draws, .slice a len cap] W fun e w' => e = .returned (.bool true) ∧ Below W.heap.size W w' := by
  have HA := Lib.hid (C.awake W hp)
  have HC := Lib.hid C
  have HP := Lib.hid hp
  have HL := Lib.hid hl
  have hmm := @run_makeMap Tryd.prog
  by_cases hd : 8192 < draws.size
  · have b1 : decide (8192 < (draws.size : Int)) = true := decide_eq_true (by omega)
    clear hd hp C hl
    go_enter Tryd.func5, Tryd.ntmps5
    go_wp2_with (first
      | (go_at_call 6; (with_reducible refine HA.out.mono ?_); rintro e w1 ⟨rfl, hb1⟩))
    go_ret
    exact ⟨rfl, hb1⟩
  have b1 : decide (8192 < (draws.size : Int)) = false := decide_eq_false (by omega)
  have HD := Lib.hid (show draws.size ≤ 8192 by omega)
  have HLn := Lib.hid hl.len
  clear hd hp C hl
  go_enter Tryd.func5, Tryd.ntmps5
  go_wp2_with (first
    | (go_at_call 6; (with_reducible refine HA.out.mono ?_); rintro e w1 ⟨rfl, hb1⟩; have HI := Lib.hid (HC.out.ideal draws (Nat.le_trans HD.out (by decide)) w1 (HC.out.next HP.out hb1)))
    | (go_at_call 7; (with_reducible refine HI.out.mono ?_); rintro e w2 ⟨p, own, rfl, hbx, hown, hb2⟩))
  have HB0 := Lib.hid ((hb1.trans (hb2.mono hb1.size)).alloc (Nat.le_trans hb1.size hb2.size) (.map #[] 0))
  have HBx0 := Lib.hid (HC.out.nextB hbx ((Below.refl w2.heap.size w2).alloc (Nat.le_refl _) (.map #[] 0)))
  have HM0 := Lib.hid (MapIs.new w2 Tryd.prog (keyTy 44))
  have hlt0 := HC.out.lt hbx
  have HO := Lib.hid (fun (g : Nat) (h : own g) => Nat.le_trans hb1.size (hown g h))
  obtain ⟨bm, hbm⟩ : ∃ bm, bm = w2.heap.size := ⟨_, rfl⟩
  have HNB := Lib.hid (show ¬ own bm from fun h => by have := hlt0 bm h; omega)
  have HBM := Lib.hid (show W.heap.size ≤ bm by have := hb1.size; have := hb2.size; omega)
  rw [← hbm] at HM0 ⊢
  generalize w2.alloc (.map #[] 0) = w3 at *
  clear hb1 hb2 hbx hown hlt0 hbm HI HA hmm b1
  go_loopw [7] (fun i wr => ∃ k : Nat, i = .int .i64 (k : Int) ∧ k ≤ 40 ∧ InvN P Bx W wr p bm k) (fun i _ => 41 - (intOf i).toNat)
  case atStart => exact ⟨0, rfl, by omega, idealB draws, own, _, rfl, WfB.nil, Nat.le_refl _, HD.out, HBx0.out, HO.out, HNB.out, HBM.out, HM0.out, fun _ _ _ _ => rfl, HB0.out⟩
  case round =>
    clear HBx0 HO HNB HBM HM0 HB0 HD
    obtain ⟨k, rfl, hk, st, own, F, hi, hwf, hTl, hdr, hbx, hown, hnb, hbm, hmap, hrl, hbel⟩ := hrel
    by_cases hlt : k < len
    · by_cases h40 : k < 40
      · have e1 : decide ((k : Int) < (len : Int)) = true := decide_eq_true (by omega)
        have e2 : decide ((k : Int) < 40) = true := decide_eq_true (by omega)
        have hk0 : (0 : Int) ≤ (k : Int) := by omega
        have hli : (k : Int) < (len : Int) := by omega
        obtain ⟨x, y, rfl, hy, hok, hld⟩ := HL.out.load hlt
        have HLg := Lib.hid (large7_any y)
        have hld1 := hld wr hbel
        cases hg : largeA y
        · rw [hg] at HLg
          have hsz := fixedA_sizes hg
          have hno := largeA_no hg
          have HFx := Lib.hid (fixed7_any y hok.kind (by omega) (by omega))
          generalize fixedA y = X at *
          have hx0 : (actC X)[0]? = some (.int .i64 X.kind) := rfl
          have hx1 : (actC X)[1]? = some (.string X.K) := rfl
          have hx2 : (actC X)[2]? = some (.string X.N) := rfl
          have hx3 : (actC X)[3]? = some (.string X.D) := rfl
          have hx4 : (actC X)[4]? = some (.string X.T) := rfl
          by_cases hkd : X.kind = 0
          · have hk0 : (X.kind == 0) = true := by rw [hkd]; rfl
            have hkey := keyN_of (k := X.K) (n := X.N) (by omega) (by omega)
            have HSeal := Lib.hid (fun (w : World) (h1 : P w) (h2 : Bx w own p st) => HC.out.seal' X.K X.N X.D X.T (by omega) (by omega) (by omega) (by omega) (by omega) (by omega) w h1 h2)
            have hF := hrl X.K X.N (by omega) (by omega)
            by_cases hso : sealOk X.K X.N X.D X.T
            · cases hfd : findB st.T X.K X.N with
              | some r =>
                rw [hfd, Option.map_some, rowN] at hF
                by_cases hrd : r.d = X.D
                · by_cases hrt : r.t = X.T
                  · have hS := seal_again hi hso hfd ⟨hrd, hrt⟩
                    have hR : bxSealR st X.K X.N X.D X.T = .tuple #[.string r.s, .int .i64 0] := by rw [bxSealR, hS]; rfl
                    have hT : bxSealT st X.K X.N X.D X.T = st := by rw [bxSealT, hS]
                    rw [hR, hT] at HSeal
                    rw [hrd, hrt] at hF
                    clear hrd hrt hfd
                    clear hR hT hS
                    go_wp2_with (first
                      | (with_reducible refine wpList_load_eq rfl _ _ rfl (.pointer (some (x.add (k * 5)))) rfl _ hld1 ?_)
                      | (go_at_call 8; (with_reducible refine (HLg.out _).mono ?_); rintro e w1 ⟨rfl, hb1⟩; have hld2 := hld w1 (hbel.trans (hb1.mono hbel.size)))
                      | (with_reducible refine wpList_load_eq rfl _ _ rfl (.pointer (some (x.add (k * 5)))) rfl _ hld2 ?_)
                      | (go_at_call 9; (with_reducible refine (HFx.out _).mono ?_); rintro e w2 ⟨rfl, hb2⟩; have hb3 := (Below_next hb1 hb2).alloc (Below_next hb1 hb2).size (.cells (actC X) 29); have hbx3 := HC.out.nextB hbx hb3; have hP3 := HC.out.next HP.out (hbel.trans (hb3.mono hbel.size)); have hact3 : ActAt (w2.alloc (.cells (actC X) 29)) w2.heap.size X := Arr.new w2 _ _; have HLeft := Lib.hid (HC.out.left (Nat.le_trans hdr (by decide)) _ hP3 hbx3))
                      | (with_reducible refine wpList_store_act_new rfl _ _ rfl _ (by simp) _ rfl rfl _ rfl (actC_size _) (actC_one _) ?_)
                      | (go_at_call 13; (first
                        | ((with_reducible refine HLeft.out.mono ?_); rintro e w4 ⟨rfl, hb4⟩; have hact4 := hact3.next hb4; have c41 := hact4.c1; have c42 := hact4.c2; have c43 := hact4.c3; have c44 := hact4.c4; have HSeal4 := Lib.hid (HSeal.out w4 (HC.out.next hP3 hb4) (HC.out.nextB hbx3 hb4)))
                        | ((with_reducible refine HLeft6.out.mono ?_); rintro e w7 ⟨rfl, hb7⟩; have ha7 := ha6.next hb7; have c71 := ha7.c1; have c72 := ha7.c2; have c73 := ha7.c3; have c74 := ha7.c4; have hmap7 := hmap6.next hb7 hmap6.lt)))
                      | (go_at_call 10; (with_reducible refine HSeal4.out.mono ?_); rintro e w5 ⟨rfl, own5, hbx5, hown5, hf5⟩; obtain ⟨hs1, hs2, hb5, ho5, hn5⟩ := seal_sep HC.out.toBoxB hbel hbx hown (Below_next hb3 hb4) hown5 hf5; have hact5 : ActAt w5 w2.heap.size X := (hs1 _ (Below_next hb1 hb2).size (Arr.lt hact4)).trans hact4; have hmap5 := (hmap.next (Below_next hb3 hb4) hmap.lt).of (hs2 bm hnb hmap.lt); have c51 := hact5.c1; have c52 := hact5.c2; have c53 := hact5.c3; have c54 := hact5.c4; have hbn := (Below.refl w5.heap.size w5).alloc (Nat.le_refl _) (.cells #[.string X.D, .string X.T, .string r.s] 46); have ha6 := hact5.next hbn; have c61 := ha6.c1; have c62 := ha6.c2; have c63 := ha6.c3; have c64 := ha6.c4; have hb6 := hb5.alloc hb5.size (.cells #[.string X.D, .string X.T, .string r.s] 46); have hbx6 := HC.out.nextB hbx5 hbn; have hmap6 := hmap5.next hbn hmap5.lt; have HLeft6 := Lib.hid (HC.out.left (st := st) (Nat.le_trans hdr (by decide)) _ (HC.out.next HP.out hb6) hbx6); clear hs1 hs2)
                      | (at_lookup; with_reducible refine wpList_look_is_ok rfl _ _ 44 rfl _ _ keyN.keyed mapN (zeroN _) bm _ F rfl hmap5 (.agg #[.string X.K, .string X.N]) (kbs [X.K, X.N]) rfl hkey ?_; rw [hF]; simp only [Option.getD_some, Option.isSome_some]))
                    exact ⟨⟨k + 1, by simp, by omega, st, own5, F, hi, hwf, by omega, hdr, HC.out.nextB hbx6 hb7, ho5, hn5 bm hnb hmap.lt, hbm, hmap7, hrl, hb6.trans (hb7.mono hb6.size)⟩, by simp only [intOf]; omega⟩
                  · have hS := seal_twice hi hso hfd (fun h => hrt h.2)
                    have hR : bxSealR st X.K X.N X.D X.T = .tuple #[.string ⟨#[]⟩, .int .i64 11] := by rw [bxSealR, hS]; rfl
                    have hT : bxSealT st X.K X.N X.D X.T = st := by rw [bxSealT, hS]
                    rw [hR, hT] at HSeal
                    rw [hrd] at hF
                    have q2 := tl7_ne hrt
                    clear hR hT hS
                    go_wp2_with (first
                      | (with_reducible refine wpList_load_eq rfl _ _ rfl (.pointer (some (x.add (k * 5)))) rfl _ hld1 ?_)
                      | (go_at_call 8; (with_reducible refine (HLg.out _).mono ?_); rintro e w1 ⟨rfl, hb1⟩; have hld2 := hld w1 (hbel.trans (hb1.mono hbel.size)))
                      | (with_reducible refine wpList_load_eq rfl _ _ rfl (.pointer (some (x.add (k * 5)))) rfl _ hld2 ?_)
                      | (go_at_call 9; (with_reducible refine (HFx.out _).mono ?_); rintro e w2 ⟨rfl, hb2⟩; have hb3 := (Below_next hb1 hb2).alloc (Below_next hb1 hb2).size (.cells (actC X) 29); have hbx3 := HC.out.nextB hbx hb3; have hP3 := HC.out.next HP.out (hbel.trans (hb3.mono hbel.size)); have hact3 : ActAt (w2.alloc (.cells (actC X) 29)) w2.heap.size X := Arr.new w2 _ _; have HLeft := Lib.hid (HC.out.left (Nat.le_trans hdr (by decide)) _ hP3 hbx3))
                      | (with_reducible refine wpList_store_act_new rfl _ _ rfl _ (by simp) _ rfl rfl _ rfl (actC_size _) (actC_one _) ?_)
                      | (go_at_call 13; (first
                        | ((with_reducible refine HLeft.out.mono ?_); rintro e w4 ⟨rfl, hb4⟩; have hact4 := hact3.next hb4; have c41 := hact4.c1; have c42 := hact4.c2; have c43 := hact4.c3; have c44 := hact4.c4; have HSeal4 := Lib.hid (HSeal.out w4 (HC.out.next hP3 hb4) (HC.out.nextB hbx3 hb4)))
                        | ((with_reducible refine HLeft6.out.mono ?_); rintro e w7 ⟨rfl, hb7⟩; have ha7 := ha6.next hb7; have c71 := ha7.c1; have c72 := ha7.c2; have c73 := ha7.c3; have c74 := ha7.c4; have hmap7 := hmap6.next hb7 hmap6.lt)))
                      | (go_at_call 10; (with_reducible refine HSeal4.out.mono ?_); rintro e w5 ⟨rfl, own5, hbx5, hown5, hf5⟩; obtain ⟨hs1, hs2, hb5, ho5, hn5⟩ := seal_sep HC.out.toBoxB hbel hbx hown (Below_next hb3 hb4) hown5 hf5; have hact5 : ActAt w5 w2.heap.size X := (hs1 _ (Below_next hb1 hb2).size (Arr.lt hact4)).trans hact4; have hmap5 := (hmap.next (Below_next hb3 hb4) hmap.lt).of (hs2 bm hnb hmap.lt); have c51 := hact5.c1; have c52 := hact5.c2; have c53 := hact5.c3; have c54 := hact5.c4; have hbn := (Below.refl w5.heap.size w5).alloc (Nat.le_refl _) (.cells #[.string X.D, .string r.t, .string r.s] 46); have ha6 := hact5.next hbn; have c61 := ha6.c1; have c62 := ha6.c2; have c63 := ha6.c3; have c64 := ha6.c4; have hb6 := hb5.alloc hb5.size (.cells #[.string X.D, .string r.t, .string r.s] 46); have hbx6 := HC.out.nextB hbx5 hbn; have hmap6 := hmap5.next hbn hmap5.lt; have HLeft6 := Lib.hid (HC.out.left (st := st) (Nat.le_trans hdr (by decide)) _ (HC.out.next HP.out hb6) hbx6); clear hs1 hs2)
                      | (at_lookup; with_reducible refine wpList_look_is_ok rfl _ _ 44 rfl _ _ keyN.keyed mapN (zeroN _) bm _ F rfl hmap5 (.agg #[.string X.K, .string X.N]) (kbs [X.K, X.N]) rfl hkey ?_; rw [hF]; simp only [Option.getD_some, Option.isSome_some]))
                    exact ⟨⟨k + 1, by simp, by omega, st, own5, F, hi, hwf, by omega, hdr, HC.out.nextB hbx6 hb7, ho5, hn5 bm hnb hmap.lt, hbm, hmap7, hrl, hb6.trans (hb7.mono hb6.size)⟩, by simp only [intOf]; omega⟩
                · have hS := seal_twice hi hso hfd (fun h => hrd h.1)
                  have hR : bxSealR st X.K X.N X.D X.T = .tuple #[.string ⟨#[]⟩, .int .i64 11] := by rw [bxSealR, hS]; rfl
                  have hT : bxSealT st X.K X.N X.D X.T = st := by rw [bxSealT, hS]
                  rw [hR, hT] at HSeal
                  have q1 := tl7_ne hrd
                  clear hR hT hS
                  go_wp2_with (first
                    | (with_reducible refine wpList_load_eq rfl _ _ rfl (.pointer (some (x.add (k * 5)))) rfl _ hld1 ?_)
                    | (go_at_call 8; (with_reducible refine (HLg.out _).mono ?_); rintro e w1 ⟨rfl, hb1⟩; have hld2 := hld w1 (hbel.trans (hb1.mono hbel.size)))
                    | (with_reducible refine wpList_load_eq rfl _ _ rfl (.pointer (some (x.add (k * 5)))) rfl _ hld2 ?_)
                    | (go_at_call 9; (with_reducible refine (HFx.out _).mono ?_); rintro e w2 ⟨rfl, hb2⟩; have hb3 := (Below_next hb1 hb2).alloc (Below_next hb1 hb2).size (.cells (actC X) 29); have hbx3 := HC.out.nextB hbx hb3; have hP3 := HC.out.next HP.out (hbel.trans (hb3.mono hbel.size)); have hact3 : ActAt (w2.alloc (.cells (actC X) 29)) w2.heap.size X := Arr.new w2 _ _; have HLeft := Lib.hid (HC.out.left (Nat.le_trans hdr (by decide)) _ hP3 hbx3))
                    | (with_reducible refine wpList_store_act_new rfl _ _ rfl _ (by simp) _ rfl rfl _ rfl (actC_size _) (actC_one _) ?_)
                    | (go_at_call 13; (first
                      | ((with_reducible refine HLeft.out.mono ?_); rintro e w4 ⟨rfl, hb4⟩; have hact4 := hact3.next hb4; have c41 := hact4.c1; have c42 := hact4.c2; have c43 := hact4.c3; have c44 := hact4.c4; have HSeal4 := Lib.hid (HSeal.out w4 (HC.out.next hP3 hb4) (HC.out.nextB hbx3 hb4)))
                      | ((with_reducible refine HLeft6.out.mono ?_); rintro e w7 ⟨rfl, hb7⟩; have ha7 := ha6.next hb7; have c71 := ha7.c1; have c72 := ha7.c2; have c73 := ha7.c3; have c74 := ha7.c4; have hmap7 := hmap6.next hb7 hmap6.lt)))
                    | (go_at_call 10; (with_reducible refine HSeal4.out.mono ?_); rintro e w5 ⟨rfl, own5, hbx5, hown5, hf5⟩; obtain ⟨hs1, hs2, hb5, ho5, hn5⟩ := seal_sep HC.out.toBoxB hbel hbx hown (Below_next hb3 hb4) hown5 hf5; have hact5 : ActAt w5 w2.heap.size X := (hs1 _ (Below_next hb1 hb2).size (Arr.lt hact4)).trans hact4; have hmap5 := (hmap.next (Below_next hb3 hb4) hmap.lt).of (hs2 bm hnb hmap.lt); have c51 := hact5.c1; have c52 := hact5.c2; have c53 := hact5.c3; have c54 := hact5.c4; have hbn := (Below.refl w5.heap.size w5).alloc (Nat.le_refl _) (.cells #[.string r.d, .string r.t, .string r.s] 46); have ha6 := hact5.next hbn; have c61 := ha6.c1; have c62 := ha6.c2; have c63 := ha6.c3; have c64 := ha6.c4; have hb6 := hb5.alloc hb5.size (.cells #[.string r.d, .string r.t, .string r.s] 46); have hbx6 := HC.out.nextB hbx5 hbn; have hmap6 := hmap5.next hbn hmap5.lt; have HLeft6 := Lib.hid (HC.out.left (st := st) (Nat.le_trans hdr (by decide)) _ (HC.out.next HP.out hb6) hbx6); clear hs1 hs2)
                    | (at_lookup; with_reducible refine wpList_look_is_ok rfl _ _ 44 rfl _ _ keyN.keyed mapN (zeroN _) bm _ F rfl hmap5 (.agg #[.string X.K, .string X.N]) (kbs [X.K, X.N]) rfl hkey ?_; rw [hF]; simp only [Option.getD_some, Option.isSome_some]))
                  exact ⟨⟨k + 1, by simp, by omega, st, own5, F, hi, hwf, by omega, hdr, HC.out.nextB hbx6 hb7, ho5, hn5 bm hnb hmap.lt, hbm, hmap7, hrl, hb6.trans (hb7.mono hb6.size)⟩, by simp only [intOf]; omega⟩
              | none =>
                rw [hfd, Option.map_none] at hF
                by_cases hsp : st.draws.size < X.T.size + 16
                · have hS := seal_spent hi hso hfd hsp
                  have hR : bxSealR st X.K X.N X.D X.T = .tuple #[.string ⟨#[]⟩, .int .i64 21] := by rw [bxSealR, hS]; rfl
                  have hT : bxSealT st X.K X.N X.D X.T = st := by rw [bxSealT, hS]
                  rw [hR, hT] at HSeal
                  clear hR hT hS
                  go_wp2_with (first
                    | (with_reducible refine wpList_load_eq rfl _ _ rfl (.pointer (some (x.add (k * 5)))) rfl _ hld1 ?_)
                    | (go_at_call 8; (with_reducible refine (HLg.out _).mono ?_); rintro e w1 ⟨rfl, hb1⟩; have hld2 := hld w1 (hbel.trans (hb1.mono hbel.size)))
                    | (with_reducible refine wpList_load_eq rfl _ _ rfl (.pointer (some (x.add (k * 5)))) rfl _ hld2 ?_)
                    | (go_at_call 9; (with_reducible refine (HFx.out _).mono ?_); rintro e w2 ⟨rfl, hb2⟩; have hb3 := (Below_next hb1 hb2).alloc (Below_next hb1 hb2).size (.cells (actC X) 29); have hbx3 := HC.out.nextB hbx hb3; have hP3 := HC.out.next HP.out (hbel.trans (hb3.mono hbel.size)); have hact3 : ActAt (w2.alloc (.cells (actC X) 29)) w2.heap.size X := Arr.new w2 _ _; have HLeft := Lib.hid (HC.out.left (Nat.le_trans hdr (by decide)) _ hP3 hbx3))
                    | (with_reducible refine wpList_store_act_new rfl _ _ rfl _ (by simp) _ rfl rfl _ rfl (actC_size _) (actC_one _) ?_)
                    | (go_at_call 13; (first
                      | ((with_reducible refine HLeft.out.mono ?_); rintro e w4 ⟨rfl, hb4⟩; have hact4 := hact3.next hb4; have c41 := hact4.c1; have c42 := hact4.c2; have c43 := hact4.c3; have c44 := hact4.c4; have HSeal4 := Lib.hid (HSeal.out w4 (HC.out.next hP3 hb4) (HC.out.nextB hbx3 hb4)))
                      | ((with_reducible refine HLeft6.out.mono ?_); rintro e w7 ⟨rfl, hb7⟩; have ha7 := ha6.next hb7; have c71 := ha7.c1; have c72 := ha7.c2; have c73 := ha7.c3; have c74 := ha7.c4; have hmap7 := hmap6.next hb7 hmap6.lt)))
                    | (go_at_call 10; (with_reducible refine HSeal4.out.mono ?_); rintro e w5 ⟨rfl, own5, hbx5, hown5, hf5⟩; obtain ⟨hs1, hs2, hb5, ho5, hn5⟩ := seal_sep HC.out.toBoxB hbel hbx hown (Below_next hb3 hb4) hown5 hf5; have hact5 : ActAt w5 w2.heap.size X := (hs1 _ (Below_next hb1 hb2).size (Arr.lt hact4)).trans hact4; have hmap5 := (hmap.next (Below_next hb3 hb4) hmap.lt).of (hs2 bm hnb hmap.lt); have c51 := hact5.c1; have c52 := hact5.c2; have c53 := hact5.c3; have c54 := hact5.c4; have hbn := (Below.refl w5.heap.size w5).alloc (Nat.le_refl _) (.cells #[.string ⟨#[]⟩, .string ⟨#[]⟩, .string ⟨#[]⟩] 46); have ha6 := hact5.next hbn; have c61 := ha6.c1; have c62 := ha6.c2; have c63 := ha6.c3; have c64 := ha6.c4; have hb6 := hb5.alloc hb5.size (.cells #[.string ⟨#[]⟩, .string ⟨#[]⟩, .string ⟨#[]⟩] 46); have hbx6 := HC.out.nextB hbx5 hbn; have hmap6 := hmap5.next hbn hmap5.lt; have HLeft6 := Lib.hid (HC.out.left (st := st) (Nat.le_trans hdr (by decide)) _ (HC.out.next HP.out hb6) hbx6); clear hs1 hs2)
                    | (at_lookup; with_reducible refine wpList_look_is_ok rfl _ _ 44 rfl _ _ keyN.keyed mapN (zeroN _) bm _ F rfl hmap5 (.agg #[.string X.K, .string X.N]) (kbs [X.K, X.N]) rfl hkey ?_; rw [hF]; simp only [Option.getD_none, Option.isSome_none]))
                  exact ⟨⟨k + 1, by simp, by omega, st, own5, F, hi, hwf, by omega, hdr, HC.out.nextB hbx6 hb7, ho5, hn5 bm hnb hmap.lt, hbm, hmap7, hrl, hb6.trans (hb7.mono hb6.size)⟩, by simp only [intOf]; omega⟩
                · have hS := seal_new hi hso hfd hsp
                  have hns := newB_size hsp
                  have hda : (afterB st X.K X.N X.D X.T).draws.size = st.draws.size - (X.T.size + 16) := by
                    show (st.draws.extract (X.T.size + 16) st.draws.size).size = _; rw [ext_size _ _ _ (Nat.le_refl _)]
                  have q1 : IntKind.i64.wrap ((X.T.size : Int) + 16) = ((newB st X.T).size : Int) := by rw [hns, IntKind.wrap_i64]; omega
                  have q2 : IntKind.i64.wrap ((st.draws.size : Int) - ((newB st X.T).size : Int)) = ((afterB st X.K X.N X.D X.T).draws.size : Int) := by rw [hns, hda, IntKind.wrap_i64]; omega
                  have hwf2 : WfB (afterB st X.K X.N X.D X.T).T := hwf.snoc hfd hso hns
                  have hrl2 : RelN (putF F (kbs [X.K, X.N]) (.agg #[.string X.D, .string X.T, .string (newB st X.T)])) (afterB st X.K X.N X.D X.T).T := hrl.put (r := ⟨X.K, X.N, X.D, X.T, newB st X.T⟩) (by show X.K.size ≤ _; omega) (by show X.N.size ≤ _; omega) hfd
                  have hlen : (afterB st X.K X.N X.D X.T).T.length = st.T.length + 1 := by show (st.T ++ [_]).length = _; rw [List.length_append]; rfl
                  have hpn : putN F (kbs [X.K, X.N]) st.T.length = st.T.length + 1 := by rw [putN, hF]; rfl
                  have hid2 : (afterB st X.K X.N X.D X.T).ideal = true := hi
                  have hda2 : (afterB st X.K X.N X.D X.T).draws.size ≤ 8192 := by omega
                  generalize afterB st X.K X.N X.D X.T = st2 at *
                  generalize newB st X.T = NB at *
                  have HNS := Lib.hid hns
                  have HDA := Lib.hid hda
                  have hR : bxSealR st X.K X.N X.D X.T = .tuple #[.string NB, .int .i64 0] := by rw [bxSealR, hS]; rfl
                  have hT : bxSealT st X.K X.N X.D X.T = st2 := by rw [bxSealT, hS]
                  rw [hR, hT] at HSeal
                  clear hR hT hS
                  go_wp2_with (first
                    | (with_reducible refine wpList_load_eq rfl _ _ rfl (.pointer (some (x.add (k * 5)))) rfl _ hld1 ?_)
                    | (go_at_call 8; (with_reducible refine (HLg.out _).mono ?_); rintro e w1 ⟨rfl, hb1⟩; have hld2 := hld w1 (hbel.trans (hb1.mono hbel.size)))
                    | (with_reducible refine wpList_load_eq rfl _ _ rfl (.pointer (some (x.add (k * 5)))) rfl _ hld2 ?_)
                    | (go_at_call 9; (with_reducible refine (HFx.out _).mono ?_); rintro e w2 ⟨rfl, hb2⟩; have hb3 := (Below_next hb1 hb2).alloc (Below_next hb1 hb2).size (.cells (actC X) 29); have hbx3 := HC.out.nextB hbx hb3; have hP3 := HC.out.next HP.out (hbel.trans (hb3.mono hbel.size)); have hact3 : ActAt (w2.alloc (.cells (actC X) 29)) w2.heap.size X := Arr.new w2 _ _; have HLeft := Lib.hid (HC.out.left (Nat.le_trans hdr (by decide)) _ hP3 hbx3))
                    | (with_reducible refine wpList_store_act_new rfl _ _ rfl _ (by simp) _ rfl rfl _ rfl (actC_size _) (actC_one _) ?_)
                    | (go_at_call 13; (first
                      | ((with_reducible refine HLeft.out.mono ?_); rintro e w4 ⟨rfl, hb4⟩; have hact4 := hact3.next hb4; have c41 := hact4.c1; have c42 := hact4.c2; have c43 := hact4.c3; have c44 := hact4.c4; have HSeal4 := Lib.hid (HSeal.out w4 (HC.out.next hP3 hb4) (HC.out.nextB hbx3 hb4)))
                      | ((with_reducible refine HLeft6.out.mono ?_); rintro e w7 ⟨rfl, hb7⟩; have ha7 := ha6.next hb7; have c71 := ha7.c1; have c72 := ha7.c2; have c73 := ha7.c3; have c74 := ha7.c4; have hmap7 := hmap6.next hb7 hmap6.lt)))
                    | (go_at_call 10; (with_reducible refine HSeal4.out.mono ?_); rintro e w5 ⟨rfl, own5, hbx5, hown5, hf5⟩; obtain ⟨hs1, hs2, hb5, ho5, hn5⟩ := seal_sep HC.out.toBoxB hbel hbx hown (Below_next hb3 hb4) hown5 hf5; have hact5 : ActAt w5 w2.heap.size X := (hs1 _ (Below_next hb1 hb2).size (Arr.lt hact4)).trans hact4; have hmap5 := (hmap.next (Below_next hb3 hb4) hmap.lt).of (hs2 bm hnb hmap.lt); have c51 := hact5.c1; have c52 := hact5.c2; have c53 := hact5.c3; have c54 := hact5.c4; have hbn := (Below.refl w5.heap.size w5).alloc (Nat.le_refl _) (.cells #[.string ⟨#[]⟩, .string ⟨#[]⟩, .string ⟨#[]⟩] 46); have ha6 := hact5.next hbn; have c61 := ha6.c1; have c62 := ha6.c2; have c63 := ha6.c3; have c64 := ha6.c4; have hb6 := hb5.alloc hb5.size (.cells #[.string ⟨#[]⟩, .string ⟨#[]⟩, .string ⟨#[]⟩] 46); have hbx6 := HC.out.nextB hbx5 hbn; have hmap6 := hmap5.next hbn hmap5.lt; have HLeft6 := Lib.hid (HC.out.left (st := st2) (Nat.le_trans hda2 (by decide)) _ (HC.out.next HP.out hb6) hbx6); clear hs1 hs2)
                    | (at_lookup; with_reducible refine wpList_look_is_ok rfl _ _ 44 rfl _ _ keyN.keyed mapN (zeroN _) bm _ F rfl hmap5 (.agg #[.string X.K, .string X.N]) (kbs [X.K, X.N]) rfl hkey ?_; rw [hF]; simp only [Option.getD_none, Option.isSome_none])
                    | (at_mapUpdate; with_reducible refine wpList_store_is rfl _ _ _ 44 rfl _ _ keyN.keyed mapN bm _ F rfl hmap7 (small_le (by omega)) (.agg #[.string X.K, .string X.N]) (.agg #[.string X.D, .string X.T, .string NB]) (kbs [X.K, X.N]) rfl rfl hkey ?_; intro w8 hmap8 hg8 hz8))
                  have hb7' := hb6.trans (hb7.mono hb6.size)
                  have hb8 : Below W.heap.size W w8 := hb7'.trans ⟨hg8.os, hg8.tape, hg8.output, hg8.size, fun g h => hg8.block g (Nat.lt_of_lt_of_le h hb7'.size) fun e => by injection e with e; omega⟩
                  have hbx8 : Bx w8 own5 p st2 := HC.out.keep (HC.out.nextB hbx6 hb7) fun g h => hg8.block g (HC.out.lt (HC.out.nextB hbx6 hb7) g h) fun e => hn5 bm hnb hmap.lt (by injection e with e; exact e ▸ h)
                  rw [hpn, ← hlen] at hmap8
                  exact ⟨⟨k + 1, by simp, by omega, st2, own5, _, hid2, hwf2, by omega, hda2, hbx8, ho5, hn5 bm hnb hmap.lt, hbm, hmap8, hrl2, hb8⟩, by simp only [intOf]; omega⟩
            · have hfd : findB st.T X.K X.N = none := by
                cases hfd : findB st.T X.K X.N with
                | none => rfl
                | some r =>
                  obtain ⟨hr, e1, e2⟩ := findB_some hfd
                  exact absurd ⟨by have := (hwf.ok r hr).1.1; rwa [e1, e2] at this, by omega, by omega⟩ hso
              rw [hfd, Option.map_none] at hF
              have hS := seal_size (st := st) hi hso
              have hR : bxSealR st X.K X.N X.D X.T = .tuple #[.string ⟨#[]⟩, .int .i64 5] := by rw [bxSealR, hS]; rfl
              have hT : bxSealT st X.K X.N X.D X.T = st := by rw [bxSealT, hS]
              rw [hR, hT] at HSeal
              clear hR hT hS
              go_wp2_with (first
                | (with_reducible refine wpList_load_eq rfl _ _ rfl (.pointer (some (x.add (k * 5)))) rfl _ hld1 ?_)
                | (go_at_call 8; (with_reducible refine (HLg.out _).mono ?_); rintro e w1 ⟨rfl, hb1⟩; have hld2 := hld w1 (hbel.trans (hb1.mono hbel.size)))
                | (with_reducible refine wpList_load_eq rfl _ _ rfl (.pointer (some (x.add (k * 5)))) rfl _ hld2 ?_)
                | (go_at_call 9; (with_reducible refine (HFx.out _).mono ?_); rintro e w2 ⟨rfl, hb2⟩; have hb3 := (Below_next hb1 hb2).alloc (Below_next hb1 hb2).size (.cells (actC X) 29); have hbx3 := HC.out.nextB hbx hb3; have hP3 := HC.out.next HP.out (hbel.trans (hb3.mono hbel.size)); have hact3 : ActAt (w2.alloc (.cells (actC X) 29)) w2.heap.size X := Arr.new w2 _ _; have HLeft := Lib.hid (HC.out.left (Nat.le_trans hdr (by decide)) _ hP3 hbx3))
                | (with_reducible refine wpList_store_act_new rfl _ _ rfl _ (by simp) _ rfl rfl _ rfl (actC_size _) (actC_one _) ?_)
                | (go_at_call 13; (first
                  | ((with_reducible refine HLeft.out.mono ?_); rintro e w4 ⟨rfl, hb4⟩; have hact4 := hact3.next hb4; have c41 := hact4.c1; have c42 := hact4.c2; have c43 := hact4.c3; have c44 := hact4.c4; have HSeal4 := Lib.hid (HSeal.out w4 (HC.out.next hP3 hb4) (HC.out.nextB hbx3 hb4)))
                  | ((with_reducible refine HLeft6.out.mono ?_); rintro e w7 ⟨rfl, hb7⟩; have ha7 := ha6.next hb7; have c71 := ha7.c1; have c72 := ha7.c2; have c73 := ha7.c3; have c74 := ha7.c4; have hmap7 := hmap6.next hb7 hmap6.lt)))
                | (go_at_call 10; (with_reducible refine HSeal4.out.mono ?_); rintro e w5 ⟨rfl, own5, hbx5, hown5, hf5⟩; obtain ⟨hs1, hs2, hb5, ho5, hn5⟩ := seal_sep HC.out.toBoxB hbel hbx hown (Below_next hb3 hb4) hown5 hf5; have hact5 : ActAt w5 w2.heap.size X := (hs1 _ (Below_next hb1 hb2).size (Arr.lt hact4)).trans hact4; have hmap5 := (hmap.next (Below_next hb3 hb4) hmap.lt).of (hs2 bm hnb hmap.lt); have c51 := hact5.c1; have c52 := hact5.c2; have c53 := hact5.c3; have c54 := hact5.c4; have hbn := (Below.refl w5.heap.size w5).alloc (Nat.le_refl _) (.cells #[.string ⟨#[]⟩, .string ⟨#[]⟩, .string ⟨#[]⟩] 46); have ha6 := hact5.next hbn; have c61 := ha6.c1; have c62 := ha6.c2; have c63 := ha6.c3; have c64 := ha6.c4; have hb6 := hb5.alloc hb5.size (.cells #[.string ⟨#[]⟩, .string ⟨#[]⟩, .string ⟨#[]⟩] 46); have hbx6 := HC.out.nextB hbx5 hbn; have hmap6 := hmap5.next hbn hmap5.lt; have HLeft6 := Lib.hid (HC.out.left (st := st) (Nat.le_trans hdr (by decide)) _ (HC.out.next HP.out hb6) hbx6); clear hs1 hs2)
                | (at_lookup; with_reducible refine wpList_look_is_ok rfl _ _ 44 rfl _ _ keyN.keyed mapN (zeroN _) bm _ F rfl hmap5 (.agg #[.string X.K, .string X.N]) (kbs [X.K, X.N]) rfl hkey ?_; rw [hF]; simp only [Option.getD_none, Option.isSome_none]))
              exact ⟨⟨k + 1, by simp, by omega, st, own5, F, hi, hwf, by omega, hdr, HC.out.nextB hbx6 hb7, ho5, hn5 bm hnb hmap.lt, hbm, hmap7, hrl, hb6.trans (hb7.mono hb6.size)⟩, by simp only [intOf]; omega⟩
          · have hk0 : (X.kind == 0) = false := beq_false_of_ne hkd
            go_wp2_with (first
              | (with_reducible refine wpList_load_eq rfl _ _ rfl (.pointer (some (x.add (k * 5)))) rfl _ hld1 ?_)
              | (go_at_call 8; (with_reducible refine (HLg.out _).mono ?_); rintro e w1 ⟨rfl, hb1⟩; have hld2 := hld w1 (hbel.trans (hb1.mono hbel.size)))
              | (with_reducible refine wpList_load_eq rfl _ _ rfl (.pointer (some (x.add (k * 5)))) rfl _ hld2 ?_)
              | (go_at_call 9; (with_reducible refine (HFx.out _).mono ?_); rintro e w2 ⟨rfl, hb2⟩; have hb3 := (Below_next hb1 hb2).alloc (Below_next hb1 hb2).size (.cells (actC X) 29); have hbx3 := HC.out.nextB hbx hb3)
              | (with_reducible refine wpList_store_act_new rfl _ _ rfl _ (by simp) _ rfl rfl _ rfl (actC_size _) (actC_one _) ?_))
            exact ⟨⟨k + 1, by simp, by omega, st, own, F, hi, hwf, by omega, hdr, hbx3, hown, hnb, hbm, hmap.next hb3 hmap.lt, hrl, hbel.trans (hb3.mono hbel.size)⟩, by simp only [intOf]; omega⟩
        · rw [hg] at HLg
          go_wp2_with (first
            | (with_reducible refine wpList_load_eq rfl _ _ rfl (.pointer (some (x.add (k * 5)))) rfl _ hld1 ?_)
            | (go_at_call 8; (with_reducible refine (HLg.out _).mono ?_); rintro e w1 ⟨rfl, hb1⟩))
          go_ret
          exact ⟨rfl, hbel.trans (hb1.mono hbel.size)⟩
      · have e1 : decide ((k : Int) < (len : Int)) = true := decide_eq_true (by omega)
        have e2 : decide ((k : Int) < 40) = false := decide_eq_false (by omega)
        have HLen := Lib.hid (HC.out.len (by omega) wr (HC.out.next HP.out hbel) hbx)
        go_wp2_with (first
          | (go_at_call 12; (with_reducible refine HLen.out.mono ?_); rintro e w4 ⟨rfl, hb4⟩; have hm4 := hmap.next hb4 hmap.lt)
          | (at_len; with_reducible refine wpList_len_is rfl _ 44 rfl _ _ mapN bm _ F rfl hm4 ?_))
        go_ret
        exact ⟨rfl, hbel.trans (hb4.mono hbel.size)⟩
    · have e1 : decide ((k : Int) < (len : Int)) = false := decide_eq_false (by omega)
      have HLen := Lib.hid (HC.out.len (by omega) wr (HC.out.next HP.out hbel) hbx)
      go_wp2_with (first
        | (go_at_call 12; (with_reducible refine HLen.out.mono ?_); rintro e w4 ⟨rfl, hb4⟩; have hm4 := hmap.next hb4 hmap.lt)
        | (at_len; with_reducible refine wpList_len_is rfl _ 44 rfl _ _ mapN bm _ F rfl hm4 ?_))
      go_ret
      exact ⟨rfl, hbel.trans (hb4.mono hbel.size)⟩
end Go.Proofs.YtfflpooiebeagaaDoor
