/- BoxBlind: its walk over the record. -/
import Derived.Test.YtfflpooiebeagaaDoorLwC
import Derived.Test.YtfflpooiebeagaaDoorM1
namespace Go.Proofs.YtfflpooiebeagaaDoor
open Go.RowKit

theorem mapV : Tryd.prog.underlying 39 = some (.map (keyTy 39) (elTy 39)) := by kernel_rfl
theorem keyV : StrKey Tryd.prog (keyTy 39) 9 2 where
  keyed := Maps.Keyed.of_law (deep_law_laid laidOut7 (m := 2) (by omega) (of_decide_eq_true (by kernel_rfl)) (by kernel_rfl) (by kernel_rfl))
  fields := by kernel_rfl
  str := Tryd.underlying9
  one := by kernel_rfl
  all := by kernel_rfl
  isKey := by kernel_rfl
  pos := of_decide_eq_true (by kernel_rfl)
theorem zeroV (w : World) : (zeroValue (elTy 39)).run Tryd.prog w = .ok (.bool false) w := by kernel_rfl
theorem keyV_of {k n : ByteArray} (hk : k.size ≤ 1000) (hn : n.size ≤ 1000) : Go.keyOf Tryd.prog (keyTy 39) (.agg #[.string k, .string n]) = some (.string (kbs [k, n])) := keyV.keyOf (xs := [k, n]) rfl (fun x hx => by
  rcases List.mem_cons.1 hx with rfl | hx
  · exact Nat.le_trans hk (by decide)
  · obtain rfl := List.mem_singleton.1 hx; exact Nat.le_trans hn (by decide))
/-- What is not used is in neither table. -/
def RelU (F : List UInt8 → Option Value) (T1 T2 : List RowB) : Prop := (∀ k n : ByteArray, F (kbs [k, n]) = none → findB T1 k n = none ∧ findB T2 k n = none) ∧ ∀ kb v, F kb = some v → v = .bool true

theorem sealT_len (st : StB) (k n d t : ByteArray) : (bxSealT st k n d t).T.length ≤ st.T.length + 1 ∧ (bxSealT st k n d t).draws.size ≤ st.draws.size := by
  unfold bxSealT bxSeal idealS
  split
  · split
    · split
      · split <;> exact ⟨Nat.le_succ _, Nat.le_refl _⟩
      · split
        · exact ⟨Nat.le_succ _, Nat.le_refl _⟩
        · refine ⟨by show (st.T ++ [_]).length ≤ _; rw [List.length_append]; exact Nat.le_refl _, ?_⟩
          show (st.draws.extract _ _).size ≤ _
          rw [ByteArray.size_extract]; omega
    · exact ⟨Nat.le_succ _, Nat.le_refl _⟩
  · exact ⟨Nat.le_succ _, Nat.le_refl _⟩
theorem sealT_find {st : StB} {k n d t k' n' : ByteArray} (h : findB st.T k' n' = none) (hne : ¬ (k = k' ∧ n = n')) : findB (bxSealT st k n d t).T k' n' = none := by
  unfold bxSealT bxSeal idealS
  split
  · split
    · split
      · split <;> exact h
      · split
        · exact h
        · show findB (st.T ++ [_]) k' n' = none
          rw [findB_append, h, if_neg (fun e => hne (sameB_iff.1 e))]; rfl
    · exact h
  · exact h
theorem RelU.put {F : List UInt8 → Option Value} {s1 s2 : StB} (h : RelU F s1.T s2.T) (k n d t d2 t2 : ByteArray) : RelU (putF F (kbs [k, n]) (.bool true)) (bxSealT s1 k n d t).T (bxSealT s2 k n d2 t2).T := by
  refine ⟨fun k' n' hF => ?_, fun kb v hv => ?_⟩
  · unfold putF at hF
    split at hF
    · cases hF
    · rename_i hne
      have hne2 : ¬ (k = k' ∧ n = n') := fun e => hne (by rw [e.1, e.2])
      exact ⟨sealT_find (h.1 k' n' hF).1 hne2, sealT_find (h.1 k' n' hF).2 hne2⟩
  · unfold putF at hv
    split at hv
    · injection hv with hv; exact hv.symm
    · exact h.2 kb v hv
/-- What is sealed hangs on nothing of the text but how many bytes it has. -/
theorem blind_same {s1 s2 : StB} {k n d t d2 t2 : ByteArray} (h1 : s1.ideal = true) (h2 : s2.ideal = true) (f1 : findB s1.T k n = none) (f2 : findB s2.T k n = none) (hd : s1.draws = s2.draws) (ht : t2.size = t.size) (z1 : d.size ≤ 4096) (z2 : d2.size ≤ 4096) (z3 : t.size ≤ 16384) :
    (bxSeal s1 k n d t).1 = (bxSeal s2 k n d2 t2).1 ∧ (bxSeal s1 k n d t).2.1 = (bxSeal s2 k n d2 t2).2.1 ∧ (bxSealT s1 k n d t).draws = (bxSealT s2 k n d2 t2).draws := by
  unfold bxSealT
  by_cases hz : szB k n = true
  · have o1 : sealOk k n d t := ⟨hz, z1, z3⟩
    have o2 : sealOk k n d2 t2 := ⟨hz, z2, by omega⟩
    by_cases hs : s1.draws.size < t.size + 16
    · rw [seal_spent h1 o1 f1 hs, seal_spent h2 o2 f2 (by rw [← hd, ht]; exact hs)]
      exact ⟨rfl, rfl, hd⟩
    · rw [seal_new h1 o1 f1 hs, seal_new h2 o2 f2 (by rw [← hd, ht]; exact hs)]
      refine ⟨?_, rfl, ?_⟩
      · show newB s1 t = newB s2 t2; rw [newB, newB, hd, ht]
      · show s1.draws.extract _ _ = s2.draws.extract _ _; rw [hd, ht]
  · rw [seal_size h1 (fun e => hz e.1), seal_size h2 (fun e => hz e.1)]
    exact ⟨rfl, rfl, hd⟩

def InvV (_ : World → Prop) (Bx : World → (Nat → Prop) → Value → StB → Prop) (W wr : World) (p q : Value) (bm k : Nat) : Prop :=
  ∃ (s1 s2 : StB) (own1 own2 : Nat → Prop) (n : Nat) (F : List UInt8 → Option Value), (s1.ideal = true ∧ s2.ideal = true) ∧ (s1.T.length ≤ k ∧ s2.T.length ≤ k ∧ n ≤ k) ∧ (s1.draws = s2.draws ∧ s1.draws.size ≤ 8192) ∧ Bx wr own1 p s1 ∧ Bx wr own2 q s2 ∧ (∀ g, own1 g → W.heap.size ≤ g) ∧ (∀ g, own2 g → W.heap.size ≤ g) ∧ (∀ g, own1 g → ¬ own2 g) ∧ ¬ own1 bm ∧ ¬ own2 bm ∧ W.heap.size ≤ bm ∧
    MapIs wr Tryd.prog (keyTy 39) bm n F ∧ RelU F s1.T s2.T ∧ Below W.heap.size W wr
theorem MapIs.look_run {P : Program} {k : TypeId} {w : World} {b n : Nat} {F : List UInt8 → Option Value} (h : MapIs w P k b n F) (K : Maps.Keyed P k) {t e : TypeId} (ht : P.underlying t = some (.map k e)) {z : Value} (hz : (zeroValue e).run P w = .ok z w) {key : Value} {kb : List UInt8} (hkey : Go.keyOf P k key = some (.string kb)) :
    (Instr.lookup t (.map (some b)) key false).run P w = .ok ((F kb).getD z) w := by
  obtain ⟨D, hD, hs, hh, ha⟩ := h.at
  obtain ⟨v, ps, hrun, hv⟩ := hD.lookup K ht hz (zd := .held z) (zp := []) rfl hkey
  rw [ha] at hv
  simp only [heldR, Option.some.injEq, Prod.mk.injEq, DataW.held.injEq] at hv
  rw [hrun, hv.1]
theorem HasBytes.of {w w' : World} {g : Nat} {l : List UInt8} (h : HasBytes w g l) (hb : w'.heap[g]? = w.heap[g]?) : HasBytes w' g l := fun j hj =>
  ⟨(World.cell?_of_block (a := ⟨g, j, none⟩) hb).trans (h j hj).1, (World.frozen?_of_block (a := ⟨g, j, none⟩) hb).trans (h j hj).2⟩
/-- The text whose bytes are turned: some bytes. -/
def HasN (w : World) (g n : Nat) : Prop := ∃ l : List UInt8, l.length = n ∧ HasBytes w g l

set_option maxHeartbeats 4000000 in
set_option maxRecDepth 100000 in
theorem boxBlind_walk {P : World → Prop} {Bx : World → (Nat → Prop) → Value → StB → Prop} (C : BoxC P Bx) (draws : ByteArray) (a : Option Addr) (len cap : Nat) (zs : List ActB) (other : ByteArray) (W : World) (_ : draws.size ≤ maxLen) (hl : IsActs W a len cap zs) (ho : other.size ≤ 140737488355328) (hp : P W) :
    Calls Tryd.prog 4 #[.string draws, .slice a len cap, .string other] W fun e w' => e = .returned (.bool true) ∧ Below W.heap.size W w' := by
  have HA := Lib.hid (C.awake W hp)
  have HC := Lib.hid C
  have HP := Lib.hid hp
  have HL := Lib.hid hl
  have HO := Lib.hid ho
  have hmm := @run_makeMap Tryd.prog
  by_cases hd : 8192 < draws.size
  · have b1 : decide (8192 < (draws.size : Int)) = true := decide_eq_true (by omega)
    clear hd hp C hl ho
    go_enter Tryd.func4, Tryd.ntmps4
    go_wp2_with (first
      | (go_at_call 6; (with_reducible refine HA.out.mono ?_); rintro e w1 ⟨rfl, hb1⟩))
    go_ret
    exact ⟨rfl, hb1⟩
  have b1 : decide (8192 < (draws.size : Int)) = false := decide_eq_false (by omega)
  by_cases hot : other.size < 1
  · have b2 : decide ((other.size : Int) < 1) = true := decide_eq_true (by omega)
    clear hd hp C hl ho hot
    go_enter Tryd.func4, Tryd.ntmps4
    go_wp2_with (first
      | (go_at_call 6; (with_reducible refine HA.out.mono ?_); rintro e w1 ⟨rfl, hb1⟩))
    go_ret
    exact ⟨rfl, hb1⟩
  have b2 : decide ((other.size : Int) < 1) = false := decide_eq_false (by omega)
  have HO1 := Lib.hid (show 0 < other.size by omega)
  have HD := Lib.hid (show draws.size ≤ 8192 by omega)
  clear hd hp C hl ho hot
  go_enter Tryd.func4, Tryd.ntmps4
  go_wp2_with (first
    | (go_at_call 6; (with_reducible refine HA.out.mono ?_); rintro e w1 ⟨rfl, hb1⟩; have HP1 := Lib.hid (HC.out.next HP.out hb1); have HI := Lib.hid (fun w h => HC.out.ideal draws (Nat.le_trans HD.out (by decide)) w h))
    | (go_at_call 7; (first
      | ((with_reducible refine (HI.out _ HP1.out).mono ?_); rintro e w2 ⟨p, own1, rfl, hbx1, hown1, hb2⟩; have HP2 := Lib.hid (HC.out.next HP1.out hb2))
      | ((with_reducible refine (HI.out _ HP2.out).mono ?_); rintro e w3 ⟨q, own2, rfl, hbx2, hown2, hb3⟩))))
  have hb13 := (hb1.trans (hb2.mono hb1.size)).trans (hb3.mono (Nat.le_trans hb1.size hb2.size))
  have hbx1' := HC.out.nextB hbx1 hb3
  have hlt1 := HC.out.lt hbx1
  have hlt2 := HC.out.lt hbx2
  have hlt1' := HC.out.lt hbx1'
  have hbn := (Below.refl w3.heap.size w3).alloc (Nat.le_refl _) (.map #[] 0)
  have HB0 := Lib.hid (hb13.alloc hb13.size (.map #[] 0))
  have HX1 := Lib.hid (HC.out.nextB hbx1' hbn)
  have HX2 := Lib.hid (HC.out.nextB hbx2 hbn)
  have HM0 := Lib.hid (MapIs.new w3 Tryd.prog (keyTy 39))
  have HO1' := Lib.hid (fun (g : Nat) (h : own1 g) => Nat.le_trans hb1.size (hown1 g h))
  have HO2' := Lib.hid (fun (g : Nat) (h : own2 g) => Nat.le_trans (Nat.le_trans hb1.size hb2.size) (hown2 g h))
  have HDis := Lib.hid (fun (g : Nat) (h : own1 g) (h2 : own2 g) => by have := hlt1 g h; have := hown2 g h2; omega : ∀ g, own1 g → ¬ own2 g)
  obtain ⟨bm, hbm⟩ : ∃ bm, bm = w3.heap.size := ⟨_, rfl⟩
  have HN1 := Lib.hid (show ¬ own1 bm from fun h => by have := hlt1' bm h; omega)
  have HN2 := Lib.hid (show ¬ own2 bm from fun h => by have := hlt2 bm h; omega)
  have HBM := Lib.hid (show W.heap.size ≤ bm by have := hb13.size; omega)
  rw [← hbm] at HM0 ⊢
  generalize w3.alloc (.map #[] 0) = w4 at *
  clear hb1 hb2 hb3 hb13 hbx1 hbx1' hbx2 hown1 hown2 hlt1 hlt2 hlt1' hbn hbm HI HA hmm b1 b2
  go_loopw [10] (fun i wr => ∃ k : Nat, i = .int .i64 (k : Int) ∧ k ≤ 40 ∧ InvV P Bx W wr p q bm k) (fun i _ => 41 - (intOf i).toNat)
  case atStart => exact ⟨0, rfl, by omega, idealB draws, idealB draws, own1, own2, 0, _, ⟨rfl, rfl⟩, ⟨Nat.le_refl _, Nat.le_refl _, Nat.le_refl _⟩, ⟨rfl, HD.out⟩, HX1.out, HX2.out, HO1'.out, HO2'.out, HDis.out, HN1.out, HN2.out, HBM.out, HM0.out, ⟨fun _ _ _ => ⟨rfl, rfl⟩, fun _ _ h => by cases h⟩, HB0.out⟩
  case round =>
    clear HX1 HX2 HO1' HO2' HDis HN1 HN2 HBM HM0 HB0 HD
    obtain ⟨k, rfl, hk, s1, s2, own1, own2, n, F, ⟨hi1, hi2⟩, ⟨hl1, hl2, hn⟩, ⟨hdr, hdz⟩, hbx1, hbx2, hown1, hown2, hdis, hnb1, hnb2, hbm, hmap, hrl, hbel⟩ := hrel
    by_cases hlt : k < len
    · by_cases h40 : k < 40
      · have e1 : decide ((k : Int) < (len : Int)) = true := decide_eq_true (by omega)
        have e2 : decide ((k : Int) < 40) = true := decide_eq_true (by omega)
        have hk0 : (0 : Int) ≤ (k : Int) := by omega
        have hli : (k : Int) < (len : Int) := by omega
        obtain ⟨x, y, rfl, hy, hok, hld⟩ := HL.out.load hlt
        have HLg := Lib.hid (large7_any y)
        have hld1 := hld wr hbel
        cases hg : largeA y
        · rw [hg] at HLg
          have hsz := fixedA_sizes hg
          have hno := largeA_no hg
          have HFx := Lib.hid (fixed7_any y hok.kind (by omega) (by omega))
          generalize fixedA y = X at *
          have hx0 : (actC X)[0]? = some (.int .i64 X.kind) := rfl
          have hx1 : (actC X)[1]? = some (.string X.K) := rfl
          have hx2 : (actC X)[2]? = some (.string X.N) := rfl
          have hx3 : (actC X)[3]? = some (.string X.D) := rfl
          have hx4 : (actC X)[4]? = some (.string X.T) := rfl
          by_cases hkd : X.kind = 0
          · have hk0 : (X.kind == 0) = true := by rw [hkd]; rfl
            have hkey := keyV_of (k := X.K) (n := X.N) (by omega) (by omega)
            cases hF : F (kbs [X.K, X.N]) with
            | some v =>
              obtain rfl := hrl.2 _ _ hF
              go_wp2_with (first
                | (with_reducible refine wpList_load_eq rfl _ _ rfl (.pointer (some (x.add (k * 5)))) rfl _ hld1 ?_)
                | (go_at_call 8; (with_reducible refine (HLg.out _).mono ?_); rintro e w1 ⟨rfl, hb1⟩; have hld2 := hld w1 (hbel.trans (hb1.mono hbel.size)))
                | (with_reducible refine wpList_load_eq rfl _ _ rfl (.pointer (some (x.add (k * 5)))) rfl _ hld2 ?_)
                | (go_at_call 9; (with_reducible refine (HFx.out _).mono ?_); rintro e w2 ⟨rfl, hb2⟩; have hb3 := (Below_next hb1 hb2).alloc (Below_next hb1 hb2).size (.cells (actC X) 29); have hlk := MapIs.look_run (hmap.next hb3 hmap.lt) keyV.keyed mapV (zeroV _) hkey; rw [hF] at hlk; simp only [Option.getD_some] at hlk)
                | (with_reducible refine wpList_store_act_new rfl _ _ rfl _ (by simp) _ rfl rfl _ rfl (actC_size _) (actC_one _) ?_))
              exact ⟨⟨k + 1, by simp, by omega, s1, s2, own1, own2, n, F, ⟨hi1, hi2⟩, ⟨by omega, by omega, by omega⟩, ⟨hdr, hdz⟩, HC.out.nextB hbx1 hb3, HC.out.nextB hbx2 hb3, hown1, hown2, hdis, hnb1, hnb2, hbm, hmap.next hb3 hmap.lt, hrl, hbel.trans (hb3.mono hbel.size)⟩, by simp only [intOf]; omega⟩
            | none =>
              go_wp2_with (first
                | (with_reducible refine wpList_load_eq rfl _ _ rfl (.pointer (some (x.add (k * 5)))) rfl _ hld1 ?_)
                | (go_at_call 8; (with_reducible refine (HLg.out _).mono ?_); rintro e w1 ⟨rfl, hb1⟩; have hld2 := hld w1 (hbel.trans (hb1.mono hbel.size)))
                | (with_reducible refine wpList_load_eq rfl _ _ rfl (.pointer (some (x.add (k * 5)))) rfl _ hld2 ?_)
                | (go_at_call 9; (with_reducible refine (HFx.out _).mono ?_); rintro e w2 ⟨rfl, hb2⟩; have hb3 := (Below_next hb1 hb2).alloc (Below_next hb1 hb2).size (.cells (actC X) 29); have hlk := MapIs.look_run (hmap.next hb3 hmap.lt) keyV.keyed mapV (zeroV _) hkey; rw [hF] at hlk; simp only [Option.getD_none] at hlk; have hmap3 := hmap.next hb3 hmap.lt; have hbx13 := HC.out.nextB hbx1 hb3; have hbx23 := HC.out.nextB hbx2 hb3; have hact3 : ActAt (w2.alloc (.cells (actC X) 29)) w2.heap.size X := Arr.new w2 _ _)
                | (with_reducible refine wpList_store_act_new rfl _ _ rfl _ (by simp) _ rfl rfl _ rfl (actC_size _) (actC_one _) ?_)
                | (at_mapUpdate; refine wpList_store_is rfl _ _ _ 39 rfl _ _ keyV.keyed mapV bm _ F rfl hmap3 (Nat.lt_of_le_of_lt (show n ≤ 100 by omega) (by decide)) (.agg #[.string X.K, .string X.N]) (.bool true) (kbs [X.K, X.N]) rfl rfl hkey ?_; intro w5 hmap5 hg5 hz5; have HZ5 := Lib.hid hz5; clear hz5; have hbm3 := hmap3.lt; have hact5 : ActAt w5 w2.heap.size X := (hg5.block _ (Arr.lt hact3) (fun e => by injection e with e; have := hmap.lt; have := (Below_next hb1 hb2).size; omega)).trans hact3; have c51 := hact5.c1; have c52 := hact5.c2; have c53 := hact5.c3; have c54 := hact5.c4)
                | (with_reducible refine wpList_conv_str _ rfl _ rfl X.T rfl ?_; intro cp w6 hby6 hb6 hz6))
              have hbx15 : Bx w5 own1 p s1 := HC.out.keep hbx13 fun g h => hg5.block g (HC.out.lt hbx13 g h) fun e => hnb1 (by injection e with e; exact e ▸ h)
              have hbx25 : Bx w5 own2 q s2 := HC.out.keep hbx23 fun g h => hg5.block g (HC.out.lt hbx23 g h) fun e => hnb2 (by injection e with e; exact e ▸ h)
              have hbel3 := hbel.trans (hb3.mono hbel.size)
              have hbel5 : Below W.heap.size W w5 := hbel3.trans ⟨hg5.os, hg5.tape, hg5.output, hg5.size, fun g h => hg5.block g (Nat.lt_of_lt_of_le h hbel3.size) fun e => by injection e with e; omega⟩
              have hbel6 := hbel5.trans (hb6.mono hbel5.size)
              have hbx16 := HC.out.nextB hbx15 hb6
              have hbx26 := HC.out.nextB hbx25 hb6
              have hmap6 := hmap5.next hb6 hmap5.lt
              have hact6 := hact5.next hb6
              have hltr1 := HC.out.lt hbx1
              have hltr2 := HC.out.lt hbx2
              have hltm := hmap.lt
              have hlta := Arr.lt hact3
              have hbs : wr.heap.size ≤ w2.heap.size := (Below_next hb1 hb2).size
              have hsz5 : w5.heap.size = w2.heap.size + 1 := by rw [HZ5.out]; simp
              obtain ⟨g6, hg6⟩ : ∃ g6, g6 = w5.heap.size := ⟨_, rfl⟩
              rw [← hg6] at hby6 ⊢
              have hWg : W.heap.size ≤ g6 := by have := hbel.size; omega
              have HG6 := Lib.hid (hg6.trans hsz5)
              have HZ6 := Lib.hid (show w6.heap.size = g6 + 1 by rw [hz6, hg6])
              clear hg6 hsz5 hz6
              clear hld1 hld2 hlk c51 c52 c53 c54 hg5 HZ5 hbm3 hbx15 hbx25 hbel3 hbel5 hact5 hmap5 hact3 hbx13 hbx23 hmap3 hx0 hx1 hx2 hx3 hx4
              have hTl : X.T.data.toList.length = X.T.size := by simp
              go_loopw [76] (fun i wq => ∃ j : Nat, i = .int .i64 (j : Int) ∧ j ≤ X.T.size ∧ HasN wq g6 X.T.size ∧ Below g6 w6 wq) (fun i _ => X.T.size - (intOf i).toNat)
              case atStart => exact ⟨0, rfl, Nat.zero_le _, ⟨_, hTl, hby6⟩, Below.refl _ _⟩
              case round =>
                obtain ⟨j, rfl, hj, ⟨l, hll, hby⟩, hbq⟩ := hrel
                by_cases hjt : j < X.T.size
                · have hji : (j : Int) < (X.T.size : Int) := by omega
                  have hj0 : (0 : Int) ≤ (j : Int) := by omega
                  have hcl := (hby j (by omega)).1
                  have hfz := (hby j (by omega)).2
                  obtain ⟨m, hm⟩ : ∃ m, m = j % other.size := ⟨_, rfl⟩
                  have hmod : (j : Int) % (other.size : Int) = (m : Int) := by rw [hm]; rfl
                  have hm0 : (0 : Int) ≤ (m : Int) := by omega
                  have hml : (m : Int) < (other.size : Int) := by have := Nat.mod_lt j HO1.out; omega
                  have hoz : ((other.size : Int) == 0) = false := by have := HO1.out; exact beq_false_of_ne (by omega)
                  have hoz2 : ¬ (other.size : Int) = 0 := by have := HO1.out; omega
                  have hml' : m < other.size := by omega
                  have hj63 : IntKind.i64.wrap ((j : Int) + 1) = ((j + 1 : Nat) : Int) := by rw [IntKind.wrap_i64]; omega
                  have HBy := Lib.hid hby
                  have HBq := Lib.hid hbq
                  clear hm hby hbq
                  go_wp2
                  refine ⟨⟨j + 1, by simp, by omega, ⟨l.set j other[m], by rw [List.length_set]; exact hll, ?_⟩, HBq.out.setCell (Nat.le_refl _) _⟩, by simp only [intOf]; omega⟩
                  exact HBy.out.set j (by omega) other[m]
                · obtain rfl : j = X.T.size := by omega
                  have hjn : ¬ (X.T.size : Int) < (X.T.size : Int) := by omega
                  have hbelq : Below W.heap.size W wr := hbel6.trans (hbq.mono hWg)
                  have hg2 : w2.heap.size < g6 := by rw [HG6.out]; omega
                  have hgw : g6 < wr.heap.size := by have := hbq.size; rw [HZ6.out] at this; omega
                  have hbx1q := HC.out.keep hbx16 fun g h => hbq.block g (by have := hltr1 g h; omega)
                  have hbx2q := HC.out.keep hbx26 fun g h => hbq.block g (by have := hltr2 g h; omega)
                  have hmapq := hmap6.next hbq (by omega)
                  have hactq : ActAt wr w2.heap.size X := (hbq.block _ hg2).trans hact6
                  have c61 := hactq.c1
                  have c62 := hactq.c2
                  have c63 := hactq.c3
                  have c64 := hactq.c4
                  obtain ⟨T2, hT2⟩ : ∃ T2 : ByteArray, T2 = ⟨l.toArray⟩ := ⟨_, rfl⟩
                  have ht2 : T2.size = X.T.size := by rw [hT2]; show l.toArray.size = _; rw [List.size_toArray, hll]
                  obtain ⟨D1, hD1⟩ : ∃ D1, D1 = X.D ++ other := ⟨_, rfl⟩
                  have hD1s : D1.size = X.D.size + other.size := by rw [hD1, ByteArray.size_append]
                  have hom : X.D.size + other.size ≤ 1000000000000000 := by have := HO.out; omega
                  have hcat : ∀ w : World, (Op.stringOp .add X.D other).run Tryd.prog w = .ok (.string D1) w := fun w => by rw [hD1]; exact cat_run _ _ (by omega) w
                  have hd1m : D1.size ≤ 1000000000000000 := by omega
                  have HS1 := Lib.hid (HC.out.seal' X.K X.N X.D X.T (by omega) (by omega) (by omega) (by omega) (by omega) (by omega) wr (HC.out.next HP.out hbelq) hbx1q)
                  have hS2 := fun (w : World) (h1 : P w) (h2 : Bx w own2 q s2) => HC.out.seal' X.K X.N D1 T2 (by omega) (by omega) hd1m (by omega) (by omega) (by rw [← hdr]; omega) w h1 h2
                  have hR1 : bxSealR s1 X.K X.N X.D X.T = .tuple #[.string (bxSeal s1 X.K X.N X.D X.T).1, .int .i64 (bxSeal s1 X.K X.N X.D X.T).2.1] := rfl
                  have hR2 : bxSealR s2 X.K X.N D1 T2 = .tuple #[.string (bxSeal s2 X.K X.N D1 T2).1, .int .i64 (bxSeal s2 X.K X.N D1 T2).2.1] := rfl
                  rw [hR1] at HS1
                  have hrl' : RelU (putF F (kbs [X.K, X.N]) (.bool true)) (bxSealT s1 X.K X.N X.D X.T).T (bxSealT s2 X.K X.N D1 T2).T := hrl.put X.K X.N X.D X.T D1 T2
                  have hi1' : (bxSealT s1 X.K X.N X.D X.T).ideal = true := by rw [sealT_ideal]; exact hi1
                  have hi2' : (bxSealT s2 X.K X.N D1 T2).ideal = true := by rw [sealT_ideal]; exact hi2
                  have hn1' := sealT_len s1 X.K X.N X.D X.T
                  have hn2' := sealT_len s2 X.K X.N D1 T2
                  have hpn : putN F (kbs [X.K, X.N]) n = n + 1 := by rw [putN, hF]; rfl
                  rw [hpn] at hmapq
                  have HBQ := Lib.hid hbelq
                  have HBY := Lib.hid hby
                  by_cases hbig : 4096 < D1.size
                  · have b5 : decide (4096 < (D1.size : Int)) = true := decide_eq_true (by omega)
                    rw [hR2] at hS2
                    have HS2 := Lib.hid hS2
                    generalize bxSealT s1 X.K X.N X.D X.T = u1 at *
                    generalize bxSealT s2 X.K X.N D1 T2 = u2 at *
                    generalize (bxSeal s1 X.K X.N X.D X.T).1 = S1 at *
                    generalize (bxSeal s1 X.K X.N X.D X.T).2.1 = E1 at *
                    generalize (bxSeal s2 X.K X.N D1 T2).1 = S2 at *
                    generalize (bxSeal s2 X.K X.N D1 T2).2.1 = E2 at *
                    have HT2 := Lib.hid hT2
                    clear hS2 hR1 hR2 hT2 hD1 hD1s hom hbig hd1m hbelq hby hbq
                    go_wp2_with (first
                      | (go_at_call 10; (first
                        | ((with_reducible refine HS1.out.mono ?_); rintro e w7 ⟨rfl, own1', hbx17, ho17, hf7⟩; have hbx27 := HC.out.toBoxB.other hbx2q hf7 (fun g h2 h1 => hdis g h1 h2); have hact7 : ActAt w7 w2.heap.size X := (hf7.block _ (Arr.lt hactq) (fun h => by have := hltr1 _ h; omega)).trans hactq; have hby7 := HBY.out.of (hf7.block g6 hgw (fun h => by have := hltr1 _ h; omega)); have hb7 : Below W.heap.size W w7 := HBQ.out.trans (hf7.below hown1 HBQ.out.size); have hmap7 := hmapq.of (hf7.block bm hmapq.lt hnb1); have c71 := hact7.c1; have c72 := hact7.c2; have c73 := hact7.c3; have c74 := hact7.c4; have HS2' := Lib.hid (HS2.out w7 (HC.out.next HP.out hb7) hbx27))
                        | ((with_reducible refine HS2'.out.mono ?_); rintro e w8 ⟨rfl, own2', hbx28, ho28, hf8⟩; have hbx18 := HC.out.keep hbx17 (fun g h => hf8.block g (HC.out.lt hbx17 g h) (fun h2 => by rcases ho17 g h with h3 | h3; exact hdis g h3 h2; have := hltr2 g h2; omega)); have hact8 : ActAt w8 w2.heap.size X := (hf8.block _ (Arr.lt hact7) (fun h => by have := hltr2 _ h; omega)).trans hact7; have hb8 : Below W.heap.size W w8 := hb7.trans (hf8.below hown2 hb7.size); have hmap8 := hmap7.of (hf8.block bm hmap7.lt hnb2); have c81 := hact8.c1; have c82 := hact8.c2; have c83 := hact8.c3; have c84 := hact8.c4)))
                      | (with_reducible refine wpList_conv_bytes _ rfl _ rfl hby7 hll rfl ?_; rw [← HT2.out]))
                    go_ret
                    exact ⟨rfl, hb8⟩
                  · have b5 : decide (4096 < (D1.size : Int)) = false := decide_eq_false (by omega)
                    obtain ⟨f1, f2⟩ := hrl.1 X.K X.N hF
                    obtain ⟨q1, q2, q3⟩ := blind_same (d := X.D) (t := X.T) (d2 := D1) (t2 := T2) hi1 hi2 f1 f2 hdr ht2 (by omega) (by omega) (by omega)
                    rw [hR2, ← q1, ← q2] at hS2
                    have HS2 := Lib.hid hS2
                    generalize bxSealT s1 X.K X.N X.D X.T = u1 at *
                    generalize bxSealT s2 X.K X.N D1 T2 = u2 at *
                    generalize (bxSeal s1 X.K X.N X.D X.T).1 = S1 at *
                    generalize (bxSeal s1 X.K X.N X.D X.T).2.1 = E1 at *
                    have HT2 := Lib.hid hT2
                    have HQ3 := Lib.hid q3
                    clear hS2 hR1 hR2 hT2 hD1 hD1s hom hbig hd1m hbelq hby hbq q1 q2 q3 f1 f2
                    go_wp2_with (first
                      | (go_at_call 10; (first
                        | ((with_reducible refine HS1.out.mono ?_); rintro e w7 ⟨rfl, own1', hbx17, ho17, hf7⟩; have hbx27 := HC.out.toBoxB.other hbx2q hf7 (fun g h2 h1 => hdis g h1 h2); have hact7 : ActAt w7 w2.heap.size X := (hf7.block _ (Arr.lt hactq) (fun h => by have := hltr1 _ h; omega)).trans hactq; have hby7 := HBY.out.of (hf7.block g6 hgw (fun h => by have := hltr1 _ h; omega)); have hb7 : Below W.heap.size W w7 := HBQ.out.trans (hf7.below hown1 HBQ.out.size); have hmap7 := hmapq.of (hf7.block bm hmapq.lt hnb1); have c71 := hact7.c1; have c72 := hact7.c2; have c73 := hact7.c3; have c74 := hact7.c4; have HS2' := Lib.hid (HS2.out w7 (HC.out.next HP.out hb7) hbx27))
                        | ((with_reducible refine HS2'.out.mono ?_); rintro e w8 ⟨rfl, own2', hbx28, ho28, hf8⟩; have hbx18 := HC.out.keep hbx17 (fun g h => hf8.block g (HC.out.lt hbx17 g h) (fun h2 => by rcases ho17 g h with h3 | h3; exact hdis g h3 h2; have := hltr2 g h2; omega)); have hact8 : ActAt w8 w2.heap.size X := (hf8.block _ (Arr.lt hact7) (fun h => by have := hltr2 _ h; omega)).trans hact7; have hb8 : Below W.heap.size W w8 := hb7.trans (hf8.below hown2 hb7.size); have hmap8 := hmap7.of (hf8.block bm hmap7.lt hnb2); have c81 := hact8.c1; have c82 := hact8.c2; have c83 := hact8.c3; have c84 := hact8.c4; have hown1' : ∀ g, own1' g → W.heap.size ≤ g := (fun g h => by rcases ho17 g h with h3 | h3; exact hown1 g h3; omega); have hown2' : ∀ g, own2' g → W.heap.size ≤ g := (fun g h => by rcases ho28 g h with h3 | h3; exact hown2 g h3; have := hf7.size; omega); have hdis' : ∀ g, own1' g → ¬ own2' g := (fun g h h2 => by rcases ho28 g h2 with h4 | h4; (rcases ho17 g h with h3 | h3; exact hdis g h3 h4; have := hltr2 g h4; omega); have := HC.out.lt hbx17 g h; omega); have hnb1' : ¬ own1' bm := (fun h => by rcases ho17 bm h with h3 | h3; exact hnb1 h3; omega); have hnb2' : ¬ own2' bm := (fun h => by rcases ho28 bm h with h3 | h3; exact hnb2 h3; have := hf7.size; omega); have HL1 := Lib.hid (HC.out.left (st := u1) (by omega) w8 (HC.out.next HP.out hb8) hbx18))))
                      | (with_reducible refine wpList_conv_bytes _ rfl _ rfl hby7 hll rfl ?_; rw [← HT2.out])
                      | (go_at_call 13; (first
                        | ((with_reducible refine HL1.out.mono ?_); rintro e w9 ⟨rfl, hb9⟩; have HL2 := Lib.hid (HC.out.left (st := u2) (by rw [← HQ3.out]; omega) w9 (HC.out.next HP.out (hb8.trans (hb9.mono hb8.size))) (HC.out.nextB hbx28 hb9)); rw [← HQ3.out] at HL2)
                        | ((with_reducible refine HL2.out.mono ?_); rintro e w10 ⟨rfl, hb10'⟩))))
                    have hb10 := (hb8.trans (hb9.mono hb8.size)).trans (hb10'.mono (hb8.trans (hb9.mono hb8.size)).size)
                    have hbb := Below_next hb9 hb10'
                    exact ⟨⟨k + 1, by simp, by omega, u1, u2, own1', own2', n + 1, _, ⟨hi1', hi2'⟩, ⟨by omega, by omega, by omega⟩, ⟨HQ3.out, by omega⟩, HC.out.nextB hbx18 hbb, HC.out.nextB hbx28 hbb, hown1', hown2', hdis', hnb1', hnb2', hbm, hmap8.next hbb hmap8.lt, hrl', hb10⟩, by simp only [intOf]; omega⟩
          · have hk0 : (X.kind == 0) = false := beq_false_of_ne hkd
            go_wp2_with (first
              | (with_reducible refine wpList_load_eq rfl _ _ rfl (.pointer (some (x.add (k * 5)))) rfl _ hld1 ?_)
              | (go_at_call 8; (with_reducible refine (HLg.out _).mono ?_); rintro e w1 ⟨rfl, hb1⟩; have hld2 := hld w1 (hbel.trans (hb1.mono hbel.size)))
              | (with_reducible refine wpList_load_eq rfl _ _ rfl (.pointer (some (x.add (k * 5)))) rfl _ hld2 ?_)
              | (go_at_call 9; (with_reducible refine (HFx.out _).mono ?_); rintro e w2 ⟨rfl, hb2⟩; have hb3 := (Below_next hb1 hb2).alloc (Below_next hb1 hb2).size (.cells (actC X) 29); skip)
              | (with_reducible refine wpList_store_act_new rfl _ _ rfl _ (by simp) _ rfl rfl _ rfl (actC_size _) (actC_one _) ?_))
            exact ⟨⟨k + 1, by simp, by omega, s1, s2, own1, own2, n, F, ⟨hi1, hi2⟩, ⟨by omega, by omega, by omega⟩, ⟨hdr, hdz⟩, HC.out.nextB hbx1 hb3, HC.out.nextB hbx2 hb3, hown1, hown2, hdis, hnb1, hnb2, hbm, hmap.next hb3 hmap.lt, hrl, hbel.trans (hb3.mono hbel.size)⟩, by simp only [intOf]; omega⟩
        · rw [hg] at HLg
          go_wp2_with (first
            | (with_reducible refine wpList_load_eq rfl _ _ rfl (.pointer (some (x.add (k * 5)))) rfl _ hld1 ?_)
            | (go_at_call 8; (with_reducible refine (HLg.out _).mono ?_); rintro e w1 ⟨rfl, hb1⟩))
          go_ret
          exact ⟨rfl, hbel.trans (hb1.mono hbel.size)⟩
      · have e1 : decide ((k : Int) < (len : Int)) = true := decide_eq_true (by omega)
        have e2 : decide ((k : Int) < 40) = false := decide_eq_false (by omega)
        go_wp2
        go_ret
        exact ⟨rfl, hbel⟩
    · have e1 : decide ((k : Int) < (len : Int)) = false := decide_eq_false (by omega)
      go_wp2
      go_ret
      exact ⟨rfl, hbel⟩
end Go.Proofs.YtfflpooiebeagaaDoor
