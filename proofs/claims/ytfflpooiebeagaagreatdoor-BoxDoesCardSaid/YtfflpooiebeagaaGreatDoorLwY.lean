/- BoxKeys, BoxReal: their walks over the record. -/
import Derived.Test.YtfflpooiebeagaaGreatDoorLwC
import Derived.Test.YtfflpooiebeagaaGreatDoorR7K
import Derived.Test.YtfflpooiebeagaaGreatDoorM7
namespace Go.Proofs.YtfflpooiebeagaaGreatDoor
open Go.RowKit

theorem wf_u64n {a : Int} (h : (Lit.int .u64 a).wf = true) : ∃ n : Nat, a = (n : Int) ∧ n < 18446744073709551616 := by
  have h1 : 0 ≤ a ∧ a ≤ 18446744073709551615 := by simpa [Lit.wf, IntKind.min, IntKind.max, IntKind.signed, IntKind.bits] using h
  exact ⟨a.toNat, by omega, by omega⟩
theorem keyR_two (m d : ByteArray) (e : Nat) : ∃ (s : ByteArray) (i : Int), bxKeyR m d e = .tuple #[.string s, .int .i64 i] := by
  unfold bxKeyR pairR; split <;> exact ⟨_, _, rfl⟩

set_option maxHeartbeats 2000000 in
set_option maxRecDepth 100000 in
theorem boxKeys_walk {P : World → Prop} {Bx : World → (Nat → Prop) → Value → StB → Prop} (C : BoxC P Bx) (master domain : ByteArray) (epoch : Int) (_ : master.size ≤ maxLen) (_ : domain.size ≤ maxLen) (wf : (Lit.int .u64 epoch).wf = true) (W : World) (hp : P W) :
    Calls Tryz.prog 4 #[.string master, .string domain, .int .u64 epoch] W fun e w' => e = .returned (.bool true) ∧ Below W.heap.size W w' := by
  obtain ⟨n, rfl, hn⟩ := wf_u64n wf
  have HA := Lib.hid (C.awake W hp)
  have HC := Lib.hid C
  have HP := Lib.hid hp
  have HN := Lib.hid hn
  clear hp C wf hn
  by_cases h1 : 100 < master.size
  · have b1 : decide (100 < (master.size : Int)) = true := decide_eq_true (by omega)
    clear h1
    go_enter Tryz.func4, Tryz.ntmps4
    go_wp2_with (first
      | (go_at_call 6; (with_reducible refine HA.out.mono ?_); rintro e w1 ⟨rfl, hb1⟩))
    go_ret
    exact ⟨rfl, hb1⟩
  · have b1 : decide (100 < (master.size : Int)) = false := decide_eq_false (by omega)
    by_cases h2 : 500 < domain.size
    · have b2 : decide (500 < (domain.size : Int)) = true := decide_eq_true (by omega)
      clear h1 h2
      go_enter Tryz.func4, Tryz.ntmps4
      go_wp2_with (first
        | (go_at_call 6; (with_reducible refine HA.out.mono ?_); rintro e w1 ⟨rfl, hb1⟩))
      go_ret
      exact ⟨rfl, hb1⟩
    · have b2 : decide (500 < (domain.size : Int)) = false := decide_eq_false (by omega)
      have H1 := Lib.hid (fun (w : World) (h : P w) => HC.out.key master domain (by omega) (by omega) n HN.out w h)
      have H2 := Lib.hid (fun (w : World) => rkey7_any master domain (by omega) (by omega) n HN.out w)
      obtain ⟨S, I, hS⟩ := keyR_two master domain n
      rw [hS] at H1 H2
      clear h1 h2 hS
      go_enter Tryz.func4, Tryz.ntmps4
      go_wp2_with (first
        | (go_at_call 6; (with_reducible refine HA.out.mono ?_); rintro e w1 ⟨rfl, hb1⟩)
        | (go_at_call 17; (with_reducible refine (H1.out _ (HC.out.next HP.out hb1)).mono ?_); rintro e w2 ⟨rfl, hb2⟩)
        | (go_at_call 18; (with_reducible refine (H2.out _).mono ?_); rintro e w3 ⟨rfl, hb3⟩))
      go_ret
      exact ⟨rfl, Below_next (Below_next hb1 hb2) hb3⟩

theorem real_open {k n d t : ByteArray} (h : sealOk k n d t) : bxOpenR realB k n d (sealB k n d t) = .tuple #[.string t, .int .i64 0] := by
  rw [bxOpenR, open_real rfl]
  show pairR (openS k n d (sealB k n d t)) (openE k n d (sealB k n d t)) = _
  have := open_seal h
  rw [openR] at this
  exact this
theorem realT (k n d t : ByteArray) : bxSealT realB k n d t = realB := by rw [bxSealT, seal_real rfl]

set_option maxHeartbeats 4000000 in
set_option maxRecDepth 100000 in
theorem boxReal_walk {P : World → Prop} {Bx : World → (Nat → Prop) → Value → StB → Prop} (C : BoxC P Bx) (y : ActB) (hok : ActOk y) (W : World) (hp : P W) :
    Calls Tryz.prog 5 #[.agg (actC y)] W fun e w' => e = .returned (.bool true) ∧ Below W.heap.size W w' := by
  have HC := Lib.hid C
  have hp0 : P (W.alloc (.cells (actC y) 33)) := C.alloc _ hp
  have hact0 : ActAt (W.alloc (.cells (actC y) 33)) W.heap.size y := Arr.new W _ _
  have hbel0 := (Below.refl W.heap.size W).alloc (Nat.le_refl _) (.cells (actC y) 33)
  have HA := Lib.hid (C.awake _ hp0)
  have HP := Lib.hid hp
  have HLg := Lib.hid (large7_any y)
  clear hp C hp0
  cases hg : largeA y
  · rw [hg] at HLg
    have hsz := fixedA_sizes hg
    have hno := largeA_no hg
    have HFx := Lib.hid (fixed7_any y hok.kind (by omega) (by omega))
    generalize fixedA y = X at *
    have HRl := Lib.hid (fun (w : World) (h : P w) => HC.out.real w h)
    have HO6 := Lib.hid (fun (w : World) => rseal_any X.K X.N X.D X.T w)
    have hSl := fun {own : Nat → Prop} {p : Value} (w : World) (h1 : P w) (h2 : Bx w own p realB) => HC.out.seal' X.K X.N X.D X.T (by omega) (by omega) (by omega) (by omega) (Nat.zero_le _) (Nat.zero_le _) w h1 h2
    have hRR : bxSealR realB X.K X.N X.D X.T = sealR X.K X.N X.D X.T := by rw [bxSealR, seal_real rfl]; rfl
    rw [hRR, realT] at hSl
    have HSl1 := Lib.hid (fun (own : Nat → Prop) (p : Value) (w : World) (h1 : P w) (h2 : Bx w own p realB) => hSl (own := own) (p := p) w h1 h2)
    by_cases hso : sealOk X.K X.N X.D X.T
    · rw [sealR_ok hso] at HO6 HSl1
      have hOp := fun (own : Nat → Prop) (p : Value) (w : World) (h1 : P w) (h2 : Bx w own p realB) => HC.out.open' X.K X.N X.D (sealB X.K X.N X.D X.T) (by omega) (by omega) (by omega) (by rw [sealB_size]; omega) (Nat.zero_le _) (Nat.zero_le _) w h1 h2
      rw [real_open hso] at hOp
      have HOp := Lib.hid hOp
      generalize sealB X.K X.N X.D X.T = SB at *
      have e0 : ((0 : Int) == 0) = true := rfl
      clear hSl hRR hso
      go_enter Tryz.func5, Tryz.ntmps5
      go_wp2_with (first
        | (go_at_call 6; (with_reducible refine HA.out.mono ?_); rintro e w1 ⟨rfl, hb1⟩; have hact1 : Arr w1 W.heap.size (actC y) 33 := hact0.next hb1; have hbel1 := hbel0.trans (hb1.mono (by simp)))
        | (with_reducible refine wpList_load_act rfl _ rfl W.heap.size rfl (actC y) (actC_size y) hact1 ?_)
        | (go_at_call 9; (with_reducible refine (HLg.out _).mono ?_); rintro e w2 ⟨rfl, hb2⟩; have hact2 : Arr w2 W.heap.size (actC y) 33 := ActAt.next hact1 hb2; have hbel2 := hbel1.trans (hb2.mono hbel1.size))
        | (with_reducible refine wpList_load_act rfl _ rfl W.heap.size rfl (actC y) (actC_size y) hact2 ?_)
        | (go_at_call 10; (with_reducible refine (HFx.out _).mono ?_); rintro e w3 ⟨rfl, hb3⟩; have hact3 : Arr w3 W.heap.size (actC y) 33 := ActAt.next hact2 hb3; have hbel3 := hbel2.trans (hb3.mono hbel2.size))
        | (with_reducible refine wpList_store_act rfl _ _ rfl W.heap.size rfl (actC X) rfl (actC_size X) (actC_one X) (actC y) (actC_size y) hact3 ?_; have hact4 : Arr (w3.setRow W.heap.size (actC X)) W.heap.size (actC X) 33 := Arr.row hact3 (actC X); have hbel4 : Below W.heap.size W (w3.setRow W.heap.size (actC X)) := below_setRow hbel3 (Nat.le_refl _) _; have HR1 := Lib.hid (HRl.out _ (HC.out.next HP.out hbel4)))
        | (go_at_call 7; (first
          | ((with_reducible refine HR1.out.mono ?_); rintro e w5 ⟨p, own1, rfl, hbx5, hown1, hb5⟩; have hbel5 := hbel4.trans (hb5.mono hbel4.size); have hact5 := hact4.next hb5; have HR2 := Lib.hid (HRl.out _ (HC.out.next HP.out hbel5)))
          | ((with_reducible refine HR2.out.mono ?_); rintro e w6 ⟨q, own2, rfl, hbx6q, hown2, hb6⟩; have hbel6 := hbel5.trans (hb6.mono hbel5.size); have hact6 := hact5.next hb6; have hbx6 := HC.out.nextB hbx5 hb6; have hl6 := HC.out.lt hbx5; have hdis := (fun g (h2 : own2 g) (h1 : own1 g) => (by have := hl6 g h1; have := hown2 g h2; omega : False)); have hg5 : W.heap.size < w5.heap.size := (Arr.lt hact5); have hg4 := (Arr.lt hact4); have c61 := ActAt.c1 (x := X) hact6; have c62 := ActAt.c2 (x := X) hact6; have c63 := ActAt.c3 (x := X) hact6; have c64 := ActAt.c4 (x := X) hact6; have HS7 := Lib.hid (HSl1.out own1 p w6 (HC.out.next HP.out hbel6) hbx6))))
        | (go_at_call 11; (with_reducible refine HS7.out.mono ?_); rintro e w7 ⟨rfl, own1', hbx7, ho7, hf7⟩; have hact7 : Arr w7 W.heap.size (actC X) 33 := (hf7.block _ (Arr.lt hact6) (fun h => by have := hown1 _ h; omega)).trans hact6; have hbx7q := HC.out.toBoxB.other hbx6q hf7 hdis; have hbel7 := hbel6.trans (hf7.below (fun g h => Nat.le_trans hbel4.size (hown1 g h)) hbel6.size); have c71 := ActAt.c1 (x := X) hact7; have c72 := ActAt.c2 (x := X) hact7; have c73 := ActAt.c3 (x := X) hact7; have c74 := ActAt.c4 (x := X) hact7)
        | (go_at_call 19; (with_reducible refine (HO6.out _).mono ?_); rintro e w8 ⟨rfl, hb8⟩; have hact8 := hact7.next hb8; have hbel8 := hbel7.trans (hb8.mono hbel7.size); have hbx8 := HC.out.nextB hbx7 hb8; have hbx8q := HC.out.nextB hbx7q hb8; have HLn := Lib.hid (HC.out.len (st := realB) (Nat.zero_le _) _ (HC.out.next HP.out hbel8) hbx8); rw [show ((realB.T.length : Nat) : Int) = 0 from rfl] at HLn)
        | (go_at_call 15; (with_reducible refine HLn.out.mono ?_); rintro e w9 ⟨rfl, hb9⟩; have hact9 := hact8.next hb9; have hbel9 := hbel8.trans (hb9.mono hbel8.size); have HLf := Lib.hid (HC.out.left (st := realB) (Nat.zero_le _) _ (HC.out.next HP.out hbel9) (HC.out.nextB hbx8 hb9)); rw [show ((realB.draws.size : Nat) : Int) = 0 from rfl] at HLf)
        | (go_at_call 16; (with_reducible refine HLf.out.mono ?_); rintro e w10 ⟨rfl, hb10⟩; have hact10 := hact9.next hb10; have hbx10 := HC.out.nextB hbx8q (Below_next hb9 hb10); have c101 := ActAt.c1 (x := X) hact10; have c102 := ActAt.c2 (x := X) hact10; have c103 := ActAt.c3 (x := X) hact10; have c104 := ActAt.c4 (x := X) hact10)
        | (go_at_call 13; (with_reducible refine (HOp.out _ _ _ (HC.out.next HP.out (hbel9.trans (hb10.mono hbel9.size))) hbx10).mono ?_); rintro e w11 ⟨rfl, hb11⟩; have ha11 : Arr w11 W.heap.size (actC X) 33 := hact10.next hb11; have c111 := ActAt.c1 (x := X) ha11; have c112 := ActAt.c2 (x := X) ha11; have c113 := ActAt.c3 (x := X) ha11; have c114 := ActAt.c4 (x := X) ha11))
      go_ret
      exact ⟨rfl, (hbel9.trans (hb10.mono hbel9.size)).trans (hb11.mono (hbel9.trans (hb10.mono hbel9.size)).size)⟩
    · rw [sealR_no hso] at HO6 HSl1
      clear hSl hRR hso
      go_enter Tryz.func5, Tryz.ntmps5
      go_wp2_with (first
        | (go_at_call 6; (with_reducible refine HA.out.mono ?_); rintro e w1 ⟨rfl, hb1⟩; have hact1 : Arr w1 W.heap.size (actC y) 33 := hact0.next hb1; have hbel1 := hbel0.trans (hb1.mono (by simp)))
        | (with_reducible refine wpList_load_act rfl _ rfl W.heap.size rfl (actC y) (actC_size y) hact1 ?_)
        | (go_at_call 9; (with_reducible refine (HLg.out _).mono ?_); rintro e w2 ⟨rfl, hb2⟩; have hact2 : Arr w2 W.heap.size (actC y) 33 := ActAt.next hact1 hb2; have hbel2 := hbel1.trans (hb2.mono hbel1.size))
        | (with_reducible refine wpList_load_act rfl _ rfl W.heap.size rfl (actC y) (actC_size y) hact2 ?_)
        | (go_at_call 10; (with_reducible refine (HFx.out _).mono ?_); rintro e w3 ⟨rfl, hb3⟩; have hact3 : Arr w3 W.heap.size (actC y) 33 := ActAt.next hact2 hb3; have hbel3 := hbel2.trans (hb3.mono hbel2.size))
        | (with_reducible refine wpList_store_act rfl _ _ rfl W.heap.size rfl (actC X) rfl (actC_size X) (actC_one X) (actC y) (actC_size y) hact3 ?_; have hact4 : Arr (w3.setRow W.heap.size (actC X)) W.heap.size (actC X) 33 := Arr.row hact3 (actC X); have hbel4 : Below W.heap.size W (w3.setRow W.heap.size (actC X)) := below_setRow hbel3 (Nat.le_refl _) _; have HR1 := Lib.hid (HRl.out _ (HC.out.next HP.out hbel4)))
        | (go_at_call 7; (first
          | ((with_reducible refine HR1.out.mono ?_); rintro e w5 ⟨p, own1, rfl, hbx5, hown1, hb5⟩; have hbel5 := hbel4.trans (hb5.mono hbel4.size); have hact5 := hact4.next hb5; have HR2 := Lib.hid (HRl.out _ (HC.out.next HP.out hbel5)))
          | ((with_reducible refine HR2.out.mono ?_); rintro e w6 ⟨q, own2, rfl, hbx6q, hown2, hb6⟩; have hbel6 := hbel5.trans (hb6.mono hbel5.size); have hact6 := hact5.next hb6; have hbx6 := HC.out.nextB hbx5 hb6; have hl6 := HC.out.lt hbx5; have hdis := (fun g (h2 : own2 g) (h1 : own1 g) => (by have := hl6 g h1; have := hown2 g h2; omega : False)); have hg5 : W.heap.size < w5.heap.size := (Arr.lt hact5); have hg4 := (Arr.lt hact4); have c61 := ActAt.c1 (x := X) hact6; have c62 := ActAt.c2 (x := X) hact6; have c63 := ActAt.c3 (x := X) hact6; have c64 := ActAt.c4 (x := X) hact6; have HS7 := Lib.hid (HSl1.out own1 p w6 (HC.out.next HP.out hbel6) hbx6))))
        | (go_at_call 11; (with_reducible refine HS7.out.mono ?_); rintro e w7 ⟨rfl, own1', hbx7, ho7, hf7⟩; have hact7 : Arr w7 W.heap.size (actC X) 33 := (hf7.block _ (Arr.lt hact6) (fun h => by have := hown1 _ h; omega)).trans hact6; have hbx7q := HC.out.toBoxB.other hbx6q hf7 hdis; have hbel7 := hbel6.trans (hf7.below (fun g h => Nat.le_trans hbel4.size (hown1 g h)) hbel6.size); have c71 := ActAt.c1 (x := X) hact7; have c72 := ActAt.c2 (x := X) hact7; have c73 := ActAt.c3 (x := X) hact7; have c74 := ActAt.c4 (x := X) hact7)
        | (go_at_call 19; (with_reducible refine (HO6.out _).mono ?_); rintro e w8 ⟨rfl, hb8⟩; have hact8 := hact7.next hb8; have hbel8 := hbel7.trans (hb8.mono hbel7.size); have hbx8 := HC.out.nextB hbx7 hb8; have hbx8q := HC.out.nextB hbx7q hb8; have HLn := Lib.hid (HC.out.len (st := realB) (Nat.zero_le _) _ (HC.out.next HP.out hbel8) hbx8); rw [show ((realB.T.length : Nat) : Int) = 0 from rfl] at HLn)
        | (go_at_call 15; (with_reducible refine HLn.out.mono ?_); rintro e w9 ⟨rfl, hb9⟩; have hact9 := hact8.next hb9; have hbel9 := hbel8.trans (hb9.mono hbel8.size); have HLf := Lib.hid (HC.out.left (st := realB) (Nat.zero_le _) _ (HC.out.next HP.out hbel9) (HC.out.nextB hbx8 hb9)); rw [show ((realB.draws.size : Nat) : Int) = 0 from rfl] at HLf)
        | (go_at_call 16; (with_reducible refine HLf.out.mono ?_); rintro e w10 ⟨rfl, hb10⟩; have hact10 := hact9.next hb10; have hbx10 := HC.out.nextB hbx8q (Below_next hb9 hb10); have c101 := ActAt.c1 (x := X) hact10; have c102 := ActAt.c2 (x := X) hact10; have c103 := ActAt.c3 (x := X) hact10; have c104 := ActAt.c4 (x := X) hact10))
      go_ret
      exact ⟨rfl, hbel9.trans (hb10.mono hbel9.size)⟩
  · rw [hg] at HLg
    clear hg
    go_enter Tryz.func5, Tryz.ntmps5
    go_wp2_with (first
      | (go_at_call 6; (with_reducible refine HA.out.mono ?_); rintro e w1 ⟨rfl, hb1⟩; have hact1 : Arr w1 W.heap.size (actC y) 33 := hact0.next hb1)
      | (with_reducible refine wpList_load_act rfl _ rfl W.heap.size rfl (actC y) (actC_size y) hact1 ?_)
      | (go_at_call 9; (with_reducible refine (HLg.out _).mono ?_); rintro e w2 ⟨rfl, hb2⟩))
    go_ret
    exact ⟨rfl, hbel0.trans ((Below_next hb1 hb2).mono (by simp))⟩
end Go.Proofs.YtfflpooiebeagaaGreatDoor
