/- cmd, landed: what a verb says is taken. -/
import Derived.Test.YtahbbnimoogapaaGreatDoorCdF
namespace Go.Proofs.YtahbbnimoogapaaGreatDoor
open Go.RowKit

theorem Two.text {g gc : Nat} {r : List UInt8} {V T L D E S : Value} {w w1 : World} (h : Two g gc r #[V, T, L, D, S, E] w w1) (hn : g ≠ gc) (X : Value) : Two g gc r #[V, X, L, D, S, E] w (w1.setCell ⟨gc, 1, none⟩ X) :=
  ⟨Arr.other h.sc _ _ hn, Arr.set h.cm 1 X, h.fro.setAt _ _ (.inl (.inr rfl))⟩
theorem Two.rest {g gc : Nat} {r : List UInt8} {cs : Array Value} {w w1 : World} (h : Two g gc r cs w w1) (hn : g ≠ gc) (s : List UInt8) : Two g gc s cs w (w1.setCell ⟨g, 0, none⟩ (.string (ba s))) :=
  ⟨Sc.set h.sc s, Arr.other h.cm _ _ (fun e => hn e.symm), h.fro.setAt _ _ (.inl (.inl rfl))⟩
theorem Two.trans {g gc : Nat} {r s : List UInt8} {cs ds : Array Value} {w w1 w2 : World} (h : Two g gc r cs w w1) (k : Two g gc s ds w1 w2) : Two g gc s ds w w2 := ⟨k.sc, k.cm, h.fro.trans k.fro⟩
theorem loptions_stop {g gc : Nat} {l : List UInt8} {V T L D : Value} (hn : g ≠ gc) (w : World) (h : Sc w g l) (hc : Arr w gc #[V, T, L, D, .int .i64 (-1), .bool false] 26) (h32 : l.head? ≠ some 32) :
    Calls Tryz.prog 57 #[.pointer (some ⟨g, 0, none⟩), .pointer (some ⟨gc, 0, none⟩)] w fun e w' => e = .returned (.bool true) ∧ Two g gc l #[V, T, L, D, .int .i64 (-1), .bool false] w w' := by
  have hsp := lspaces_any w h
  rw [spL_id h32, decide_eq_false (Nat.lt_irrefl _)] at hsp
  have HS := Lib.hid hsp
  have HC := Lib.hid hc
  clear hsp h hc h32
  have HN := Lib.hid hn
  go_enter Tryz.func57, Tryz.ntmps57
  go_wp2
  go_loopw [] (fun wr => wr = w) (fun _ => 0)
  case atStart => rfl
  case round =>
    subst hrel
    go_wp2_with (first
      | (go_at_call 53; (with_reducible refine HS.out.mono ?_); rintro e w1 ⟨rfl, hm⟩; have HT1 := Lib.hid (hm.two HC.out HN.out); clear hm))
    go_ret
    exact ⟨rfl, HT1.out⟩
/-- What said answers: is it there? What is left then, and the command. -/
def SayR (g gc : Nat) (w : World) (X : Option (CmdA × List UInt8)) (e : Ending) (w' : World) : Prop := match X with
  | none => e = .returned (.bool false) ∧ Fro (fun h => h = g ∨ h = gc) w w'
  | some p => e = .returned (.bool true) ∧ Two g gc p.2 (cmdZ p.1) w w'
theorem SayR.no {g gc : Nat} {w : World} {X : Option (CmdA × List UInt8)} {w' : World} (hX : X = none) (h : Fro (fun h => h = g ∨ h = gc) w w') : SayR g gc w X (.returned (.bool false)) w' := by subst hX; exact ⟨rfl, h⟩
theorem SayR.yes {g gc : Nat} {w : World} {X : Option (CmdA × List UInt8)} {p : CmdA × List UInt8} {w' : World} (hX : X = some p) (h : Two g gc p.2 (cmdZ p.1) w w') : SayR g gc w X (.returned (.bool true)) w' := by subst hX; exact ⟨rfl, h⟩
theorem head_get (r : List UInt8) : r.head? = r[0]? := by cases r <;> rfl

set_option maxHeartbeats 8000000 in
set_option maxRecDepth 100000 in
theorem lsaid_1 {g gc : Nat} {l : List UInt8} (hn : g ≠ gc) (hl : l.length ≤ 65536) (w : World) (_ht : Tb w) (_hg : NoG g) (_hgc : NoG gc) (h : Sc w g l) (hc : Arr w gc #[.int .i64 1, .string ⟨#[]⟩, .string ⟨#[]⟩, .string ⟨#[]⟩, .int .i64 (-1), .bool false] 26) (hla : l.getLast? ≠ some 32) :
    Calls Tryz.prog 29 #[.pointer (some ⟨g, 0, none⟩), .pointer (some ⟨gc, 0, none⟩)] w (SayR g gc w (sayC 1 (spL l))) := by
  have hls := spL_len l
  have hlq := last_suf hla (spL_suf l).choose_spec
  have HS := Lib.hid (lspaces_any w h)
  have HNe := Lib.hid hn
  have HC := Lib.hid hc
  obtain ⟨X, hX⟩ : ∃ X, X = sayC 1 (spL l) := ⟨_, rfl⟩
  rw [← hX]
  rw [sayC] at hX
  rw [if_pos (by decide)] at hX
  have HW := Lib.hid (fun w (h : Sc w g (spL l)) => lword_any (l := spL l) (by omega) w h)
  have hD := fun w => lDomain_any (ba (wrd (spL l))) w
  rw [ba_list, domR] at hD
  by_cases hd : domB (wrd (spL l)) = true
  · rw [if_pos hd] at hD hX
    have HD := Lib.hid hD
    have HX := Lib.hid hX
    clear hD hX hd h hc hla hl hn hls hlq
    generalize spL l = q at *
    generalize hU : ba (smL (wrd q)) = U at *
    go_enter Tryz.func29, Tryz.ntmps29
    go_wp2_with (first
      | (go_at_call 53; (with_reducible refine HS.out.mono ?_); rintro e w1 ⟨rfl, hm⟩; have HT1 := Lib.hid (hm.two HC.out HNe.out); clear hm; have s1 := HT1.out.sc; obtain ⟨⟨k0, k1, k2, k3, k4, k5⟩, f1, f2, f3, f4, f5⟩ := HT1.out.cells; obtain ⟨i0, i1, i2⟩ := HT1.out.sc.cells)
      | (go_at_call 52; (with_reducible refine (HW.out _ s1).mono ?_); rintro e w2 ⟨rfl, hm⟩; have HT2 := Lib.hid (HT1.out.mov hm HNe.out); clear hm)
      | (go_at_call 54; (with_reducible refine (HD.out _).mono ?_); rintro e w3 ⟨rfl, hb⟩; have HT3 := Lib.hid (HT2.out.next hb); clear hb; have HT4 := Lib.hid (HT3.out.text HNe.out (.string U)); obtain ⟨⟨m0, m1, m2, m3, m4, m5⟩, j1, j2, j3, j4, j5⟩ := HT3.out.cells))
    go_ret
    exact SayR.yes HX.out (by subst hU; exact HT4.out)
  · rw [if_neg hd] at hD hX
    have HD := Lib.hid hD
    have HX := Lib.hid hX
    clear hD hX hd h hc hla hl hn hls hlq
    generalize spL l = q at *
    go_enter Tryz.func29, Tryz.ntmps29
    go_wp2_with (first
      | (go_at_call 53; (with_reducible refine HS.out.mono ?_); rintro e w1 ⟨rfl, hm⟩; have HT1 := Lib.hid (hm.two HC.out HNe.out); clear hm; have s1 := HT1.out.sc; obtain ⟨⟨k0, k1, k2, k3, k4, k5⟩, f1, f2, f3, f4, f5⟩ := HT1.out.cells; obtain ⟨i0, i1, i2⟩ := HT1.out.sc.cells)
      | (go_at_call 52; (with_reducible refine (HW.out _ s1).mono ?_); rintro e w2 ⟨rfl, hm⟩; have HT2 := Lib.hid (HT1.out.mov hm HNe.out); clear hm)
      | (go_at_call 54; (with_reducible refine (HD.out _).mono ?_); rintro e w3 ⟨rfl, hb⟩; have HT3 := Lib.hid (HT2.out.next hb); clear hb; have HT4 := Lib.hid (HT3.out.text HNe.out (.string ⟨#[]⟩)); obtain ⟨⟨m0, m1, m2, m3, m4, m5⟩, j1, j2, j3, j4, j5⟩ := HT3.out.cells))
    go_ret
    exact SayR.no HX.out HT4.out.fro

set_option maxHeartbeats 8000000 in
set_option maxRecDepth 100000 in
theorem lsaid_2 {g gc : Nat} {l : List UInt8} (hn : g ≠ gc) (hl : l.length ≤ 65536) (w : World) (_ht : Tb w) (_hg : NoG g) (_hgc : NoG gc) (h : Sc w g l) (hc : Arr w gc #[.int .i64 2, .string ⟨#[]⟩, .string ⟨#[]⟩, .string ⟨#[]⟩, .int .i64 (-1), .bool false] 26) (hla : l.getLast? ≠ some 32) :
    Calls Tryz.prog 29 #[.pointer (some ⟨g, 0, none⟩), .pointer (some ⟨gc, 0, none⟩)] w (SayR g gc w (sayC 2 (spL l))) := by
  have hls := spL_len l
  have hlq := last_suf hla (spL_suf l).choose_spec
  have HS := Lib.hid (lspaces_any w h)
  have HNe := Lib.hid hn
  have HC := Lib.hid hc
  obtain ⟨X, hX⟩ : ∃ X, X = sayC 2 (spL l) := ⟨_, rfl⟩
  rw [← hX]
  rw [sayC] at hX
  rw [if_pos (by decide)] at hX
  have HW := Lib.hid (fun w (h : Sc w g (spL l)) => lword_any (l := spL l) (by omega) w h)
  have hD := fun w => lDomain_any (ba (wrd (spL l))) w
  rw [ba_list, domR] at hD
  by_cases hd : domB (wrd (spL l)) = true
  · rw [if_pos hd] at hD hX
    have HD := Lib.hid hD
    have HX := Lib.hid hX
    clear hD hX hd h hc hla hl hn hls hlq
    generalize spL l = q at *
    generalize hU : ba (smL (wrd q)) = U at *
    go_enter Tryz.func29, Tryz.ntmps29
    go_wp2_with (first
      | (go_at_call 53; (with_reducible refine HS.out.mono ?_); rintro e w1 ⟨rfl, hm⟩; have HT1 := Lib.hid (hm.two HC.out HNe.out); clear hm; have s1 := HT1.out.sc; obtain ⟨⟨k0, k1, k2, k3, k4, k5⟩, f1, f2, f3, f4, f5⟩ := HT1.out.cells; obtain ⟨i0, i1, i2⟩ := HT1.out.sc.cells)
      | (go_at_call 52; (with_reducible refine (HW.out _ s1).mono ?_); rintro e w2 ⟨rfl, hm⟩; have HT2 := Lib.hid (HT1.out.mov hm HNe.out); clear hm)
      | (go_at_call 54; (with_reducible refine (HD.out _).mono ?_); rintro e w3 ⟨rfl, hb⟩; have HT3 := Lib.hid (HT2.out.next hb); clear hb; have HT4 := Lib.hid (HT3.out.text HNe.out (.string U)); obtain ⟨⟨m0, m1, m2, m3, m4, m5⟩, j1, j2, j3, j4, j5⟩ := HT3.out.cells))
    go_ret
    exact SayR.yes HX.out (by subst hU; exact HT4.out)
  · rw [if_neg hd] at hD hX
    have HD := Lib.hid hD
    have HX := Lib.hid hX
    clear hD hX hd h hc hla hl hn hls hlq
    generalize spL l = q at *
    go_enter Tryz.func29, Tryz.ntmps29
    go_wp2_with (first
      | (go_at_call 53; (with_reducible refine HS.out.mono ?_); rintro e w1 ⟨rfl, hm⟩; have HT1 := Lib.hid (hm.two HC.out HNe.out); clear hm; have s1 := HT1.out.sc; obtain ⟨⟨k0, k1, k2, k3, k4, k5⟩, f1, f2, f3, f4, f5⟩ := HT1.out.cells; obtain ⟨i0, i1, i2⟩ := HT1.out.sc.cells)
      | (go_at_call 52; (with_reducible refine (HW.out _ s1).mono ?_); rintro e w2 ⟨rfl, hm⟩; have HT2 := Lib.hid (HT1.out.mov hm HNe.out); clear hm)
      | (go_at_call 54; (with_reducible refine (HD.out _).mono ?_); rintro e w3 ⟨rfl, hb⟩; have HT3 := Lib.hid (HT2.out.next hb); clear hb; have HT4 := Lib.hid (HT3.out.text HNe.out (.string ⟨#[]⟩)); obtain ⟨⟨m0, m1, m2, m3, m4, m5⟩, j1, j2, j3, j4, j5⟩ := HT3.out.cells))
    go_ret
    exact SayR.no HX.out HT4.out.fro

set_option maxHeartbeats 8000000 in
set_option maxRecDepth 100000 in
theorem lsaid_3 {g gc : Nat} {l : List UInt8} (hn : g ≠ gc) (hl : l.length ≤ 65536) (w : World) (ht : Tb w) (hg : NoG g) (hgc : NoG gc) (h : Sc w g l) (hc : Arr w gc #[.int .i64 3, .string ⟨#[]⟩, .string ⟨#[]⟩, .string ⟨#[]⟩, .int .i64 (-1), .bool false] 26) (hla : l.getLast? ≠ some 32) :
    Calls Tryz.prog 29 #[.pointer (some ⟨g, 0, none⟩), .pointer (some ⟨gc, 0, none⟩)] w (SayR g gc w (sayC 3 (spL l))) := by
  have hls := spL_len l
  have hlq := last_suf hla (spL_suf l).choose_spec
  have HS := Lib.hid (lspaces_any w h)
  have HNe := Lib.hid hn
  have HC := Lib.hid hc
  obtain ⟨X, hX⟩ : ∃ X, X = sayC 3 (spL l) := ⟨_, rfl⟩
  rw [← hX]
  rw [sayC] at hX
  rw [if_neg (by decide), if_pos rfl, patL] at hX
  have hK := fun w (h : Sc w g (spL l)) => ltakes_any (l := spL l) froW (by decide) (by omega) (by decide) w h
  rw [show ba froW = ⟨#[70, 82, 79, 77, 58]⟩ from rfl] at hK
  cases hb : begB (spL l) froW with
  | false =>
    rw [hb, if_neg (by decide)] at hK hX
    have HK := Lib.hid hK
    have HX := Lib.hid hX
    clear hK hX hb ht hg hgc h hc hla hl hn hls hlq
    generalize spL l = q at *
    go_enter Tryz.func29, Tryz.ntmps29
    go_wp2_with (first
      | (go_at_call 53; (with_reducible refine HS.out.mono ?_); rintro e w1 ⟨rfl, hm⟩; have HT1 := Lib.hid (hm.two HC.out HNe.out); clear hm; have s1 := HT1.out.sc; obtain ⟨⟨k0, k1, k2, k3, k4, k5⟩, f1, f2, f3, f4, f5⟩ := HT1.out.cells; obtain ⟨i0, i1, i2⟩ := HT1.out.sc.cells)
      | (go_at_call 55; (with_reducible refine (HK.out _ s1).mono ?_); rintro e w2 ⟨rfl, hm⟩; have HT2 := Lib.hid (HT1.out.mov hm HNe.out); clear hm; have s2 := HT2.out.sc; have c2 := HT2.out.cm))
    go_ret
    exact SayR.no HX.out HT2.out.fro
  | true =>
    rw [hb, if_pos rfl] at hK hX
    have HK := Lib.hid hK
    have hP := fun w (h : Sc w g ((spL l).drop froW.length)) (hc : Arr w gc #[.int .i64 3, .string ⟨#[]⟩, .string ⟨#[]⟩, .string ⟨#[]⟩, .int .i64 (-1), .bool false] 26) => lpathC_any hn (by rw [List.length_drop]; omega) w h hc
    cases hr : readL (spL ((spL l).drop froW.length)) with
    | none =>
      rw [hr] at hP hX
      have HP := Lib.hid hP
      have HX := Lib.hid hX
      clear hP hK hX hr hb ht hg hgc h hc hla hl hn hls hlq
      generalize spL l = q at *
      go_enter Tryz.func29, Tryz.ntmps29
      go_wp2_with (first
        | (go_at_call 53; (with_reducible refine HS.out.mono ?_); rintro e w1 ⟨rfl, hm⟩; have HT1 := Lib.hid (hm.two HC.out HNe.out); clear hm; have s1 := HT1.out.sc; obtain ⟨⟨k0, k1, k2, k3, k4, k5⟩, f1, f2, f3, f4, f5⟩ := HT1.out.cells; obtain ⟨i0, i1, i2⟩ := HT1.out.sc.cells)
        | (go_at_call 55; (with_reducible refine (HK.out _ s1).mono ?_); rintro e w2 ⟨rfl, hm⟩; have HT2 := Lib.hid (HT1.out.mov hm HNe.out); clear hm; have s2 := HT2.out.sc; have c2 := HT2.out.cm)
        | (go_at_call 56; (with_reducible refine (HP.out _ s2 c2).mono ?_); rintro e w3 ⟨rfl, hf⟩; have HF3 := Lib.hid (HT2.out.fro.trans hf); clear hf))
      go_ret
      exact SayR.no HX.out HF3.out
    | some p =>
      obtain ⟨b, r⟩ := p
      rw [hr] at hP hX
      dsimp only at hP
      have HP := Lib.hid hP
      obtain ⟨_, pp, _, hsp⟩ := read_back hr
      have hlr : r.length ≤ 65536 := by
        have h1 := congrArg List.length hsp
        rw [List.length_append] at h1
        have h2 := spL_len ((spL l).drop froW.length)
        rw [List.length_drop] at h2
        omega
      have hlar : r.getLast? ≠ some 32 := last_suf (last_suf (last_suf hlq (List.take_append_drop froW.length (spL l)).symm) (spL_suf _).choose_spec) hsp
      have HTb := Lib.hid (fun w1 (h : Fro (fun h => h = g ∨ h = gc) w w1) => h.tb2 ht hg hgc)
      simp only at hX
      by_cases hs : r ≠ [] ∧ r[0]? ≠ some 32
      · rw [if_pos hs] at hX
        have HX := Lib.hid hX
        have HO := Lib.hid (fun w (h : Sc w g r) (hc : Arr w gc #[.int .i64 3, .string ⟨#[]⟩, .string (ba b.loc), .string (ba b.dom), .int .i64 (-1), .bool false] 26) => loptions_stop hn w h hc (by rw [head_get]; exact hs.2))
        clear hP hK hX hr hb hs hsp hlr hlar ht hg hgc h hc hla hl hn hls hlq
        generalize spL l = q at *
        generalize hL : ba b.loc = L at *
        generalize hD : ba b.dom = D at *
        go_enter Tryz.func29, Tryz.ntmps29
        go_wp2_with (first
          | (go_at_call 53; (with_reducible refine HS.out.mono ?_); rintro e w1 ⟨rfl, hm⟩; have HT1 := Lib.hid (hm.two HC.out HNe.out); clear hm; have s1 := HT1.out.sc; obtain ⟨⟨k0, k1, k2, k3, k4, k5⟩, f1, f2, f3, f4, f5⟩ := HT1.out.cells; obtain ⟨i0, i1, i2⟩ := HT1.out.sc.cells)
          | (go_at_call 55; (with_reducible refine (HK.out _ s1).mono ?_); rintro e w2 ⟨rfl, hm⟩; have HT2 := Lib.hid (HT1.out.mov hm HNe.out); clear hm; have s2 := HT2.out.sc; have c2 := HT2.out.cm)
          | (go_at_call 56; (with_reducible refine (HP.out _ s2 c2).mono ?_); rintro e w3 ⟨rfl, hf⟩; have HT3 := Lib.hid (HT2.out.trans hf); clear hf; have s3 := HT3.out.sc; have c3 := HT3.out.cm; have t3 := HTb.out _ HT3.out.fro)
          | (go_at_call 57; (with_reducible refine (HO.out _ s3 c3).mono ?_); rintro e w4 ⟨rfl, hf⟩; have HT4 := Lib.hid (HT3.out.trans hf); clear hf))
        go_ret
        exact SayR.yes HX.out (by subst hL hD; exact HT4.out)
      · rw [if_neg hs] at hX
        have h32 : r = [] ∨ r.head? = some 32 := by
          rw [head_get]
          by_cases e : r = []
          · exact .inl e
          · exact .inr (Decidable.byContradiction fun h2 => hs ⟨e, h2⟩)
        have hO := fun w (ht : Tb w) (h : Sc w g r) (hc : Arr w gc #[.int .i64 3, .string ⟨#[]⟩, .string (ba b.loc), .string (ba b.dom), .int .i64 (-1), .bool false] 26) => loptions_any hn hlr w ht hg hgc h hc h32 hlar
        cases hm : maF (wdF [] r) ⟨-1, false, false⟩ with
        | none =>
          rw [hm] at hO hX
          have HO := Lib.hid hO
          have HX := Lib.hid hX
          unfold OptR at HO
          clear hP hK hX hr hb hs hsp hlr hlar hO hm h32 ht hg hgc h hc hla hl hn hls hlq
          generalize spL l = q at *
          generalize ba b.loc = L at *
          generalize ba b.dom = D at *
          go_enter Tryz.func29, Tryz.ntmps29
          go_wp2_with (first
            | (go_at_call 53; (with_reducible refine HS.out.mono ?_); rintro e w1 ⟨rfl, hm⟩; have HT1 := Lib.hid (hm.two HC.out HNe.out); clear hm; have s1 := HT1.out.sc; obtain ⟨⟨k0, k1, k2, k3, k4, k5⟩, f1, f2, f3, f4, f5⟩ := HT1.out.cells; obtain ⟨i0, i1, i2⟩ := HT1.out.sc.cells)
            | (go_at_call 55; (with_reducible refine (HK.out _ s1).mono ?_); rintro e w2 ⟨rfl, hm⟩; have HT2 := Lib.hid (HT1.out.mov hm HNe.out); clear hm; have s2 := HT2.out.sc; have c2 := HT2.out.cm)
            | (go_at_call 56; (with_reducible refine (HP.out _ s2 c2).mono ?_); rintro e w3 ⟨rfl, hf⟩; have HT3 := Lib.hid (HT2.out.trans hf); clear hf; have s3 := HT3.out.sc; have c3 := HT3.out.cm; have t3 := HTb.out _ HT3.out.fro)
            | (go_at_call 57; (with_reducible refine (HO.out _ t3 s3 c3).mono ?_); rintro e w4 ⟨rfl, hf⟩; have HF4 := Lib.hid (HT3.out.fro.trans hf); clear hf))
          go_ret
          exact SayR.no HX.out HF4.out
        | some s =>
          rw [hm] at hO hX
          have HO := Lib.hid hO
          have HX := Lib.hid hX
          unfold OptR at HO
          clear hP hK hX hr hb hs hsp hlr hlar hO hm h32 ht hg hgc h hc hla hl hn hls hlq
          generalize spL l = q at *
          generalize hL : ba b.loc = L at *
          generalize hD : ba b.dom = D at *
          go_enter Tryz.func29, Tryz.ntmps29
          go_wp2_with (first
            | (go_at_call 53; (with_reducible refine HS.out.mono ?_); rintro e w1 ⟨rfl, hm⟩; have HT1 := Lib.hid (hm.two HC.out HNe.out); clear hm; have s1 := HT1.out.sc; obtain ⟨⟨k0, k1, k2, k3, k4, k5⟩, f1, f2, f3, f4, f5⟩ := HT1.out.cells; obtain ⟨i0, i1, i2⟩ := HT1.out.sc.cells)
            | (go_at_call 55; (with_reducible refine (HK.out _ s1).mono ?_); rintro e w2 ⟨rfl, hm⟩; have HT2 := Lib.hid (HT1.out.mov hm HNe.out); clear hm; have s2 := HT2.out.sc; have c2 := HT2.out.cm)
            | (go_at_call 56; (with_reducible refine (HP.out _ s2 c2).mono ?_); rintro e w3 ⟨rfl, hf⟩; have HT3 := Lib.hid (HT2.out.trans hf); clear hf; have s3 := HT3.out.sc; have c3 := HT3.out.cm; have t3 := HTb.out _ HT3.out.fro)
            | (go_at_call 57; (with_reducible refine (HO.out _ t3 s3 c3).mono ?_); rintro e w4 ⟨rfl, hf⟩; have HT4 := Lib.hid (HT3.out.trans hf); clear hf))
          go_ret
          exact SayR.yes HX.out (by subst hL hD; exact HT4.out)

set_option maxHeartbeats 8000000 in
set_option maxRecDepth 100000 in
theorem lsaid_4 {g gc : Nat} {l : List UInt8} (hn : g ≠ gc) (hl : l.length ≤ 65536) (w : World) (ht : Tb w) (hg : NoG g) (hgc : NoG gc) (h : Sc w g l) (hc : Arr w gc #[.int .i64 4, .string ⟨#[]⟩, .string ⟨#[]⟩, .string ⟨#[]⟩, .int .i64 (-1), .bool false] 26) (hla : l.getLast? ≠ some 32) :
    Calls Tryz.prog 29 #[.pointer (some ⟨g, 0, none⟩), .pointer (some ⟨gc, 0, none⟩)] w (SayR g gc w (sayC 4 (spL l))) := by
  have hls := spL_len l
  have hlq := last_suf hla (spL_suf l).choose_spec
  have HS := Lib.hid (lspaces_any w h)
  have HNe := Lib.hid hn
  have HC := Lib.hid hc
  obtain ⟨X, hX⟩ : ∃ X, X = sayC 4 (spL l) := ⟨_, rfl⟩
  rw [← hX]
  rw [sayC] at hX
  rw [if_neg (by decide), if_neg (by decide), if_pos rfl, patL] at hX
  have hK := fun w (h : Sc w g (spL l)) => ltakes_any (l := spL l) toW (by decide) (by omega) (by decide) w h
  rw [show ba toW = ⟨#[84, 79, 58]⟩ from rfl] at hK
  cases hb : begB (spL l) toW with
  | false =>
    rw [hb, if_neg (by decide)] at hK hX
    have HK := Lib.hid hK
    have HX := Lib.hid hX
    clear hK hX hb ht hg hgc h hc hla hl hn hls hlq
    generalize spL l = q at *
    go_enter Tryz.func29, Tryz.ntmps29
    go_wp2_with (first
      | (go_at_call 53; (with_reducible refine HS.out.mono ?_); rintro e w1 ⟨rfl, hm⟩; have HT1 := Lib.hid (hm.two HC.out HNe.out); clear hm; have s1 := HT1.out.sc; obtain ⟨⟨k0, k1, k2, k3, k4, k5⟩, f1, f2, f3, f4, f5⟩ := HT1.out.cells; obtain ⟨i0, i1, i2⟩ := HT1.out.sc.cells)
      | (go_at_call 55; (with_reducible refine (HK.out _ s1).mono ?_); rintro e w2 ⟨rfl, hm⟩; have HT2 := Lib.hid (HT1.out.mov hm HNe.out); clear hm; have s2 := HT2.out.sc; have c2 := HT2.out.cm))
    go_ret
    exact SayR.no HX.out HT2.out.fro
  | true =>
    rw [hb, if_pos rfl] at hK hX
    have HK := Lib.hid hK
    have HTb := Lib.hid (fun w1 (h : Fro (fun h => h = g ∨ h = gc) w w1) => h.tb2 ht hg hgc)
    have hP := fun w (h : Sc w g ((spL l).drop toW.length)) (hc : Arr w gc #[.int .i64 4, .string ⟨#[]⟩, .string ⟨#[]⟩, .string ⟨#[]⟩, .int .i64 (-1), .bool false] 26) => lpathC_any hn (by rw [List.length_drop]; omega) w h hc
    cases hr : readL (spL ((spL l).drop toW.length)) with
    | none =>
      rw [hr] at hP hX
      have HP := Lib.hid hP
      have HX := Lib.hid hX
      clear hP hK hX hr hb ht hg hgc h hc hla hl hn hls hlq
      generalize spL l = q at *
      go_enter Tryz.func29, Tryz.ntmps29
      go_wp2_with (first
        | (go_at_call 53; (with_reducible refine HS.out.mono ?_); rintro e w1 ⟨rfl, hm⟩; have HT1 := Lib.hid (hm.two HC.out HNe.out); clear hm; have s1 := HT1.out.sc; obtain ⟨⟨k0, k1, k2, k3, k4, k5⟩, f1, f2, f3, f4, f5⟩ := HT1.out.cells; obtain ⟨i0, i1, i2⟩ := HT1.out.sc.cells)
        | (go_at_call 55; (with_reducible refine (HK.out _ s1).mono ?_); rintro e w2 ⟨rfl, hm⟩; have HT2 := Lib.hid (HT1.out.mov hm HNe.out); clear hm; have s2 := HT2.out.sc; have c2 := HT2.out.cm)
        | (go_at_call 56; (with_reducible refine (HP.out _ s2 c2).mono ?_); rintro e w3 ⟨rfl, hf⟩; have HF3 := Lib.hid (HT2.out.fro.trans hf); clear hf))
      go_ret
      exact SayR.no HX.out HF3.out
    | some p =>
      obtain ⟨b, r⟩ := p
      rw [hr] at hP hX
      have HP := Lib.hid hP
      have HX := Lib.hid hX
      clear hP hK hX hr hb ht hg hgc h hc hla hl hn hls hlq
      generalize spL l = q at *
      generalize hL : ba b.loc = L at *
      generalize hD : ba b.dom = D at *
      go_enter Tryz.func29, Tryz.ntmps29
      go_wp2_with (first
        | (go_at_call 53; (with_reducible refine HS.out.mono ?_); rintro e w1 ⟨rfl, hm⟩; have HT1 := Lib.hid (hm.two HC.out HNe.out); clear hm; have s1 := HT1.out.sc; obtain ⟨⟨k0, k1, k2, k3, k4, k5⟩, f1, f2, f3, f4, f5⟩ := HT1.out.cells; obtain ⟨i0, i1, i2⟩ := HT1.out.sc.cells)
        | (go_at_call 55; (with_reducible refine (HK.out _ s1).mono ?_); rintro e w2 ⟨rfl, hm⟩; have HT2 := Lib.hid (HT1.out.mov hm HNe.out); clear hm; have s2 := HT2.out.sc; have c2 := HT2.out.cm)
        | (go_at_call 56; (with_reducible refine (HP.out _ s2 c2).mono ?_); rintro e w3 ⟨rfl, hf⟩; have HT3 := Lib.hid (HT2.out.trans hf); clear hf; have s3 := HT3.out.sc; have c3 := HT3.out.cm; have t3 := HTb.out _ HT3.out.fro))
      go_ret
      exact SayR.yes HX.out (by subst hL hD; exact HT3.out)

set_option maxHeartbeats 8000000 in
set_option maxRecDepth 100000 in
theorem lsaid_5 {g gc : Nat} {l : List UInt8} (hn : g ≠ gc) (_hl : l.length ≤ 65536) (w : World) (_ht : Tb w) (_hg : NoG g) (_hgc : NoG gc) (h : Sc w g l) (hc : Arr w gc #[.int .i64 5, .string ⟨#[]⟩, .string ⟨#[]⟩, .string ⟨#[]⟩, .int .i64 (-1), .bool false] 26) (hla : l.getLast? ≠ some 32) :
    Calls Tryz.prog 29 #[.pointer (some ⟨g, 0, none⟩), .pointer (some ⟨gc, 0, none⟩)] w (SayR g gc w (sayC 5 (spL l))) := by
  have hls := spL_len l
  have hlq := last_suf hla (spL_suf l).choose_spec
  have HS := Lib.hid (lspaces_any w h)
  have HNe := Lib.hid hn
  have HC := Lib.hid hc
  obtain ⟨X, hX⟩ : ∃ X, X = sayC 5 (spL l) := ⟨_, rfl⟩
  rw [← hX]
  rw [sayC] at hX
  rw [if_neg (by decide), if_neg (by decide), if_neg (by decide), if_neg (by decide)] at hX
  have HX := Lib.hid hX
  clear hX h hc hla hn hls hlq
  generalize spL l = q at *
  go_enter Tryz.func29, Tryz.ntmps29
  go_wp2_with (first
    | (go_at_call 53; (with_reducible refine HS.out.mono ?_); rintro e w1 ⟨rfl, hm⟩; have HT1 := Lib.hid (hm.two HC.out HNe.out); clear hm; have s1 := HT1.out.sc; obtain ⟨⟨k0, k1, k2, k3, k4, k5⟩, f1, f2, f3, f4, f5⟩ := HT1.out.cells; obtain ⟨i0, i1, i2⟩ := HT1.out.sc.cells))
  go_ret
  exact SayR.yes HX.out HT1.out

set_option maxHeartbeats 8000000 in
set_option maxRecDepth 100000 in
theorem lsaid_6 {g gc : Nat} {l : List UInt8} (hn : g ≠ gc) (_hl : l.length ≤ 65536) (w : World) (_ht : Tb w) (_hg : NoG g) (_hgc : NoG gc) (h : Sc w g l) (hc : Arr w gc #[.int .i64 6, .string ⟨#[]⟩, .string ⟨#[]⟩, .string ⟨#[]⟩, .int .i64 (-1), .bool false] 26) (hla : l.getLast? ≠ some 32) :
    Calls Tryz.prog 29 #[.pointer (some ⟨g, 0, none⟩), .pointer (some ⟨gc, 0, none⟩)] w (SayR g gc w (sayC 6 (spL l))) := by
  have hls := spL_len l
  have hlq := last_suf hla (spL_suf l).choose_spec
  have HS := Lib.hid (lspaces_any w h)
  have HNe := Lib.hid hn
  have HC := Lib.hid hc
  obtain ⟨X, hX⟩ : ∃ X, X = sayC 6 (spL l) := ⟨_, rfl⟩
  rw [← hX]
  rw [sayC] at hX
  rw [if_neg (by decide), if_neg (by decide), if_neg (by decide), if_neg (by decide)] at hX
  have HX := Lib.hid hX
  clear hX h hc hla hn hls hlq
  generalize spL l = q at *
  go_enter Tryz.func29, Tryz.ntmps29
  go_wp2_with (first
    | (go_at_call 53; (with_reducible refine HS.out.mono ?_); rintro e w1 ⟨rfl, hm⟩; have HT1 := Lib.hid (hm.two HC.out HNe.out); clear hm; have s1 := HT1.out.sc; obtain ⟨⟨k0, k1, k2, k3, k4, k5⟩, f1, f2, f3, f4, f5⟩ := HT1.out.cells; obtain ⟨i0, i1, i2⟩ := HT1.out.sc.cells))
  go_ret
  exact SayR.yes HX.out HT1.out

set_option maxHeartbeats 8000000 in
set_option maxRecDepth 100000 in
theorem lsaid_7 {g gc : Nat} {l : List UInt8} (hn : g ≠ gc) (_hl : l.length ≤ 65536) (w : World) (_ht : Tb w) (_hg : NoG g) (_hgc : NoG gc) (h : Sc w g l) (hc : Arr w gc #[.int .i64 7, .string ⟨#[]⟩, .string ⟨#[]⟩, .string ⟨#[]⟩, .int .i64 (-1), .bool false] 26) (hla : l.getLast? ≠ some 32) :
    Calls Tryz.prog 29 #[.pointer (some ⟨g, 0, none⟩), .pointer (some ⟨gc, 0, none⟩)] w (SayR g gc w (sayC 7 (spL l))) := by
  have hls := spL_len l
  have hlq := last_suf hla (spL_suf l).choose_spec
  have HS := Lib.hid (lspaces_any w h)
  have HNe := Lib.hid hn
  have HC := Lib.hid hc
  obtain ⟨X, hX⟩ : ∃ X, X = sayC 7 (spL l) := ⟨_, rfl⟩
  rw [← hX]
  rw [sayC] at hX
  rw [if_neg (by decide), if_neg (by decide), if_neg (by decide), if_pos (by decide)] at hX
  have HX := Lib.hid hX
  clear hX h hc hla hn hls hlq
  generalize spL l = q at *
  have HE := Lib.hid (fun w1 (h : Two g gc q #[.int .i64 7, .string ⟨#[]⟩, .string ⟨#[]⟩, .string ⟨#[]⟩, .int .i64 (-1), .bool false] w w1) => (h.text HNe.out (.string (ba q))).rest HNe.out [])
  generalize hU : ba q = U at *
  go_enter Tryz.func29, Tryz.ntmps29
  go_wp2_with (first
    | (go_at_call 53; (with_reducible refine HS.out.mono ?_); rintro e w1 ⟨rfl, hm⟩; have HT1 := Lib.hid (hm.two HC.out HNe.out); clear hm; have s1 := HT1.out.sc; obtain ⟨⟨k0, k1, k2, k3, k4, k5⟩, f1, f2, f3, f4, f5⟩ := HT1.out.cells; obtain ⟨i0, i1, i2⟩ := HT1.out.sc.cells; rw [hU] at i0; have HT2 := Lib.hid (HE.out _ HT1.out); have hlc := HT1.out.cm.lt; have hne := HNe.out))
  go_ret
  exact SayR.yes HX.out (by subst hU; exact HT2.out)

set_option maxHeartbeats 8000000 in
set_option maxRecDepth 100000 in
theorem lsaid_8 {g gc : Nat} {l : List UInt8} (hn : g ≠ gc) (_hl : l.length ≤ 65536) (w : World) (_ht : Tb w) (_hg : NoG g) (_hgc : NoG gc) (h : Sc w g l) (hc : Arr w gc #[.int .i64 8, .string ⟨#[]⟩, .string ⟨#[]⟩, .string ⟨#[]⟩, .int .i64 (-1), .bool false] 26) (hla : l.getLast? ≠ some 32) :
    Calls Tryz.prog 29 #[.pointer (some ⟨g, 0, none⟩), .pointer (some ⟨gc, 0, none⟩)] w (SayR g gc w (sayC 8 (spL l))) := by
  have hls := spL_len l
  have hlq := last_suf hla (spL_suf l).choose_spec
  have HS := Lib.hid (lspaces_any w h)
  have HNe := Lib.hid hn
  have HC := Lib.hid hc
  obtain ⟨X, hX⟩ : ∃ X, X = sayC 8 (spL l) := ⟨_, rfl⟩
  rw [← hX]
  rw [sayC] at hX
  rw [if_neg (by decide), if_neg (by decide), if_neg (by decide), if_neg (by decide)] at hX
  have HX := Lib.hid hX
  clear hX h hc hla hn hls hlq
  generalize spL l = q at *
  go_enter Tryz.func29, Tryz.ntmps29
  go_wp2_with (first
    | (go_at_call 53; (with_reducible refine HS.out.mono ?_); rintro e w1 ⟨rfl, hm⟩; have HT1 := Lib.hid (hm.two HC.out HNe.out); clear hm; have s1 := HT1.out.sc; obtain ⟨⟨k0, k1, k2, k3, k4, k5⟩, f1, f2, f3, f4, f5⟩ := HT1.out.cells; obtain ⟨i0, i1, i2⟩ := HT1.out.sc.cells))
  go_ret
  exact SayR.yes HX.out HT1.out

set_option maxHeartbeats 8000000 in
set_option maxRecDepth 100000 in
theorem lsaid_9 {g gc : Nat} {l : List UInt8} (hn : g ≠ gc) (_hl : l.length ≤ 65536) (w : World) (_ht : Tb w) (_hg : NoG g) (_hgc : NoG gc) (h : Sc w g l) (hc : Arr w gc #[.int .i64 9, .string ⟨#[]⟩, .string ⟨#[]⟩, .string ⟨#[]⟩, .int .i64 (-1), .bool false] 26) (hla : l.getLast? ≠ some 32) :
    Calls Tryz.prog 29 #[.pointer (some ⟨g, 0, none⟩), .pointer (some ⟨gc, 0, none⟩)] w (SayR g gc w (sayC 9 (spL l))) := by
  have hls := spL_len l
  have hlq := last_suf hla (spL_suf l).choose_spec
  have HS := Lib.hid (lspaces_any w h)
  have HNe := Lib.hid hn
  have HC := Lib.hid hc
  obtain ⟨X, hX⟩ : ∃ X, X = sayC 9 (spL l) := ⟨_, rfl⟩
  rw [← hX]
  rw [sayC] at hX
  rw [if_neg (by decide), if_neg (by decide), if_neg (by decide), if_pos (by decide)] at hX
  have HX := Lib.hid hX
  clear hX h hc hla hn hls hlq
  generalize spL l = q at *
  have HE := Lib.hid (fun w1 (h : Two g gc q #[.int .i64 9, .string ⟨#[]⟩, .string ⟨#[]⟩, .string ⟨#[]⟩, .int .i64 (-1), .bool false] w w1) => (h.text HNe.out (.string (ba q))).rest HNe.out [])
  generalize hU : ba q = U at *
  go_enter Tryz.func29, Tryz.ntmps29
  go_wp2_with (first
    | (go_at_call 53; (with_reducible refine HS.out.mono ?_); rintro e w1 ⟨rfl, hm⟩; have HT1 := Lib.hid (hm.two HC.out HNe.out); clear hm; have s1 := HT1.out.sc; obtain ⟨⟨k0, k1, k2, k3, k4, k5⟩, f1, f2, f3, f4, f5⟩ := HT1.out.cells; obtain ⟨i0, i1, i2⟩ := HT1.out.sc.cells; rw [hU] at i0; have HT2 := Lib.hid (HE.out _ HT1.out); have hlc := HT1.out.cm.lt; have hne := HNe.out))
  go_ret
  exact SayR.yes HX.out (by subst hU; exact HT2.out)

theorem lsaid_any {g gc : Nat} {l : List UInt8} (v : Nat) (hv : 1 ≤ v ∧ v ≤ 9) (hn : g ≠ gc) (hl : l.length ≤ 65536) (w : World) (ht : Tb w) (hg : NoG g) (hgc : NoG gc) (h : Sc w g l) (hc : Arr w gc #[.int .i64 (v : Int), .string ⟨#[]⟩, .string ⟨#[]⟩, .string ⟨#[]⟩, .int .i64 (-1), .bool false] 26) (hla : l.getLast? ≠ some 32) :
    Calls Tryz.prog 29 #[.pointer (some ⟨g, 0, none⟩), .pointer (some ⟨gc, 0, none⟩)] w (SayR g gc w (sayC v (spL l))) := by
  obtain rfl | rfl | rfl | rfl | rfl | rfl | rfl | rfl | rfl : v = 1 ∨ v = 2 ∨ v = 3 ∨ v = 4 ∨ v = 5 ∨ v = 6 ∨ v = 7 ∨ v = 8 ∨ v = 9 := by omega
  · exact lsaid_1 hn hl w ht hg hgc h hc hla
  · exact lsaid_2 hn hl w ht hg hgc h hc hla
  · exact lsaid_3 hn hl w ht hg hgc h hc hla
  · exact lsaid_4 hn hl w ht hg hgc h hc hla
  · exact lsaid_5 hn hl w ht hg hgc h hc hla
  · exact lsaid_6 hn hl w ht hg hgc h hc hla
  · exact lsaid_7 hn hl w ht hg hgc h hc hla
  · exact lsaid_8 hn hl w ht hg hgc h hc hla
  · exact lsaid_9 hn hl w ht hg hgc h hc hla
end Go.Proofs.YtahbbnimoogapaaGreatDoor
