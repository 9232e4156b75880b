/- The document's own layer 10: Write: what it answers; no such verb. The document's own layer 10: words, as a row of the call's own. The document's own layer 10: mail. -/
import Derived.Test.YtahbbnimoogapaaGreatDoorMQ
import Derived.Test.YtahbbnimoogapaaGreatDoorMO
namespace Go.Proofs.YtahbbnimoogapaaGreatDoor
open Go.RowKit

/-- What Write answers. -/
def wriV (c : CmdA) : Value := if c.verb < 1 ∨ 9 < c.verb then .tuple #[.string ⟨#[]⟩, .int .i64 1] else match lineC c with
  | none => .tuple #[.string ⟨#[]⟩, .int .i64 2]
  | some w => .tuple #[.string (ba w), .int .i64 0]
/-- A command in memory. -/
def CmdW (w : World) (g : Nat) (cs : Array Value) : Prop := Arr w g cs 32
theorem CmdW.limbs {w : World} {g : Nat} {a b c d e f : Value} (h : CmdW w g #[a, b, c, d, e, f]) : w.cell? ⟨g, 0, none⟩ = some a ∧ w.cell? ⟨g, 1, none⟩ = some b ∧ w.cell? ⟨g, 2, none⟩ = some c ∧ w.cell? ⟨g, 3, none⟩ = some d ∧ w.cell? ⟨g, 4, none⟩ = some e ∧ w.cell? ⟨g, 5, none⟩ = some f :=
  ⟨Arr.cell h rfl, Arr.cell h rfl, Arr.cell h rfl, Arr.cell h rfl, Arr.cell h rfl, Arr.cell h rfl⟩
theorem CmdW.next {w w' : World} {g : Nat} {cs : Array Value} (h : CmdW w g cs) (hb : Below w.heap.size w w') : CmdW w' g cs := Arr.next h hb
theorem CmdW.drew {w : World} {g : Nat} {cs : Array Value} (h : CmdW w g cs) : CmdW w.drew g cs := h
theorem pathR_two (b : BoxA) : ∃ X e, pathR b = .tuple #[.string X, .int .i64 e] ∧ ((pathL b = none ∧ (e != 0) = true) ∨ ∃ p, pathL b = some p ∧ X = ba p ∧ (e != 0) = false) := by
  rw [pathR]
  cases h : pathL b with
  | none => exact ⟨_, _, rfl, .inl ⟨rfl, rfl⟩⟩
  | some p => exact ⟨_, _, rfl, .inr ⟨p, rfl, rfl, rfl⟩⟩
theorem vb_size (k : Nat) : (ba (vb k)).size ≤ 4 := by
  rw [ba_size]
  by_cases h : k < 10
  · have : ∀ j : Fin 10, (vb j.val).length ≤ 4 := by decide
    exact this ⟨k, h⟩
  · rw [vb, List.getD_eq_getElem?_getD, List.getElem?_eq_none (by show 10 ≤ k; omega)]; decide

set_option maxHeartbeats 4000000 in
set_option maxRecDepth 100000 in
theorem rwrite10_none (c : CmdA) (hv : c.verb < 1 ∨ 9 < c.verb) (w : World) :
    Calls Tryz.prog 15 #[cmdV c] w fun e w' => e = .returned (wriV c) ∧ Below w.heap.size w w' := by
  have hA := Arr.new w (cmdZ c) 32
  have hb := Lib.hid (below_one w (.cells (cmdZ c) 32))
  rw [cmdV]
  unfold cmdZ at hA hb ⊢
  have HA := Lib.hid (show CmdW _ _ _ from hA)
  obtain ⟨c0, c1, c2, c3, c4, c5⟩ := HA.out.limbs
  have HR := Lib.hid (show wriV c = .tuple #[.string ⟨#[]⟩, .int .i64 1] by rw [wriV, if_pos hv])
  generalize wriV c = R at *
  clear hA
  generalize c.verb = V at *
  generalize ba c.text = T at *
  generalize ba c.box.loc = L at *
  generalize ba c.box.dom = D at *
  generalize c.size = S at *
  generalize c.eight = E at *
  by_cases hv1 : V < 1
  · clear hv
    go_enter Tryz.func15, Tryz.ntmps15
    go_wp2
    go_ret2
    exact ⟨by rw [HR.out]; rfl, hb.out⟩
  · have hv9 : 9 < V := by omega
    clear hv
    go_enter Tryz.func15, Tryz.ntmps15
    go_wp2
    go_ret2
    exact ⟨by rw [HR.out]; rfl, hb.out⟩
theorem path_plen {b : BoxA} {p : List UInt8} (h : pathL b = some p) : p.length ≤ 2 * b.loc.length + b.dom.length + 6 := by
  unfold pathL at h
  split at h
  · rw [← Option.some.inj h]; simp only [List.length_cons, List.length_nil]; omega
  · split at h
    · rw [← Option.some.inj h, List.length_cons, List.length_append, List.length_singleton]
      have := wrL_len b
      omega
    · cases h
end Go.Proofs.YtahbbnimoogapaaGreatDoor
namespace Go.Proofs.YtahbbnimoogapaaGreatDoor
open Go.RowKit

set_option maxHeartbeats 2000000 in
set_option maxRecDepth 100000 in
theorem rwords_own (l : List UInt8) (hl : l.length ≤ 1048576) (w : World) :
    Calls Tryz.prog 61 #[.string (ba l)] w fun e w' => ∃ v, e = .returned v ∧ OwS w' w.heap.size v (bas (wdF [] l)) ∧ (∀ x ∈ wdF [] l, x.length ≤ 1048576) ∧ (wdF [] l).length ≤ 1048577 ∧ Below w.heap.size w w' := by
  have hll := ba_size l
  have HAt := Lib.hid (fun k (h : k < (ba l).size) => byte_at (s := ba l) h)
  rw [ba_list] at HAt
  have hE := fun k (h : k < (ba l).size) => ext_one h
  have HE := Lib.hid hE
  have h0 := Lib.hid ((Below.refl w.heap.size w).alloc (Nat.le_refl _) (.cells #[] 9))
  have hS0 := Lib.hid (show wdF [] l = [] ++ wdF [] (l.drop 0) by rw [List.drop_zero]; rfl)
  have HL := Lib.hid (And.intro hl hll)
  have hsz : (ba l).size ≤ 1048576 := by omega
  generalize ba l = s at *
  clear hE hll
  obtain ⟨T, hT⟩ : ∃ T, T = wdF [] l := ⟨_, rfl⟩
  rw [← hT] at hS0 ⊢
  clear hT
  go_enter Tryz.func61, Tryz.ntmps61
  go_wp2
  go_loopw [3, 4, 5] (fun o v i wr => ∃ (k : Nat) (L : List (List UInt8)) (V : List UInt8), i = .int .i64 (k : Int) ∧ v = .string (ba V) ∧ k ≤ s.size + 1 ∧ L.length + (if V = [] then 0 else 1) ≤ k ∧ (∀ x ∈ L, x.length ≤ 1048576) ∧ V.length ≤ k ∧ OwS wr w.heap.size o (bas L) ∧ Below w.heap.size w wr ∧
    (k ≤ s.size → T = L ++ wdF V (l.drop k)) ∧ (k = s.size + 1 → T = L)) (fun _ _ i _ => 1048578 - (intOf i).toNat)
  case atStart => exact ⟨0, [], [], rfl, rfl, by omega, by decide, fun _ h => (by cases h), by decide, OwS.start w _ (Nat.le_refl _), h0.out, fun _ => hS0.out, fun h => absurd h (by omega)⟩
  case round =>
    obtain ⟨k, L, V, rfl, rfl, hk, hLk, hLs, hVk, hown, hbel, hw1, hw2⟩ := hrel
    have HW1 := Lib.hid hw1
    have HW2 := Lib.hid hw2
    have HOw := Lib.hid hown
    have HLs := Lib.hid hLs
    have HLk := Lib.hid hLk
    have hk0 : (0 : Int) ≤ (k : Int) := by omega
    have hVs := ba_size V
    have HMe := Lib.hid (show k < 1048578 by have := HL.out; omega)
    clear hw1 hw2 hLs hown hLk
    by_cases hle : k ≤ s.size
    · have hlei : (k : Int) ≤ (s.size : Int) := by omega
      by_cases hlt : k < s.size
      · have hli : (k : Int) < (s.size : Int) := by omega
        have hat := HAt.out k hlt
        have hstep := wd_step (V := V) hat
        by_cases hc : s[k] = 32
        · have q : ((s[k].toNat : Int) != 32) = false := by rw [hc]; rfl
          rw [if_pos hc] at hstep
          by_cases hV : V = []
          · have b0 : ¬ (0 : Int) < ((ba V).size : Int) := by rw [hVs, hV]; decide
            have HN := Lib.hid (show T = L ++ wdF [] (l.drop (k + 1)) by rw [HW1.out hle, hstep, if_pos hV])
            have HLn := Lib.hid (show L.length + (if ([] : List UInt8) = [] then 0 else 1) ≤ k + 1 by have := HLk.out; rw [if_pos hV] at this; rw [if_pos rfl]; omega)
            have HV := Lib.hid hV
            clear hat hstep hc hV
            generalize ba V = BV at *
            go_wp2
            go_roundw
            case rel => exact ⟨k + 1, L, [], by go_num, rfl, by omega, HLn.out, HLs.out, Nat.zero_le _, HOw.out, hbel, fun _ => HN.out, fun h => absurd h (by omega)⟩
            case measure => simp only [intOf]; have := HMe.out; omega
          · have hpos := List.length_pos_iff.2 hV
            have b0 : (0 : Int) < ((ba V).size : Int) := by omega
            have HN := Lib.hid (show T = (L ++ [V]) ++ wdF [] (l.drop (k + 1)) by rw [HW1.out hle, hstep, if_neg hV, List.append_assoc, List.singleton_append])
            have HLn := Lib.hid (show (L ++ [V]).length + (if ([] : List UInt8) = [] then 0 else 1) ≤ k + 1 by have := HLk.out; rw [if_neg hV] at this; rw [if_pos rfl, List.length_append, List.length_singleton]; omega)
            have HLs2 := Lib.hid (show ∀ x ∈ L ++ [V], x.length ≤ 1048576 from fun x hx => by
              rcases List.mem_append.1 hx with hx | hx
              · exact HLs.out x hx
              · rw [List.mem_singleton.1 hx]; have := HL.out; omega)
            have HB := Lib.hid (bas_snoc L V)
            have hLb : (bas L).length ≤ 1048577 := by rw [bas_len]; have := HLk.out; have := HL.out; omega
            clear hat hstep hc hV hpos hVs
            generalize ba V = BV at *
            go_wp2_with (first
              | (at_builtin; refine wpList_pushs wr HOw.out rfl _ _ rfl rfl rfl BV (by omega) hbel.size ?_; intro v' w5 h5 hb5; rw [← HB.out] at h5))
            go_roundw
            case rel => exact ⟨k + 1, L ++ [V], [], by go_num, rfl, by omega, HLn.out, HLs2.out, Nat.zero_le _, h5, hbel.trans hb5, fun _ => HN.out, fun h => absurd h (by omega)⟩
            case measure => simp only [intOf]; have := HMe.out; omega
        · have q : ((s[k].toNat : Int) != 32) = true := by
            rw [bne, show (32 : Int) = ((32 : Nat) : Int) from rfl, byte_is (by decide), decide_eq_false (by exact hc)]; rfl
          rw [if_neg hc] at hstep
          have hsx := slice_str s (k : Int) ((k : Int) + 1) k (k + 1) rfl (by omega) (by omega) (by omega)
          rw [HE.out k hlt, one_ba] at hsx
          have hcat := cat_run (ba V) (ba [s[k]]) (by rw [hVs, ba_size]; have := HL.out; simp only [List.length_singleton]; omega)
          rw [ba_append] at hcat
          have HN := Lib.hid (show T = L ++ wdF (V ++ [s[k]]) (l.drop (k + 1)) by rw [HW1.out hle, hstep])
          have HLn := Lib.hid (show L.length + (if V ++ [s[k]] = [] then 0 else 1) ≤ k + 1 by have := HLk.out; rw [if_neg (by simp)]; omega)
          have HVl := Lib.hid (show (V ++ [s[k]]).length ≤ k + 1 by rw [List.length_append, List.length_singleton]; omega)
          clear hat hstep hc hVs hVk
          generalize hV2 : V ++ [s[k]] = V2 at *
          clear hV2
          generalize ba [s[k]] = C at *
          generalize hB2 : ba V2 = BV2 at *
          have HB2 := Lib.hid hB2
          clear hB2
          generalize ba V = BV at *
          go_wp2
          go_roundw
          case rel => exact ⟨k + 1, L, V2, by go_num, by rw [HB2.out], by omega, HLn.out, HLs.out, HVl.out, HOw.out, hbel, fun _ => HN.out, fun h => absurd h (by omega)⟩
          case measure => simp only [intOf]; have := HMe.out; omega
      · have hli : ¬ (k : Int) < (s.size : Int) := by omega
        have hks : k = s.size := by omega
        have hdr : l.drop k = [] := List.drop_of_length_le (by have := HL.out; omega)
        have hT := HW1.out hle
        rw [hdr, wdF] at hT
        by_cases hV : V = []
        · have b0 : ¬ (0 : Int) < ((ba V).size : Int) := by rw [hVs, hV]; decide
          have HN := Lib.hid (show T = L by rw [hT, if_pos hV, List.append_nil])
          have HLn := Lib.hid (show L.length + (if ([] : List UInt8) = [] then 0 else 1) ≤ k + 1 by have := HLk.out; rw [if_pos hV] at this; rw [if_pos rfl]; omega)
          clear hdr hT hV hVs
          generalize ba V = BV at *
          go_wp2
          go_roundw
          case rel => exact ⟨k + 1, L, [], by go_num, rfl, by omega, HLn.out, HLs.out, Nat.zero_le _, HOw.out, hbel, fun h => absurd h (by omega), fun _ => HN.out⟩
          case measure => simp only [intOf]; have := HMe.out; omega
        · have hpos := List.length_pos_iff.2 hV
          have b0 : (0 : Int) < ((ba V).size : Int) := by omega
          have HN := Lib.hid (show T = L ++ [V] by rw [hT, if_neg hV])
          have HLn := Lib.hid (show (L ++ [V]).length + (if ([] : List UInt8) = [] then 0 else 1) ≤ k + 1 by have := HLk.out; rw [if_neg hV] at this; rw [if_pos rfl, List.length_append, List.length_singleton]; omega)
          have HLs2 := Lib.hid (show ∀ x ∈ L ++ [V], x.length ≤ 1048576 from fun x hx => by
            rcases List.mem_append.1 hx with hx | hx
            · exact HLs.out x hx
            · rw [List.mem_singleton.1 hx]; have := HL.out; omega)
          have HB := Lib.hid (bas_snoc L V)
          have hLb : (bas L).length ≤ 1048577 := by rw [bas_len]; have := HLk.out; have := HL.out; omega
          clear hdr hT hV hpos hVs
          generalize ba V = BV at *
          go_wp2_with (first
            | (at_builtin; refine wpList_pushs wr HOw.out rfl _ _ rfl rfl rfl BV (by omega) hbel.size ?_; intro v' w5 h5 hb5; rw [← HB.out] at h5))
          go_roundw
          case rel => exact ⟨k + 1, L ++ [V], [], by go_num, rfl, by omega, HLn.out, HLs2.out, Nat.zero_le _, h5, hbel.trans hb5, fun h => absurd h (by omega), fun _ => HN.out⟩
          case measure => simp only [intOf]; have := HMe.out; omega
    · have hlei : ¬ (k : Int) ≤ (s.size : Int) := by omega
      have hTL := HW2.out (by omega)
      have HF := Lib.hid (And.intro hTL (show L.length ≤ 1048577 by have := HLk.out; have := HL.out; omega))
      clear hTL
      go_wp2
      go_ret
      exact ⟨_, rfl, by rw [HF.out.1]; exact HOw.out, by rw [HF.out.1]; exact HLs.out, by rw [HF.out.1]; exact HF.out.2, hbel⟩
end Go.Proofs.YtahbbnimoogapaaGreatDoor
namespace Go.Proofs.YtahbbnimoogapaaGreatDoor
open Go.RowKit

theorem ma_step {L : List (List UInt8)} {k : Nat} {x : List UInt8} (h : L[k]? = some x) (s : MaS) : maF (L.drop k) s = if begB x sizW = true then
      match sizC (x.drop 5) with
      | none => none
      | some n => if 0 ≤ s.size then none else maF (L.drop (k + 1)) ⟨n, s.eight, s.body⟩
    else if s.body = true ∨ (grL x ≠ bodW ∧ grL x ≠ bod7) then none else maF (L.drop (k + 1)) ⟨s.size, decide (grL x = bodW), true⟩ := by
  obtain ⟨hk, e⟩ := List.getElem?_eq_some_iff.1 h
  rw [List.drop_eq_getElem_cons hk, e, maF]
  rfl
theorem pat_len {l v r : List UInt8} {b : BoxA} (h : patL l v = some (b, r)) : r.length ≤ l.length := by
  unfold patL at h
  split at h
  · obtain ⟨_, p, _, e⟩ := read_back h
    have h1 := congrArg List.length e
    rw [List.length_append] at h1
    have h2 : (spL (l.drop v.length)).length ≤ (l.drop v.length).length := (List.dropWhile_sublist _).length_le
    have h3 := drop_le l v.length
    omega
  · cases h
theorem gr_cmp (y z : List UInt8) : ((ba y).toList == (ba z).toList) = decide (y = z) ∧ ((ba y).toList != (ba z).toList) = !decide (y = z) := by
  have q : ((ba y).toList == (ba z).toList) = decide (y = z) := by
    rw [tl8]
    by_cases h : y = z
    · rw [h, decide_eq_true rfl, decide_eq_true rfl]
    · rw [decide_eq_false h, decide_eq_false fun e => h (ba_inj e)]
  exact ⟨q, by rw [bne, q]⟩
/-- What mail's loop keeps: the command's cells, the words, what lies below. -/
def MaW (w0 : World) (g B : Nat) (b : BoxA) (sz : Int) (ei : Bool) (v : Value) (L : List (List UInt8)) (wr : World) : Prop :=
  CmdW wr g #[.int .i64 3, .string ⟨#[]⟩, .string (ba b.loc), .string (ba b.dom), .int .i64 sz, .bool ei] ∧ OwS wr B v (bas L) ∧ Below g w0 wr ∧ g < B
theorem MaW.next {w0 wr w' : World} {g B : Nat} {b : BoxA} {sz : Int} {ei : Bool} {v : Value} {L : List (List UInt8)} (h : MaW w0 g B b sz ei v L wr) (hb : Below wr.heap.size wr w') : MaW w0 g B b sz ei v L w' :=
  ⟨h.1.next hb, h.2.1.next hb, h.2.2.1.trans (hb.mono (Nat.le_of_lt (Arr.lt h.1))), h.2.2.2⟩
theorem MaW.set4 {w0 wr : World} {g B : Nat} {b : BoxA} {sz : Int} {ei : Bool} {v : Value} {L : List (List UInt8)} (h : MaW w0 g B b sz ei v L wr) (n : Int) : MaW w0 g B b n ei v L (wr.setCell ⟨g, 4, none⟩ (.int .i64 n)) :=
  ⟨Arr.set h.1 4 _, h.2.1.but h.2.2.2 4, h.2.2.1.setCell (Nat.le_refl _) _, h.2.2.2⟩
theorem MaW.set5 {w0 wr : World} {g B : Nat} {b : BoxA} {sz : Int} {ei : Bool} {v : Value} {L : List (List UInt8)} (h : MaW w0 g B b sz ei v L wr) (e : Bool) : MaW w0 g B b sz e v L (wr.setCell ⟨g, 5, none⟩ (.bool e)) :=
  ⟨Arr.set h.1 5 _, h.2.1.but h.2.2.2 5, h.2.2.1.setCell (Nat.le_refl _) _, h.2.2.2⟩
theorem MaW.limbs {w0 wr : World} {g B : Nat} {b : BoxA} {sz : Int} {ei : Bool} {v : Value} {L : List (List UInt8)} (h : MaW w0 g B b sz ei v L wr) :
    wr.cell? ⟨g, 4, none⟩ = some (.int .i64 sz) ∧ wr.cell? ⟨g, 5, none⟩ = some (.bool ei) ∧ wr.frozen? ⟨g, 4, none⟩ = false ∧ wr.frozen? ⟨g, 5, none⟩ = false :=
  ⟨Arr.cell h.1 rfl, Arr.cell h.1 rfl, Arr.frozen h.1 4, Arr.frozen h.1 5⟩
theorem MaW.word {w0 wr : World} {g B k n cap : Nat} {b : BoxA} {sz : Int} {ei : Bool} {y : Addr} {L : List (List UInt8)} {x : List UInt8} (h : MaW w0 g B b sz ei (.slice (some y) n cap) L wr) (hL : ∀ x ∈ L, x.length ≤ 1048576) (hx : L[k]? = some x) :
    wr.cell? (y.add k) = some (.string (ba x)) := by
  have ht := ows_texts h.2.1 (mem_bas (n := 1048576) (by decide) hL)
  have hk : k < L.length := (List.getElem?_eq_some_iff.1 hx).1
  have hn := ht.len.1
  rw [bas_len] at hn
  obtain ⟨z, hz, c, _⟩ := ht.at (i := k) (by omega)
  rw [← Option.some.inj hz, bas_get hx] at c
  exact c
theorem MaW.done {w0 wr : World} {g B : Nat} {b : BoxA} {sz : Int} {ei : Bool} {v : Value} {L : List (List UInt8)} {R : Option CmdA} (h : MaW w0 g B b sz ei v L wr) (hR : R = none) :
    ∃ d : CmdA, Ending.returned (.bool false) = .returned (.bool R.isSome) ∧ CmdW wr g (cmdZ d) ∧ (∀ m, R = some m → d = m) ∧ Below g w0 wr :=
  ⟨⟨3, [], b, sz, ei⟩, by rw [hR]; rfl, h.1, fun m e => (by rw [hR] at e; cases e), h.2.2.1⟩
theorem MaW.fine {w0 wr : World} {g B : Nat} {b : BoxA} {sz : Int} {ei : Bool} {v : Value} {L : List (List UInt8)} {R : Option CmdA} (h : MaW w0 g B b sz ei v L wr) (hR : R = some ⟨3, [], b, sz, ei⟩) :
    ∃ d : CmdA, Ending.returned (.bool true) = .returned (.bool R.isSome) ∧ CmdW wr g (cmdZ d) ∧ (∀ m, R = some m → d = m) ∧ Below g w0 wr :=
  ⟨⟨3, [], b, sz, ei⟩, by rw [hR]; rfl, h.1, fun m e => (by rw [hR] at e; exact Option.some.inj e), h.2.2.1⟩
theorem old_limbs {w : World} {g : Nat} (h : Arr w g (cmdZ ⟨3, [], ⟨[], []⟩, -1, false⟩) 32) :
    w.cell? ⟨g, 2, none⟩ = some (.string ⟨#[]⟩) ∧ w.cell? ⟨g, 3, none⟩ = some (.string ⟨#[]⟩) ∧ w.frozen? ⟨g, 2, none⟩ = false ∧ w.frozen? ⟨g, 3, none⟩ = false :=
  ⟨Arr.cell h rfl, Arr.cell h rfl, Arr.frozen h 2, Arr.frozen h 3⟩
theorem old_step {w0 w w' : World} {g : Nat} {b : BoxA} {v : Value} {L : List (List UInt8)} (h : Arr w g (cmdZ ⟨3, [], ⟨[], []⟩, -1, false⟩) 32) (hb : Below g w0 w)
    (ho : OwS w' ((w.setCell ⟨g, 2, none⟩ (.string (ba b.loc))).setCell ⟨g, 3, none⟩ (.string (ba b.dom))).heap.size v (bas L)) (hn : Below ((w.setCell ⟨g, 2, none⟩ (.string (ba b.loc))).setCell ⟨g, 3, none⟩ (.string (ba b.dom))).heap.size ((w.setCell ⟨g, 2, none⟩ (.string (ba b.loc))).setCell ⟨g, 3, none⟩ (.string (ba b.dom))) w') :
    ∃ B, MaW w0 g B b (-1) false v L w' := by
  have h2 := Arr.set (Arr.set h 2 (.string (ba b.loc))) 3 (.string (ba b.dom))
  exact ⟨_, Arr.next h2 hn, ho, ((hb.setCell (p := ⟨g, 2, none⟩) (Nat.le_refl _) _).setCell (p := ⟨g, 3, none⟩) (Nat.le_refl _) _).trans (hn.mono (Nat.le_of_lt h2.lt)), h2.lt⟩

set_option maxHeartbeats 4000000 in
set_option maxRecDepth 100000 in
theorem rmail_any (l : List UInt8) (g : Nat) (hl : l.length ≤ 524288) (w : World) (hA : CmdW w g (cmdZ ⟨3, [], ⟨[], []⟩, -1, false⟩)) :
    Calls Tryz.prog 34 #[.pointer (some ⟨g, 0, none⟩), .string (ba l)] w fun e w' => ∃ d : CmdA, e = .returned (.bool (maiC l).isSome) ∧ CmdW w' g (cmdZ d) ∧ (∀ m, maiC l = some m → d = m) ∧ Below g w w' := by
  have hP := fun w => rpathed_any l froW hl (by decide) w
  rw [show ba froW = ⟨#[70, 82, 79, 77, 58]⟩ from rfl] at hP
  have hM : maiC l = match patL l froW with
    | none => none
    | some p => if p.2 ≠ [] ∧ p.2[0]? ≠ some 32 then none else match maF (wdF [] p.2) ⟨-1, false, false⟩ with
      | none => none
      | some s => some ⟨3, [], p.1, s.size, s.eight⟩ := rfl
  have hg : g < w.heap.size := Arr.lt hA
  have HA := Lib.hid hA
  have hLS := ba_size l
  clear hA
  cases hp : patL l froW with
  | none =>
    rw [hp, patV] at hP
    rw [hp] at hM
    have HP := Lib.hid hP
    have HR := Lib.hid (show maiC l = none from hM)
    generalize maiC l = R at *
    generalize ba l = S at *
    clear hP hM hp hl hLS
    go_enter Tryz.func34, Tryz.ntmps34
    go_wp2_with (first
      | (go_at_call 35; (with_reducible refine (HP.out _).mono ?_); rintro e w1 ⟨rfl, hb1⟩))
    go_ret
    exact ⟨_, by rw [HR.out]; rfl, (HA.out.next hb1).next (below_one _ _), fun m h => (by rw [HR.out] at h; cases h), (hb1.mono (Nat.le_of_lt hg)).alloc (Nat.le_trans (Nat.le_of_lt hg) hb1.size) _⟩
  | some p =>
    obtain ⟨b, r⟩ := p
    have hrl : r.length ≤ 524288 := by
      have := pat_len hp
      omega
    rw [hp, patV, boxV] at hP
    rw [hp] at hM
    simp only at hM hP
    have HP := Lib.hid hP
    have hrs := ba_size r
    have hex : (r ≠ [] ∧ r[0]? ≠ some 32 ∧ (0 : Int) < ((ba r).size : Int) ∧ ∃ h : 0 < (ba r).size, (((ba r)[0].toNat : Int) != 32) = true) ∨ (¬ (r ≠ [] ∧ r[0]? ≠ some 32) ∧ ((¬ (0 : Int) < ((ba r).size : Int)) ∨ ((0 : Int) < ((ba r).size : Int) ∧ ∃ h : 0 < (ba r).size, (((ba r)[0].toNat : Int) != 32) = false))) := by
      cases r with
      | nil => exact .inr ⟨fun h => h.1 rfl, .inl (by rw [hrs]; decide)⟩
      | cons x t =>
        rw [List.length_cons] at hrs
        have hpos : 0 < (ba (x :: t)).size := by omega
        have hat := byte_at hpos
        rw [ba_list] at hat
        have hx : (ba (x :: t))[0] = x := (Option.some.inj hat).symm
        by_cases h : x = 32
        · exact .inr ⟨fun q => q.2 (by rw [h]; rfl), .inr ⟨by omega, hpos, by rw [hx, h]; rfl⟩⟩
        · refine .inl ⟨by simp, fun q => h (Option.some.inj q), by omega, hpos, ?_⟩
          rw [hx, bne, show (32 : Int) = ((32 : Nat) : Int) from rfl, byte_is (by decide), decide_eq_false (by exact h)]; rfl
    clear hP hp hLS hl hrs
    rcases hex with ⟨h1, h2, b0, h0, b1⟩ | ⟨hn, hex⟩
    · have HR := Lib.hid (show maiC l = none by rw [hM, if_pos ⟨h1, h2⟩])
      generalize maiC l = R at *
      generalize ba l = S at *
      generalize ba r = M at *
      generalize ba b.loc = BL at *
      generalize ba b.dom = BD at *
      clear hM h1 h2 hrl
      go_enter Tryz.func34, Tryz.ntmps34
      go_wp2_with (first
        | (go_at_call 35; (with_reducible refine (HP.out _).mono ?_); rintro e w1 ⟨rfl, hb1⟩))
      go_ret
      exact ⟨_, by rw [HR.out]; rfl, (HA.out.next hb1).next (below_one _ _), fun m h => (by rw [HR.out] at h; cases h), (hb1.mono (Nat.le_of_lt hg)).alloc (Nat.le_trans (Nat.le_of_lt hg) hb1.size) _⟩
    · rw [if_neg hn] at hM
      have HW := Lib.hid (fun w => rwords_own r (by omega) w)
      generalize hR : maiC l = R at *
      generalize ba l = S at *
      generalize hrr : ba r = M at *
      generalize hWL : wdF [] r = WL at *
      have HM := Lib.hid hM
      clear hM hR hn hrl hrr hWL
      rcases hex with b0 | ⟨b0, h0, b1⟩
      all_goals
        go_enter Tryz.func34, Tryz.ntmps34
        go_wp2_with (first
          | (go_at_call 35; (with_reducible refine (HP.out _).mono ?_); rintro e w1 ⟨rfl, hb1⟩; have HAa := Lib.hid (Arr.next (Arr.next HA.out hb1) (below_one w1 (.cells #[.string (ba b.loc), .string (ba b.dom)] 30))); have HB1 := Lib.hid ((hb1.mono (Nat.le_of_lt hg)).alloc (Nat.le_trans (Nat.le_of_lt hg) hb1.size) (.cells #[.string (ba b.loc), .string (ba b.dom)] 30)); obtain ⟨k2, k3, f2, f3⟩ := old_limbs HAa.out)
          | (go_at_call 61; (with_reducible refine (HW.out _).mono ?_); rintro e w2 ⟨v, rfl, ho, hx, hn, hb2⟩; have HMW := Lib.hid (old_step HAa.out HB1.out ho hb2)))
        obtain ⟨B, HMw⟩ := HMW.out
        have HMw := Lib.hid HMw
        obtain ⟨a, n, cap, rfl⟩ := ows_form HMw.out.2.1
        have HX := Lib.hid hx
        have hlen := (ows_texts HMw.out.2.1 (mem_bas (n := 1048576) (by decide) hx)).len.1
        rw [bas_len] at hlen
        clear HMW ho hx hb2 HAa HB1 k2 k3 f2 f3 hb1
        go_loopw [9, 10] (fun bv i wr => ∃ (k : Nat) (s : MaS), bv = .bool s.body ∧ i = .int .i64 (k : Int) ∧ k ≤ n ∧ MaW w g B b s.size s.eight (.slice a n cap) WL wr ∧ s.size ≤ 999999999999 ∧ maF WL ⟨-1, false, false⟩ = maF (WL.drop k) s) (fun _ i _ => n - (intOf i).toNat)
        case atStart => exact ⟨0, ⟨-1, false, false⟩, rfl, rfl, Nat.zero_le _, HMw.out, by decide, rfl⟩
        case round =>
          clear HMw
          obtain ⟨k, ⟨sz, ei, bo⟩, rfl, rfl, hk, hmw, hsz, hma⟩ := hrel
          have HMw := Lib.hid hmw
          have HMa := Lib.hid hma
          have hk1 : (0 : Int) ≤ (k : Int) := by omega
          clear hmw hma
          simp only at hsz
          by_cases hlt : k < n
          · have hli : (k : Int) < (n : Int) := by omega
            obtain ⟨x, hxk⟩ : ∃ x, WL[k]? = some x := ⟨_, List.getElem?_eq_getElem (by omega)⟩
            obtain ⟨y, rfl⟩ : ∃ y, a = some y := by
              obtain ⟨y, h, _⟩ := (ows_texts HMw.out.2.1 (mem_bas (n := 1048576) (by decide) HX.out)).at (i := k) (by omega)
              exact ⟨y, h⟩
            have hxs := HX.out x (List.mem_of_getElem? hxk)
            have HLimb := Lib.hid (fun (W : World) (sz : Int) (ei : Bool) (h : MaW w g B b sz ei (.slice (some y) n cap) WL W) => h.word HX.out hxk)
            have e2 := HLimb.out _ _ _ HMw.out
            have hst := ma_step hxk ⟨sz, ei, bo⟩
            have hBg := fun w => rbegins_any x sizW hxs (by decide) w
            rw [show ba sizW = ⟨#[83, 73, 90, 69, 61]⟩ from rfl] at hBg
            have HGr := Lib.hid (fun w => rgreat_any x hxs w)
            cases hbg : begB x sizW with
            | true =>
              rw [hbg] at hBg
              rw [if_pos hbg] at hst
              have HBg := Lib.hid hBg
              have hx5 : 5 ≤ x.length := by
                rw [begB, Bool.and_eq_true] at hbg
                exact of_decide_eq_true hbg.1
              have hbs := ba_size x
              have hSz := fun w => rsize_any (x.drop 5) (by rw [List.length_drop]; omega) w
              have hsl := slice_from (ba x) 5 (by omega)
              rw [ext_all, ba_list, show ((5 : Nat) : Int) = 5 from rfl] at hsl
              clear hBg hbg hx5 HGr
              rcases sizZ_sign (x.drop 5) with ⟨hs1, hs2⟩ | ⟨m, hs1, hs2, hs3⟩
              · rw [hs2] at hSz
                have HSz := Lib.hid hSz
                have HF := Lib.hid (show R = none by rw [HM.out, HMa.out, hst, hs1])
                clear hst hs1 hs2 hSz hxk hxs hbs
                generalize ba (x.drop 5) = X5 at *
                generalize ba x = X at *
                go_wp2_with (first
                  | (go_at_call 62; (with_reducible refine (HBg.out _).mono ?_); rintro e w3 ⟨rfl, hb3⟩; have HM3 := Lib.hid (HMw.out.next hb3); obtain ⟨p4, p5, q4, q5⟩ := HM3.out.limbs; have e3 := HLimb.out _ _ _ HM3.out)
                  | (go_at_call 46; (with_reducible refine (HSz.out _).mono ?_); rintro e w4 ⟨rfl, rfl⟩))
                go_ret
                exact HM3.out.done HF.out
              · rw [hs2] at hSz
                have HSz := Lib.hid hSz
                rw [hs1] at hst
                simp only at hst
                have hm0 : ¬ (m : Int) < 0 := by omega
                have HM3' := Lib.hid hs3
                by_cases h0 : 0 ≤ sz
                · have HF := Lib.hid (show R = none by rw [HM.out, HMa.out, hst, if_pos h0])
                  clear hst hs1 hs2 hSz hxk hxs hbs hs3
                  generalize ba (x.drop 5) = X5 at *
                  generalize ba x = X at *
                  go_wp2_with (first
                    | (go_at_call 62; (with_reducible refine (HBg.out _).mono ?_); rintro e w3 ⟨rfl, hb3⟩; have HM3 := Lib.hid (HMw.out.next hb3); obtain ⟨p4, p5, q4, q5⟩ := HM3.out.limbs; have e3 := HLimb.out _ _ _ HM3.out)
                    | (go_at_call 46; (with_reducible refine (HSz.out _).mono ?_); rintro e w4 ⟨rfl, rfl⟩))
                  go_ret
                  exact HM3.out.done HF.out
                · have HF := Lib.hid (show maF WL ⟨-1, false, false⟩ = maF (WL.drop (k + 1)) ⟨m, ei, bo⟩ by rw [HMa.out, hst, if_neg h0])
                  clear hst hs1 hs2 hSz hxk hxs hbs hs3
                  generalize ba (x.drop 5) = X5 at *
                  generalize ba x = X at *
                  go_wp2_with (first
                    | (go_at_call 62; (with_reducible refine (HBg.out _).mono ?_); rintro e w3 ⟨rfl, hb3⟩; have HM3 := Lib.hid (HMw.out.next hb3); obtain ⟨p4, p5, q4, q5⟩ := HM3.out.limbs; have e3 := HLimb.out _ _ _ HM3.out)
                    | (go_at_call 46; (with_reducible refine (HSz.out _).mono ?_); rintro e w4 ⟨rfl, rfl⟩))
                  go_roundw
                  case rel => exact ⟨k + 1, ⟨m, ei, bo⟩, rfl, by go_num, by omega, HM3.out.set4 m, by have := HM3'.out; show (m : Int) ≤ _; omega, HF.out⟩
                  case measure => simp only [intOf]; omega
            | false =>
              rw [hbg] at hBg
              rw [if_neg (by rw [hbg]; decide)] at hst
              have HBg := Lib.hid hBg
              clear hBg hbg
              cases bo with
              | true =>
                have HF := Lib.hid (show R = none by rw [HM.out, HMa.out, hst, if_pos (.inl rfl)])
                clear hst hxk hxs
                generalize ba x = X at *
                go_wp2_with (first
                  | (go_at_call 62; (with_reducible refine (HBg.out _).mono ?_); rintro e w3 ⟨rfl, hb3⟩; have HM3 := Lib.hid (HMw.out.next hb3); obtain ⟨p4, p5, q4, q5⟩ := HM3.out.limbs; have e3 := HLimb.out _ _ _ HM3.out))
                go_ret
                exact HM3.out.done HF.out
              | false =>
                have q8 := gr_cmp (grL x) bodW
                have q7 := gr_cmp (grL x) bod7
                rw [show (ba bodW).toList = [66, 79, 68, 89, 61, 56, 66, 73, 84, 77, 73, 77, 69] from ByteArray.toList_mk bodW] at q8
                rw [show (ba bod7).toList = [66, 79, 68, 89, 61, 55, 66, 73, 84] from ByteArray.toList_mk bod7] at q7
                by_cases g8 : grL x = bodW
                · rw [decide_eq_true g8] at q8
                  obtain ⟨q8, q8n⟩ := q8
                  have HF := Lib.hid (show maF WL ⟨-1, false, false⟩ = maF (WL.drop (k + 1)) ⟨sz, true, true⟩ by rw [HMa.out, hst, if_neg (by simp [g8]), decide_eq_true g8])
                  clear hst hxk hxs q7 g8
                  generalize ba (grL x) = G at *
                  generalize ba x = X at *
                  go_wp2_with (first
                    | (go_at_call 62; (with_reducible refine (HBg.out _).mono ?_); rintro e w3 ⟨rfl, hb3⟩; have HM3 := Lib.hid (HMw.out.next hb3); have e3 := HLimb.out _ _ _ HM3.out)
                    | (go_at_call 31; (with_reducible refine (HGr.out w3).mono ?_); rintro e w4 ⟨rfl, hb4⟩; have HM4 := Lib.hid (HM3.out.next hb4); have e4 := HLimb.out _ _ _ HM4.out)
                    | (go_at_call 31; (with_reducible refine (HGr.out w4).mono ?_); rintro e w5 ⟨rfl, hb5⟩; have HM5 := Lib.hid (HM4.out.next hb5); obtain ⟨p4, p5, q4, q5⟩ := HM5.out.limbs))
                  go_roundw
                  case rel => exact ⟨k + 1, ⟨sz, true, true⟩, rfl, by go_num, by omega, HM5.out.set5 true, hsz, HF.out⟩
                  case measure => simp only [intOf]; omega
                · rw [decide_eq_false g8] at q8
                  obtain ⟨q8, q8n⟩ := q8
                  by_cases g7 : grL x = bod7
                  · rw [decide_eq_true g7] at q7
                    obtain ⟨q7, q7n⟩ := q7
                    have HF := Lib.hid (show maF WL ⟨-1, false, false⟩ = maF (WL.drop (k + 1)) ⟨sz, false, true⟩ by rw [HMa.out, hst, if_neg (by simp [g7]), decide_eq_false g8])
                    clear hst hxk hxs g8 g7
                    generalize ba (grL x) = G at *
                    generalize ba x = X at *
                    go_wp2_with (first
                      | (go_at_call 62; (with_reducible refine (HBg.out _).mono ?_); rintro e w3 ⟨rfl, hb3⟩; have HM3 := Lib.hid (HMw.out.next hb3); have e3 := HLimb.out _ _ _ HM3.out)
                      | (go_at_call 31; (with_reducible refine (HGr.out w3).mono ?_); rintro e w4 ⟨rfl, hb4⟩; have HM4 := Lib.hid (HM3.out.next hb4); have e4 := HLimb.out _ _ _ HM4.out)
                      | (go_at_call 31; (with_reducible refine (HGr.out w4).mono ?_); rintro e w5 ⟨rfl, hb5⟩; have HM5 := Lib.hid (HM4.out.next hb5); have e5 := HLimb.out _ _ _ HM5.out)
                      | (go_at_call 31; (with_reducible refine (HGr.out w5).mono ?_); rintro e w6 ⟨rfl, hb6⟩; have HM6 := Lib.hid (HM5.out.next hb6); obtain ⟨p4, p5, q4, q5⟩ := HM6.out.limbs))
                    go_roundw
                    case rel => exact ⟨k + 1, ⟨sz, false, true⟩, rfl, by go_num, by omega, HM6.out.set5 false, hsz, HF.out⟩
                    case measure => simp only [intOf]; omega
                  · rw [decide_eq_false g7] at q7
                    obtain ⟨q7, q7n⟩ := q7
                    have HF := Lib.hid (show R = none by rw [HM.out, HMa.out, hst, if_pos (.inr ⟨g8, g7⟩)])
                    clear hst hxk hxs g8 g7
                    generalize ba (grL x) = G at *
                    generalize ba x = X at *
                    go_wp2_with (first
                      | (go_at_call 62; (with_reducible refine (HBg.out _).mono ?_); rintro e w3 ⟨rfl, hb3⟩; have HM3 := Lib.hid (HMw.out.next hb3); have e3 := HLimb.out _ _ _ HM3.out)
                      | (go_at_call 31; (with_reducible refine (HGr.out w3).mono ?_); rintro e w4 ⟨rfl, hb4⟩; have HM4 := Lib.hid (HM3.out.next hb4); have e4 := HLimb.out _ _ _ HM4.out)
                      | (go_at_call 31; (with_reducible refine (HGr.out w4).mono ?_); rintro e w5 ⟨rfl, hb5⟩; have HM5 := Lib.hid (HM4.out.next hb5)))
                    go_ret
                    exact HM5.out.done HF.out
          · have hli : ¬ (k : Int) < (n : Int) := by omega
            have hDk : WL.drop k = [] := List.drop_of_length_le (by omega)
            have HF := Lib.hid (show R = some ⟨3, [], b, sz, ei⟩ by rw [HM.out, HMa.out, hDk]; rfl)
            clear hDk
            go_wp2
            go_ret
            obtain ⟨d, e1, e2⟩ := HMw.out.fine HF.out
            exact ⟨e1, d, e2⟩
end Go.Proofs.YtahbbnimoogapaaGreatDoor
