/- CmdLines: rows of strings appended, under a guard too; what is known of a reply's lines; its walk over the record. CmdLines: its walk over the record. -/
import Derived.Test.YtahbbnimoogapaaGreatDoorMX
import Derived.Test.YtahbbnimoogapaaGreatDoorCtK
import Derived.Laws.AppendOwnNone
namespace Go.Proofs.YtahbbnimoogapaaGreatDoor
open Go.RowKit

theorem run_apps (w : World) (ty : TypeId) {base n c : Nat} {v : Value} {l M : List ByteArray} {a : Option Addr} (hown : OwS w base v l) (ht : IsTexts w a n c M) (hbase : base ≤ w.heap.size) (hlen : l.length + n ≤ 10000) :
    ∃ v' w', (Builtin.append_ #[41, 41] ty #[v, .slice a n c]).run Tryz.prog w = .ok v' w' ∧ OwS w' base v' (l ++ M) ∧ Below base w w' := by
  obtain ⟨i0, hi, hz0, hz1, hz2⟩ := info_parts Tryz.infoStr
  rcases ht with ⟨rfl, rfl, rfl, rfl⟩ | ⟨x, rfl, h1, h2, h3, h4, h5⟩
  · refine ⟨v, w, run_append_owned_none (P := Tryz.prog) (w := w) base 41 ty 9 i0 1 Tryz.underlying41 hi v l.length (strV l) hown, by rw [List.append_nil]; exact hown, Below.refl _ _⟩
  · obtain ⟨v', w', hr, ho, hg, _⟩ := run_append_own (P := Tryz.prog) w base 41 ty 9 i0 (.string ⟨#[]⟩) 1 16 Tryz.underlying41 hi hz0 hz1 hz2 rfl (by decide) v l.length (strV l) hown x n c (strV M) (by rw [strV_len, h3, Nat.mul_one])
      (fun j u hj => by
        have hj' : j < M.length := by
          have := (List.getElem?_eq_some_iff.1 hj).1
          rwa [strV_len] at this
        rw [strV_get M j hj'] at hj
        rw [← Option.some.inj hj]
        exact h4 j (by omega))
      (fun u hu => by
        obtain ⟨s, _, rfl⟩ := List.mem_map.1 hu
        rfl)
      (by unfold maxLen; omega) (by omega) hbase
    refine ⟨v', w', hr, ?_, Below.grown (Below.refl _ _) hg hbase fun k hk => ?_⟩
    · have e : strV (l ++ M) = strV l ++ strV M := by simp [strV]
      unfold OwS
      rw [e, List.length_append, h3]; exact ho
    · rcases hown.2 with ⟨rfl, _⟩ | ⟨g, cap, cur, rfl, hb, _⟩
      · simp [Value.ownBlock] at hk
      · simp [Value.ownBlock] at hk; omega
/-- The walk's law for 'append(out, l...)', under a guard that is met or none. -/
theorem wpList_apps (w : World) {ops : Array Oper} {rest : List Oper} {o : Oper} {a : Act} {Q : Exit → Act → World → Prop} (hwt : Region.wanted o (yielded ops a.tmps) = true) (s x : Operand)
    (ho : o.op = .call { callee := .builtin .append, args := #[s, x], argTypes := #[41, 41] }) {base n c : Nat} {v : Value} {l M : List ByteArray} {b : Option Addr}
    (hown : OwS w base v l) (ht : IsTexts w b n c M) (hbase : base ≤ w.heap.size) (hlen : l.length + n ≤ 10000) (hs : a.eval s = v) (hx : a.eval x = .slice b n c)
    (hK : ∀ v' w', OwS w' base v' (l ++ M) → Below base w w' → wpList Tryz.prog ops Q rest (a.put o.dst v') w') :
    wpList Tryz.prog ops Q (o :: rest) a w := by
  obtain ⟨v', w', hrun, r1, r2⟩ := run_apps w o.type hown ht hbase hlen
  unfold wpList
  rw [if_pos hwt]
  refine .inl ?_
  unfold Oper.wp
  simp [execOp, ho, resolve, invoke, builtin, hs, hx, hrun, Result.andThen]
  exact hK _ _ r1 r2
theorem repT_small {n : List UInt8} (hn : n.length = 3) : ∀ (ls : List (List UInt8)), (∀ x ∈ ls, x.length ≤ 300) → ∀ x ∈ repT n ls, x.length ≤ 65536
  | [], _, x, hx => by cases hx
  | [y], h, x, hx => by
    rw [repT, List.mem_singleton] at hx
    have := h y (List.mem_singleton.2 rfl)
    rw [hx, List.length_append, List.length_cons]; omega
  | y :: z :: l, h, x, hx => by
    rw [repT] at hx
    rcases List.mem_cons.1 hx with rfl | hx
    · have := h y (List.mem_cons_self ..)
      rw [List.length_append, List.length_cons]; omega
    · exact repT_small hn (z :: l) (fun q hq => h q (List.mem_cons_of_mem _ hq)) x hx
/-- What Lines answers: an error and no line; or lines that are read as the reply. -/
theorem lin_ways (code : Int) (L : List (List UInt8)) (hL : ∀ x ∈ L, x.length ≤ 300) : ((linE code L != 0) = true ∧ linO code L = []) ∨
    ∃ LO, linE code L = 0 ∧ linO code L = LO ∧ LO.length = L.length ∧ 1 ≤ L.length ∧ redE LO = 0 ∧ redN LO = code ∧ redT LO = L ∧ (∀ more, whoL (LO ++ more) 0 = L.length) ∧ whoL (LO.take (L.length - 1)) 0 = 0 ∧ redE (LO.take (L.length - 1)) = 2 ∧ ∀ x ∈ LO, x.length ≤ 65536 := by
  have q := cls_zero code
  by_cases h1 : code < 200 ∨ 599 < code
  · rw [decide_eq_true h1] at q
    have h0 : linE code L = 3 := by rw [linE, if_pos (beq_iff_eq.1 q)]
    exact .inl ⟨by rw [h0]; rfl, by rw [linO, if_neg (by rw [h0]; decide)]⟩
  · rw [decide_eq_false h1] at q
    by_cases h2 : L ≠ [] ∧ L.all prB = true
    · have h0 : linE code L = 0 := by rw [linE, if_neg (beq_eq_false_iff_ne.1 q), if_pos h2]
      obtain ⟨n, rfl⟩ : ∃ n : Nat, code = n := ⟨code.toNat, by omega⟩
      have g1 : 200 ≤ n := by omega
      have g2 : n ≤ 599 := by omega
      have h3 := num_three g1 g2
      have hr := red_yes (red_rep g1 g2 (show repL n L = some (repT (numL n) L) by rw [repL, if_pos h2]))
      have hi := rep_init (numL n) L h2.1
      refine .inr ⟨repT (numL n) L, h0, by rw [linO, if_pos h0]; rfl, rep_len _ _, List.length_pos_iff.2 h2.1, hr.1, hr.2.1, hr.2.2, fun more => by rw [who_rep h3 L h2.1 more 0, Nat.zero_add], ?_, ?_, repT_small h3 L hL⟩
      · rw [hi]; exact who_hyph h3 _ 0
      · rw [hi]; exact (red_no (red_less g1 g2 _)).1
    · have h0 : linE code L = 2 := by rw [linE, if_neg (beq_eq_false_iff_ne.1 q), if_neg h2]
      exact .inl ⟨by rw [h0]; rfl, by rw [linO, if_neg (by rw [h0]; decide)]⟩
end Go.Proofs.YtahbbnimoogapaaGreatDoor
namespace Go.Proofs.YtahbbnimoogapaaGreatDoor
open Go.RowKit

/-- What CmdLines keeps: the reply in memory; its lines; more lines; the lines told. -/
def LinS (code : Int) (a b aL : Option Addr) (len cap len2 cap2 nL cL g : Nat) (L M LO : List (List UInt8)) (w : World) : Prop :=
  Arr w g #[.int .i64 code, .slice a len cap] 46 ∧ IsTexts w a len cap (bas L) ∧ IsTexts w b len2 cap2 (bas M) ∧ IsTexts w aL nL cL (bas LO)
theorem LinS.next {code : Int} {a b aL : Option Addr} {len cap len2 cap2 nL cL g : Nat} {L M LO : List (List UInt8)} {w w' : World} (h : LinS code a b aL len cap len2 cap2 nL cL g L M LO w) (hb : Below w.heap.size w w') : LinS code a b aL len cap len2 cap2 nL cL g L M LO w' :=
  ⟨h.1.next hb, h.2.1.next hb, h.2.2.1.next hb, h.2.2.2.next hb⟩

set_option maxHeartbeats 8000000 in
set_option maxRecDepth 100000 in
theorem cmdLines_yes (C : CmdC) (code : Int) (a b : Option Addr) (len cap len2 cap2 : Nat) (L M LO : List (List UInt8)) (W : World) (hTb : Tb W) (ht : IsTexts W a len cap (bas L)) (hm : IsTexts W b len2 cap2 (bas M))
    (f1 : manyS (bas L) = false) (f2 : manyS (bas M) = false) (n1 : Nat) (hn : L.length = n1 + 1) (l0 : linE code L = 0) (l1 : linO code L = LO) (l2 : LO.length = L.length) (l3 : redE LO = 0) (l4 : redN LO = code) (l5 : redT LO = L)
    (l6 : ∀ more, whoL (LO ++ more) 0 = L.length) (l7 : whoL (LO.take (L.length - 1)) 0 = 0) (l8 : redE (LO.take (L.length - 1)) = 2) (l9 : ∀ x ∈ LO, x.length ≤ 65536) :
    Calls Tryz.prog 8 #[.agg #[.int .i64 code, .slice a len cap], .slice b len2 cap2] W fun e w' => e = .returned (.bool true) ∧ Below W.heap.size W w' := by
  have hb := Lib.hid (below_one W (.cells #[.int .i64 code, .slice a len cap] 46))
  have HA := Lib.hid (Arr.new W #[.int .i64 code, .slice a len cap] 46)
  have HAw := Lib.hid (fun w h => C.awake w h)
  have HTb := Lib.hid hTb
  clear hTb
  have HT := Lib.hid (ht.next hb.out)
  have HM := Lib.hid (hm.next hb.out)
  obtain ⟨m1, m2⟩ := manyS_no.1 f1
  obtain ⟨m3, m4⟩ := manyS_no.1 f2
  have hlen := ht.len.1
  have hlen2 := hm.len.1
  rw [bas_len] at hlen hlen2 m1 m3
  have hLx : ∀ x ∈ L, x.length ≤ 300 := fun x hx => by
    have := m2 (ba x) (List.mem_map_of_mem hx)
    rwa [ba_size] at this
  have hMx : ∀ x ∈ M, x.length ≤ 300 := fun x hx => by
    have := m4 (ba x) (List.mem_map_of_mem hx)
    rwa [ba_size] at this
  have hMn1 := fun w h => many10_any a len cap (bas L) w h
  rw [f1] at hMn1
  have hMn2 := fun w h => many10_any b len2 cap2 (bas M) w h
  rw [f2] at hMn2
  have HMn1 := Lib.hid hMn1
  have HMn2 := Lib.hid hMn2
  have hL1 := fun w g h => C.lines code a len cap L (by omega) (fun x h => Nat.le_trans (hLx x h) (by decide)) w g h
  rw [l0, l1] at hL1
  have HL1 := Lib.hid hL1
  have hR1 := fun a n c w g h => C.readReply a n c LO (by have := IsTexts.len h; rw [bas_len] at this; omega) l9 w g h
  rw [l3, l4, l5] at hR1
  have HR1 := Lib.hid hR1
  have hW1 := fun a n c w h => C.whole a n c LO (by have := IsTexts.len h; rw [bas_len] at this; omega) l9 w h
  rw [show whoL LO 0 = n1 + 1 by rw [← hn, ← l6 [], List.append_nil]] at hW1
  have HW1 := Lib.hid hW1
  have hW2 := fun a n c w h => C.whole a n c (LO ++ M) (by have := IsTexts.len h; rw [bas_len, List.length_append] at this; omega) (fun x hx => by
    rcases List.mem_append.1 hx with hx | hx
    · exact l9 x hx
    · exact Nat.le_trans (hMx x hx) (by decide)) w h
  rw [l6 M, hn] at hW2
  have HW2 := Lib.hid hW2
  rw [hn, Nat.add_sub_cancel] at l7 l8
  have hW3 := fun a n c w h => C.whole a n c (LO.take n1) (by have := IsTexts.len h; rw [bas_len, List.length_take] at this; omega) (fun x hx => l9 x (List.mem_of_mem_take hx)) w h
  rw [l7] at hW3
  have HW3 := Lib.hid hW3
  have hR2 := fun a n c w g h => C.readReply a n c (LO.take n1) (by have := IsTexts.len h; rw [bas_len, List.length_take] at this; omega) (fun x hx => l9 x (List.mem_of_mem_take hx)) w g h
  rw [l8] at hR2
  have HR2 := Lib.hid hR2
  have HLO := Lib.hid (show LO.length = n1 + 1 by omega)
  have HSm := Lib.hid (fun w {b c : Option Addr} {n i m j : Nat} (h1 : IsTexts w b n i (bas L)) (h2 : IsTexts w c m j (bas L)) => same_yes (by omega) w h1 h2)
  have HN := Lib.hid (show n1 ≤ 60 ∧ len2 ≤ 60 ∧ len = n1 + 1 by omega)
  have HX := Lib.hid (show ∀ s ∈ bas (LO ++ M), s.size ≤ 140737488355328 from mem_bas (n := 65536) (by decide) (fun x hx => by
    rcases List.mem_append.1 hx with hx | hx
    · exact l9 x hx
    · exact Nat.le_trans (hMx x hx) (by decide)))
  have HTk := Lib.hid (show (bas LO).take n1 = bas (LO.take n1) from List.map_take.symm)
  have HAp := Lib.hid (show ([] ++ bas LO) ++ bas M = bas (LO ++ M) by simp [bas])
  have HLn := Lib.hid (show ([] : List ByteArray).length + (n1 + 1) ≤ 10000 ∧ ([] ++ bas LO).length + len2 ≤ 10000 by rw [List.nil_append, bas_len]; simp only [List.length_nil]; omega)
  clear hMn1 hMn2 hL1 hR1 hW1 hW2 hW3 hR2 ht hm f1 f2 l0 l1 l2 l3 l4 l5 l6 l7 l8 l9 m1 m2 m3 m4 hlen hlen2 hLx hMx hn
  have hw1 : wrap64 (n1 : Int) = (n1 : Int) := by have := HN.out; unfold wrap64; omega
  have hn0 : (0 : Int) ≤ (n1 : Int) := by omega
  go_enter Tryz.func8, Tryz.ntmps8
  go_wp2_with (first
    | (go_at_call 9; (with_reducible refine (HAw.out _ (HTb.out.next hb.out)).mono ?_); rintro e w1 ⟨rfl, hb1⟩; have HA1 := Lib.hid (HA.out.next hb1); have c0 : w1.cell? ⟨W.heap.size, 0, none⟩ = some (.int .i64 code) := HA1.out.cell rfl; have c1 : w1.cell? ⟨W.heap.size, 1, none⟩ = some (.slice a len cap) := HA1.out.cell rfl; have T1 := HT.out.next hb1; have M1 := HM.out.next hb1; have B1 := Lib.hid (Below_next hb.out hb1))
    | (go_at_call 16; (with_reducible refine (HMn1.out _ T1).mono ?_); rintro e w1' ⟨rfl, rfl⟩)
    | (go_at_call 16; (with_reducible refine (HMn2.out _ M1).mono ?_); rintro e w1' ⟨rfl, rfl⟩)
    | (go_at_call 17; (with_reducible refine (HL1.out _ (HTb.out.next B1.out) T1).mono ?_); rintro e w2 ⟨aL, nL, cL, rfl, hL2, hb2⟩; have hnl := hL2.len.1; rw [bas_len, HLO.out] at hnl; subst hnl; have hcl : (n1 : Int) ≤ (cL : Int) := (by have := hL2.len.2.1; omega); have S2 := Lib.hid (show LinS code a b aL len cap len2 cap2 (n1 + 1) cL W.heap.size L M LO w2 from ⟨HA1.out.next hb2, T1.next hb2, M1.next hb2, hL2⟩); have B2 := Lib.hid (Below_next B1.out hb2))
    | (go_at_call 19; (with_reducible refine (HR1.out _ _ _ _ (HTb.out.next B2.out) hL2).mono ?_); rintro e w3 ⟨aR, nR, cR, rfl, hR3, hb3⟩; have o3 := below_one w3 (.cells #[.int .i64 code, .slice aR nR cR] 46); have S3 := Lib.hid ((S2.out.next hb3).next o3); have B3 := Lib.hid (Below_next (Below_next B2.out hb3) o3); have K3 := Lib.hid (Arr.new w3 #[.int .i64 code, .slice aR nR cR] 46); have k0 := K3.out.cell (j := 0) rfl; have k1 := K3.out.cell (j := 1) rfl; have i0 := S3.out.1.cell (j := 0) rfl; have i1 := S3.out.1.cell (j := 1) rfl; have X3 := hR3.next o3; have T3 := S3.out.2.1)
    | (go_at_call 21; (with_reducible refine (HSm.out _ X3 T3).mono ?_); rintro e w4 ⟨rfl, hb4⟩; have S4 := Lib.hid (S3.out.next hb4); have B4 := Lib.hid (Below_next B3.out hb4); have L4 := S4.out.2.2.2)
    | (go_at_call 22; (with_reducible refine (HW1.out _ _ _ _ L4).mono ?_); rintro e w5 ⟨rfl, hb5⟩; have o5 := below_one w5 (.cells #[] 9); have S5 := Lib.hid (S4.out.next hb5); have B5 := Lib.hid (Below_next B4.out hb5); have HO5 := Lib.hid (OwS.start w5 w5.heap.size (Nat.le_refl _)); have L5 := S5.out.2.2.2.next o5; have z5 := o5.size)
    | (at_builtin; refine wpList_apps _ (by rfl) _ _ rfl HO5.out L5 z5 HLn.out.1 rfl rfl ?_; intro v6 w6 h6 hb6; have O6 := Lib.hid (o5.trans hb6); have H6 := Lib.hid h6; have M6 := (S5.out.next O6.out).2.2.1; have z6 := O6.out.size)
    | (at_builtin; refine wpList_apps _ (by rfl) _ _ rfl H6.out M6 z6 HLn.out.2 rfl rfl ?_; intro v7 w7 h7 hb7; have O7 := Lib.hid (O6.out.trans hb7); have S7 := Lib.hid (S5.out.next O7.out); have B7 := Lib.hid (Below_next B5.out O7.out); rw [HAp.out] at h7; obtain ⟨a7, n7, c7, rfl⟩ := ows_form h7; have T7 := ows_texts h7 HX.out)
    | (go_at_call 22; (with_reducible refine (HW2.out _ _ _ _ T7).mono ?_); rintro e w8 ⟨rfl, hb8⟩; have S8 := Lib.hid (S7.out.next hb8); have B8 := Lib.hid (Below_next B7.out hb8); have F8 := S8.out.2.2.2.front n1 (Nat.le_succ _); rw [HTk.out] at F8)
    | (go_at_call 22; (with_reducible refine (HW3.out _ _ _ _ F8).mono ?_); rintro e w9 ⟨rfl, hb9⟩; have B9 := Lib.hid (Below_next B8.out hb9); have F9 := F8.next hb9)
    | (go_at_call 19; (with_reducible refine (HR2.out _ _ _ _ (HTb.out.next B9.out) F9).mono ?_); rintro e wA ⟨aA, nA, cA, rfl, _, hbA⟩; have BA := Lib.hid (Below_next (Below_next B9.out hbA) (below_one wA (.cells #[.int .i64 (redN (LO.take n1)), .slice aA nA cA] 46)))))
  go_ret
  exact ⟨rfl, BA.out⟩

set_option maxHeartbeats 4000000 in
set_option maxRecDepth 100000 in
theorem cmdLines_many1 (C : CmdC) (code : Int) (a b : Option Addr) (len cap len2 cap2 : Nat) (L M : List (List UInt8)) (W : World) (hTb : Tb W) (ht : IsTexts W a len cap (bas L)) (hm : IsTexts W b len2 cap2 (bas M)) (f1 : manyS (bas L) = true) :
    Calls Tryz.prog 8 #[.agg #[.int .i64 code, .slice a len cap], .slice b len2 cap2] W fun e w' => e = .returned (.bool true) ∧ Below W.heap.size W w' := by
  have hb := Lib.hid (below_one W (.cells #[.int .i64 code, .slice a len cap] 46))
  have HA := Lib.hid (Arr.new W #[.int .i64 code, .slice a len cap] 46)
  have HAw := Lib.hid (fun w h => C.awake w h)
  have HTb := Lib.hid hTb
  clear hTb
  have HT := Lib.hid (ht.next hb.out)
  have HM := Lib.hid (hm.next hb.out)
  have hMn1 := fun w h => many10_any a len cap (bas L) w h
  have hMn2 := fun w h => many10_any b len2 cap2 (bas M) w h
  rw [f1] at hMn1
  have HMn1 := Lib.hid hMn1
  clear hMn1 hMn2 ht hm f1
  go_enter Tryz.func8, Tryz.ntmps8
  go_wp2_with (first
    | (go_at_call 9; (with_reducible refine (HAw.out _ (HTb.out.next hb.out)).mono ?_); rintro e w1 ⟨rfl, hb1⟩; have HA1 := Lib.hid (HA.out.next hb1); have c0 : w1.cell? ⟨W.heap.size, 0, none⟩ = some (.int .i64 code) := HA1.out.cell rfl; have c1 : w1.cell? ⟨W.heap.size, 1, none⟩ = some (.slice a len cap) := HA1.out.cell rfl; have T1 := HT.out.next hb1; have M1 := HM.out.next hb1; have B1 := Lib.hid (Below_next hb.out hb1))
    | (go_at_call 16; (with_reducible refine (HMn1.out _ T1).mono ?_); rintro e w1' ⟨rfl, rfl⟩))
  go_ret
  exact ⟨rfl, B1.out⟩

set_option maxHeartbeats 4000000 in
set_option maxRecDepth 100000 in
theorem cmdLines_many2 (C : CmdC) (code : Int) (a b : Option Addr) (len cap len2 cap2 : Nat) (L M : List (List UInt8)) (W : World) (hTb : Tb W) (ht : IsTexts W a len cap (bas L)) (hm : IsTexts W b len2 cap2 (bas M)) (f1 : manyS (bas L) = false) (f2 : manyS (bas M) = true) :
    Calls Tryz.prog 8 #[.agg #[.int .i64 code, .slice a len cap], .slice b len2 cap2] W fun e w' => e = .returned (.bool true) ∧ Below W.heap.size W w' := by
  have hb := Lib.hid (below_one W (.cells #[.int .i64 code, .slice a len cap] 46))
  have HA := Lib.hid (Arr.new W #[.int .i64 code, .slice a len cap] 46)
  have HAw := Lib.hid (fun w h => C.awake w h)
  have HTb := Lib.hid hTb
  clear hTb
  have HT := Lib.hid (ht.next hb.out)
  have HM := Lib.hid (hm.next hb.out)
  have hMn1 := fun w h => many10_any a len cap (bas L) w h
  have hMn2 := fun w h => many10_any b len2 cap2 (bas M) w h
  rw [f1] at hMn1
  rw [f2] at hMn2
  have HMn1 := Lib.hid hMn1
  have HMn2 := Lib.hid hMn2
  clear hMn1 hMn2 ht hm f1 f2
  go_enter Tryz.func8, Tryz.ntmps8
  go_wp2_with (first
    | (go_at_call 9; (with_reducible refine (HAw.out _ (HTb.out.next hb.out)).mono ?_); rintro e w1 ⟨rfl, hb1⟩; have HA1 := Lib.hid (HA.out.next hb1); have c0 : w1.cell? ⟨W.heap.size, 0, none⟩ = some (.int .i64 code) := HA1.out.cell rfl; have c1 : w1.cell? ⟨W.heap.size, 1, none⟩ = some (.slice a len cap) := HA1.out.cell rfl; have T1 := HT.out.next hb1; have M1 := HM.out.next hb1; have B1 := Lib.hid (Below_next hb.out hb1))
    | (go_at_call 16; (with_reducible refine (HMn1.out _ T1).mono ?_); rintro e w1' ⟨rfl, rfl⟩)
    | (go_at_call 16; (with_reducible refine (HMn2.out _ M1).mono ?_); rintro e w1' ⟨rfl, rfl⟩))
  go_ret
  exact ⟨rfl, B1.out⟩

set_option maxHeartbeats 4000000 in
set_option maxRecDepth 100000 in
theorem cmdLines_no (C : CmdC) (code : Int) (a b : Option Addr) (len cap len2 cap2 : Nat) (L M : List (List UInt8)) (W : World) (hTb : Tb W) (ht : IsTexts W a len cap (bas L)) (hm : IsTexts W b len2 cap2 (bas M)) (f1 : manyS (bas L) = false) (f2 : manyS (bas M) = false) (hL : ∀ x ∈ L, x.length ≤ 300) (hn : len ≤ 60) (l0 : (linE code L != 0) = true) (l1 : linO code L = []) :
    Calls Tryz.prog 8 #[.agg #[.int .i64 code, .slice a len cap], .slice b len2 cap2] W fun e w' => e = .returned (.bool true) ∧ Below W.heap.size W w' := by
  have hb := Lib.hid (below_one W (.cells #[.int .i64 code, .slice a len cap] 46))
  have HA := Lib.hid (Arr.new W #[.int .i64 code, .slice a len cap] 46)
  have HAw := Lib.hid (fun w h => C.awake w h)
  have HTb := Lib.hid hTb
  clear hTb
  have HT := Lib.hid (ht.next hb.out)
  have HM := Lib.hid (hm.next hb.out)
  have hMn1 := fun w h => many10_any a len cap (bas L) w h
  have hMn2 := fun w h => many10_any b len2 cap2 (bas M) w h
  rw [f1] at hMn1
  rw [f2] at hMn2
  have HMn1 := Lib.hid hMn1
  have HMn2 := Lib.hid hMn2
  have hL1 := fun w g h => C.lines code a len cap L (by omega) (fun x h => Nat.le_trans (hL x h) (by decide)) w g h
  rw [l1] at hL1
  have HL1 := Lib.hid hL1
  generalize linE code L = LE at *
  clear hMn1 hMn2 hL1 ht hm f1 f2 hL hn l1
  go_enter Tryz.func8, Tryz.ntmps8
  go_wp2_with (first
    | (go_at_call 9; (with_reducible refine (HAw.out _ (HTb.out.next hb.out)).mono ?_); rintro e w1 ⟨rfl, hb1⟩; have HA1 := Lib.hid (HA.out.next hb1); have c0 : w1.cell? ⟨W.heap.size, 0, none⟩ = some (.int .i64 code) := HA1.out.cell rfl; have c1 : w1.cell? ⟨W.heap.size, 1, none⟩ = some (.slice a len cap) := HA1.out.cell rfl; have T1 := HT.out.next hb1; have M1 := HM.out.next hb1; have B1 := Lib.hid (Below_next hb.out hb1))
    | (go_at_call 16; (with_reducible refine (HMn1.out _ T1).mono ?_); rintro e w1' ⟨rfl, rfl⟩)
    | (go_at_call 16; (with_reducible refine (HMn2.out _ M1).mono ?_); rintro e w1' ⟨rfl, rfl⟩)
    | (go_at_call 17; (with_reducible refine (HL1.out _ (HTb.out.next B1.out) T1).mono ?_); rintro e w2 ⟨aL, nL, cL, rfl, hL2, hb2⟩; have hnl := hL2.len.1; obtain rfl : nL = 0 := hnl.symm; have B2 := Lib.hid (Below_next B1.out hb2)))
  go_ret
  exact ⟨rfl, B2.out⟩

theorem cmdLines_walk (C : CmdC) (code : Int) (a b : Option Addr) (len cap len2 cap2 : Nat) (L M : List (List UInt8)) (W : World) (hTb : Tb W) (ht : IsTexts W a len cap (bas L)) (hm : IsTexts W b len2 cap2 (bas M)) :
    Calls Tryz.prog 8 #[.agg #[.int .i64 code, .slice a len cap], .slice b len2 cap2] W fun e w' => e = .returned (.bool true) ∧ Below W.heap.size W w' := by
  cases f1 : manyS (bas L) with
  | true => exact cmdLines_many1 C code a b len cap len2 cap2 L M W hTb ht hm f1
  | false =>
    cases f2 : manyS (bas M) with
    | true => exact cmdLines_many2 C code a b len cap len2 cap2 L M W hTb ht hm f1 f2
    | false =>
      obtain ⟨m1, m2⟩ := manyS_no.1 f1
      have hlen := ht.len.1
      rw [bas_len] at hlen m1
      have hLx : ∀ x ∈ L, x.length ≤ 300 := fun x hx => by
        have := m2 (ba x) (List.mem_map_of_mem hx)
        rwa [ba_size] at this
      rcases lin_ways code L hLx with ⟨l0, l1⟩ | ⟨LO, l0, l1, l2, l2b, l3, l4, l5, l6, l7, l8, l9⟩
      · exact cmdLines_no C code a b len cap len2 cap2 L M W hTb ht hm f1 f2 hLx (by omega) l0 l1
      · obtain ⟨n1, hn⟩ : ∃ n1, L.length = n1 + 1 := ⟨L.length - 1, by omega⟩
        exact cmdLines_yes C code a b len cap len2 cap2 L M LO W hTb ht hm f1 f2 n1 hn l0 l1 l2 l3 l4 l5 l6 l7 l8 l9
theorem cmdLines_walkX (C : CmdC) (code : Int) (a : Option Addr) (len cap : Nat) (ss : List ByteArray) (b : Option Addr) (len2 cap2 : Nat) (tt : List ByteArray) (W : World) (hTb : Tb W) (ht : IsTexts W a len cap ss) (hm : IsTexts W b len2 cap2 tt) :
    Calls Tryz.prog 8 #[.agg #[.int .i64 code, .slice a len cap], .slice b len2 cap2] W fun e w' => e = .returned (.bool true) ∧ Below W.heap.size W w' :=
  cmdLines_walk C code a b len cap len2 cap2 (lsB ss) (lsB tt) W hTb (by rw [bas_lsB]; exact ht) (by rw [bas_lsB]; exact hm)
end Go.Proofs.YtahbbnimoogapaaGreatDoor
