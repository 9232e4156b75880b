/- AddrRoutes: its walk over the record. -/
import Derived.Test.YtmaephjonfeijaaDoorApU
import Derived.Test.YtmaephjonfeijaaDoorR8C
namespace Go.Proofs.YtmaephjonfeijaaDoor
open Go.RowKit

/-- A route without its end. -/
def rouP : List (List UInt8) → List UInt8
  | [] => []
  | [d] => 64 :: d
  | d :: ds => 64 :: (d ++ 44 :: rouP ds)
theorem rouP_snoc : ∀ (L : List (List UInt8)) (x : List UInt8), rouP (L ++ [x]) = if L = [] then 64 :: x else rouP L ++ 44 :: 64 :: x
  | [], x => rfl
  | [d], x => by simp [rouP]
  | d :: e :: L, x => by
    have h := rouP_snoc (e :: L) x
    rw [if_neg (by simp)] at h
    rw [if_neg (by simp)]
    show 64 :: (d ++ 44 :: rouP ((e :: L) ++ [x])) = 64 :: (d ++ 44 :: rouP (e :: L)) ++ 44 :: 64 :: x
    rw [h]
    simp
theorem rouT_P : ∀ (L : List (List UInt8)), L ≠ [] → rouT L = rouP L ++ [58]
  | [], h => absurd rfl h
  | [d], _ => by simp [rouT, rouP]
  | d :: e :: L, _ => by
    have h := rouT_P (e :: L) (by simp)
    show 64 :: (d ++ 44 :: rouT (e :: L)) = 64 :: (d ++ 44 :: rouP (e :: L)) ++ [58]
    rw [h]
    simp
theorem rouP_len : ∀ (L : List (List UInt8)), (∀ d ∈ L, d.length ≤ 255) → (rouP L).length ≤ 257 * L.length
  | [], _ => by simp [rouP]
  | [d], h => by
    have := h d (by simp)
    simp only [rouP, List.length_cons, List.length_nil]
    omega
  | d :: e :: L, h => by
    have h1 := h d (by simp)
    have h2 := rouP_len (e :: L) (fun x hx => h x (List.mem_cons_of_mem _ hx))
    show (64 :: (d ++ 44 :: rouP (e :: L))).length ≤ _
    simp only [List.length_cons, List.length_append] at h2 ⊢
    omega
theorem dom_len {l : List UInt8} (h : domB l = true) : l.length ≤ 255 := by
  rw [domB, Bool.and_eq_true] at h
  exact of_decide_eq_true h.2
/-- A mailbox with a route ahead. -/
theorem parse_route {b : BoxA} (hm : mayB b = true) {ds : List (List UInt8)} (hd : ∀ d ∈ ds, domB d = true) : parseL (60 :: (rouT ds ++ (wrL b ++ [62]))) = some b := by
  rw [mayB, Bool.and_eq_true, Bool.and_eq_true] at hm
  obtain ⟨⟨hdo, hs⟩, hl⟩ := hm
  obtain ⟨w, hw, he⟩ := wrP_W hl
  have hr := read_any ds hd hw hdo []
  rw [of_decide_eq_true hs] at hr
  rw [wr_split, he, List.append_assoc, List.append_assoc, List.singleton_append, parseL, hr]
theorem domR_no {l : List UInt8} (h : domB l = false) : domR l = .tuple #[.string ⟨#[]⟩, .int .i64 2] := by rw [domR, if_neg (by rw [h]; decide)]
theorem domR_yes {l : List UInt8} (h : domB l = true) : domR l = .tuple #[.string (ba (smL l)), .int .i64 0] := by rw [domR, if_pos h]

set_option maxHeartbeats 4000000 in
set_option maxRecDepth 100000 in
theorem addrRoutes_may (C : AddrC) (b : BoxA) (a : Option Addr) (len cap : Nat) (ss : List ByteArray) (W : World) (h1 : b.loc.length ≤ 2048) (h2 : b.dom.length ≤ 2048) (hm : mayB b = true) (hl : IsTexts W a len cap ss) :
    Calls Tryd.prog 8 #[boxV b, .slice a len cap] W fun e w' => e = .returned (.bool true) ∧ Below W.heap.size W w' := by
  have hsl := ba_size b.loc
  have hsd := ba_size b.dom
  obtain ⟨hlen, hlc, hcm⟩ := hl.len
  have HA := Lib.hid (fun w => C.awake w)
  have HT := Lib.hid hl
  have hLg := fun w => large2_any (ba b.loc) (ba b.dom) w
  have hB0 := below_one W (.cells #[.string (ba b.loc), .string (ba b.dom)] 25)
  have k0 := box_new W (.string (ba b.loc)) (.string (ba b.dom)) 25
  rw [decide_eq_false (by omega : ¬ (2048 < (ba b.loc).size ∨ 2048 < (ba b.dom).size))] at hLg
  have HLg := Lib.hid hLg
  have hMb := fun w => C.may b (by omega) (by omega) w
  rw [hm, boxV] at hMb
  have HMb := Lib.hid hMb
  have hWr := fun w => C.write b (by omega) (by omega) w
  rw [wrR, if_pos hm, boxV] at hWr
  have HWr := Lib.hid hWr
  have HDo := Lib.hid (fun s hs w => C.domain s hs w)
  have HPs := Lib.hid (fun s hs w => C.parse s hs w)
  have HPR := Lib.hid (fun ds hd => parse_route hm (ds := ds) hd)
  have HL1 := Lib.hid (fun s w => large1_any s w)
  have hwl : (wrL b).length ≤ 6200 := by have := wrL_len b; omega
  rw [boxV]
  clear hl hLg hMb hWr hm hsl hsd h1 h2
  by_cases h20 : len ≤ 20
  · have h20i : ¬ (20 : Int) < (len : Int) := by omega
    go_enter Tryd.func8, Tryd.ntmps8
    go_wp2_with (first
      | (go_at_call 10; (with_reducible refine (HA.out _).mono ?_); rintro e w1 ⟨rfl, hb1⟩; have hb1' := Below_next hB0 hb1; obtain ⟨⟨c10, c11⟩, ⟨d10, d11⟩⟩ := cells_on k0 hb1 (.cells #[.string (ba b.loc), .string (ba b.dom)] 9))
      | (go_at_call 11; (with_reducible refine (HLg.out _).mono ?_); rintro e w2 ⟨rfl, rfl⟩; have hb2 := below_new hb1' (.cells #[.string (ba b.loc), .string (ba b.dom)] 9))
      | (go_at_call 27; (with_reducible refine (HMb.out _).mono ?_); rintro e w3 ⟨rfl, hb3⟩; have hb3' := Below_next hb2 hb3; obtain ⟨⟨c30, c31⟩, _⟩ := cells_on ⟨d10, d11⟩ hb3 (.cells #[] 9))
      | (go_at_call 23; (with_reducible refine (HWr.out _).mono ?_); rintro e w4 ⟨rfl, hb4⟩; have hb4' := Below_next hb3' hb4; have k4 := box_next ⟨c30, c31⟩ hb4))
    have H4 := Lib.hid hb4'
    have K4 := Lib.hid k4
    clear k4 c30 c31 c10 c11 d10 d11 k0 hb1 hb1' hb2 hb3 hb3' hB0 hb4 hb4'
    go_loopw [7, 38] (fun t i wr => ∃ k : Nat, i = .int .i64 (k : Int) ∧ t = .string (ba (rouP (lsB (ss.take k)))) ∧ k ≤ ss.length ∧ (∀ d ∈ lsB (ss.take k), domB d = true) ∧ (wr.cell? ⟨W.heap.size, 0, none⟩ = some (.string (ba b.loc)) ∧ wr.cell? ⟨W.heap.size, 1, none⟩ = some (.string (ba b.dom))) ∧ Below W.heap.size W wr) (fun _ i _ => 100 - (intOf i).toNat)
    case atStart => exact ⟨0, rfl, rfl, Nat.zero_le _, fun d hd => (by cases hd), K4.out, H4.out⟩
    case round =>
      obtain ⟨k, rfl, rfl, hk, hds, hkb, hbel⟩ := hrel
      have HDs := Lib.hid hds
      have HKb := Lib.hid hkb
      have hpl := rouP_len _ (fun d hd => dom_len (hds d hd))
      rw [lsB_len, List.length_take] at hpl
      have hps := ba_size (rouP (lsB (ss.take k)))
      clear hds hkb
      by_cases hlt : k < ss.length
      · have hli : (k : Int) < (len : Int) := by omega
        have hk0 : (0 : Int) ≤ (k : Int) := by omega
        obtain ⟨x, rfl, cx, hxs⟩ := (HT.out.next hbel).at (i := k) (by omega)
        have htk := lsB_take hlt
        have hD := fun w => HDo.out (ss.getD k ByteArray.empty) hxs w
        obtain ⟨X, hX⟩ : ∃ X, ss.getD k ByteArray.empty = X := ⟨_, rfl⟩
        rw [hX] at cx hxs htk hD
        have hXl : X.data.toList.length = X.size := by simp
        clear hX
        cases hdx : domB X.data.toList with
        | false =>
          rw [domR_no hdx] at hD
          have HD := Lib.hid hD
          clear hD hdx htk hXl
          generalize ba (rouP (lsB (ss.take k))) = RT at *
          go_wp2_with (first
            | (go_at_call 17; (with_reducible refine (HD.out _).mono ?_); rintro e w5 ⟨rfl, hb5⟩; have hb5' := Below_next hbel hb5))
          go_ret
          exact ⟨rfl, hb5'⟩
        | true =>
          have hx255 := dom_len hdx
          rw [domR_yes hdx] at hD
          have HD := Lib.hid hD
          have hLx := fun w => HL1.out X w
          rw [decide_eq_false (by omega : ¬ 2048 < X.size)] at hLx
          have HLx := Lib.hid hLx
          have hsn := rouP_snoc (lsB (ss.take k)) X.data.toList
          rw [← htk] at hsn
          have HDn := Lib.hid (show ∀ d ∈ lsB (ss.take (k + 1)), domB d = true from fun d hd => by
            rw [htk] at hd
            rcases List.mem_append.1 hd with hd | hd
            · exact HDs.out d hd
            · rw [List.mem_singleton.1 hd]; exact hdx)
          have e1 : (⟨#[44]⟩ : ByteArray).size = 1 := rfl
          have e2 : (⟨#[64]⟩ : ByteArray).size = 1 := rfl
          have s2 := cat_run ⟨#[64]⟩ X (by omega)
          by_cases h0 : k = 0
          · have hki : ¬ (0 : Int) < (k : Int) := by omega
            have ht0 : lsB (ss.take k) = [] := by rw [h0, List.take_zero]; rfl
            rw [if_pos ht0] at hsn
            have hN : (ba (rouP (lsB (ss.take k)))) ++ ((⟨#[64]⟩ : ByteArray) ++ X) = ba (rouP (lsB (ss.take (k + 1)))) := by
              rw [hsn, ht0]
              apply ByteArray.ext
              simp [ba, rouP]
            have s3 := cat_run (ba (rouP (lsB (ss.take k)))) (⟨#[64]⟩ ++ X) (by rw [ByteArray.size_append]; omega)
            rw [hN] at s3
            clear hLx hD hdx htk hXl hsn hN hx255 e1 e2 hps hpl ht0 h0
            generalize hRT : ba (rouP (lsB (ss.take k))) = RT at *
            generalize hRN : ba (rouP (lsB (ss.take (k + 1)))) = RN at *
            generalize (⟨#[64]⟩ : ByteArray) ++ X = Y at *
            generalize ba (smL X.data.toList) = SX at *
            have HRN := Lib.hid hRN
            clear hRT hRN
            go_wp2_with (first
              | (go_at_call 17; (with_reducible refine (HD.out _).mono ?_); rintro e w5 ⟨rfl, hb5⟩; have hb5' := Below_next hbel hb5; have cx5 := cell_next cx hb5; have cx5a := cell_next cx5 (below_one w5 (.cells #[.string X] 9)); have k5 := box_next (box_next HKb.out hb5) (below_one w5 (.cells #[.string X] 9)))
              | (go_at_call 11; (with_reducible refine (HLx.out _).mono ?_); rintro e w6 ⟨rfl, rfl⟩; have hb6' := below_new hb5' (.cells #[.string X] 9)))
            go_roundw
            case rel => exact ⟨k + 1, by go_num, by rw [HRN.out], by omega, HDn.out, k5, hb6'⟩
            case measure => simp only [intOf]; omega
          · have hki : (0 : Int) < (k : Int) := by omega
            rw [if_neg (by intro e; have := congrArg List.length e; rw [lsB_len, List.length_take, List.length_nil] at this; omega)] at hsn
            have s1 := cat_run (ba (rouP (lsB (ss.take k)))) ⟨#[44]⟩ (by omega)
            have s3 := cat_run (ba (rouP (lsB (ss.take k))) ++ ⟨#[44]⟩) (⟨#[64]⟩ ++ X) (by rw [ByteArray.size_append, ByteArray.size_append]; omega)
            have hN : (ba (rouP (lsB (ss.take k))) ++ ⟨#[44]⟩) ++ ((⟨#[64]⟩ : ByteArray) ++ X) = ba (rouP (lsB (ss.take (k + 1)))) := by
              rw [hsn]
              apply ByteArray.ext
              simp [ba]
            rw [hN] at s3
            clear hLx hD hdx htk hXl hsn hN hx255 e1 e2 hps hpl
            generalize ba (rouP (lsB (ss.take k))) ++ ⟨#[44]⟩ = RM at *
            generalize hRT : ba (rouP (lsB (ss.take k))) = RT at *
            generalize hRN : ba (rouP (lsB (ss.take (k + 1)))) = RN at *
            generalize (⟨#[64]⟩ : ByteArray) ++ X = Y at *
            generalize ba (smL X.data.toList) = SX at *
            have HRN := Lib.hid hRN
            clear hRT hRN
            go_wp2_with (first
              | (go_at_call 17; (with_reducible refine (HD.out _).mono ?_); rintro e w5 ⟨rfl, hb5⟩; have hb5' := Below_next hbel hb5; have cx5 := cell_next cx hb5; have cx5a := cell_next cx5 (below_one w5 (.cells #[.string X] 9)); have k5 := box_next (box_next HKb.out hb5) (below_one w5 (.cells #[.string X] 9)))
              | (go_at_call 11; (with_reducible refine (HLx.out _).mono ?_); rintro e w6 ⟨rfl, rfl⟩; have hb6' := below_new hb5' (.cells #[.string X] 9)))
            go_roundw
            case rel => exact ⟨k + 1, by go_num, by rw [HRN.out], by omega, HDn.out, k5, hb6'⟩
            case measure => simp only [intOf]; omega
      · have hli : ¬ (k : Int) < (len : Int) := by omega
        have hall := HDs.out
        rw [List.take_of_length_le (by omega)] at hall hpl hps
        have hP := HPR.out _ hall
        have e58 : (⟨#[58]⟩ : ByteArray).size = 1 := rfl
        have e60 : (⟨#[60]⟩ : ByteArray).size = 1 := rfl
        have e62 : (⟨#[62]⟩ : ByteArray).size = 1 := rfl
        have hws := ba_size (wrL b)
        obtain ⟨c0, c1⟩ := HKb.out
        rw [List.take_of_length_le (by omega : ss.length ≤ k)]
        by_cases h0 : len = 0
        · have hz : ¬ (0 : Int) < (len : Int) := by omega
          have hss : ss = [] := List.eq_nil_of_length_eq_zero (by omega)
          subst hss
          have hz0 : (ba (rouP (lsB []))).size = 0 := by rw [hps]; rfl
          have s2 := cat_run ⟨#[60]⟩ (ba (rouP (lsB []))) (by omega)
          have s3 := cat_run (⟨#[60]⟩ ++ ba (rouP (lsB []))) (ba (wrL b)) (by rw [ByteArray.size_append]; omega)
          have s4 := cat_run (⟨#[60]⟩ ++ ba (rouP (lsB [])) ++ ba (wrL b)) ⟨#[62]⟩ (by rw [ByteArray.size_append, ByteArray.size_append]; omega)
          have hN : (⟨#[60]⟩ ++ ba (rouP (lsB [])) ++ ba (wrL b)) ++ ⟨#[62]⟩ = ba (60 :: (rouT (lsB []) ++ (wrL b ++ [62]))) := by
            apply ByteArray.ext
            simp [ba, rouP, rouT, lsB]
          rw [hN] at s4
          have hPs := fun w => HPs.out (ba (60 :: (rouT (lsB []) ++ (wrL b ++ [62])))) (by rw [ba_size]; simp only [rouT, lsB, List.map_nil, List.nil_append, List.length_cons, List.length_append, List.length_nil]; omega) w
          rw [ba_list, hP, parseV, boxV] at hPs
          have HPS := Lib.hid hPs
          clear hPs hN hP hall hpl hps e58 e60 e62 hws hwl hz0
          generalize ba (60 :: (rouT (lsB []) ++ (wrL b ++ [62]))) = N3 at *
          generalize (⟨#[60]⟩ ++ ba (rouP (lsB [])) ++ ba (wrL b) : ByteArray) = N2 at *
          generalize (⟨#[60]⟩ ++ ba (rouP (lsB [])) : ByteArray) = N1 at *
          generalize ba (rouP (lsB [])) = RT at *
          generalize ba (wrL b) = W0 at *
          generalize ba b.loc = L at *
          generalize ba b.dom = D at *
          go_wp2_with (first
            | (go_at_call 14; (with_reducible refine (HPS.out _).mono ?_); rintro e w5 ⟨rfl, hb5⟩; have hb5' := below_new (Below_next hbel hb5) (.cells #[.string L, .string D] 25); obtain ⟨⟨c50, c51⟩, ⟨d50, d51⟩⟩ := cells_on ⟨c0, c1⟩ hb5 (.cells #[.string L, .string D] 25)))
          go_ret
          exact ⟨rfl, hb5'⟩
        · have hz : (0 : Int) < (len : Int) := by omega
          have hne : lsB ss ≠ [] := by intro e; have := congrArg List.length e; rw [lsB_len, List.length_nil] at this; omega
          have hT := rouT_P _ hne
          have s1 := cat_run (ba (rouP (lsB ss))) ⟨#[58]⟩ (by omega)
          have s2 := cat_run ⟨#[60]⟩ (ba (rouP (lsB ss)) ++ ⟨#[58]⟩) (by rw [ByteArray.size_append]; omega)
          have s3 := cat_run (⟨#[60]⟩ ++ (ba (rouP (lsB ss)) ++ ⟨#[58]⟩)) (ba (wrL b)) (by rw [ByteArray.size_append, ByteArray.size_append]; omega)
          have s4 := cat_run (⟨#[60]⟩ ++ (ba (rouP (lsB ss)) ++ ⟨#[58]⟩) ++ ba (wrL b)) ⟨#[62]⟩ (by rw [ByteArray.size_append, ByteArray.size_append, ByteArray.size_append]; omega)
          have hN : (⟨#[60]⟩ ++ (ba (rouP (lsB ss)) ++ ⟨#[58]⟩) ++ ba (wrL b)) ++ ⟨#[62]⟩ = ba (60 :: (rouT (lsB ss) ++ (wrL b ++ [62]))) := by
            rw [hT]
            apply ByteArray.ext
            simp [ba]
          rw [hN] at s4
          have hPs := fun w => HPs.out (ba (60 :: (rouT (lsB ss) ++ (wrL b ++ [62])))) (by rw [ba_size, hT]; simp only [List.length_cons, List.length_append, List.length_nil]; omega) w
          rw [ba_list, hP, parseV, boxV] at hPs
          have HPS := Lib.hid hPs
          clear hPs hN hP hall hpl hps e58 e60 e62 hws hwl hT hne h0
          generalize ba (60 :: (rouT (lsB ss) ++ (wrL b ++ [62]))) = N4 at *
          generalize (⟨#[60]⟩ ++ (ba (rouP (lsB ss)) ++ ⟨#[58]⟩) ++ ba (wrL b) : ByteArray) = N3 at *
          generalize (⟨#[60]⟩ ++ (ba (rouP (lsB ss)) ++ ⟨#[58]⟩) : ByteArray) = N2 at *
          generalize (ba (rouP (lsB ss)) ++ ⟨#[58]⟩ : ByteArray) = N1 at *
          generalize ba (rouP (lsB ss)) = RT at *
          generalize ba (wrL b) = W0 at *
          generalize ba b.loc = L at *
          generalize ba b.dom = D at *
          go_wp2_with (first
            | (go_at_call 14; (with_reducible refine (HPS.out _).mono ?_); rintro e w5 ⟨rfl, hb5⟩; have hb5' := below_new (Below_next hbel hb5) (.cells #[.string L, .string D] 25); obtain ⟨⟨c50, c51⟩, ⟨d50, d51⟩⟩ := cells_on ⟨c0, c1⟩ hb5 (.cells #[.string L, .string D] 25)))
          go_ret
          exact ⟨rfl, hb5'⟩
  · have h20i : (20 : Int) < (len : Int) := by omega
    go_enter Tryd.func8, Tryd.ntmps8
    go_wp2_with (first
      | (go_at_call 10; (with_reducible refine (HA.out _).mono ?_); rintro e w1 ⟨rfl, hb1⟩; have hb1' := Below_next hB0 hb1; obtain ⟨⟨c10, c11⟩, ⟨d10, d11⟩⟩ := cells_on k0 hb1 (.cells #[.string (ba b.loc), .string (ba b.dom)] 9))
      | (go_at_call 11; (with_reducible refine (HLg.out _).mono ?_); rintro e w2 ⟨rfl, rfl⟩; have hb2 := below_new hb1' (.cells #[.string (ba b.loc), .string (ba b.dom)] 9))
      | (go_at_call 27; (with_reducible refine (HMb.out _).mono ?_); rintro e w3 ⟨rfl, hb3⟩; have hb3' := Below_next hb2 hb3))
    go_ret
    exact ⟨rfl, hb3'⟩
end Go.Proofs.YtmaephjonfeijaaDoor
