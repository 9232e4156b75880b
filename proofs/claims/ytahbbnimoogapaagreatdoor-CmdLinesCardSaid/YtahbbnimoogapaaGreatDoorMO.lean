/- The document's own layer 10: Printed, Trimmed, great, begins. The document's own layer 10: size, words, pathed. The document's own layer 10: pathed, Num, none, Class. The document's own layer 10: pathed, none, Class, Verbs. -/
import Derived.Test.YtahbbnimoogapaaGreatDoorMK
import Derived.Test.YtahbbnimoogapaaGreatDoorMF
import Derived.Test.YtahbbnimoogapaaGreatDoorMH
import Derived.Test.YtahbbnimoogapaaGreatDoorOs
import Derived.Test.YtahbbnimoogapaaGreatDoorBlw
import Derived.Deep.RegionWith
import Derived.Deep.RegionHeld3
namespace Go.Proofs.YtahbbnimoogapaaGreatDoor
open Go.RowKit

set_option maxHeartbeats 1000000 in
set_option maxRecDepth 100000 in
theorem rprinted_any (l : List UInt8) (hl : l.length ≤ 1048576) (w : World) :
    Calls Tryz.prog 36 #[.string (ba l)] w fun e w' => e = .returned (.bool (prB l)) ∧ w = w' := by
  have hll := ba_size l
  have HAt := Lib.hid (fun k (h : k < (ba l).size) => byte_at (s := ba l) h)
  rw [ba_list] at HAt
  have HB := Lib.hid (show prB l = l.all okc from rfl)
  generalize prB l = B at *
  generalize ba l = s at *
  go_enter Tryz.func36, Tryz.ntmps36
  go_wp2
  go_loopw [3] (fun i wr => ∃ k : Nat, i = .int .i64 (k : Int) ∧ k ≤ s.size ∧ (∀ j c, j < k → l[j]? = some c → okc c = true) ∧ w = wr) (fun i _ => 1048577 - (intOf i).toNat)
  case atStart => exact ⟨0, rfl, Nat.zero_le _, fun j c hj => absurd hj (by omega), rfl⟩
  case round =>
    obtain ⟨k, rfl, hk, hno, rfl⟩ := hrel
    have HNo := Lib.hid hno
    clear hno
    have hk0 : (0 : Int) ≤ (k : Int) := by omega
    by_cases hlt : k < s.size
    · have hli : (k : Int) < (s.size : Int) := by omega
      have hat := HAt.out k hlt
      have hok := okc_nat s[k]
      by_cases hc : 32 ≤ s[k].toNat ∧ s[k].toNat ≤ 126
      · have b1 : ¬ (s[k].toNat : Int) < 32 := by omega
        have b2 : ¬ (126 : Int) < (s[k].toNat : Int) := by omega
        have HN2 := Lib.hid (show ∀ j c, j < k + 1 → l[j]? = some c → okc c = true from fun j c hj hjc => by
          by_cases hjk : j = k
          · subst hjk
            rw [hat] at hjc
            injection hjc with hjc
            rw [← hjc, hok, decide_eq_true hc]
          · exact HNo.out j c (by omega) hjc)
        clear hat hok hc HNo
        go_wp2
        go_roundw
        case rel => exact ⟨k + 1, by go_num, by omega, HN2.out, trivial⟩
        case measure => simp only [intOf]; omega
      · have hB : B = false := by
          rw [HB.out]
          exact Bool.eq_false_iff.2 fun h => by
            have := all_at.1 h k _ hat
            rw [hok, decide_eq_false hc] at this
            cases this
        have HBf := Lib.hid hB
        by_cases h32 : s[k].toNat < 32
        · have b1 : (s[k].toNat : Int) < 32 := by omega
          clear hat hok hc HNo hB h32
          go_wp2
          go_ret
          exact ⟨by rw [HBf.out]; rfl, rfl⟩
        · have b1 : ¬ (s[k].toNat : Int) < 32 := by omega
          have b2 : (126 : Int) < (s[k].toNat : Int) := by omega
          clear hat hok hc HNo hB h32
          go_wp2
          go_ret
          exact ⟨by rw [HBf.out]; rfl, rfl⟩
    · have hli : ¬ (k : Int) < (s.size : Int) := by omega
      have hB : B = true := HB.out.trans (all_at.2 fun j c hj => HNo.out j c (by have := (List.getElem?_eq_some_iff.1 hj).1; omega) hj)
      have HBf := Lib.hid hB
      clear HNo hB
      go_wp2
      go_ret
      exact ⟨by rw [HBf.out]; rfl, rfl⟩

/-- A string's size as a loop's measure. -/
def sizeV (v : Value) : Nat := match v with
  | .string s => s.size
  | _ => 0
theorem rtL_snoc_no {l : List UInt8} {c : UInt8} (h : c ≠ 32) : rtL (l ++ [c]) = l ++ [c] := rtL_id (by rw [List.getLast?_append]; exact fun e => h (Option.some.inj e))

set_option maxHeartbeats 1000000 in
set_option maxRecDepth 100000 in
theorem rtrimmed_any (l : List UInt8) (hl : l.length ≤ 1048576) (w : World) :
    Calls Tryz.prog 32 #[.string (ba l)] w fun e w' => e = .returned (.string (ba (trL l))) ∧ w = w' := by
  have HT := Lib.hid (show trL l = rtL (spL l) from rfl)
  generalize trL l = T at *
  have HStart := Lib.hid (show ∃ m : List UInt8, Value.string (ba l) = .string (ba m) ∧ m.length ≤ 1048576 ∧ T = rtL (spL m) from ⟨l, rfl, hl, HT.out⟩)
  clear HT hl
  generalize ba l = S at *
  go_enter Tryz.func32, Tryz.ntmps32
  go_wp2
  go_loopw [0] (fun s wr => (∃ m : List UInt8, s = .string (ba m) ∧ m.length ≤ 1048576 ∧ T = rtL (spL m)) ∧ w = wr) (fun s _ => sizeV s)
  case atStart => exact ⟨HStart.out, rfl⟩
  case round =>
    obtain ⟨⟨m, rfl, hm, hT⟩, rfl⟩ := hrel
    by_cases hc : m.head? = some 32
    · obtain ⟨t, rfl⟩ : ∃ t, m = 32 :: t := by
        cases m with
        | nil => cases hc
        | cons c t => exact ⟨t, by rw [Option.some.inj hc]⟩
      have hms := ba_size (32 :: t)
      have hts := ba_size t
      rw [List.length_cons] at hms hm
      have hpos : 0 < (ba (32 :: t)).size := by omega
      have b0 : (0 : Int) < ((ba (32 :: t)).size : Int) := by omega
      have b1 : (((ba (32 :: t))[0].toNat : Int) == 32) = true := by
        have := byte_at hpos
        rw [ba_list] at this
        rw [← Option.some.inj this]; rfl
      have hsl := slice_from (ba (32 :: t)) 1 (by omega)
      rw [ext_all, ba_list, List.drop_succ_cons, List.drop_zero, show ((1 : Nat) : Int) = 1 from rfl] at hsl
      have HOut := Lib.hid (show ∃ m : List UInt8, Value.string (ba t) = .string (ba m) ∧ m.length ≤ 1048576 ∧ T = rtL (spL m) from ⟨t, rfl, by omega, by rw [hT, spL_cons]⟩)
      have HM := Lib.hid (show (ba t).size < (ba (32 :: t)).size by omega)
      clear hms hts hT hc hm HStart
      generalize ba (32 :: t) = M at *
      generalize ba t = R at *
      go_wp2
      go_roundw
      case rel => exact ⟨HOut.out, trivial⟩
      case measure => exact HM.out
    · rw [spL_id hc] at hT
      have hex : (¬ (0 : Int) < ((ba m).size : Int)) ∨ ((0 : Int) < ((ba m).size : Int) ∧ ∃ h : 0 < (ba m).size, (((ba m)[0].toNat : Int) == 32) = false) := by
        have hms := ba_size m
        cases m with
        | nil => exact .inl (by rw [hms]; decide)
        | cons c t =>
          rw [List.length_cons] at hms
          have hpos : 0 < (ba (c :: t)).size := by omega
          refine .inr ⟨by omega, hpos, ?_⟩
          have := byte_at hpos
          rw [ba_list] at this
          rw [← Option.some.inj this, show (32 : Int) = ((32 : Nat) : Int) from rfl, byte_is (by decide)]
          exact decide_eq_false fun e => hc (by rw [e]; rfl)
      have HOut := Lib.hid (show ∃ m' : List UInt8, Value.string (ba m) = .string (ba m') ∧ m'.length ≤ 1048576 ∧ T = rtL m' from ⟨m, rfl, hm, hT⟩)
      clear hT hc hm HStart
      generalize ba m = M at *
      clear m
      rcases hex with b0 | ⟨b0, h0, b1⟩
      all_goals
        go_wp2
        go_loopw [0] (fun s wr => (∃ m : List UInt8, s = .string (ba m) ∧ m.length ≤ 1048576 ∧ T = rtL m) ∧ w = wr) (fun s _ => sizeV s)
        case atStart => exact ⟨HOut.out, rfl⟩
        case round =>
          clear HOut
          obtain ⟨⟨m, rfl, hm, hT⟩, rfl⟩ := hrel
          by_cases hc : m.getLast? = some 32
          · obtain ⟨t, rfl⟩ : ∃ t, m = t ++ [32] := List.getLast?_eq_some_iff.1 hc
            have hms := ba_size (t ++ [32])
            have hts := ba_size t
            rw [List.length_append, List.length_singleton] at hms hm
            have b2 : (0 : Int) < ((ba (t ++ [32])).size : Int) := by omega
            obtain ⟨z, hz⟩ : ∃ z, z = t.length := ⟨_, rfl⟩
            have hzl : z < (ba (t ++ [32])).size := by omega
            have hz1 : ((ba (t ++ [32])).size : Int) - 1 = (z : Int) := by omega
            have hz0 : (0 : Int) ≤ (z : Int) := by omega
            have hzi : (z : Int) < ((ba (t ++ [32])).size : Int) := by omega
            have hzb : (ba (t ++ [32])).size ≤ 1048576 := by omega
            have hatz : (t ++ [32])[z]? = some 32 := by rw [hz, List.getElem?_append_right (Nat.le_refl _), Nat.sub_self]; rfl
            have b3 : (((ba (t ++ [32]))[z].toNat : Int) == 32) = true := by
              have := byte_at hzl
              rw [ba_list, hatz] at this
              rw [← Option.some.inj this]; rfl
            clear hatz
            have hsl := slice_to (ba (t ++ [32])) z (by omega)
            rw [ext_ba, ba_list, List.drop_zero, Nat.sub_zero, hz, List.take_left' rfl, ← hz] at hsl
            have HOut := Lib.hid (show ∃ m : List UInt8, Value.string (ba t) = .string (ba m) ∧ m.length ≤ 1048576 ∧ T = rtL m from ⟨t, rfl, by omega, by rw [hT, rtL_snoc]⟩)
            have HM := Lib.hid (show (ba t).size < (ba (t ++ [32])).size by omega)
            clear hms hts hT hc hm hz
            generalize ba (t ++ [32]) = M2 at *
            generalize ba t = R at *
            go_wp2
            go_roundw
            case rel => exact ⟨HOut.out, trivial⟩
            case measure => exact HM.out
          · rw [rtL_id hc] at hT
            have hex2 : (¬ (0 : Int) < ((ba m).size : Int)) ∨ ((0 : Int) < ((ba m).size : Int) ∧ ∃ (z : Nat) (h : z < (ba m).size), (ba m).size ≤ 1048576 ∧ ((ba m).size : Int) - 1 = (z : Int) ∧ (0 : Int) ≤ (z : Int) ∧ (z : Int) < ((ba m).size : Int) ∧ (((ba m)[z].toNat : Int) == 32) = false) := by
              have hms := ba_size m
              cases hm0 : m with
              | nil => exact .inl (by rw [ba_size]; decide)
              | cons c t =>
                rw [← hm0]
                have hl0 : m.length = t.length + 1 := by rw [hm0]; rfl
                refine .inr ⟨by omega, t.length, by omega, by omega, by omega, by omega, by omega, ?_⟩
                have hzl : t.length < (ba m).size := by omega
                have := byte_at hzl
                rw [ba_list] at this
                rw [show (32 : Int) = ((32 : Nat) : Int) from rfl, byte_is (by decide)]
                refine decide_eq_false fun e => hc ?_
                rw [List.getLast?_eq_getElem?, show m.length - 1 = t.length by omega, this, e]; rfl
            have HF := Lib.hid (show T = m from hT)
            clear hT hc hm
            rcases hex2 with b2 | ⟨b2, z, h2, hzb, hz1, hz0, hzi, b3⟩
            all_goals
              generalize hM : ba m = M2 at *
              have HM2 := Lib.hid hM
              clear hM
              go_wp2
              go_ret
              exact ⟨by rw [HF.out, HM2.out]; rfl, rfl⟩

set_option maxHeartbeats 1000000 in
set_option maxRecDepth 100000 in
theorem rgreat_any (l : List UInt8) (hl : l.length ≤ 1048576) (w : World) :
    Calls Tryz.prog 31 #[.string (ba l)] w fun e w' => e = .returned (.string (ba (grL l))) ∧ Below w.heap.size w w' := by
  have hll := ba_size l
  have HAt := Lib.hid (fun k (h : k < (ba l).size) => byte_at (s := ba l) h)
  rw [ba_list] at HAt
  have h0 := Lib.hid ((Below.refl w.heap.size w).alloc (Nat.le_refl _) (.cells #[] 5))
  have HL := Lib.hid (show l.length ≤ 1048576 from hl)
  have HF := Lib.hid (show ba (grL l) = (⟨(grL l).toArray⟩ : ByteArray) from rfl)
  have HG := Lib.hid (fun k (c : UInt8) (h : l[k]? = some c) => show grL (l.take (k + 1)) = grL (l.take k) ++ [grB c] by rw [take_one h, grL, List.map_append]; rfl)
  have HGl := Lib.hid (fun k => show (grL (l.take k)).length ≤ k by rw [grL, List.length_map, List.length_take]; omega)
  generalize ba (grL l) = R at *
  generalize ba l = s at *
  go_enter Tryz.func31, Tryz.ntmps31
  go_wp2
  go_loopw [3, 4] (fun o i wr => ∃ k : Nat, i = .int .i64 (k : Int) ∧ k ≤ s.size ∧ Ob wr w.heap.size o (grL (l.take k)) ∧ Below w.heap.size w wr) (fun _ i _ => 1048577 - (intOf i).toNat)
  case atStart => exact ⟨0, rfl, Nat.zero_le _, Ob.start w _ (Nat.le_refl _), h0.out⟩
  case round =>
    obtain ⟨k, rfl, hk, hown, hbel⟩ := hrel
    have HOw := Lib.hid hown
    have hk0 : (0 : Int) ≤ (k : Int) := by omega
    clear hown
    by_cases hlt : k < s.size
    · have hli : (k : Int) < (s.size : Int) := by omega
      have hat := HAt.out k hlt
      have HT := Lib.hid (HG.out k _ hat)
      by_cases hc : 97 ≤ s[k].toNat ∧ s[k].toNat ≤ 122
      · have b1 : (97 : Int) ≤ (s[k].toNat : Int) := by omega
        have b2 : (s[k].toNat : Int) ≤ 122 := by omega
        have hg : ((grB s[k]).toNat : Int) = (s[k].toNat : Int) - 32 := by
          rw [grB, if_pos ⟨UInt8.le_iff_toNat_le.2 hc.1, UInt8.le_iff_toNat_le.2 hc.2⟩, UInt8.toNat_sub_of_le _ _ (UInt8.le_iff_toNat_le.2 (by rw [show (32 : UInt8).toNat = 32 from rfl]; omega)), show (32 : UInt8).toNat = 32 from rfl]
          omega
        have HGb := Lib.hid hg
        have hw : IntKind.u8.wrap ((s[k].toNat : Int) - 32) = (s[k].toNat : Int) - 32 := by rw [IntKind.wrap_u8]; omega
        clear hat hc hg
        go_wp2_with (first
          | (at_builtin; refine wpList_push2 wr HOw.out rfl _ _ rfl rfl rfl (grB s[k]) (by rw [HGb.out]) (by have := HGl.out k; have := HL.out; omega) hbel.size ?_; intro v' w5 h5 hb5; rw [← HT.out] at h5))
        go_roundw
        case rel => exact ⟨k + 1, by go_num, by omega, h5, hbel.trans hb5⟩
        case measure => simp only [intOf]; omega
      · have hg : grB s[k] = s[k] := by
          rw [grB, if_neg]
          rintro ⟨h1, h2⟩
          exact hc ⟨UInt8.le_iff_toNat_le.1 h1, UInt8.le_iff_toNat_le.1 h2⟩
        rw [hg] at HT
        by_cases h97 : 97 ≤ s[k].toNat
        · have b1 : (97 : Int) ≤ (s[k].toNat : Int) := by omega
          have b2 : ¬ (s[k].toNat : Int) ≤ 122 := by omega
          clear hat hc hg h97
          go_wp2_with (first
            | (at_builtin; refine wpList_push2 wr HOw.out rfl _ _ rfl rfl rfl s[k] rfl (by have := HGl.out k; have := HL.out; omega) hbel.size ?_; intro v' w5 h5 hb5; rw [← HT.out] at h5))
          go_roundw
          case rel => exact ⟨k + 1, by go_num, by omega, h5, hbel.trans hb5⟩
          case measure => simp only [intOf]; omega
        · have b1 : ¬ (97 : Int) ≤ (s[k].toNat : Int) := by omega
          clear hat hc hg h97
          go_wp2_with (first
            | (at_builtin; refine wpList_push2 wr HOw.out rfl _ _ rfl rfl rfl s[k] rfl (by have := HGl.out k; have := HL.out; omega) hbel.size ?_; intro v' w5 h5 hb5; rw [← HT.out] at h5))
          go_roundw
          case rel => exact ⟨k + 1, by go_num, by omega, h5, hbel.trans hb5⟩
          case measure => simp only [intOf]; omega
    · have hli : ¬ (k : Int) < (s.size : Int) := by omega
      have HTk := Lib.hid (show l.take k = l from List.take_of_length_le (by omega))
      rw [HTk.out] at HOw
      go_wp2_with (first
        | (refine wpList_ob_string wr rfl _ rfl HOw.out rfl ?_; rw [← HF.out]))
      go_ret
      exact ⟨rfl, hbel⟩

set_option maxHeartbeats 1000000 in
set_option maxRecDepth 100000 in
theorem rbegins_any (l v : List UInt8) (_hl : l.length ≤ 1048576) (hv : v.length ≤ 1048576) (w : World) :
    Calls Tryz.prog 62 #[.string (ba l), .string (ba v)] w fun e w' => e = .returned (.bool (begB l v)) ∧ Below w.heap.size w w' := by
  have hls := ba_size l
  have hvs := ba_size v
  by_cases hle : v.length ≤ l.length
  · have b1 : ((ba v).size : Int) ≤ ((ba l).size : Int) := by omega
    have hG := fun w => rgreat_any (l.take v.length) (by rw [List.length_take]; omega) w
    rw [show ba (l.take v.length) = (ba l).extract 0 (ba v).size by rw [ext_ba, ba_list, List.drop_zero, Nat.sub_zero, hvs]] at hG
    have HG := Lib.hid hG
    clear hG
    have q := tl8 (a := ba (grL (l.take v.length))) (b := ba v)
    have HB := Lib.hid (show begB l v = decide (ba (grL (l.take v.length)) = ba v) by
      rw [begB, decide_eq_true hle, Bool.true_and]
      by_cases h : grL (l.take v.length) = v
      · rw [decide_eq_true h, h, decide_eq_true rfl]
      · rw [decide_eq_false h, decide_eq_false fun e => h (ba_inj e)])
    generalize begB l v = B at *
    generalize decide (ba (grL (l.take v.length)) = ba v) = D at *
    clear hls hle hv
    generalize ba (grL (l.take v.length)) = GG at *
    clear hvs
    generalize ba v = V at *
    generalize ba l = S at *
    go_enter Tryz.func62, Tryz.ntmps62
    go_wp2_with (first
      | (go_at_call 31; (with_reducible refine (HG.out _).mono ?_); rintro e w1 ⟨rfl, hb1⟩))
    go_ret
    exact ⟨by rw [HB.out]; rfl, hb1⟩
  · have b1 : ¬ ((ba v).size : Int) ≤ ((ba l).size : Int) := by omega
    have HB := Lib.hid (show begB l v = false by rw [begB, decide_eq_false hle]; rfl)
    generalize begB l v = B at *
    clear hls hvs hle hv
    generalize ba v = V at *
    generalize ba l = S at *
    go_enter Tryz.func62, Tryz.ntmps62
    go_wp2
    go_ret
    exact ⟨by rw [HB.out]; rfl, Below.refl _ _⟩
end Go.Proofs.YtahbbnimoogapaaGreatDoor
namespace Go.Proofs.YtahbbnimoogapaaGreatDoor
open Go.RowKit

/-- What size answers. -/
def sizZ (l : List UInt8) : Int := match sizC l with
  | none => -1
  | some n => n
theorem digB_nat (c : UInt8) : digB c = decide (48 ≤ c.toNat ∧ c.toNat ≤ 57) := by
  simp only [digB, UInt8.le_iff_toNat_le, Bool.decide_and]
  rfl
theorem sizZ_no {l : List UInt8} (h : l = [] ∨ 12 < l.length ∨ ∃ (j : Nat) (c : UInt8), l[j]? = some c ∧ digB c = false) : sizZ l = -1 := by
  rw [sizZ, sizC, if_neg]
  rintro ⟨h1, h2, h3⟩
  rcases h with h | h | ⟨j, c, h4, h5⟩
  · exact h1 h
  · omega
  · rw [all_at.1 h3 j c h4] at h5; cases h5
theorem sizZ_yes {l : List UInt8} (h1 : l ≠ []) (h2 : l.length ≤ 12) (h3 : l.all digB = true) : sizZ l = (valL l : Int) := by
  rw [sizZ, sizC, if_pos ⟨h1, h2, h3⟩]
theorem val_lt12 {l : List UInt8} {k : Nat} (hk : k ≤ 12) (hd : ∀ (j : Nat) (c : UInt8), j < k → l[j]? = some c → digB c = true) : valL (l.take k) < 1000000000000 := by
  have h1 := valL_lt (l.take k) (all_at.2 fun j c hj => by
    rw [List.getElem?_take] at hj
    split at hj
    · exact hd j c (by assumption) hj
    · cases hj)
  have h2 : 10 ^ (l.take k).length ≤ 10 ^ 12 := Nat.pow_le_pow_right (by decide) (by rw [List.length_take]; omega)
  have h3 : (10 : Nat) ^ 12 = 1000000000000 := by decide
  omega

set_option maxHeartbeats 2000000 in
set_option maxRecDepth 100000 in
theorem rsize_any (l : List UInt8) (hl : l.length ≤ 1048576) (w : World) :
    Calls Tryz.prog 46 #[.string (ba l)] w fun e w' => e = .returned (.int .i64 (sizZ l)) ∧ w = w' := by
  have hll := ba_size l
  have HAt := Lib.hid (fun k (h : k < (ba l).size) => byte_at (s := ba l) h)
  rw [ba_list] at HAt
  have HNo := Lib.hid (fun h => sizZ_no (l := l) h)
  have HYes := Lib.hid (fun h1 h2 h3 => sizZ_yes (l := l) h1 h2 h3)
  have HL := Lib.hid (And.intro hl hll)
  generalize sizZ l = R at *
  generalize ba l = s at *
  clear hl hll
  go_enter Tryz.func46, Tryz.ntmps46
  go_wp2
  go_loopw [3, 4] (fun n i wr => ∃ k : Nat, i = .int .i64 (k : Int) ∧ n = .int .i64 ((valL (l.take k) : Nat) : Int) ∧ k ≤ s.size ∧ k ≤ 12 ∧ (∀ (j : Nat) (c : UInt8), j < k → l[j]? = some c → digB c = true) ∧ w = wr) (fun _ i _ => 1048577 - (intOf i).toNat)
  case atStart => exact ⟨0, rfl, rfl, Nat.zero_le _, by decide, fun j c hj => absurd hj (by omega), rfl⟩
  case round =>
    obtain ⟨k, rfl, rfl, hk, hk12, hd, rfl⟩ := hrel
    have HD := Lib.hid hd
    have hk0 : (0 : Int) ≤ (k : Int) := by omega
    have hv := val_lt12 hk12 hd
    clear hd
    by_cases hlt : k < s.size
    · have hli : (k : Int) < (s.size : Int) := by omega
      have hat := HAt.out k hlt
      have hok := digB_nat s[k]
      have HMe := Lib.hid (show k < 1048577 by have := HL.out; omega)
      by_cases hc : 48 ≤ s[k].toNat ∧ s[k].toNat ≤ 57
      · have b1 : ¬ (s[k].toNat : Int) < 48 := by omega
        have b2 : ¬ (57 : Int) < (s[k].toNat : Int) := by omega
        by_cases h11 : k ≤ 11
        · have b3 : ¬ (11 : Int) < (k : Int) := by omega
          have HDg := Lib.hid (show digB s[k] = true by rw [hok, decide_eq_true hc])
          have HD2 := Lib.hid (show ∀ (j : Nat) (c : UInt8), j < k + 1 → l[j]? = some c → digB c = true from fun j c hj hjc => by
            by_cases hjk : j = k
            · subst hjk
              rw [hat] at hjc
              rw [← Option.some.inj hjc]; exact HDg.out
            · exact HD.out j c (by omega) hjc)
          have HV := Lib.hid (show valL (l.take (k + 1)) = valL (l.take k) * 10 + (s[k].toNat - 48) by rw [take_one hat, valL_snoc])
          have hw1 : IntKind.i64.wrap (((valL (l.take k) : Nat) : Int) * 10) = ((valL (l.take k) : Nat) : Int) * 10 := by rw [IntKind.wrap_i64]; omega
          have hw2 : IntKind.u8.wrap ((s[k].toNat : Int) - 48) = (s[k].toNat : Int) - 48 := by rw [IntKind.wrap_u8]; omega
          have hw3 : IntKind.i64.wrap ((s[k].toNat : Int) - 48) = (s[k].toNat : Int) - 48 := by rw [IntKind.wrap_i64]; omega
          have hw4 : IntKind.i64.wrap (((valL (l.take k) : Nat) : Int) * 10 + ((s[k].toNat : Int) - 48)) = ((valL (l.take (k + 1)) : Nat) : Int) := by rw [IntKind.wrap_i64, HV.out]; omega
          clear hat hok hc HV HD
          generalize hV2 : valL (l.take (k + 1)) = V2 at *
          have HV2 := Lib.hid hV2
          clear hV2
          generalize valL (l.take k) = V at *
          clear hv
          go_wp2
          go_roundw
          case rel => exact ⟨k + 1, by go_num, by rw [HV2.out], by omega, by omega, HD2.out, trivial⟩
          case measure => simp only [intOf]; have := HMe.out; omega
        · have b3 : (11 : Int) < (k : Int) := by omega
          have HRf := Lib.hid (HNo.out (.inr (.inl (by have := HL.out; omega))))
          clear hat hok hc HD hv
          go_wp2
          go_ret
          exact ⟨by rw [HRf.out]; rfl, rfl⟩
      · have HRf := Lib.hid (HNo.out (.inr (.inr ⟨k, _, hat, by rw [hok, decide_eq_false hc]⟩)))
        by_cases h48 : s[k].toNat < 48
        · have b1 : (s[k].toNat : Int) < 48 := by omega
          clear hat hok hc HD hv h48
          go_wp2
          go_ret
          exact ⟨by rw [HRf.out]; rfl, rfl⟩
        · have b1 : ¬ (s[k].toNat : Int) < 48 := by omega
          have b2 : (57 : Int) < (s[k].toNat : Int) := by omega
          clear hat hok hc HD hv h48
          go_wp2
          go_ret
          exact ⟨by rw [HRf.out]; rfl, rfl⟩
    · have hli : ¬ (k : Int) < (s.size : Int) := by omega
      have hks : k = l.length := by have := HL.out; omega
      have hT : l.take k = l := List.take_of_length_le (by omega)
      rw [hT]
      by_cases h0 : l = []
      · have HRf := Lib.hid (HNo.out (.inl h0))
        have z : ((s.size : Int) == 0) = true := by
          have := HL.out.2
          rw [h0, List.length_nil] at this
          rw [this]; rfl
        clear hks hT HD hv h0
        go_wp2
        go_ret
        exact ⟨by rw [HRf.out]; rfl, rfl⟩
      · have HRf := Lib.hid (HYes.out h0 (by omega) (all_at.2 fun j c hj => HD.out j c (by have := (List.getElem?_eq_some_iff.1 hj).1; omega) hj))
        have z : ((s.size : Int) == 0) = false := by
          have := HL.out.2
          have := List.length_pos_iff.2 h0
          exact beq_false_of_ne (by omega)
        clear hks hT HD hv h0
        go_wp2
        go_ret
        exact ⟨by rw [HRf.out]; rfl, rfl⟩

theorem wd_step {l V : List UInt8} {k : Nat} {c : UInt8} (h : l[k]? = some c) : wdF V (l.drop k) = if c = 32 then (if V = [] then wdF [] (l.drop (k + 1)) else V :: wdF [] (l.drop (k + 1))) else wdF (V ++ [c]) (l.drop (k + 1)) := by
  rw [drop_some h, wdF]
theorem one_ba (c : UInt8) : (⟨#[c]⟩ : ByteArray) = ba [c] := rfl

/-- What pathed answers. -/
def patV : Option (BoxA × List UInt8) → Value
  | none => .tuple #[.agg #[.string ⟨#[]⟩, .string ⟨#[]⟩], .string ⟨#[]⟩, .bool false]
  | some p => .tuple #[boxV p.1, .string (ba p.2), .bool true]
theorem drop_le (l : List UInt8) (n : Nat) : (l.drop n).length ≤ l.length := by rw [List.length_drop]; omega
end Go.Proofs.YtahbbnimoogapaaGreatDoor
namespace Go.Proofs.YtahbbnimoogapaaGreatDoor
open Go.RowKit

set_option maxHeartbeats 2000000 in
set_option maxRecDepth 100000 in
theorem rnum_any (n : Nat) : n ≤ 999999999999 → ∀ w, Calls Tryz.prog 41 #[.int .i64 (n : Int)] w fun e w' => e = .returned (.string (ba (numL n))) ∧ Below w.heap.size w w' := by
  induction n using Nat.strongRecOn with
  | _ n ih =>
    intro hn w
    have hn0 : (0 : Int) ≤ (n : Int) := by omega
    by_cases h10 : n < 10
    · have b1 : (n : Int) < 10 := by omega
      have hz := ofNat_dig h10
      have hw1 : IntKind.i64.wrap (48 + (n : Int)) = 48 + (n : Int) := by rw [IntKind.wrap_i64]; omega
      have hw2 : IntKind.u8.wrap (48 + (n : Int)) = 48 + (n : Int) := by rw [IntKind.wrap_u8]; omega
      have HC := Lib.hid (conv_one w (UInt8.ofNat (48 + n)) (48 + (n : Int)) (by omega))
      have hc := HC.out
      have HR := Lib.hid (show ba (numL n) = ba [UInt8.ofNat (48 + n)] by rw [numL_small h10])
      have hb := Lib.hid (below_one w (.cells #[.int .u8 (48 + (n : Int))] 5))
      generalize ba (numL n) = R at *
      generalize ba [UInt8.ofNat (48 + n)] = D at *
      clear hz ih h10 HC
      go_enter Tryz.func41, Tryz.ntmps41
      go_wp2
      go_ret
      exact ⟨by rw [HR.out]; rfl, hb.out⟩
    · have b1 : ¬ (n : Int) < 10 := by omega
      have HI := Lib.hid (ih (n / 10) (by omega) (by omega))
      have hlen := numL_len 11 (n / 10) (by show n / 10 < 1000000000000; omega)
      have hd10 : n % 10 < 10 := by omega
      have hz := ofNat_dig hd10
      obtain ⟨q, hq⟩ : ∃ q, q = n / 10 := ⟨_, rfl⟩
      obtain ⟨d, hd⟩ : ∃ d, d = n % 10 := ⟨_, rfl⟩
      have hqi : (n : Int) / 10 = (q : Int) := by omega
      have hdi : (n : Int) % 10 = (d : Int) := by omega
      have htq : (n : Int).tdiv 10 = (q : Int) := by rw [Int.tdiv_eq_ediv_of_nonneg hn0]; exact hqi
      have htd : (n : Int).tmod 10 = (d : Int) := by rw [Int.tmod_eq_emod_of_nonneg hn0]; exact hdi
      rw [← hq] at HI hlen
      rw [← hd] at hz hd10
      have hw1 : IntKind.i64.wrap (48 + (d : Int)) = 48 + (d : Int) := by rw [IntKind.wrap_i64]; omega
      have hw2 : IntKind.u8.wrap (48 + (d : Int)) = 48 + (d : Int) := by rw [IntKind.wrap_u8]; omega
      have hw3 : IntKind.i64.wrap (q : Int) = (q : Int) := by rw [IntKind.wrap_i64]; omega
      have hc : ∀ W : World, (convert 59 9 (.slice (some ⟨W.heap.size, 0, none⟩) 1 1)).run Tryz.prog (W.alloc (.cells #[.int .u8 (48 + (d : Int))] 5)) = .ok (.string (ba [UInt8.ofNat (48 + d)])) (W.alloc (.cells #[.int .u8 (48 + (d : Int))] 5)) := fun W => conv_one W _ _ (by omega)
      have hcd : (convert 59 9 (.slice (some ⟨w.heap.size, 0, none⟩) 1 1)).run Tryz.prog (w.alloc (.cells #[.int .u8 (48 + (d : Int))] 5)).drew = .ok (.string (ba [UInt8.ofNat (48 + d)])) (w.alloc (.cells #[.int .u8 (48 + (d : Int))] 5)).drew := conv_Ob (show Ob (w.alloc (.cells #[.int .u8 (48 + (d : Int))] 5)).drew w.heap.size _ _ from ob_one w w.heap.size (Nat.le_refl _) (UInt8.ofNat (48 + d)) (48 + (d : Int)) (by omega))
      have HO := Lib.hid (ob_one w w.heap.size (Nat.le_refl _) (UInt8.ofNat (48 + d)) (48 + (d : Int)) (by omega))
      have s1 := cat_run (ba (numL q)) (ba [UInt8.ofNat (48 + d)]) (by rw [ba_size, ba_size]; simp only [List.length_singleton]; omega)
      rw [ba_append] at s1
      have HR := Lib.hid (show ba (numL n) = ba (numL q ++ [UInt8.ofNat (48 + d)]) by rw [numL_big h10, ← hq, ← hd])
      have hb := Lib.hid (below_one w (.cells #[.int .u8 (48 + (d : Int))] 5))
      generalize ba (numL n) = R at *
      generalize ba (numL q ++ [UInt8.ofNat (48 + d)]) = RR at *
      have HD := Lib.hid (show ba [UInt8.ofNat (48 + d)] = (⟨[UInt8.ofNat (48 + d)].toArray⟩ : ByteArray) from rfl)
      generalize ba [UInt8.ofNat (48 + d)] = D at *
      generalize ba (numL q) = Q at *
      clear hz ih h10 hlen hq hd hn hqi hdi
      go_enter Tryz.func41, Tryz.ntmps41
      go_wp2
      go_region_with (first
        | (go_at_call 41; (with_reducible refine (HI.out w.drew).mono ?_); rintro e w1 ⟨rfl, hb1⟩; have hbe := below_new (Below_next (below_drew w) hb1) (.cells #[.int .u8 (48 + (d : Int))] 5))
        | (go_at_call 41; (with_reducible refine (HI.out _).mono ?_); rintro e w1 ⟨rfl, hb1⟩; have hbe := Below_next hb.out.drew hb1; have hcv := conv_Ob (obKeep (show Ob (w.alloc (.cells #[.int .u8 (48 + (d : Int))] 5)).drew w.heap.size _ _ from HO.out) hb1); rw [← HD.out] at hcv))
      all_goals
        go_wp2
        go_ret
        exact ⟨by rw [HR.out]; rfl, hbe⟩
end Go.Proofs.YtahbbnimoogapaaGreatDoor
namespace Go.Proofs.YtahbbnimoogapaaGreatDoor
open Go.RowKit

/-- A command's cells. -/
def cmdZ (c : CmdA) : Array Value := #[.int .i64 c.verb, .string (ba c.text), .string (ba c.box.loc), .string (ba c.box.dom), .int .i64 c.size, .bool c.eight]
def cmdV (c : CmdA) : Value := .agg (cmdZ c)

set_option maxHeartbeats 1000000 in
set_option maxRecDepth 100000 in
theorem rnone_any (c : CmdA) (h1 : c.box.loc.length ≤ 1048576) (h2 : c.box.dom.length ≤ 1048576) (w : World) :
    Calls Tryz.prog 39 #[cmdV c] w fun e w' => e = .returned (.bool (nonB c)) ∧ Below w.heap.size w w' := by
  have hl := ba_size c.box.loc
  have hd := ba_size c.box.dom
  have HE := Lib.hid (show nonB c = (decide (c.box.loc.length + c.box.dom.length = 0) && !c.eight) from rfl)
  have hA := Arr.new w (cmdZ c) 32
  have hb := Lib.hid (below_one w (.cells (cmdZ c) 32))
  rw [cmdV]
  unfold cmdZ at hA hb ⊢
  rw [← hl, ← hd] at HE
  have l1 : (ba c.box.loc).size ≤ 1048576 := by omega
  have l2 : (ba c.box.dom).size ≤ 1048576 := by omega
  generalize ba c.box.loc = L at *
  generalize ba c.box.dom = D at *
  generalize ba c.text = T at *
  generalize c.verb = V at *
  generalize c.size = S at *
  generalize c.eight = E at *
  generalize nonB c = R at *
  clear hl hd h1 h2
  have c2 := hA.cell (j := 2) rfl
  have c3 := hA.cell (j := 3) rfl
  have c5 := hA.cell (j := 5) rfl
  clear hA
  have hz : IntKind.i64.wrap ((L.size : Int) + (D.size : Int)) = (L.size : Int) + (D.size : Int) := by rw [IntKind.wrap_i64]; omega
  by_cases h0 : L.size + D.size = 0
  · have z : ((L.size : Int) + (D.size : Int) == 0) = true := by rw [show (L.size : Int) + (D.size : Int) = 0 by omega]; rfl
    have HR := Lib.hid (show R = !E by rw [HE.out, decide_eq_true h0]; rfl)
    clear HE h0
    go_enter Tryz.func39, Tryz.ntmps39
    go_wp2
    go_ret
    exact ⟨by rw [HR.out]; rfl, hb.out⟩
  · have z : ((L.size : Int) + (D.size : Int) == 0) = false := beq_false_of_ne (by omega)
    have HR := Lib.hid (show R = false by rw [HE.out, decide_eq_false h0]; rfl)
    clear HE h0
    go_enter Tryz.func39, Tryz.ntmps39
    go_wp2
    go_ret
    exact ⟨by rw [HR.out]; rfl, hb.out⟩

theorem rclass_any (n : Int) (w : World) :
    Calls Tryz.prog 25 #[.int .i64 n] w fun e w' => e = .returned (.int .i64 (clsZ n)) ∧ w = w' := by
  by_cases h1 : n < 200
  · have HR := Lib.hid (show clsZ n = 0 by rw [clsZ, if_pos (.inl h1)])
    generalize clsZ n = R at *
    go_enter Tryz.func25, Tryz.ntmps25
    go_wp2
    go_ret
    exact ⟨by rw [HR.out]; rfl, rfl⟩
  · by_cases h2 : 599 < n
    · have HR := Lib.hid (show clsZ n = 0 by rw [clsZ, if_pos (.inr h2)])
      generalize clsZ n = R at *
      go_enter Tryz.func25, Tryz.ntmps25
      go_wp2
      go_ret
      exact ⟨by rw [HR.out]; rfl, rfl⟩
    · have HR := Lib.hid (show clsZ n = n / 100 by rw [clsZ, if_neg (by omega)])
      have hq : n.tdiv 100 = n / 100 := Int.tdiv_eq_ediv_of_nonneg (by omega)
      have hw : IntKind.i64.wrap (n / 100) = n / 100 := by rw [IntKind.wrap_i64]; omega
      generalize clsZ n = R at *
      obtain ⟨q, hqq⟩ : ∃ q, q = n / 100 := ⟨_, rfl⟩
      rw [← hqq] at hq hw HR
      clear hqq
      go_enter Tryz.func25, Tryz.ntmps25
      go_wp2
      go_ret
      exact ⟨by rw [HR.out]; rfl, rfl⟩

/-- The verbs' words as texts. -/
def vbS : List ByteArray := [⟨#[]⟩, ⟨#[72, 69, 76, 79]⟩, ⟨#[69, 72, 76, 79]⟩, ⟨#[77, 65, 73, 76]⟩, ⟨#[82, 67, 80, 84]⟩, ⟨#[68, 65, 84, 65]⟩, ⟨#[82, 83, 69, 84]⟩, ⟨#[78, 79, 79, 80]⟩, ⟨#[81, 85, 73, 84]⟩, ⟨#[86, 82, 70, 89]⟩]
theorem vbS_eq : vbS = bas vbL := rfl
theorem vb_texts (w : World) (t : TypeId) : IsTexts (w.alloc (.cells (strV vbS).toArray t)) (some ⟨w.heap.size, 0, none⟩) 10 10 (bas vbL) :=
  .inr ⟨_, rfl, Nat.le_refl _, by unfold maxLen; decide, rfl, fun i hi => by
    rw [addr_add, Nat.zero_add, ← vbS_eq]
    exact (Arr.new w _ _).cell (by rw [List.getElem?_toArray, strV_get vbS i hi]), fun s hs => by
    rw [← vbS_eq] at hs
    have : ∀ s ∈ vbS, s.size ≤ 4 := by decide
    exact Nat.le_trans (this s hs) (by decide)⟩
theorem rverbs_any (w : World) :
    Calls Tryz.prog 30 #[] w fun e w' => ∃ (a : Option Addr), e = .returned (.slice a 10 10) ∧ IsTexts w' a 10 10 (bas vbL) ∧ Below w.heap.size w w' := by
  have HT := Lib.hid (vb_texts w 9)
  have HB := Lib.hid (below_one w (.cells (strV vbS).toArray 9))
  go_enter Tryz.func30, Tryz.ntmps30
  go_wp2
  go_ret
  exact ⟨_, rfl, HT.out, HB.out⟩

set_option maxHeartbeats 2000000 in
set_option maxRecDepth 100000 in
theorem rpathed_any (l v : List UInt8) (hl : l.length ≤ 524288) (hv : v.length ≤ 1048576) (w : World) :
    Calls Tryz.prog 35 #[.string (ba l), .string (ba v)] w fun e w' => e = .returned (patV (patL l v)) ∧ Below w.heap.size w w' := by
  have HBg := Lib.hid (fun w => rbegins_any l v (by omega) hv w)
  have HA := Lib.hid (Arr.new w #[.string ⟨#[]⟩, .string ⟨#[]⟩] 30)
  have HB := Lib.hid (below_one w (.cells #[.string ⟨#[]⟩, .string ⟨#[]⟩] 30))
  cases hbg : begB l v with
  | false =>
    rw [hbg] at HBg
    have HR := Lib.hid (show patV (patL l v) = .tuple #[.agg #[.string ⟨#[]⟩, .string ⟨#[]⟩], .string ⟨#[]⟩, .bool false] by rw [patL, if_neg (by rw [hbg]; decide)]; rfl)
    generalize patV (patL l v) = R at *
    generalize ba l = S at *
    generalize ba v = V at *
    clear hbg hl hv
    go_enter Tryz.func35, Tryz.ntmps35
    go_wp2_with (first
      | (go_at_call 62; (with_reducible refine (HBg.out _).mono ?_); rintro e w1 ⟨rfl, hb1⟩; have hA1 := HA.out.next hb1; have hB1 := Below_next HB.out hb1; have hgl := hA1.lt; have c0 : w1.cell? ⟨w.heap.size, 0, none⟩ = some (.string ⟨#[]⟩) := hA1.cell rfl; have c1 : w1.cell? ⟨w.heap.size, 1, none⟩ = some (.string ⟨#[]⟩) := hA1.cell rfl; have f0 := hA1.frozen 0; have f1 := hA1.frozen 1))
    refine ret_box3 rfl w.heap.size #[.string ⟨#[]⟩, .string ⟨#[]⟩] rfl rfl (Arr.set (Arr.set hA1 0 _) 1 _) rfl ?_
    exact ⟨by rw [HR.out]; rfl, Below.setCell (Below.setCell hB1 (Nat.le_refl _) _) (Nat.le_refl _) _⟩
  | true =>
    rw [hbg] at HBg
    have hP : patL l v = readL (spL (l.drop v.length)) := by rw [patL, if_pos hbg]
    rw [hP]
    generalize hT0 : patV (readL (spL (l.drop v.length))) = T
    have HT := Lib.hid hT0
    have hls := ba_size l
    have hvs := ba_size v
    have hvl : v.length ≤ l.length := by
      rw [begB, Bool.and_eq_true] at hbg
      exact of_decide_eq_true hbg.1
    have hdl : (l.drop v.length).length ≤ 524288 := by rw [List.length_drop]; omega
    have HSt := Lib.hid (show ∃ m : List UInt8, Value.string ((ba l).extract (ba v).size (ba l).size) = .string (ba m) ∧ m.length ≤ 524288 ∧ T = patV (readL (spL m)) from ⟨l.drop v.length, by rw [ext_all, ba_list, hvs], hdl, HT.out.symm⟩)
    have hvl2 : (ba v).size ≤ (ba l).size := by omega
    have hls2 : (ba l).size ≤ 524288 := by omega
    clear hP hT0 hbg hls hvs hvl hdl HT hl hv
    generalize ba l = S at *
    generalize ba v = V at *
    go_enter Tryz.func35, Tryz.ntmps35
    go_wp2_with (first
      | (go_at_call 62; (with_reducible refine (HBg.out _).mono ?_); rintro e w1 ⟨rfl, hb1⟩; have HA1 := Lib.hid (HA.out.next hb1); have HB1 := Lib.hid (Below_next HB.out hb1)))
    go_loopw [0] (fun s wr => (∃ m : List UInt8, s = .string (ba m) ∧ m.length ≤ 524288 ∧ T = patV (readL (spL m))) ∧ w1 = wr) (fun s _ => sizeV s)
    case atStart => exact ⟨HSt.out, rfl⟩
    case round =>
      clear hvl2 hls2 HSt
      obtain ⟨⟨m, rfl, hm, hT⟩, rfl⟩ := hrel
      by_cases hc : m.head? = some 32
      · obtain ⟨t, rfl⟩ : ∃ t, m = 32 :: t := by
          cases m with
          | nil => cases hc
          | cons c t => exact ⟨t, by rw [Option.some.inj hc]⟩
        have hms := ba_size (32 :: t)
        have hts := ba_size t
        rw [List.length_cons] at hms hm
        have hpos : 0 < (ba (32 :: t)).size := by omega
        have b0 : (0 : Int) < ((ba (32 :: t)).size : Int) := by omega
        have b1 : (((ba (32 :: t))[0].toNat : Int) == 32) = true := by
          have := byte_at hpos
          rw [ba_list] at this
          rw [← Option.some.inj this]; rfl
        have hsl := slice_from (ba (32 :: t)) 1 (by omega)
        rw [ext_all, ba_list, List.drop_succ_cons, List.drop_zero, show ((1 : Nat) : Int) = 1 from rfl] at hsl
        have HOut := Lib.hid (show ∃ m : List UInt8, Value.string (ba t) = .string (ba m) ∧ m.length ≤ 524288 ∧ T = patV (readL (spL m)) from ⟨t, rfl, by omega, by rw [hT, spL_cons]⟩)
        have HM := Lib.hid (show (ba t).size < (ba (32 :: t)).size by omega)
        clear hms hts hT hc hm
        generalize ba (32 :: t) = M at *
        generalize ba t = R at *
        go_wp2
        go_roundw
        case rel => exact ⟨HOut.out, trivial⟩
        case measure => exact HM.out
      · rw [spL_id hc] at hT
        have hex : (¬ (0 : Int) < ((ba m).size : Int)) ∨ ((0 : Int) < ((ba m).size : Int) ∧ ∃ h : 0 < (ba m).size, (((ba m)[0].toNat : Int) == 32) = false) := by
          have hms := ba_size m
          cases m with
          | nil => exact .inl (by rw [hms]; decide)
          | cons c t =>
            rw [List.length_cons] at hms
            have hpos : 0 < (ba (c :: t)).size := by omega
            refine .inr ⟨by omega, hpos, ?_⟩
            have := byte_at hpos
            rw [ba_list] at this
            rw [← Option.some.inj this, show (32 : Int) = ((32 : Nat) : Int) from rfl, byte_is (by decide)]
            exact decide_eq_false fun e => hc (by rw [e]; rfl)
        have hRd := fun w => rread_any (ba m) (by rw [ba_size]; exact hm) w
        rw [ba_list] at hRd
        cases hr : readL m with
        | none =>
          rw [hr, readV] at hRd
          have HRd := Lib.hid hRd
          have HR := Lib.hid (show T = .tuple #[.agg #[.string ⟨#[]⟩, .string ⟨#[]⟩], .string ⟨#[]⟩, .bool false] by rw [hT, hr]; rfl)
          clear hT hc hm hRd hr
          generalize ba m = M at *
          rcases hex with b0 | ⟨b0, h0, b1⟩
          all_goals
            go_wp2_with (first
              | (go_at_call 63; (with_reducible refine (HRd.out _).mono ?_); rintro e w2 ⟨rfl, hb2⟩; have hA2 := HA1.out.next hb2; have hB2 := Below_next HB1.out hb2; have hgl := hA2.lt; have c0 : w2.cell? ⟨w.heap.size, 0, none⟩ = some (.string ⟨#[]⟩) := hA2.cell rfl; have c1 : w2.cell? ⟨w.heap.size, 1, none⟩ = some (.string ⟨#[]⟩) := hA2.cell rfl; have f0 := hA2.frozen 0; have f1 := hA2.frozen 1))
            refine ret_box3 rfl w.heap.size #[.string ⟨#[]⟩, .string ⟨#[]⟩] rfl rfl ((Arr.set (Arr.set hA2 0 _) 1 _).alloc _) rfl ?_
            exact ⟨by rw [HR.out]; rfl, Below.alloc (Below.setCell (Below.setCell hB2 (Nat.le_refl _) _) (Nat.le_refl _) _) (by simp [World.setCell]; exact Nat.le_of_lt hgl) _⟩
        | some p =>
          rw [hr, readV, boxV] at hRd
          have HRd := Lib.hid hRd
          have HR := Lib.hid (show T = .tuple #[.agg #[.string (ba p.1.loc), .string (ba p.1.dom)], .string (ba p.2), .bool true] by rw [hT, hr]; rfl)
          clear hT hc hm hRd hr
          generalize ba p.1.loc = LB at *
          generalize ba p.1.dom = DB at *
          generalize ba p.2 = RB at *
          generalize ba m = M at *
          rcases hex with b0 | ⟨b0, h0, b1⟩
          all_goals
            go_wp2_with (first
              | (go_at_call 63; (with_reducible refine (HRd.out _).mono ?_); rintro e w2 ⟨rfl, hb2⟩; have hA2 := HA1.out.next hb2; have hB2 := Below_next HB1.out hb2; have hgl := hA2.lt; have c0 : w2.cell? ⟨w.heap.size, 0, none⟩ = some (.string ⟨#[]⟩) := hA2.cell rfl; have c1 : w2.cell? ⟨w.heap.size, 1, none⟩ = some (.string ⟨#[]⟩) := hA2.cell rfl; have f0 := hA2.frozen 0; have f1 := hA2.frozen 1))
            refine ret_box3 rfl w.heap.size #[.string LB, .string DB] rfl rfl ((Arr.set (Arr.set hA2 0 _) 1 _).alloc _) rfl ?_
            exact ⟨by rw [HR.out]; rfl, Below.alloc (Below.setCell (Below.setCell hB2 (Nat.le_refl _) _) (Nat.le_refl _) _) (by simp [World.setCell]; exact Nat.le_of_lt hgl) _⟩
end Go.Proofs.YtahbbnimoogapaaGreatDoor
