/- poly: the contract of Add. -/
import Derived.Test.YtjbhmdlgokoepaaDoorPmJ
namespace Go.Proofs.YtjbhmdlgokoepaaDoor
open Go.RowKit

set_option maxHeartbeats 1000000 in
set_option maxRecDepth 100000 in
theorem padd_small (g : Nat) (key l : List UInt8) (t : ByteArray) (w : World) (h : PolyOf w g key l) (hs : l.length % 16 + t.size < 16) :
    Calls Tryd.prog 16 #[.pointer (some ⟨g, 0, none⟩), .string t] w fun e w' => e = .returned (.tuple #[]) ∧ PolyOf w' g key (l ++ t.data.toList) ∧ Fr g w w' := by
  obtain ⟨A, p, hp, ha⟩ := h
  have htl : t.data.toList.length = t.size := by simp
  obtain ⟨hq, hm⟩ := add_smallP (q := t.data.toList) hp (by omega)
  obtain ⟨r, hr⟩ : ∃ r, r = l.length % 16 := ⟨_, rfl⟩
  rw [← hr] at ha hs hq hm
  rw [htl] at hq hm
  have hok := hp.ok
  have c1 : w.drew.cell? ⟨g, 31, none⟩ = some (.int .i64 (r : Int)) := ha.drew.cell (pcells_n r hok)
  have hsl := arr16_from g 15 r (by omega)
  rw [if_neg (show ¬ r = 16 by omega)] at hsl
  have hcp := run_copy_str w.drew 3 g (15 + r) (16 - r) (16 - r) t.size t _ _ (by omega) ha.drew (by rw [pcells_size r hok]; omega)
  rw [take_all, pcells_copy r hok t.data.toList r t.size htl (by omega)] at hcp
  have ha1 := ha.drew.row (pcells (partsP (keyR key) 5) (partsP (keyS key) 5) A (p.take r ++ t.data.toList ++ p.drop (r + t.size)) r)
  obtain ⟨w1, hw1⟩ : ∃ w1, w1 = w.drew.setRow g (pcells (partsP (keyR key) 5) (partsP (keyS key) 5) A (p.take r ++ t.data.toList ++ p.drop (r + t.size)) r) := ⟨_, rfl⟩
  rw [← hw1] at hcp ha1
  have hfr : Fr g w w1 := by rw [hw1]; exact ((Fr.refl g w).drew).row _
  have c2 : w1.cell? ⟨g, 31, none⟩ = some (.int .i64 (r : Int)) := ha1.cell (pcells_n r hq.ok)
  have f2 := ha1.frozen 31
  have ha2 := ha1.set 31 (.int .i64 ((r + t.size : Nat) : Int))
  rw [pcells_setN r _ hq.ok] at ha2
  have HR : Hid (PolyOf (w1.setCell ⟨g, 31, none⟩ (.int .i64 ((r + t.size : Nat) : Int))) g key (l ++ t.data.toList)) := ⟨_, _, hq, by rw [hm]; exact ha2⟩
  have HFr := Lib.hid (hfr.self (p := ⟨g, 31, none⟩) rfl (.int .i64 ((r + t.size : Nat) : Int)))
  rw [Int.natCast_add] at HR HFr
  have k0 : (0 : Int) ≤ (r : Int) := by omega
  have hsi : (r : Int) + (t.size : Int) < 16 := by omega
  clear hp ha htl hq hm hr hok hw1 hfr ha1 ha2
  go_enter Tryd.func16, Tryd.ntmps16
  go_wp2
  go_region_law (refine step_copyR rfl _ _ 33 9 rfl _ _ rfl rfl hcp ?_)
  go_wp2
  exact bodyPost_ret (results_none rfl _ _ _) rfl ⟨rfl, HR.out, HFr.out⟩

/-- What is known behind k blocks more. -/
structure Mor (g : Nat) (key l : List UInt8) (t : ByteArray) (blk : List UInt8) (w : World) (k : Nat) (v : Value) (wr : World) : Prop where
  str : ∃ X : ByteArray, v = .string X ∧ X.data.toList = t.data.toList.drop (16 - l.length % 16 + 16 * k) ∧ 16 - l.length % 16 + 16 * k + X.size = t.size
  st : ∃ B, B.length = 5 ∧ (∀ z ∈ B, z < 67108864) ∧ numP B % PP = accN (keyR key) (l ++ t.data.toList) (l.length / 16 + 1 + k) ∧ Arr wr g (pcells (partsP (keyR key) 5) (partsP (keyS key) 5) B blk 16) 53
  fr : Fr g w wr
theorem strSize (X : ByteArray) : X.data.toList.length = X.size := by simp
def strLen (v : Value) : Nat := match v with | .string X => X.size | _ => 0

set_option maxHeartbeats 2000000 in
set_option maxRecDepth 100000 in
theorem padd_big (g : Nat) (key l : List UInt8) (t : ByteArray) (w : World) (h : PolyOf w g key l) (hs : 16 ≤ l.length % 16 + t.size) :
    Calls Tryd.prog 16 #[.pointer (some ⟨g, 0, none⟩), .string t] w fun e w' => e = .returned (.tuple #[]) ∧ PolyOf w' g key (l ++ t.data.toList) ∧ Fr g w w' := by
  obtain ⟨A, p, hp, ha⟩ := h
  have htl := strSize t
  obtain ⟨hbl, hbp⟩ := add_block (q := t.data.toList) hp (by omega)
  have hok := hp.ok
  have hRn := partsP_of _ (keyR_lt key)
  have hRb := partsP_lt (keyR key) 5
  have hnum := hp.num
  have hlt := hp.lt
  have HN := Lib.hid (fun k => add_next l t.data.toList k (by omega))
  have HE := Lib.hid (fun rest B k hB hb hn blk hblk h1 h2 h3 => add_end (q := t.data.toList) (rest := rest) (B := B) (k := k) hp hB hb hn blk hblk (by omega) h1 h2 h3)
  obtain ⟨r, hr⟩ : ∃ r, r = l.length % 16 := ⟨_, rfl⟩
  obtain ⟨d, hd⟩ : ∃ d, d = 16 - r := ⟨_, rfl⟩
  have hrl : r < 16 := by omega
  rw [← hr] at ha hs hbl hbp
  rw [← hd] at hbl hbp
  have c1 : w.drew.cell? ⟨g, 31, none⟩ = some (.int .i64 (r : Int)) := ha.drew.cell (pcells_n r hok)
  have hsl := arr16_from g 15 r (by omega)
  rw [if_neg (show ¬ r = 16 by omega), ← hd] at hsl
  have htk : (t.data.toList.take d).length = d := by rw [List.length_take, htl]; omega
  have hcp := run_copy_str w.drew 3 g (15 + r) d d d t _ _ (by omega) ha.drew (by rw [pcells_size r hok]; omega)
  have hpd : p.drop (r + d) = [] := List.drop_eq_nil_of_le (by rw [hok.p]; omega)
  rw [pcells_copy r hok (t.data.toList.take d) r d htk (by omega), hpd, List.append_nil] at hcp
  obtain ⟨blk, hblk⟩ : ∃ blk, blk = p.take r ++ t.data.toList.take d := ⟨_, rfl⟩
  rw [← hblk] at hcp hbl hbp
  have ha1 := ha.drew.row (pcells (partsP (keyR key) 5) (partsP (keyS key) 5) A blk r)
  have hok1 := hok.part hbl
  obtain ⟨w1, hw1⟩ : ∃ w1, w1 = w.drew.setRow g (pcells (partsP (keyR key) 5) (partsP (keyS key) 5) A blk r) := ⟨_, rfl⟩
  rw [← hw1] at hcp ha1
  have hfr : Fr g w w1 := by rw [hw1]; exact ((Fr.refl g w).drew).row _
  have c2 : w1.cell? ⟨g, 31, none⟩ = some (.int .i64 (r : Int)) := ha1.cell (pcells_n r hok1)
  have f2 := ha1.frozen 31
  have ha2 := ha1.set 31 (.int .i64 ((16 : Nat) : Int))
  rw [pcells_setN r _ hok1] at ha2
  have hfr2 := hfr.self (p := ⟨g, 31, none⟩) rfl (.int .i64 ((16 : Nat) : Int))
  rw [show ((16 : Nat) : Int) = 16 from rfl] at ha2 hfr2
  have a3 := arr16_all g 15
  have cv := part_cv ha2 hok1 16 (by omega)
  rw [List.take_of_length_le (by rw [hbl]; exact Nat.le_refl _)] at cv
  have hnx := next_any g _ _ A blk 16 hok1 hlt hRb ⟨blk.toArray⟩ (by show blk.toArray.size ≤ 16; rw [List.size_toArray, hbl]; exact Nat.le_refl _) _ ha2
  have hBs : (ByteArray.mk blk.toArray).size = blk.length := by show blk.toArray.size = _; rw [List.size_toArray]
  rw [hBs, show (ByteArray.mk blk.toArray).data.toList = blk by simp] at hnx
  have HNx := Lib.hid hnx
  have HA2 := Lib.hid ha2
  have HFr2 := Lib.hid hfr2
  have HBp := Lib.hid hbp
  have HBl := Lib.hid hbl
  have HNum := Lib.hid (hnum.trans (accN_append _ _ t.data.toList _ (by omega)).symm)
  have HRn := Lib.hid hRn
  have HOk := Lib.hid hok1
  have HR := Lib.hid hr
  have HRb := Lib.hid hRb
  have hst := slice_from t d (by omega)
  obtain ⟨X0, hX0⟩ : ∃ X0, X0 = t.extract d t.size := ⟨_, rfl⟩
  rw [← hX0] at hst
  have hX0l : X0.data.toList = t.data.toList.drop d := by rw [hX0, ext_toList, List.take_of_length_le (by rw [List.length_drop, htl]; exact Nat.le_refl _)]
  have hX0s : d + X0.size = t.size := by rw [hX0, ext_size _ _ _ (Nat.le_refl _)]; omega
  have HX0 := Lib.hid (And.intro hX0l hX0s)
  have hdl : d = 16 - l.length % 16 := by rw [hd, hr]
  have HD := Lib.hid hdl
  have hrd : (r : Int) + (d : Int) = 16 := by omega
  have k0 : (0 : Int) ≤ (r : Int) := by omega
  generalize (ByteArray.mk blk.toArray) = BB at *
  clear hp ha htl hbp hbl hok hRn hRb hnum hlt hpd htk hblk ha1 hok1 hfr ha2 hfr2 hnx hBs hX0l hX0s hX0 hw1 hd hr hdl hs
  go_enter Tryd.func16, Tryd.ntmps16
  go_wp2
  go_region_law (refine step_copyR rfl _ _ 33 9 rfl _ _ rfl rfl hcp ?_)
  go_wp2_with (first
    | (go_at_call 26; (with_reducible refine HNx.out.mono ?_); rintro e w3 ⟨⟨z, rfl, hz5, hzb, hzn⟩, hb3⟩; have HA3 := Lib.hid (HA2.out.next hb3); have HFr3 := Lib.hid (HFr2.out.thenB hb3 (Nat.le_refl _)))
    | (with_reducible refine wpList_store_sum rfl _ _ rfl g rfl rfl hz5 HOk.out HA3.out ?_))
  have HM : Hid (Mor g key l t blk w 0 (.string X0) (w3.setRow g (pcells (partsP (keyR key) 5) (partsP (keyS key) 5) z blk 16))) := by
    refine ⟨⟨X0, rfl, by rw [HX0.out.1, HD.out]; rfl, by rw [← HD.out]; exact HX0.out.2⟩, ⟨z, hz5, hzb, ?_, HA3.out.row _⟩, HFr3.out.row _⟩
    exact acc_step HNum.out HRn.out HBp.out hzn
  generalize w3.setRow g (pcells (partsP (keyR key) 5) (partsP (keyS key) 5) z blk 16) = w4 at *
  clear HNx HA2 HFr2 HBp HNum HX0 HA3 HFr3 hb3 hzb hzn hst cv a3 c1 c2 f2 hsl hcp
  go_loopw [1] (fun v wr => ∃ k, Mor g key l t blk w k v wr) (fun v _ => strLen v)
  case atStart => exact ⟨0, HM.out⟩
  case round =>
    clear HM
    obtain ⟨k, ⟨X, rfl, hXl, hXs⟩, ⟨B, hB5, hBb, hBn, hBa⟩, hfr⟩ := hrel
    have hokB := HOk.out.sum hB5
    have HFr := Lib.hid hfr
    have HA := Lib.hid hBa
    by_cases h16 : 16 ≤ X.size
    · have h16i : (16 : Int) ≤ (X.size : Int) := by omega
      have s1 := slice_to X 16 h16
      have s2 := slice_from X 16 h16
      rw [show ((16 : Nat) : Int) = 16 from rfl] at s1 s2
      have hl1 := ext_toList X 0 16
      have hl2 := ext_toList X 16 X.size
      rw [List.drop_zero, Nat.sub_zero] at hl1
      rw [List.take_of_length_le (by rw [List.length_drop, strSize]; exact Nat.le_refl _)] at hl2
      have z1 : (X.extract 0 16).size = 16 := by rw [ext_size _ _ _ h16]
      have z2 : (X.extract 16 X.size).size + 16 = X.size := by rw [ext_size _ _ _ (Nat.le_refl _)]; omega
      obtain ⟨b, hb⟩ : ∃ b, b = X.extract 0 16 := ⟨_, rfl⟩
      obtain ⟨Y, hY⟩ : ∃ Y, Y = X.extract 16 X.size := ⟨_, rfl⟩
      rw [← hb] at s1 hl1 z1
      rw [← hY] at s2 hl2 z2
      have hnx := next_any g _ _ B blk 16 hokB hBb HRb.out b (by omega) wr hBa
      rw [← strSize b] at hnx
      have HNx := Lib.hid hnx
      have hbl : b.data.toList = partL (l ++ t.data.toList) (l.length / 16 + 1 + k) := by rw [hl1, hXl, HN.out]
      have HBl2 := Lib.hid hbl
      have HBn := Lib.hid hBn
      have HOkB := Lib.hid hokB
      have HY := Lib.hid (show Y.data.toList = t.data.toList.drop (16 - l.length % 16 + 16 * (k + 1)) ∧ 16 - l.length % 16 + 16 * (k + 1) + Y.size = t.size by
        refine ⟨?_, by omega⟩
        rw [hl2, hXl, List.drop_drop]
        congr 1)
      have HYs := Lib.hid z2
      clear hXl hXs hBb hBn hBa hokB hfr hl1 hl2 z1 z2 hb hY hnx hbl
      go_wp2_with (first
        | (go_at_call 26; (with_reducible refine HNx.out.mono ?_); rintro e w5 ⟨⟨z, rfl, hz5, hzb, hzn⟩, hb5⟩; have HA5 := Lib.hid (HA.out.next hb5); have HFr5 := Lib.hid (HFr.out.thenB hb5 (Nat.le_refl _)))
        | (with_reducible refine wpList_store_sum rfl _ _ rfl g rfl rfl hz5 HOkB.out HA5.out ?_))
      go_roundw
      case rel => exact ⟨k + 1, ⟨⟨Y, rfl, HY.out⟩, ⟨z, hz5, hzb, acc_step HBn.out HRn.out HBl2.out hzn, HA5.out.row _⟩, HFr5.out.row _⟩⟩
      case measure => have := HYs.out; simp only [strLen]; omega
    · have h16i : ¬ (16 : Int) ≤ (X.size : Int) := by omega
      have hcp := run_copy_str wr 3 g 15 16 16 X.size X _ _ (by omega) hBa (by rw [pcells_size 16 hokB]; omega)
      have hcc := pcells_copy (n := 16) hokB X.data.toList 0 X.size (strSize X) (by omega)
      rw [show 15 + 0 = 15 from rfl, List.take_zero, List.nil_append, Nat.zero_add] at hcc
      rw [take_all, hcc] at hcp
      obtain ⟨hps, hpm⟩ := HE.out X.data.toList B k hB5 hBb hBn blk HBl.out (by rw [strSize]; omega) (by rw [strSize]; omega) hXl
      rw [strSize] at hps hpm
      have ha6 := hBa.row (pcells (partsP (keyR key) 5) (partsP (keyS key) 5) B (X.data.toList ++ blk.drop X.size) 16)
      have hfr6 := hfr.row (pcells (partsP (keyR key) 5) (partsP (keyS key) 5) B (X.data.toList ++ blk.drop X.size) 16)
      generalize wr.setRow g (pcells (partsP (keyR key) 5) (partsP (keyS key) 5) B (X.data.toList ++ blk.drop X.size) 16) = w6 at *
      have c6 : w6.cell? ⟨g, 31, none⟩ = some (.int .i64 ((16 : Nat) : Int)) := ha6.cell (pcells_n 16 hps.ok)
      have f6 := ha6.frozen 31
      have ha7 := ha6.set 31 (.int .i64 (X.size : Int))
      rw [pcells_setN 16 _ hps.ok] at ha7
      have HR7 : Hid (PolyOf (w6.setCell ⟨g, 31, none⟩ (.int .i64 (X.size : Int))) g key (l ++ t.data.toList)) := ⟨_, _, hps, by rw [hpm]; exact ha7⟩
      have HFr7 := Lib.hid (hfr6.self (p := ⟨g, 31, none⟩) rfl (.int .i64 (X.size : Int)))
      have a3 := arr16_all g 15
      clear hXl hXs hB5 hBb hBn hBa hokB hfr HFr HA hcc hps hpm ha6 hfr6 ha7
      go_wp2_with (with_reducible refine Lib.wpList_copy_run _ rfl _ _ 33 9 rfl _ _ rfl rfl hcp ?_)
      go_end0
      exact ⟨rfl, HR7.out, HFr7.out⟩

/-- Add: whatever comes; but for the Poly all is as it was. -/
theorem padd_fr (g : Nat) (key l : List UInt8) (t : ByteArray) (w : World) (h : PolyOf w g key l) :
    Calls Tryd.prog 16 #[.pointer (some ⟨g, 0, none⟩), .string t] w fun e w' => e = .returned (.tuple #[]) ∧ PolyOf w' g key (l ++ t.data.toList) ∧ Fr g w w' := by
  by_cases hs : l.length % 16 + t.size < 16
  · exact padd_small g key l t w h hs
  · exact padd_big g key l t w h (by omega)
end Go.Proofs.YtjbhmdlgokoepaaDoor
