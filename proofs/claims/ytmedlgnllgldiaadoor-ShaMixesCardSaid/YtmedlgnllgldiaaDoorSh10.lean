/- sha: the contract of (*Hash).Sum. -/
import Derived.Test.YtmedlgnllgldiaaDoorSh9
import Derived.Deep.RegionHeld3
namespace Go.Proofs.YtmedlgnllgldiaaDoor
open Go.RowKit

/-- A state's number at a place; the bytes of the first k of them. -/
def S8.nth (s : S8) (k : Nat) : Nat := match k with | 0 => s.a | 1 => s.b | 2 => s.c | 3 => s.d | 4 => s.e | 5 => s.f | 6 => s.g | 7 => s.h | _ => 0
def outN (s : S8) : Nat → List UInt8
  | 0 => []
  | k + 1 => outN s k ++ (lowL (s.nth k) 4).reverse

theorem part_to {w : World} {g : Nat} {st : S8} {p : List UInt8} {n : Nat} (h : Arr w g (hcells st p n) 87) (hp : p.length = 64) (r : Nat) (hr : r < 64) :
    (convert 38 9 (.slice (some ⟨g, 8, none⟩) r 64)).run Tryd.prog w = .ok (.string ⟨(p.take r).toArray⟩) w := by
  have := conv_cells w ⟨g, 8, none⟩ (p.take r) 64 (fun j v hv => part_cells h hp j v (by
    have hj : j < (u8s (p.take r)).length := (List.getElem?_eq_some_iff.1 hv).1
    rw [u8s_len, List.length_take] at hj
    rw [← hv]
    simp only [u8s, List.map_take]
    rw [List.getElem?_take, if_pos (by omega)]))
  rw [List.length_take, show min r p.length = r from by omega] at this
  exact this
theorem held_of {w : World} {g : Nat} {st : S8} {p : List UInt8} {n : Nat} (h : Arr w g (hcells st p n) 87) (hp : p.length = 64) (r : Nat) (hr : r < 64) (PT : ByteArray) (hPT : PT = ⟨(p.take r).toArray⟩) :
    w.cell? ⟨g, 0, none⟩ = some (.int .u32 (st.a : Int)) ∧ w.cell? ⟨g, 1, none⟩ = some (.int .u32 (st.b : Int)) ∧ w.cell? ⟨g, 2, none⟩ = some (.int .u32 (st.c : Int)) ∧ w.cell? ⟨g, 3, none⟩ = some (.int .u32 (st.d : Int)) ∧ w.cell? ⟨g, 4, none⟩ = some (.int .u32 (st.e : Int)) ∧ w.cell? ⟨g, 5, none⟩ = some (.int .u32 (st.f : Int)) ∧ w.cell? ⟨g, 6, none⟩ = some (.int .u32 (st.g : Int)) ∧ w.cell? ⟨g, 7, none⟩ = some (.int .u32 (st.h : Int)) ∧ w.cell? ⟨g, 72, none⟩ = some (.int .u64 (n : Int)) ∧ (convert 38 9 (.slice (some ⟨g, 8, none⟩) r 64)).run Tryd.prog w = .ok (.string PT) w :=
  ⟨h.cell (by rw [hcells_st _ _ _ _ (by decide)]; rfl), h.cell (by rw [hcells_st _ _ _ _ (by decide)]; rfl), h.cell (by rw [hcells_st _ _ _ _ (by decide)]; rfl), h.cell (by rw [hcells_st _ _ _ _ (by decide)]; rfl),
   h.cell (by rw [hcells_st _ _ _ _ (by decide)]; rfl), h.cell (by rw [hcells_st _ _ _ _ (by decide)]; rfl), h.cell (by rw [hcells_st _ _ _ _ (by decide)]; rfl), h.cell (by rw [hcells_st _ _ _ _ (by decide)]; rfl), h.cell (hcells_n _ _ _ hp), by rw [hPT]; exact part_to h hp r hr⟩

/-- What is known behind the padding's blocks. -/
def SumMid (S2 : S8) (w : World) (s3 : Value) (wx : World) : Prop :=
  ∃ gs, s3 = .pointer (some ⟨gs, 0, none⟩) ∧ w.heap.size ≤ gs ∧ Arr wx gs S2.cells 45 ∧ Below w.heap.size w wx

theorem sumMid_a {S2 : S8} {w w3 w4 : World} (hB : Below w.heap.size w w3) (hb : Below w3.heap.size w3 w4) : SumMid S2 w (.pointer (some ⟨w4.heap.size, 0, none⟩)) (w4.alloc (.cells #[.int .u32 (S2.a : Int), .int .u32 (S2.b : Int), .int .u32 (S2.c : Int), .int .u32 (S2.d : Int), .int .u32 (S2.e : Int), .int .u32 (S2.f : Int), .int .u32 (S2.g : Int), .int .u32 (S2.h : Int)] 45)) := by
  have h1 := hB.size
  have h2 := hb.size
  exact ⟨w4.heap.size, rfl, by omega, Arr.new w4 S2.cells _, (Below_next hB hb).alloc (by omega) _⟩
theorem sumMid_b {S2 : S8} {w w3 w4 : World} (hB : Below w.heap.size w w3) (hz : Arr w3 w.heap.size #[.int .u32 0, .int .u32 0, .int .u32 0, .int .u32 0, .int .u32 0, .int .u32 0, .int .u32 0, .int .u32 0] 45) (hb : Below w3.heap.size w3 w4) : SumMid S2 w (.pointer (some ⟨w.heap.size, 0, none⟩)) (World.setCell (World.setCell (World.setCell (World.setCell (World.setCell (World.setCell (World.setCell (World.setCell w4 ⟨w.heap.size, 0, none⟩ (.int .u32 (S2.a : Int))) ⟨w.heap.size, 1, none⟩ (.int .u32 (S2.b : Int))) ⟨w.heap.size, 2, none⟩ (.int .u32 (S2.c : Int))) ⟨w.heap.size, 3, none⟩ (.int .u32 (S2.d : Int))) ⟨w.heap.size, 4, none⟩ (.int .u32 (S2.e : Int))) ⟨w.heap.size, 5, none⟩ (.int .u32 (S2.f : Int))) ⟨w.heap.size, 6, none⟩ (.int .u32 (S2.g : Int))) ⟨w.heap.size, 7, none⟩ (.int .u32 (S2.h : Int))) :=
  ⟨w.heap.size, rfl, Nat.le_refl _, set8 (s := zeroS) (hz.next hb) S2, set8_below (Below_next hB hb) (Nat.le_refl _) S2⟩
theorem sumMid_c {S2 : S8} {w w3 w4 : World} (hB : Below w.heap.size w w3) (hb : Below (w3.alloc (.cells #[.int .u32 0, .int .u32 0, .int .u32 0, .int .u32 0, .int .u32 0, .int .u32 0, .int .u32 0, .int .u32 0] 45)).heap.size (w3.alloc (.cells #[.int .u32 0, .int .u32 0, .int .u32 0, .int .u32 0, .int .u32 0, .int .u32 0, .int .u32 0, .int .u32 0] 45)) w4) : SumMid S2 w (.pointer (some ⟨w3.heap.size, 0, none⟩)) (World.setCell (World.setCell (World.setCell (World.setCell (World.setCell (World.setCell (World.setCell (World.setCell w4 ⟨w3.heap.size, 0, none⟩ (.int .u32 (S2.a : Int))) ⟨w3.heap.size, 1, none⟩ (.int .u32 (S2.b : Int))) ⟨w3.heap.size, 2, none⟩ (.int .u32 (S2.c : Int))) ⟨w3.heap.size, 3, none⟩ (.int .u32 (S2.d : Int))) ⟨w3.heap.size, 4, none⟩ (.int .u32 (S2.e : Int))) ⟨w3.heap.size, 5, none⟩ (.int .u32 (S2.f : Int))) ⟨w3.heap.size, 6, none⟩ (.int .u32 (S2.g : Int))) ⟨w3.heap.size, 7, none⟩ (.int .u32 (S2.h : Int))) := by
  have h1 := hB.size
  exact ⟨w3.heap.size, rfl, h1, set8 (s := zeroS) ((Arr.new w3 _ _).next hb) S2, set8_below (Below_next (hB.alloc h1 _) hb) h1 S2⟩
theorem sum_below {w w3 : World} (hb : Below (World.drew (w.alloc (.cells #[.int .u32 0, .int .u32 0, .int .u32 0, .int .u32 0, .int .u32 0, .int .u32 0, .int .u32 0, .int .u32 0] 45))).heap.size (World.drew (w.alloc (.cells #[.int .u32 0, .int .u32 0, .int .u32 0, .int .u32 0, .int .u32 0, .int .u32 0, .int .u32 0, .int .u32 0] 45))) w3) : Below w.heap.size w w3 :=
  (((Below.refl w.heap.size w).alloc (Nat.le_refl _) (.cells #[.int .u32 0, .int .u32 0, .int .u32 0, .int .u32 0, .int .u32 0, .int .u32 0, .int .u32 0, .int .u32 0] 45)).drew).trans (hb.mono (by show w.heap.size ≤ (w.heap.push _).size; simp))
theorem cat_run (s t : ByteArray) (h : s.size + t.size ≤ 9223372036854775807) (w : World) : (Op.stringOp .add s t).run Tryd.prog w = .ok (.string (s ++ t)) w := by
  simp [Op.stringOp]
  omega
theorem outN_len (s : S8) (k : Nat) : (outN s k).length = 4 * k := by
  induction k with
  | zero => rfl
  | succ k ih => rw [outN, List.length_append, ih, List.length_reverse, lowL_len]; omega
theorem outN_full (s : S8) : outN s 8 = outL s := rfl
theorem outN_succ (s : S8) (k : Nat) (X : ByteArray) (hX : X = ⟨(lowL (s.nth k) (toldN 4)).reverse.toArray⟩) : outN s (k + 1) = outN s k ++ X.data.toList := by subst hX; rfl
theorem nth_lt {s : S8} (h : s.ok) (k : Nat) : s.nth k < 4294967296 := by
  obtain ⟨ha, hb, hc, hd, he, hf, hg, hh⟩ := h
  unfold S8.nth
  split <;> first | assumption | decide
theorem index_st (s : S8) (k : Nat) (h : k < 8) (w : World) : (Instr.index 45 (.agg s.cells) (.int .i64 (k : Int))).run Tryd.prog w = .ok (.int .u32 ((s.nth k : Nat) : Int)) w := by
  match k, h with
  | 0, _ => rfl
  | 1, _ => rfl
  | 2, _ => rfl
  | 3, _ => rfl
  | 4, _ => rfl
  | 5, _ => rfl
  | 6, _ => rfl
  | 7, _ => rfl
theorem u64_of_u32 (x : Nat) (h : x < 4294967296) : IntKind.u64.wrap (x : Int) = (x : Int) := by rw [IntKind.wrap_u64]; omega
theorem padL_size (n : Nat) : (ByteArray.mk (padL n).toArray).size ≤ 128 := by
  show (padL n).toArray.size ≤ 128
  have := padL_len n; have := padZ_lt n
  simp only [List.size_toArray]; omega
/-- The state behind a text's blocks and its padding's. -/
theorem sum_state (l : List UInt8) (n r : Nat) (p : List UInt8) (st : S8) (hn : n = l.length) (hr : r = l.length % 64) (hpl : p.take (l.length % 64) = l.drop (64 * (l.length / 64))) (hp : p.length = 64) (hst : st = mixN firstS l (l.length / 64)) :
    mixN st (p.take r ++ padL n) ((ByteArray.mk (p.take r ++ padL n).toArray).size / 64) = mixN firstS (l ++ padL l.length) ((l ++ padL l.length).length / 64) ∧ True := by
  refine ⟨?_, trivial⟩
  subst hn hr hst
  have hs : (ByteArray.mk (p.take (l.length % 64) ++ padL l.length).toArray).size = l.length % 64 + (padL l.length).length := by
    show (p.take (l.length % 64) ++ padL l.length).toArray.size = _
    simp only [List.size_toArray, List.length_append, List.length_take]; omega
  have e : (l ++ padL l.length).length / 64 = l.length / 64 + (l.length % 64 + (padL l.length).length) / 64 := by rw [List.length_append]; omega
  rw [hs, e, mixN_add, mixN_append firstS l (padL l.length) (l.length / 64) (by omega), List.drop_append_of_le_length (by omega), hpl]

set_option maxHeartbeats 4000000 in
set_option maxRecDepth 100000 in
theorem hsum_any (g : Nat) (l : List UInt8) (w : World) (h : HashOf w g l) (hl : l.length ≤ 1099511627776) (htab : Tab w) :
    Calls Tryd.prog 43 #[.pointer (some ⟨g, 0, none⟩)] w fun e w' => e = .returned (.string ⟨(shaL l).toArray⟩) ∧ Below w.heap.size w w' := by
  have HBg := Lib.hid (fun w h => begun_any g l w h)
  obtain ⟨p, hp, hpl, ha⟩ := h
  have hHash : HashOf w g l := ⟨p, hp, hpl, ha⟩
  have HH0 := Lib.hid (show HashOf w.drew g l from ⟨p, hp, hpl, ha.drew⟩)
  have HH1 := Lib.hid (show HashOf (World.drew (w.alloc (.cells #[.int .u32 0, .int .u32 0, .int .u32 0, .int .u32 0, .int .u32 0, .int .u32 0, .int .u32 0, .int .u32 0] 45))) g l from ⟨p, hp, hpl, (ha.alloc _).drew⟩)
  have hok := mixN_ok firstS_ok l (l.length / 64)
  obtain ⟨st, hst⟩ : ∃ st, st = mixN firstS l (l.length / 64) := ⟨_, rfl⟩
  rw [← hst] at ha hok
  obtain ⟨n, hn⟩ : ∃ n, n = l.length := ⟨_, rfl⟩
  rw [← hn] at ha
  obtain ⟨r, hr⟩ : ∃ r, r = l.length % 64 := ⟨_, rfl⟩
  rw [← hr] at HBg
  have hr64 : r < 64 := by omega
  have hA0 := Lib.hid ha.drew
  have hsl := arr64_to g 8 r (by omega)
  have hall0 := mixAll_any st hok ⟨(p.take r ++ padL n).toArray⟩ (by
    show (p.take r ++ padL n).toArray.size ≤ _
    have := padL_len n; have := padZ_lt n
    simp only [List.size_toArray, List.length_append, List.length_take]; omega)
  have hpz := padL_size n
  obtain ⟨PD, hPD⟩ : ∃ PD : ByteArray, PD = ⟨(padL n).toArray⟩ := ⟨_, rfl⟩
  rw [← hPD] at hpz
  have HPad := Lib.hid (pad_any n (by omega))
  rw [← hPD] at HPad
  have hcat : (⟨(p.take r ++ padL n).toArray⟩ : ByteArray) = ⟨(p.take r).toArray⟩ ++ PD := by rw [hPD]; apply ByteArray.ext; simp
  have hsum := sum_state l n r p st hn hr hpl hp hst
  rw [hsum.1] at hall0
  obtain ⟨S2, hS2⟩ : ∃ S2, S2 = mixN firstS (l ++ padL l.length) ((l ++ padL l.length).length / 64) := ⟨_, rfl⟩
  rw [← hS2, hcat] at hall0
  obtain ⟨RS, hRS⟩ : ∃ RS : ByteArray, RS = (ByteArray.mk (p.take r).toArray ++ PD).extract (64 * ((ByteArray.mk (p.take r).toArray ++ PD).size / 64)) (ByteArray.mk (p.take r).toArray ++ PD).size := ⟨_, rfl⟩
  rw [← hRS] at hall0
  have hps : (ByteArray.mk (p.take r).toArray).size ≤ 64 := by show (p.take r).toArray.size ≤ 64; simp only [List.size_toArray, List.length_take]; omega
  obtain ⟨PT, hPT⟩ : ∃ PT : ByteArray, PT = ⟨(p.take r).toArray⟩ := ⟨_, rfl⟩
  rw [← hPT] at hps hall0 hRS
  have HPT := Lib.hid hPT
  have HALL : Hid (∀ w : World, Tab w → Calls Tryd.prog 59 #[.agg #[.int .u32 (st.a : Int), .int .u32 (st.b : Int), .int .u32 (st.c : Int), .int .u32 (st.d : Int), .int .u32 (st.e : Int), .int .u32 (st.f : Int), .int .u32 (st.g : Int), .int .u32 (st.h : Int)], .string (PT ++ PD)] w fun e w' => e = .returned (.tuple #[.agg #[.int .u32 (S2.a : Int), .int .u32 (S2.b : Int), .int .u32 (S2.c : Int), .int .u32 (S2.d : Int), .int .u32 (S2.e : Int), .int .u32 (S2.f : Int), .int .u32 (S2.g : Int), .int .u32 (S2.h : Int)], .string RS]) ∧ Below w.heap.size w w') := hall0
  have hrun : ∀ w : World, (Op.stringOp .add PT PD).run Tryd.prog w = .ok (.string (PT ++ PD)) w := fun w => cat_run PT PD (by omega) w
  have HT0 := Lib.hid htab.drew
  have HT1 := Lib.hid ((htab.alloc (.cells #[.int .u32 0, .int .u32 0, .int .u32 0, .int .u32 0, .int .u32 0, .int .u32 0, .int .u32 0, .int .u32 0] 45)).drew)
  have HS2 := Lib.hid hS2
  have HW := Lib.hid (ha.lt)
  clear hall0 hcat hsum hS2 hRS hPD htab hst hn hPT
  have HP := Lib.hid hp
  have HR := Lib.hid hr
  clear hr hp hpl hHash
  go_enter Tryd.func43, Tryd.ntmps43
  go_wp2
  go_cut [3] (fun s3 wx => SumMid S2 w s3 wx)
  case first =>
    go_region_held3 (fun w' => w'.cell? ⟨g, 0, none⟩ = some (.int .u32 (st.a : Int)) ∧ w'.cell? ⟨g, 1, none⟩ = some (.int .u32 (st.b : Int)) ∧ w'.cell? ⟨g, 2, none⟩ = some (.int .u32 (st.c : Int)) ∧ w'.cell? ⟨g, 3, none⟩ = some (.int .u32 (st.d : Int)) ∧ w'.cell? ⟨g, 4, none⟩ = some (.int .u32 (st.e : Int)) ∧ w'.cell? ⟨g, 5, none⟩ = some (.int .u32 (st.f : Int)) ∧ w'.cell? ⟨g, 6, none⟩ = some (.int .u32 (st.g : Int)) ∧ w'.cell? ⟨g, 7, none⟩ = some (.int .u32 (st.h : Int)) ∧ w'.cell? ⟨g, 72, none⟩ = some (.int .u64 (n : Int)) ∧ (convert 38 9 (.slice (some ⟨g, 8, none⟩) r 64)).run Tryd.prog w' = .ok (.string PT) w')
      (first | with_reducible exact held_of hA0.out HP.out r hr64 PT HPT.out | with_reducible exact held_of (hA0.out.alloc (.cells #[.int .u32 0, .int .u32 0, .int .u32 0, .int .u32 0, .int .u32 0, .int .u32 0, .int .u32 0, .int .u32 0] 45)) HP.out r hr64 PT HPT.out | with_reducible exact held_of ((ha.alloc (.cells #[.int .u32 0, .int .u32 0, .int .u32 0, .int .u32 0, .int .u32 0, .int .u32 0, .int .u32 0, .int .u32 0] 45)).drew) HP.out r hr64 PT HPT.out | with_reducible exact held_of hA3 HP.out r hr64 PT HPT.out | with_reducible exact held_of (hA3.alloc (.cells #[.int .u32 0, .int .u32 0, .int .u32 0, .int .u32 0, .int .u32 0, .int .u32 0, .int .u32 0, .int .u32 0] 45)) HP.out r hr64 PT HPT.out | with_reducible exact held_of (hA3.next hb4) HP.out r hr64 PT HPT.out | with_reducible exact held_of ((hA3.alloc (.cells #[.int .u32 0, .int .u32 0, .int .u32 0, .int .u32 0, .int .u32 0, .int .u32 0, .int .u32 0, .int .u32 0] 45)).next hb4) HP.out r hr64 PT HPT.out | with_reducible exact held_of ((hA3.next hb4).alloc _) HP.out r hr64 PT HPT.out | with_reducible exact held_of (set8_other (hA3.next hb4) hgne S2) HP.out r hr64 PT HPT.out | with_reducible exact held_of (set8_other (hA3.next hb4) hgne3 S2) HP.out r hr64 PT HPT.out | with_reducible exact held_of (set8_other ((hA3.alloc (.cells #[.int .u32 0, .int .u32 0, .int .u32 0, .int .u32 0, .int .u32 0, .int .u32 0, .int .u32 0, .int .u32 0] 45)).next hb4) hgne3 S2) HP.out r hr64 PT HPT.out)
      (first
        | (go_at_call 58; (with_reducible refine (HBg.out _ HH0.out).mono ?_); rintro e w' ⟨rfl, rfl⟩)
        | (go_at_call 58; (with_reducible refine (HBg.out _ HH1.out).mono ?_); rintro e w' ⟨rfl, rfl⟩)
        | (go_at_call 31; (with_reducible refine (HPad.out (World.drew w)).mono ?_); rintro e w3 ⟨rfl, hb⟩; have hA3 := hA0.out.next hb; have hT3 := HT0.out.next hb; have hB3 : Below w.heap.size w w3 := (Below.drew (Below.refl w.heap.size w)).trans hb)
        | (go_at_call 31; (with_reducible refine (HPad.out (World.drew (w.alloc (.cells #[.int .u32 0, .int .u32 0, .int .u32 0, .int .u32 0, .int .u32 0, .int .u32 0, .int .u32 0, .int .u32 0] 45)))).mono ?_); rintro e w3 ⟨rfl, hb⟩; have hz3 := zeros_next hb; have hgne : g ≠ w.heap.size := (by have := HW.out; omega); have hA3 := (Arr.alloc hA0.out (.cells #[.int .u32 0, .int .u32 0, .int .u32 0, .int .u32 0, .int .u32 0, .int .u32 0, .int .u32 0, .int .u32 0] 45)).next hb; have hT3 := HT1.out.next hb; have hB3 : Below w.heap.size w w3 := sum_below hb)
        | (go_at_call 59; (with_reducible refine (HALL.out w3 hT3).mono ?_); rintro e w4 ⟨rfl, hb4⟩; have hz4 := hz3.next hb4; have n0 : w4.cell? ⟨w.heap.size, 0, none⟩ = some (.int .u32 0) := hz4.cell (j := 0) rfl; have n1 : w4.cell? ⟨w.heap.size, 1, none⟩ = some (.int .u32 0) := hz4.cell (j := 1) rfl; have n2 : w4.cell? ⟨w.heap.size, 2, none⟩ = some (.int .u32 0) := hz4.cell (j := 2) rfl; have n3 : w4.cell? ⟨w.heap.size, 3, none⟩ = some (.int .u32 0) := hz4.cell (j := 3) rfl; have n4 : w4.cell? ⟨w.heap.size, 4, none⟩ = some (.int .u32 0) := hz4.cell (j := 4) rfl; have n5 : w4.cell? ⟨w.heap.size, 5, none⟩ = some (.int .u32 0) := hz4.cell (j := 5) rfl; have n6 : w4.cell? ⟨w.heap.size, 6, none⟩ = some (.int .u32 0) := hz4.cell (j := 6) rfl; have n7 : w4.cell? ⟨w.heap.size, 7, none⟩ = some (.int .u32 0) := hz4.cell (j := 7) rfl; have nf := hz4.frozen)
        | (go_at_call 59; (with_reducible refine (HALL.out w3 hT3).mono ?_); rintro e w4 ⟨rfl, hb4⟩)
        | (go_at_call 59; (with_reducible refine (HALL.out (w3.alloc (.cells #[.int .u32 0, .int .u32 0, .int .u32 0, .int .u32 0, .int .u32 0, .int .u32 0, .int .u32 0, .int .u32 0] 45)) (hT3.alloc _)).mono ?_); rintro e w4 ⟨rfl, hb4⟩; have hz4 := (Arr.new w3 _ _).next hb4; have hgne3 : g ≠ w3.heap.size := (by have := hA3.lt; omega); have n0 : w4.cell? ⟨w3.heap.size, 0, none⟩ = some (.int .u32 0) := hz4.cell (j := 0) rfl; have n1 : w4.cell? ⟨w3.heap.size, 1, none⟩ = some (.int .u32 0) := hz4.cell (j := 1) rfl; have n2 : w4.cell? ⟨w3.heap.size, 2, none⟩ = some (.int .u32 0) := hz4.cell (j := 2) rfl; have n3 : w4.cell? ⟨w3.heap.size, 3, none⟩ = some (.int .u32 0) := hz4.cell (j := 3) rfl; have n4 : w4.cell? ⟨w3.heap.size, 4, none⟩ = some (.int .u32 0) := hz4.cell (j := 4) rfl; have n5 : w4.cell? ⟨w3.heap.size, 5, none⟩ = some (.int .u32 0) := hz4.cell (j := 5) rfl; have n6 : w4.cell? ⟨w3.heap.size, 6, none⟩ = some (.int .u32 0) := hz4.cell (j := 6) rfl; have n7 : w4.cell? ⟨w3.heap.size, 7, none⟩ = some (.int .u32 0) := hz4.cell (j := 7) rfl; have nf := hz4.frozen))
    all_goals
      go_wp2_with fail
      go_meet
      first
        | with_reducible exact sumMid_a hB3 hb4
        | with_reducible exact sumMid_b hB3 hz3 hb4
        | with_reducible exact sumMid_c hB3 hb4
  case rest =>
    obtain ⟨gs, rfl, hgB, hgs, hgb⟩ := hcut
    clear HBg HH0 HH1 hA0 HP HR HPad HALL HPT HT0 HT1 HW hsl hrun
    have HG := Lib.hid (hgs.alloc (.cells #[.pointer none, .slice none 0 0] 63))
    have hbl := Bld.new wc w.heap.size hgb.size
    have hbb := hgb.alloc hgb.size (.cells #[.pointer none, .slice none 0 0] 63)
    have HO := Lib.hid (show shaL l = outL S2 by rw [HS2.out]; rfl)
    have hS2ok : S2.ok := by rw [HS2.out]; exact mixN_ok firstS_ok _ _
    have HOK := Lib.hid hS2ok
    clear hgs hgb hS2ok
    go_wp2_with (with_reducible refine wpList_load8 rfl _ rfl gs rfl _ (cells_size S2) HG.out ?_)
    clear HG
    have HB0 := Lib.hid (And.intro hbl hbb)
    clear hbl hbb
    generalize wc.heap.size = b at *
    go_loopw [30] (fun i wr => ∃ k : Nat, k ≤ 8 ∧ i = .int .i64 k ∧ Bld wr w.heap.size b (outN S2 k) ∧ Below w.heap.size w wr) (fun i _ => 8 - (intOf i).toNat)
    case atStart => exact ⟨0, by omega, rfl, HB0.out.1, HB0.out.2⟩
    case round =>
      clear HB0
      obtain ⟨k, hk, rfl, hbl, hbel⟩ := hrel
      by_cases hlt : k < 8
      · have hix := fun w => index_st S2 k hlt w
        have hx := nth_lt HOK.out k
        have hhi := high_any (S2.nth k) (by omega) 4
        obtain ⟨X, hX⟩ : ∃ X : ByteArray, X = ⟨(lowL (S2.nth k) (toldN 4)).reverse.toArray⟩ := ⟨_, rfl⟩
        rw [← hX, ← u64_of_u32 _ hx] at hhi
        have HHI := Lib.hid hhi
        have hX4 := highB_size _ _ X hX
        rw [show toldN 4 = 4 from rfl] at hX4
        have HN := Lib.hid (outN_succ S2 k X hX)
        have HL := Lib.hid (outN_len S2 k)
        have HX4 := Lib.hid hX4
        have HX := Lib.hid hx
        clear hhi hX hX4 hx
        generalize S2.nth k = x at *
        go_wp2_with (first
          | (go_at_call 38; (with_reducible refine (HHI.out _).mono ?_); rintro e w5 ⟨rfl, hb⟩; have hbl5 := hbl.next hb; have hbel5 := Below_next hbel hb)
          | (go_at_call 39; (with_reducible refine (writeString_any w.heap.size b (outN S2 k) X _ hbl5 (by rw [HL.out, HX4.out]; omega) hbel5.size).mono ?_); rintro e w6 ⟨rfl, hbl6, hb6⟩))
        go_roundw
        case rel => exact ⟨k + 1, by omega, by go_num, by rw [HN.out]; exact hbl6, hbel5.trans hb6⟩
        case measure => simp [intOf]; omega
      · obtain rfl : k = 8 := by omega
        have HBel := Lib.hid hbel
        go_wp2_with (go_at_call 40; (with_reducible refine (bldString_any w.heap.size b (outN S2 8) _ hbl HBel.out.size).mono ?_); rintro e w6 ⟨rfl, hb6⟩)
        go_ret
        refine ⟨?_, HBel.out.trans hb6⟩
        rw [HO.out, outN_full]
        rfl
end Go.Proofs.YtmedlgnllgldiaaDoor
