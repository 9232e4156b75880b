/- poly: the contract of a Poly's Tag. -/
import Derived.Test.YtjbhmdlgokoepaaDoorPmL
import Derived.Deep.DeepCutAuto
namespace Go.Proofs.YtjbhmdlgokoepaaDoor
open Go.RowKit

/-- What the tag's last steps read: the sum, a Poly; and all else is as it was. -/
structure TagS (w : World) (g gs : Nat) (C : Array Value) (B : List Nat) (w' : World) : Prop where
  b : Arr w' gs (row5 B) 50
  o : Arr w' g C 53
  bel : Below w.heap.size w w'
theorem TagS.next {w w' w'' : World} {g gs : Nat} {C : Array Value} {B : List Nat} (h : TagS w g gs C B w') (hb : Below w'.heap.size w' w'') : TagS w g gs C B w'' := ⟨h.b.next hb, h.o.next hb, h.bel.trans (hb.mono h.bel.size)⟩
theorem TagS.alloc {w w' : World} {g gs : Nat} {C : Array Value} {B : List Nat} (h : TagS w g gs C B w') (o : Obj) : TagS w g gs C B (w'.alloc o) := ⟨h.b.alloc _, h.o.alloc _, h.bel.alloc h.bel.size _⟩
theorem TagS.drew {w w' : World} {g gs : Nat} {C : Array Value} {B : List Nat} (h : TagS w g gs C B w') : TagS w g gs C B w'.drew := ⟨h.b.drew, h.o.drew, h.bel.drew⟩
/-- The cells' part of it alone, behind a store elsewhere. -/
structure TagC (g gs : Nat) (C : Array Value) (B : List Nat) (w' : World) : Prop where
  b : Arr w' gs (row5 B) 50
  o : Arr w' g C 53
theorem TagS.toC {w w' : World} {g gs : Nat} {C : Array Value} {B : List Nat} (h : TagS w g gs C B w') : TagC g gs C B w' := ⟨h.b, h.o⟩
theorem TagC.set {w' : World} {g gs gt : Nat} {C : Array Value} {B : List Nat} (h1 : g ≠ gt) (h2 : gs ≠ gt) (h : TagC g gs C B w') (i : Nat) (v : Value) : TagC g gs C B (w'.setCell ⟨gt, i, none⟩ v) := ⟨h.b.other _ _ h2, h.o.other _ _ h1⟩
theorem TagS.sets {w w' : World} {g gs gt : Nat} {C : Array Value} {B : List Nat} (h : TagS w g gs C B w') (h1 : g ≠ gt) (h2 : gs ≠ gt) (v0 v1 v2 v3 v4 : Nat) : TagC g gs C B (World.setCell (World.setCell (World.setCell (World.setCell (World.setCell w' ⟨gt, 0, none⟩ (.int .u64 (v0 : Int))) ⟨gt, 1, none⟩ (.int .u64 (v1 : Int))) ⟨gt, 2, none⟩ (.int .u64 (v2 : Int))) ⟨gt, 3, none⟩ (.int .u64 (v3 : Int))) ⟨gt, 4, none⟩ (.int .u64 (v4 : Int))) := ⟨five5_other h.b h2 v0 v1 v2 v3 v4, five5_other h.o h1 v0 v1 v2 v3 v4⟩
theorem tag_cells {w' : World} {g gs n : Nat} {b0 b1 b2 b3 b4 s0 s1 s2 s3 s4 : Nat} {R A : List Nat} {p : List UInt8} (hp : Pok R [s0, s1, s2, s3, s4] A p) (h : TagC g gs (pcells R [s0, s1, s2, s3, s4] A p n) [b0, b1, b2, b3, b4] w') :
    w'.cell? ⟨gs, 0, none⟩ = some (.int .u64 (b0 : Int)) ∧ w'.cell? ⟨gs, 1, none⟩ = some (.int .u64 (b1 : Int)) ∧ w'.cell? ⟨gs, 2, none⟩ = some (.int .u64 (b2 : Int)) ∧ w'.cell? ⟨gs, 3, none⟩ = some (.int .u64 (b3 : Int)) ∧ w'.cell? ⟨gs, 4, none⟩ = some (.int .u64 (b4 : Int)) ∧ w'.cell? ⟨g, 5, none⟩ = some (.int .u64 (s0 : Int)) ∧ w'.cell? ⟨g, 6, none⟩ = some (.int .u64 (s1 : Int)) ∧ w'.cell? ⟨g, 7, none⟩ = some (.int .u64 (s2 : Int)) ∧ w'.cell? ⟨g, 8, none⟩ = some (.int .u64 (s3 : Int)) ∧ w'.cell? ⟨g, 9, none⟩ = some (.int .u64 (s4 : Int)) :=
  ⟨h.b.at5 0 (by simp), h.b.at5 1 (by simp), h.b.at5 2 (by simp), h.b.at5 3 (by simp), h.b.at5 4 (by simp),
   h.o.cell (by rw [pcells_s n hp 0 (by decide)]; rfl), h.o.cell (by rw [pcells_s n hp 1 (by decide)]; rfl), h.o.cell (by rw [pcells_s n hp 2 (by decide)]; rfl), h.o.cell (by rw [pcells_s n hp 3 (by decide)]; rfl), h.o.cell (by rw [pcells_s n hp 4 (by decide)]; rfl)⟩
/-- The tag's number in memory. -/
structure TagE (w : World) (gt : Nat) (N : List Nat) (T : Nat) (wx : World) : Prop where
  len : N.length = 5
  lt : ∀ z ∈ N, z < 67108864
  num : numP N % 256 ^ 16 = T % 256 ^ 16
  arr : Arr wx gt (row5 N) 50
  bel : Below w.heap.size w wx
theorem tag_num {a T S y v D : Nat} (hB : a % PP = T) (hy : y = a % PP) (hv : v + TB * D = y + S) : v % 256 ^ 16 = (T + S) % 256 ^ 16 := by
  rw [← hB, ← hy, ← hv, TB_eq, Nat.mul_assoc, Nat.add_mul_mod_self_left]
theorem tagE_a {w w3 : World} {gt a T S y D : Nat} {S' : List Nat} {v0 v1 v2 v3 v4 : Nat} (hz : Arr w3 gt zero5 50) (hb : Below w.heap.size w w3) (hg : w.heap.size ≤ gt) (hvb : ∀ z ∈ [v0, v1, v2, v3, v4], z < 67108864) (hB : a % PP = T) (hy : y = a % PP) (sn : numP S' = S) (hv : numP [v0, v1, v2, v3, v4] + TB * D = y + numP S') :
    TagE w gt [v0, v1, v2, v3, v4] (T + S) (World.setCell (World.setCell (World.setCell (World.setCell (World.setCell w3 ⟨gt, 0, none⟩ (.int .u64 (v0 : Int))) ⟨gt, 1, none⟩ (.int .u64 (v1 : Int))) ⟨gt, 2, none⟩ (.int .u64 (v2 : Int))) ⟨gt, 3, none⟩ (.int .u64 (v3 : Int))) ⟨gt, 4, none⟩ (.int .u64 (v4 : Int))) :=
  ⟨rfl, hvb, tag_num hB hy (sn ▸ hv), five5_arr hz, five5_below hb hg v0 v1 v2 v3 v4⟩
theorem tagE_d {w w3 : World} {a T S y D : Nat} {S' : List Nat} {v0 v1 v2 v3 v4 : Nat} (hb : Below w.heap.size w w3) (hvb : ∀ z ∈ [v0, v1, v2, v3, v4], z < 67108864) (hB : a % PP = T) (hy : y = a % PP) (sn : numP S' = S) (hv : numP [v0, v1, v2, v3, v4] + TB * D = y + numP S') :
    TagE w w3.heap.size [v0, v1, v2, v3, v4] (T + S) (w3.alloc (.cells #[.int .u64 (v0 : Int), .int .u64 (v1 : Int), .int .u64 (v2 : Int), .int .u64 (v3 : Int), .int .u64 (v4 : Int)] 50)) :=
  ⟨rfl, hvb, tag_num hB hy (sn ▸ hv), Arr.new w3 (row5 [v0, v1, v2, v3, v4]) _, hb.alloc hb.size _⟩
/-- A Poly's sum is loaded. -/
theorem wpList_load_sum {ops : Array Oper} {rest : List Oper} {o : Oper} {a : Act} {w : World} {Q : Exit → Act → World → Prop} (hgd : o.guard = none) (x : Operand) (ho : o.op = .load 50 x)
    (g : Nat) (hx : a.eval x = .pointer (some ⟨g, 10, none⟩)) {R S A : List Nat} {p : List UInt8} {n : Nat} (hp : Pok R S A p) (hg : Arr w g (pcells R S A p n) 53)
    (h : wpList Tryd.prog ops Q rest (a.put o.dst (.agg (row5 A))) w) : wpList Tryd.prog ops Q (o :: rest) a w := by
  refine wpList_load_mid hgd 50 x ho g 10 hx (u64s A) _ ?_ Tryd.underlying50 rfl (by rw [u64s_len, hp.a]; exact info_n5) h
  intro j v hv
  have hj : j < 5 := by have := (List.getElem?_eq_some_iff.1 hv).1; rwa [u64s_len, hp.a] at this
  exact hg.cell (by rw [pcells_a n hp j hj]; exact hv)
/-- What the block that isn't whole adds. -/
theorem part_held {w' : World} {g n : Nat} {R S A : List Nat} {p : List UInt8} {PT : ByteArray} (hp : Pok R S A p) (hn : n ≤ 16) (hPT : PT = ⟨(p.take n).toArray⟩) (h : Arr w' g (pcells R S A p n) 53) :
    w'.cell? ⟨g, 31, none⟩ = some (.int .i64 (n : Int)) ∧ (convert 33 9 (.slice (some ⟨g, 15, none⟩) n 16)).run Tryd.prog w' = .ok (.string PT) w' :=
  ⟨h.cell (pcells_n n hp), by rw [hPT]; exact part_cv h hp n hn⟩
theorem sum_arr {w3 : World} {gs : Nat} {A : List Nat} (hA : A.length = 5) {z0 z1 z2 z3 z4 : Nat} (h : Arr w3 gs (row5 A) 50) : Arr (World.setCell (World.setCell (World.setCell (World.setCell (World.setCell w3 ⟨gs, 0, none⟩ (.int .u64 (z0 : Int))) ⟨gs, 1, none⟩ (.int .u64 (z1 : Int))) ⟨gs, 2, none⟩ (.int .u64 (z2 : Int))) ⟨gs, 3, none⟩ (.int .u64 (z3 : Int))) ⟨gs, 4, none⟩ (.int .u64 (z4 : Int))) gs (row5 [z0, z1, z2, z3, z4]) 50 := by
  obtain ⟨a0, a1, a2, a3, a4, rfl⟩ := five A hA
  exact ((((h.set5 0 z0).set5 1 z1).set5 2 z2).set5 3 z3).set5 4 z4

theorem tag_ret {N : List Nat} {key l : List UInt8} (h : numP N % 256 ^ 16 = (accN (keyR key) l ((l.length + 15) / 16) + keyS key) % 256 ^ 16) : Ending.returned (.string ⟨(lowL (numP N) 16).toArray⟩) = .returned (.string ⟨(tagL key l).toArray⟩) := by
  rw [lowL_congr h, tagL]

set_option maxHeartbeats 4000000 in
set_option maxRecDepth 100000 in
theorem ptag_any (g : Nat) (key l : List UInt8) (hk : key.length = 32) (w : World) (h : PolyOf w g key l) :
    Calls Tryd.prog 17 #[.pointer (some ⟨g, 0, none⟩)] w fun e w' => e = .returned (.string ⟨(tagL key l).toArray⟩) ∧ Below w.heap.size w w' := by
  obtain ⟨A, p, hp, ha⟩ := h
  obtain ⟨n, hn⟩ : ∃ n, n = l.length % 16 := ⟨_, rfl⟩
  rw [← hn] at ha
  have hok := hp.ok
  have hA5 := row5_size hok.a
  have HAl := Lib.hid hok.a
  have HA1 := Lib.hid (row5_one A)
  obtain ⟨s0, s1, s2, s3, s4, hs5⟩ := five (partsP (keyS key) 5) (partsP_len _ _)
  have HSn := Lib.hid (partsP_of _ (keyS_lt key hk))
  have hSb := partsP_lt (keyS key) 5
  rw [hs5] at ha hok HSn hSb
  have HOk := Lib.hid hok
  have HPl : Hid (∀ y : List Nat, y.length = 5 → (∀ z ∈ y, z < 67108864) → ∀ w, Calls Tryd.prog 28 #[.agg (row5 y), .agg #[.int .u64 (s0 : Int), .int .u64 (s1 : Int), .int .u64 (s2 : Int), .int .u64 (s3 : Int), .int .u64 (s4 : Int)]] w fun e w' => e = .returned (.agg (row5 (sumP y [s0, s1, s2, s3, s4]))) ∧ Below w.heap.size w w') :=
    fun y h1 h2 w => plus5_any y [s0, s1, s2, s3, s4] h1 rfl (fun z hz => Nat.lt_trans (h2 z hz) (by decide)) (fun z hz => Nat.lt_trans (hSb z hz) (by decide)) w
  have HCa : Hid (∀ y : List Nat, y.length = 5 → (∀ z ∈ y, z < 67108864) → ∀ w, Calls Tryd.prog 27 #[.agg (row5 (sumP y [s0, s1, s2, s3, s4]))] w fun e w' => (∃ v0 v1 v2 v3 v4 D : Nat, e = .returned (.tuple #[.agg #[.int .u64 (v0 : Int), .int .u64 (v1 : Int), .int .u64 (v2 : Int), .int .u64 (v3 : Int), .int .u64 (v4 : Int)], .int .u64 (D : Int)]) ∧ (∀ z ∈ [v0, v1, v2, v3, v4], z < 67108864) ∧ numP [v0, v1, v2, v3, v4] + TB * D = numP y + numP [s0, s1, s2, s3, s4]) ∧ Below w.heap.size w w') := by
    intro y h1 h2 w
    refine (carried5_any (sumP y [s0, s1, s2, s3, s4]) (by rw [sumP_len _ _ h1, h1]) (fun z hz => Nat.lt_trans (sum_bound h1 rfl h2 hSb z hz) (by decide)) w).mono ?_
    rintro e w' ⟨⟨v, D, rfl, hv, hvb, _, hvn⟩, hb⟩
    obtain ⟨v0, v1, v2, v3, v4, rfl⟩ := five v hv
    rw [sumP_num _ _ h1] at hvn
    exact ⟨⟨v0, v1, v2, v3, v4, D, rfl, hvb, hvn⟩, hb⟩
  have HA := Lib.hid ha
  have hpt := hp.part
  have hlt := hp.lt
  have hnum := hp.num
  have HG := Lib.hid ha.lt
  by_cases h0 : 0 < n
  · have h0i : (0 : Int) < (n : Int) := by omega
    have hl1 : (l.length + 15) / 16 = l.length / 16 + 1 := by omega
    obtain ⟨PT, hPT⟩ : ∃ PT : ByteArray, PT = ⟨(p.take n).toArray⟩ := ⟨_, rfl⟩
    have hPl : PT.data.toList = partL l (l.length / 16) := by
      rw [hPT, hn, hpt, partL, List.take_of_length_le (by rw [List.length_drop]; omega)]
    have hPs : PT.size ≤ 16 := by rw [hPT]; show (p.take n).toArray.size ≤ 16; rw [List.size_toArray, List.length_take]; omega
    have HPT := Lib.hid hPT
    have hsl := arr16_to g 15 n (by omega) h0
    have hnx := fun w h => next_any g (partsP (keyR key) 5) [s0, s1, s2, s3, s4] A p n hok hlt (partsP_lt _ _) PT hPs w h
    have HNx : Hid (∀ w, Arr w g (pcells (partsP (keyR key) 5) [s0, s1, s2, s3, s4] A p n) 53 → Calls Tryd.prog 26 #[.pointer (some ⟨g, 0, none⟩), .string PT] w fun e w' => (∃ z0 z1 z2 z3 z4 : Nat, e = .returned (.agg #[.int .u64 (z0 : Int), .int .u64 (z1 : Int), .int .u64 (z2 : Int), .int .u64 (z3 : Int), .int .u64 (z4 : Int)]) ∧ (∀ v ∈ [z0, z1, z2, z3, z4], v < 67108864) ∧ numP [z0, z1, z2, z3, z4] % PP = accN (keyR key) l ((l.length + 15) / 16)) ∧ Below w.heap.size w w') := by
      intro w h
      refine (hnx w h).mono ?_
      rintro e w' ⟨⟨z, rfl, hz, hzb, hzn⟩, hb⟩
      obtain ⟨z0, z1, z2, z3, z4, rfl⟩ := five z hz
      refine ⟨⟨z0, z1, z2, z3, z4, rfl, hzb, ?_⟩, hb⟩
      rw [hl1]
      rw [← strSize PT] at hzn
      exact acc_step hnum (partsP_of _ (keyR_lt key)) hPl hzn
    have HN16 : Hid (n ≤ 16) := show n ≤ 16 by omega
    have hmi : (n : Int) ≤ 16 := by omega
    clear hp ha hok hs5 hSb hpt hlt hnum hPT hPl hPs hnx hn hl1 hk
    go_enter Tryd.func17, Tryd.ntmps17
    have HA0 := Lib.hid (HA.out.alloc (.cells (row5 A) 50))
    have c31 : (w.alloc (.cells (row5 A) 50)).cell? ⟨g, 31, none⟩ = some (.int .i64 (n : Int)) := HA0.out.cell (pcells_n n HOk.out)
    go_wp2_with (first
      | (with_reducible refine wpList_load_sum rfl _ rfl g rfl HOk.out HA.out ?_)
      | (with_reducible refine wpList_store_n5_new rfl _ _ rfl zero5 rfl _ rfl rfl _ rfl hA5 HA1.out ?_))
    have HS0 := Lib.hid (Arr.new w (row5 A) 50)
    have HB0 := Lib.hid ((Below.refl w.heap.size w).alloc (Nat.le_refl _) (.cells (row5 A) 50))
    obtain ⟨gs, hgs⟩ : ∃ gs, gs = w.heap.size := ⟨_, rfl⟩
    have HGs : Hid (g ≠ gs) := by rw [hgs]; exact Nat.ne_of_lt HG.out
    have HGl : Hid (w.heap.size ≤ gs) := by rw [hgs]; exact Nat.le_refl _
    rw [← hgs] at HS0 ⊢
    generalize w.alloc (.cells (row5 A) 50) = wa at *
    clear hgs c31
    go_region_held3 (fun w' => w'.cell? ⟨g, 31, none⟩ = some (.int .i64 (n : Int)) ∧ (convert 33 9 (.slice (some ⟨g, 15, none⟩) n 16)).run Tryd.prog w' = .ok (.string PT) w')
      (first
        | with_reducible exact part_held HOk.out HN16.out HPT.out HA0.out.drew
        | (guard_target =ₛ w3.cell? ⟨g, 31, none⟩ = some (.int .i64 (n : Int)) ∧ (convert 33 9 (.slice (some ⟨g, 15, none⟩) n 16)).run Tryd.prog w3 = .ok (.string PT) w3; with_reducible exact part_held HOk.out HN16.out HPT.out HA3.out)
        | with_reducible exact part_held HOk.out HN16.out HPT.out (five5_other HA3.out HGs.out z0 z1 z2 z3 z4))
      (first
        | (go_at_call 26; (with_reducible refine (HNx.out _ HA0.out.drew).mono ?_); rintro e w3 ⟨⟨z0, z1, z2, z3, z4, rfl, hzb, hzn⟩, hb3⟩; have HA3 := Lib.hid (HA0.out.drew.next hb3); have HS3 := Lib.hid (HS0.out.drew.next hb3); have n0 := HS3.out.at5 0 (by rw [HAl.out]; decide); have n1 := HS3.out.at5 1 (by rw [HAl.out]; decide); have n2 := HS3.out.at5 2 (by rw [HAl.out]; decide); have n3 := HS3.out.at5 3 (by rw [HAl.out]; decide); have n4 := HS3.out.at5 4 (by rw [HAl.out]; decide); have nf := HS3.out.frozen))
    have HW : Hid (Arr (World.setCell (World.setCell (World.setCell (World.setCell (World.setCell w3 ⟨gs, 0, none⟩ (.int .u64 (z0 : Int))) ⟨gs, 1, none⟩ (.int .u64 (z1 : Int))) ⟨gs, 2, none⟩ (.int .u64 (z2 : Int))) ⟨gs, 3, none⟩ (.int .u64 (z3 : Int))) ⟨gs, 4, none⟩ (.int .u64 (z4 : Int))) gs (row5 [z0, z1, z2, z3, z4]) 50 ∧ Arr (World.setCell (World.setCell (World.setCell (World.setCell (World.setCell w3 ⟨gs, 0, none⟩ (.int .u64 (z0 : Int))) ⟨gs, 1, none⟩ (.int .u64 (z1 : Int))) ⟨gs, 2, none⟩ (.int .u64 (z2 : Int))) ⟨gs, 3, none⟩ (.int .u64 (z3 : Int))) ⟨gs, 4, none⟩ (.int .u64 (z4 : Int))) g (pcells (partsP (keyR key) 5) [s0, s1, s2, s3, s4] A p n) 53) := ⟨sum_arr HAl.out HS3.out, five5_other HA3.out HGs.out z0 z1 z2 z3 z4⟩
    have HWb := Lib.hid (five5_below (HB0.out.drew.trans (hb3.mono HB0.out.size)) HGl.out z0 z1 z2 z3 z4)
    generalize World.setCell (World.setCell (World.setCell (World.setCell (World.setCell w3 ⟨gs, 0, none⟩ (.int .u64 (z0 : Int))) ⟨gs, 1, none⟩ (.int .u64 (z1 : Int))) ⟨gs, 2, none⟩ (.int .u64 (z2 : Int))) ⟨gs, 3, none⟩ (.int .u64 (z3 : Int))) ⟨gs, 4, none⟩ (.int .u64 (z4 : Int)) = W at *
    obtain ⟨B, hB⟩ : ∃ B, B = [z0, z1, z2, z3, z4] := ⟨_, rfl⟩
    have hBl : B.length = 5 := by rw [hB]; rfl
    rw [← hB] at hzb hzn HW
    have hBb := hzb
    have hBn := hzn
    clear hB hzb hzn HS0 HS3 HA3 HA0 hb3 HNx hsl n0 n1 n2 n3 n4 nf
    obtain ⟨b0, b1, b2, b3, b4, hB5⟩ := five B hBl
    subst hB5
    have HT0 : Hid (TagS w g gs (pcells (partsP (keyR key) 5) [s0, s1, s2, s3, s4] A p n) [b0, b1, b2, b3, b4] W) := ⟨HW.out.1, HW.out.2, HWb.out⟩
    have hle := least5_any [b0, b1, b2, b3, b4] rfl hBb
    have HLe : Hid (∀ w, Calls Tryd.prog 29 #[.agg #[.int .u64 (b0 : Int), .int .u64 (b1 : Int), .int .u64 (b2 : Int), .int .u64 (b3 : Int), .int .u64 (b4 : Int)]] w fun e w' => (∃ y, e = .returned (.agg (row5 y)) ∧ y.length = 5 ∧ (∀ z ∈ y, z < 67108864) ∧ numP y = numP [b0, b1, b2, b3, b4] % PP) ∧ Below w.heap.size w w') := hle
    have HBn := Lib.hid hBn
    clear hle hBb hBn HW HWb hBl
    go_wp2_with fail
    go_cut [4] (fun s4 wx => ∃ gt N, s4 = .pointer (some ⟨gt, 0, none⟩) ∧ TagE w gt N (accN (keyR key) l ((l.length + 15) / 16) + keyS key) wx)
    case first =>
      go_region_held3 (fun w' => w'.cell? ⟨gs, 0, none⟩ = some (.int .u64 (b0 : Int)) ∧ w'.cell? ⟨gs, 1, none⟩ = some (.int .u64 (b1 : Int)) ∧ w'.cell? ⟨gs, 2, none⟩ = some (.int .u64 (b2 : Int)) ∧ w'.cell? ⟨gs, 3, none⟩ = some (.int .u64 (b3 : Int)) ∧ w'.cell? ⟨gs, 4, none⟩ = some (.int .u64 (b4 : Int)) ∧ w'.cell? ⟨g, 5, none⟩ = some (.int .u64 (s0 : Int)) ∧ w'.cell? ⟨g, 6, none⟩ = some (.int .u64 (s1 : Int)) ∧ w'.cell? ⟨g, 7, none⟩ = some (.int .u64 (s2 : Int)) ∧ w'.cell? ⟨g, 8, none⟩ = some (.int .u64 (s3 : Int)) ∧ w'.cell? ⟨g, 9, none⟩ = some (.int .u64 (s4 : Int)))
        (first
          | (guard_target =ₛ w1.cell? ⟨gs, 0, none⟩ = some (.int .u64 (b0 : Int)) ∧ w1.cell? ⟨gs, 1, none⟩ = some (.int .u64 (b1 : Int)) ∧ w1.cell? ⟨gs, 2, none⟩ = some (.int .u64 (b2 : Int)) ∧ w1.cell? ⟨gs, 3, none⟩ = some (.int .u64 (b3 : Int)) ∧ w1.cell? ⟨gs, 4, none⟩ = some (.int .u64 (b4 : Int)) ∧ w1.cell? ⟨g, 5, none⟩ = some (.int .u64 (s0 : Int)) ∧ w1.cell? ⟨g, 6, none⟩ = some (.int .u64 (s1 : Int)) ∧ w1.cell? ⟨g, 7, none⟩ = some (.int .u64 (s2 : Int)) ∧ w1.cell? ⟨g, 8, none⟩ = some (.int .u64 (s3 : Int)) ∧ w1.cell? ⟨g, 9, none⟩ = some (.int .u64 (s4 : Int)); with_reducible exact tag_cells HOk.out HT1.out.toC)
          | (guard_target =ₛ w2.cell? ⟨gs, 0, none⟩ = some (.int .u64 (b0 : Int)) ∧ w2.cell? ⟨gs, 1, none⟩ = some (.int .u64 (b1 : Int)) ∧ w2.cell? ⟨gs, 2, none⟩ = some (.int .u64 (b2 : Int)) ∧ w2.cell? ⟨gs, 3, none⟩ = some (.int .u64 (b3 : Int)) ∧ w2.cell? ⟨gs, 4, none⟩ = some (.int .u64 (b4 : Int)) ∧ w2.cell? ⟨g, 5, none⟩ = some (.int .u64 (s0 : Int)) ∧ w2.cell? ⟨g, 6, none⟩ = some (.int .u64 (s1 : Int)) ∧ w2.cell? ⟨g, 7, none⟩ = some (.int .u64 (s2 : Int)) ∧ w2.cell? ⟨g, 8, none⟩ = some (.int .u64 (s3 : Int)) ∧ w2.cell? ⟨g, 9, none⟩ = some (.int .u64 (s4 : Int)); with_reducible exact tag_cells HOk.out HT2.out.toC)
          | (guard_target =ₛ w3.cell? ⟨gs, 0, none⟩ = some (.int .u64 (b0 : Int)) ∧ w3.cell? ⟨gs, 1, none⟩ = some (.int .u64 (b1 : Int)) ∧ w3.cell? ⟨gs, 2, none⟩ = some (.int .u64 (b2 : Int)) ∧ w3.cell? ⟨gs, 3, none⟩ = some (.int .u64 (b3 : Int)) ∧ w3.cell? ⟨gs, 4, none⟩ = some (.int .u64 (b4 : Int)) ∧ w3.cell? ⟨g, 5, none⟩ = some (.int .u64 (s0 : Int)) ∧ w3.cell? ⟨g, 6, none⟩ = some (.int .u64 (s1 : Int)) ∧ w3.cell? ⟨g, 7, none⟩ = some (.int .u64 (s2 : Int)) ∧ w3.cell? ⟨g, 8, none⟩ = some (.int .u64 (s3 : Int)) ∧ w3.cell? ⟨g, 9, none⟩ = some (.int .u64 (s4 : Int)); with_reducible exact tag_cells HOk.out HT3.out.toC)
          | (have hh1 := hg1; have hh3 := HT3; with_reducible exact tag_cells HOk.out (HT3.out.sets hg1 hg2 v0 v1 v2 v3 v4))
          | with_reducible exact tag_cells HOk.out HT0.out.drew.toC
          | with_reducible exact tag_cells HOk.out (HT0.out.alloc (.cells zero5 50)).drew.toC
          | with_reducible exact tag_cells HOk.out (HT1.out.alloc (.cells zero5 50)).toC
          | with_reducible exact tag_cells HOk.out (HT2.out.alloc (.cells zero5 50)).toC
          | with_reducible exact tag_cells HOk.out (HT3.out.alloc (.cells zero5 50)).toC
          | with_reducible exact tag_cells HOk.out (HT3.out.alloc (.cells #[.int .u64 (v0 : Int), .int .u64 (v1 : Int), .int .u64 (v2 : Int), .int .u64 (v3 : Int), .int .u64 (v4 : Int)] 50)).toC)
        (first
          | (go_at_call 29; (with_reducible refine (HLe.out (World.drew (W.alloc (.cells zero5 50)))).mono ?_); rintro e w1 ⟨⟨y, rfl, hy5, hyb, hyn⟩, hb1⟩; have HT1 := Lib.hid ((HT0.out.alloc (.cells zero5 50)).drew.next hb1); have hz1 := ((Arr.new W zero5 50).drew).next hb1; have hgl := HT0.out.bel.size; have hg1 := Nat.ne_of_lt HT0.out.o.lt; have hg2 := Nat.ne_of_lt HT0.out.b.lt)
          | (go_at_call 29; (with_reducible refine (HLe.out (World.drew W)).mono ?_); rintro e w1 ⟨⟨y, rfl, hy5, hyb, hyn⟩, hb1⟩; have HT1 := Lib.hid (HT0.out.drew.next hb1))
          | (have hzz := hz1; go_at_call 28; (with_reducible refine (HPl.out y hy5 hyb w1).mono ?_); rintro e w2 ⟨rfl, hb2⟩; have HT2 := Lib.hid (HT1.out.next hb2); have hz2 := hzz.next hb2)
          | (go_at_call 28; (with_reducible refine (HPl.out y hy5 hyb (w1.alloc (.cells zero5 50))).mono ?_); rintro e w2 ⟨rfl, hb2⟩; have HT2 := Lib.hid ((HT1.out.alloc (.cells zero5 50)).next hb2); have hz2 := (Arr.new w1 zero5 50).next hb2; have hgl := HT1.out.bel.size; have hg1 := Nat.ne_of_lt HT1.out.o.lt; have hg2 := Nat.ne_of_lt HT1.out.b.lt)
          | (go_at_call 28; (with_reducible refine (HPl.out y hy5 hyb w1).mono ?_); rintro e w2 ⟨rfl, hb2⟩; have HT2 := Lib.hid (HT1.out.next hb2))
          | (have hzz := hz2; go_at_call 27; (with_reducible refine (HCa.out y hy5 hyb w2).mono ?_); rintro e w3 ⟨⟨v0, v1, v2, v3, v4, D, rfl, hvb, hvn⟩, hb3⟩; have HT3 := Lib.hid (HT2.out.next hb3); have hz3 := hzz.next hb3; have n0 := hz3.cell (j := 0) (v := .int .u64 0) rfl; have n1 := hz3.cell (j := 1) (v := .int .u64 0) rfl; have n2 := hz3.cell (j := 2) (v := .int .u64 0) rfl; have n3 := hz3.cell (j := 3) (v := .int .u64 0) rfl; have n4 := hz3.cell (j := 4) (v := .int .u64 0) rfl; have nf := hz3.frozen)
          | (go_at_call 27; (with_reducible refine (HCa.out y hy5 hyb (w2.alloc (.cells zero5 50))).mono ?_); rintro e w3 ⟨⟨v0, v1, v2, v3, v4, D, rfl, hvb, hvn⟩, hb3⟩; have HT3 := Lib.hid ((HT2.out.alloc (.cells zero5 50)).next hb3); have hz3 := (Arr.new w2 zero5 50).next hb3; have hgl := HT2.out.bel.size; have hg1 := Nat.ne_of_lt HT2.out.o.lt; have hg2 := Nat.ne_of_lt HT2.out.b.lt; have n0 := hz3.cell (j := 0) (v := .int .u64 0) rfl; have n1 := hz3.cell (j := 1) (v := .int .u64 0) rfl; have n2 := hz3.cell (j := 2) (v := .int .u64 0) rfl; have n3 := hz3.cell (j := 3) (v := .int .u64 0) rfl; have n4 := hz3.cell (j := 4) (v := .int .u64 0) rfl; have nf := hz3.frozen)
          | (go_at_call 27; (with_reducible refine (HCa.out y hy5 hyb w2).mono ?_); rintro e w3 ⟨⟨v0, v1, v2, v3, v4, D, rfl, hvb, hvn⟩, hb3⟩; have HT3 := Lib.hid (HT2.out.next hb3)))
      all_goals
        go_wp2_with fail
        go_meet
        first
          | exact ⟨_, _, rfl, tagE_a hz3 HT3.out.bel hgl hvb HBn.out hyn HSn.out hvn⟩
          | exact ⟨_, _, rfl, tagE_d HT3.out.bel hvb HBn.out hyn HSn.out hvn⟩
    case rest =>
      obtain ⟨gt, N, rfl, hE⟩ := hcut
      have hN5 := row5_size hE.len
      have HTo := Lib.hid (fun w => told5_any N hE.len hE.lt w)
      have HAr := Lib.hid hE.arr
      have HBe := Lib.hid hE.bel
      have HNu := Lib.hid (hE.num : numP N % 256 ^ 16 = _)
      clear hE
      go_wp2_with (first
        | (with_reducible refine wpList_load_n5 rfl _ rfl gt rfl _ hN5 HAr.out ?_)
        | (go_at_call 30; (with_reducible refine (HTo.out _).mono ?_); rintro e w9 ⟨rfl, hb9⟩))
      go_ret
      exact ⟨tag_ret HNu.out, HBe.out.trans (hb9.mono HBe.out.size)⟩
  · have h0i : ¬ (0 : Int) < (n : Int) := by omega
    have hl1 : (l.length + 15) / 16 = l.length / 16 := by omega
    rw [← hl1] at hnum
    obtain ⟨B, hB⟩ : ∃ B, B = A := ⟨_, rfl⟩
    have hBl : B.length = 5 := by rw [hB]; exact hok.a
    have hBb := hlt
    have hBn := hnum
    rw [← hB] at hBb hBn
    clear hp ha hok hs5 hSb hpt hlt hnum hn hl1 hk
    go_enter Tryd.func17, Tryd.ntmps17
    have HA0 := Lib.hid (HA.out.alloc (.cells (row5 A) 50))
    have c31 : (w.alloc (.cells (row5 A) 50)).cell? ⟨g, 31, none⟩ = some (.int .i64 (n : Int)) := HA0.out.cell (pcells_n n HOk.out)
    go_wp2_with (first
      | (with_reducible refine wpList_load_sum rfl _ rfl g rfl HOk.out HA.out ?_)
      | (with_reducible refine wpList_store_n5_new rfl _ _ rfl zero5 rfl _ rfl rfl _ rfl hA5 HA1.out ?_))
    have HS0 := Lib.hid (Arr.new w (row5 A) 50)
    have HWb := Lib.hid ((Below.refl w.heap.size w).alloc (Nat.le_refl _) (.cells (row5 A) 50))
    obtain ⟨gs, hgs⟩ : ∃ gs, gs = w.heap.size := ⟨_, rfl⟩
    rw [← hgs] at HS0 ⊢
    have HW : Hid (Arr (w.alloc (.cells (row5 A) 50)) gs (row5 B) 50 ∧ Arr (w.alloc (.cells (row5 A) 50)) g (pcells (partsP (keyR key) 5) [s0, s1, s2, s3, s4] A p n) 53) := ⟨by rw [hB]; exact HS0.out, HA0.out⟩
    generalize w.alloc (.cells (row5 A) 50) = W at *
    clear hgs c31 hB HS0 HA0
    obtain ⟨b0, b1, b2, b3, b4, hB5⟩ := five B hBl
    subst hB5
    have HT0 : Hid (TagS w g gs (pcells (partsP (keyR key) 5) [s0, s1, s2, s3, s4] A p n) [b0, b1, b2, b3, b4] W) := ⟨HW.out.1, HW.out.2, HWb.out⟩
    have hle := least5_any [b0, b1, b2, b3, b4] rfl hBb
    have HLe : Hid (∀ w, Calls Tryd.prog 29 #[.agg #[.int .u64 (b0 : Int), .int .u64 (b1 : Int), .int .u64 (b2 : Int), .int .u64 (b3 : Int), .int .u64 (b4 : Int)]] w fun e w' => (∃ y, e = .returned (.agg (row5 y)) ∧ y.length = 5 ∧ (∀ z ∈ y, z < 67108864) ∧ numP y = numP [b0, b1, b2, b3, b4] % PP) ∧ Below w.heap.size w w') := hle
    have HBn := Lib.hid hBn
    clear hle hBb hBn HW HWb hBl
    go_wp2_with fail
    go_cut [4] (fun s4 wx => ∃ gt N, s4 = .pointer (some ⟨gt, 0, none⟩) ∧ TagE w gt N (accN (keyR key) l ((l.length + 15) / 16) + keyS key) wx)
    case first =>
      go_region_held3 (fun w' => w'.cell? ⟨gs, 0, none⟩ = some (.int .u64 (b0 : Int)) ∧ w'.cell? ⟨gs, 1, none⟩ = some (.int .u64 (b1 : Int)) ∧ w'.cell? ⟨gs, 2, none⟩ = some (.int .u64 (b2 : Int)) ∧ w'.cell? ⟨gs, 3, none⟩ = some (.int .u64 (b3 : Int)) ∧ w'.cell? ⟨gs, 4, none⟩ = some (.int .u64 (b4 : Int)) ∧ w'.cell? ⟨g, 5, none⟩ = some (.int .u64 (s0 : Int)) ∧ w'.cell? ⟨g, 6, none⟩ = some (.int .u64 (s1 : Int)) ∧ w'.cell? ⟨g, 7, none⟩ = some (.int .u64 (s2 : Int)) ∧ w'.cell? ⟨g, 8, none⟩ = some (.int .u64 (s3 : Int)) ∧ w'.cell? ⟨g, 9, none⟩ = some (.int .u64 (s4 : Int)))
        (first
          | (guard_target =ₛ w1.cell? ⟨gs, 0, none⟩ = some (.int .u64 (b0 : Int)) ∧ w1.cell? ⟨gs, 1, none⟩ = some (.int .u64 (b1 : Int)) ∧ w1.cell? ⟨gs, 2, none⟩ = some (.int .u64 (b2 : Int)) ∧ w1.cell? ⟨gs, 3, none⟩ = some (.int .u64 (b3 : Int)) ∧ w1.cell? ⟨gs, 4, none⟩ = some (.int .u64 (b4 : Int)) ∧ w1.cell? ⟨g, 5, none⟩ = some (.int .u64 (s0 : Int)) ∧ w1.cell? ⟨g, 6, none⟩ = some (.int .u64 (s1 : Int)) ∧ w1.cell? ⟨g, 7, none⟩ = some (.int .u64 (s2 : Int)) ∧ w1.cell? ⟨g, 8, none⟩ = some (.int .u64 (s3 : Int)) ∧ w1.cell? ⟨g, 9, none⟩ = some (.int .u64 (s4 : Int)); with_reducible exact tag_cells HOk.out HT1.out.toC)
          | (guard_target =ₛ w2.cell? ⟨gs, 0, none⟩ = some (.int .u64 (b0 : Int)) ∧ w2.cell? ⟨gs, 1, none⟩ = some (.int .u64 (b1 : Int)) ∧ w2.cell? ⟨gs, 2, none⟩ = some (.int .u64 (b2 : Int)) ∧ w2.cell? ⟨gs, 3, none⟩ = some (.int .u64 (b3 : Int)) ∧ w2.cell? ⟨gs, 4, none⟩ = some (.int .u64 (b4 : Int)) ∧ w2.cell? ⟨g, 5, none⟩ = some (.int .u64 (s0 : Int)) ∧ w2.cell? ⟨g, 6, none⟩ = some (.int .u64 (s1 : Int)) ∧ w2.cell? ⟨g, 7, none⟩ = some (.int .u64 (s2 : Int)) ∧ w2.cell? ⟨g, 8, none⟩ = some (.int .u64 (s3 : Int)) ∧ w2.cell? ⟨g, 9, none⟩ = some (.int .u64 (s4 : Int)); with_reducible exact tag_cells HOk.out HT2.out.toC)
          | (guard_target =ₛ w3.cell? ⟨gs, 0, none⟩ = some (.int .u64 (b0 : Int)) ∧ w3.cell? ⟨gs, 1, none⟩ = some (.int .u64 (b1 : Int)) ∧ w3.cell? ⟨gs, 2, none⟩ = some (.int .u64 (b2 : Int)) ∧ w3.cell? ⟨gs, 3, none⟩ = some (.int .u64 (b3 : Int)) ∧ w3.cell? ⟨gs, 4, none⟩ = some (.int .u64 (b4 : Int)) ∧ w3.cell? ⟨g, 5, none⟩ = some (.int .u64 (s0 : Int)) ∧ w3.cell? ⟨g, 6, none⟩ = some (.int .u64 (s1 : Int)) ∧ w3.cell? ⟨g, 7, none⟩ = some (.int .u64 (s2 : Int)) ∧ w3.cell? ⟨g, 8, none⟩ = some (.int .u64 (s3 : Int)) ∧ w3.cell? ⟨g, 9, none⟩ = some (.int .u64 (s4 : Int)); with_reducible exact tag_cells HOk.out HT3.out.toC)
          | (have hh1 := hg1; have hh3 := HT3; with_reducible exact tag_cells HOk.out (HT3.out.sets hg1 hg2 v0 v1 v2 v3 v4))
          | with_reducible exact tag_cells HOk.out HT0.out.drew.toC
          | with_reducible exact tag_cells HOk.out (HT0.out.alloc (.cells zero5 50)).drew.toC
          | with_reducible exact tag_cells HOk.out (HT1.out.alloc (.cells zero5 50)).toC
          | with_reducible exact tag_cells HOk.out (HT2.out.alloc (.cells zero5 50)).toC
          | with_reducible exact tag_cells HOk.out (HT3.out.alloc (.cells zero5 50)).toC
          | with_reducible exact tag_cells HOk.out (HT3.out.alloc (.cells #[.int .u64 (v0 : Int), .int .u64 (v1 : Int), .int .u64 (v2 : Int), .int .u64 (v3 : Int), .int .u64 (v4 : Int)] 50)).toC)
        (first
          | (go_at_call 29; (with_reducible refine (HLe.out (World.drew (W.alloc (.cells zero5 50)))).mono ?_); rintro e w1 ⟨⟨y, rfl, hy5, hyb, hyn⟩, hb1⟩; have HT1 := Lib.hid ((HT0.out.alloc (.cells zero5 50)).drew.next hb1); have hz1 := ((Arr.new W zero5 50).drew).next hb1; have hgl := HT0.out.bel.size; have hg1 := Nat.ne_of_lt HT0.out.o.lt; have hg2 := Nat.ne_of_lt HT0.out.b.lt)
          | (go_at_call 29; (with_reducible refine (HLe.out (World.drew W)).mono ?_); rintro e w1 ⟨⟨y, rfl, hy5, hyb, hyn⟩, hb1⟩; have HT1 := Lib.hid (HT0.out.drew.next hb1))
          | (have hzz := hz1; go_at_call 28; (with_reducible refine (HPl.out y hy5 hyb w1).mono ?_); rintro e w2 ⟨rfl, hb2⟩; have HT2 := Lib.hid (HT1.out.next hb2); have hz2 := hzz.next hb2)
          | (go_at_call 28; (with_reducible refine (HPl.out y hy5 hyb (w1.alloc (.cells zero5 50))).mono ?_); rintro e w2 ⟨rfl, hb2⟩; have HT2 := Lib.hid ((HT1.out.alloc (.cells zero5 50)).next hb2); have hz2 := (Arr.new w1 zero5 50).next hb2; have hgl := HT1.out.bel.size; have hg1 := Nat.ne_of_lt HT1.out.o.lt; have hg2 := Nat.ne_of_lt HT1.out.b.lt)
          | (go_at_call 28; (with_reducible refine (HPl.out y hy5 hyb w1).mono ?_); rintro e w2 ⟨rfl, hb2⟩; have HT2 := Lib.hid (HT1.out.next hb2))
          | (have hzz := hz2; go_at_call 27; (with_reducible refine (HCa.out y hy5 hyb w2).mono ?_); rintro e w3 ⟨⟨v0, v1, v2, v3, v4, D, rfl, hvb, hvn⟩, hb3⟩; have HT3 := Lib.hid (HT2.out.next hb3); have hz3 := hzz.next hb3; have n0 := hz3.cell (j := 0) (v := .int .u64 0) rfl; have n1 := hz3.cell (j := 1) (v := .int .u64 0) rfl; have n2 := hz3.cell (j := 2) (v := .int .u64 0) rfl; have n3 := hz3.cell (j := 3) (v := .int .u64 0) rfl; have n4 := hz3.cell (j := 4) (v := .int .u64 0) rfl; have nf := hz3.frozen)
          | (go_at_call 27; (with_reducible refine (HCa.out y hy5 hyb (w2.alloc (.cells zero5 50))).mono ?_); rintro e w3 ⟨⟨v0, v1, v2, v3, v4, D, rfl, hvb, hvn⟩, hb3⟩; have HT3 := Lib.hid ((HT2.out.alloc (.cells zero5 50)).next hb3); have hz3 := (Arr.new w2 zero5 50).next hb3; have hgl := HT2.out.bel.size; have hg1 := Nat.ne_of_lt HT2.out.o.lt; have hg2 := Nat.ne_of_lt HT2.out.b.lt; have n0 := hz3.cell (j := 0) (v := .int .u64 0) rfl; have n1 := hz3.cell (j := 1) (v := .int .u64 0) rfl; have n2 := hz3.cell (j := 2) (v := .int .u64 0) rfl; have n3 := hz3.cell (j := 3) (v := .int .u64 0) rfl; have n4 := hz3.cell (j := 4) (v := .int .u64 0) rfl; have nf := hz3.frozen)
          | (go_at_call 27; (with_reducible refine (HCa.out y hy5 hyb w2).mono ?_); rintro e w3 ⟨⟨v0, v1, v2, v3, v4, D, rfl, hvb, hvn⟩, hb3⟩; have HT3 := Lib.hid (HT2.out.next hb3)))
      all_goals
        go_wp2_with fail
        go_meet
        first
          | exact ⟨_, _, rfl, tagE_a hz3 HT3.out.bel hgl hvb HBn.out hyn HSn.out hvn⟩
          | exact ⟨_, _, rfl, tagE_d HT3.out.bel hvb HBn.out hyn HSn.out hvn⟩
    case rest =>
      obtain ⟨gt, N, rfl, hE⟩ := hcut
      have hN5 := row5_size hE.len
      have HTo := Lib.hid (fun w => told5_any N hE.len hE.lt w)
      have HAr := Lib.hid hE.arr
      have HBe := Lib.hid hE.bel
      have HNu := Lib.hid (hE.num : numP N % 256 ^ 16 = _)
      clear hE
      go_wp2_with (first
        | (with_reducible refine wpList_load_n5 rfl _ rfl gt rfl _ hN5 HAr.out ?_)
        | (go_at_call 30; (with_reducible refine (HTo.out _).mono ?_); rintro e w9 ⟨rfl, hb9⟩))
      go_ret
      exact ⟨tag_ret HNu.out, HBe.out.trans (hb9.mono HBe.out.size)⟩
end Go.Proofs.YtjbhmdlgokoepaaDoor
