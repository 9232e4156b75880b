/- ChachaStirs: the law's walk. -/
import Derived.Test.YtebhmcnocpblkaaDoorChSizW
namespace Go.Proofs.YtebhmcnocpblkaaDoor
open Go.RowKit

theorem turn_back7 (x y : Nat) (hx : x < 4294967296) (hy : rotr x 7 = y) (w : World) :
    Calls Tryd.prog 19 #[.int .u32 (x : Int), .int .i64 7] w fun e w' => e = .returned (.int .u32 (y : Int)) ∧ ∃ k, w' = w.drewN k := by
  have e := right_num x hx 7
  rw [show (((7 : Int) % 32).toNat) = 7 from rfl, show ((32 - (7 : Int) % 32).toNat) = 25 from rfl, hy] at e
  have HE := Lib.hid e
  have h0 : (0 : Int) ≤ (x : Int) := by omega
  clear e hy hx
  go_enter Tryd.func19, Tryd.ntmps19
  go_wp2
  go_quiet (fail)
  go_wp2
  go_ret
  exact ⟨ret_int (by exact HE.out), _, rfl⟩
theorem turn_back8 (x y : Nat) (hx : x < 4294967296) (hy : rotr x 8 = y) (w : World) :
    Calls Tryd.prog 19 #[.int .u32 (x : Int), .int .i64 8] w fun e w' => e = .returned (.int .u32 (y : Int)) ∧ ∃ k, w' = w.drewN k := by
  have e := right_num x hx 8
  rw [show (((8 : Int) % 32).toNat) = 8 from rfl, show ((32 - (8 : Int) % 32).toNat) = 24 from rfl, hy] at e
  have HE := Lib.hid e
  have h0 : (0 : Int) ≤ (x : Int) := by omega
  clear e hy hx
  go_enter Tryd.func19, Tryd.ntmps19
  go_wp2
  go_quiet (fail)
  go_wp2
  go_ret
  exact ⟨ret_int (by exact HE.out), _, rfl⟩
theorem turn_back12 (x y : Nat) (hx : x < 4294967296) (hy : rotr x 12 = y) (w : World) :
    Calls Tryd.prog 19 #[.int .u32 (x : Int), .int .i64 12] w fun e w' => e = .returned (.int .u32 (y : Int)) ∧ ∃ k, w' = w.drewN k := by
  have e := right_num x hx 12
  rw [show (((12 : Int) % 32).toNat) = 12 from rfl, show ((32 - (12 : Int) % 32).toNat) = 20 from rfl, hy] at e
  have HE := Lib.hid e
  have h0 : (0 : Int) ≤ (x : Int) := by omega
  clear e hy hx
  go_enter Tryd.func19, Tryd.ntmps19
  go_wp2
  go_quiet (fail)
  go_wp2
  go_ret
  exact ⟨ret_int (by exact HE.out), _, rfl⟩
theorem turn_back16 (x y : Nat) (hx : x < 4294967296) (hy : rotr x 16 = y) (w : World) :
    Calls Tryd.prog 19 #[.int .u32 (x : Int), .int .i64 16] w fun e w' => e = .returned (.int .u32 (y : Int)) ∧ ∃ k, w' = w.drewN k := by
  have e := right_num x hx 16
  rw [show (((16 : Int) % 32).toNat) = 16 from rfl, show ((32 - (16 : Int) % 32).toNat) = 16 from rfl, hy] at e
  have HE := Lib.hid e
  have h0 : (0 : Int) ≤ (x : Int) := by omega
  clear e hy hx
  go_enter Tryd.func19, Tryd.ntmps19
  go_wp2
  go_quiet (fail)
  go_wp2
  go_ret
  exact ⟨ret_int (by exact HE.out), _, rfl⟩

theorem cast_inj {a b : Nat} (h : (a : Int) = (b : Int)) : a = b := by omega
theorem xor_back {x y : Nat} (hx : x < 4294967296) (hy : y < 4294967296) {z : Nat} (h : bits .xor .u32 (x : Int) (y : Int) = (z : Int)) : z < 4294967296 ∧ bits .xor .u32 (z : Int) (y : Int) = (x : Int) := by
  have e := cast_inj ((xor32 x y hx hy).symm.trans h)
  subst e
  exact ⟨xor2_lt hx hy, (xor32 _ _ (xor2_lt hx hy) hy).trans (by rw [Nat.xor_assoc, Nat.xor_self, Nat.xor_zero])⟩
theorem sub_back {x y z : Nat} (hx : x < 4294967296) (h : ((x : Int) + (y : Int)) % 4294967296 = (z : Int)) : ((z : Int) - (y : Int)) % 4294967296 = (x : Int) := by omega
theorem sum_lt {x y z : Nat} (h : ((x : Int) + (y : Int)) % 4294967296 = (z : Int)) : z < 4294967296 := by omega
/-- The steps of a stir, undone. -/
structure Backs (q : Q4) (A1 X1 D1 C1 X2 B1 A2 X3 D2 C2 X4 B2 : Nat) : Prop where
  r4 : rotr B2 7 = X4
  lb2 : B2 < 4294967296
  x4 : bits .xor .u32 (X4 : Int) (C2 : Int) = (B1 : Int)
  c2 : ((C2 : Int) - (D2 : Int)) % 4294967296 = (C1 : Int)
  r3 : rotr D2 8 = X3
  ld2 : D2 < 4294967296
  x3 : bits .xor .u32 (X3 : Int) (A2 : Int) = (D1 : Int)
  a2 : ((A2 : Int) - (B1 : Int)) % 4294967296 = (A1 : Int)
  r2 : rotr B1 12 = X2
  lb1 : B1 < 4294967296
  x2 : bits .xor .u32 (X2 : Int) (C1 : Int) = (q.b : Int)
  c1 : ((C1 : Int) - (D1 : Int)) % 4294967296 = (q.c : Int)
  r1 : rotr D1 16 = X1
  ld1 : D1 < 4294967296
  x1 : bits .xor .u32 (X1 : Int) (A1 : Int) = (q.d : Int)
  a1 : ((A1 : Int) - (q.b : Int)) % 4294967296 = (q.a : Int)
theorem backs {q : Q4} (h : q.ok) {A1 X1 D1 C1 X2 B1 A2 X3 D2 C2 X4 B2 : Nat} (s : Steps q A1 X1 D1 C1 X2 B1 A2 X3 D2 C2 X4 B2) : Backs q A1 X1 D1 C1 X2 B1 A2 X3 D2 C2 X4 B2 := by
  obtain ⟨ha, hb, hc, hd⟩ := h
  have lA1 := sum_lt s.a1
  have lC1 := sum_lt s.c1
  have lA2 := sum_lt s.a2
  have lC2 := sum_lt s.c2
  have lD1 : D1 < 4294967296 := by rw [s.d1]; exact rotl_lt s.l1 16
  have lB1 : B1 < 4294967296 := by rw [s.b1]; exact rotl_lt s.l2 12
  have lD2 : D2 < 4294967296 := by rw [s.d2]; exact rotl_lt s.l3 8
  have lB2 : B2 < 4294967296 := by rw [s.b2]; exact rotl_lt s.l4 7
  exact ⟨by rw [s.b2]; exact rotr_rotl s.l4 (by decide), lB2, (xor_back lB1 lC2 s.x4).2, sub_back lC1 s.c2, by rw [s.d2]; exact rotr_rotl s.l3 (by decide), lD2, (xor_back lD1 lA2 s.x3).2, sub_back lA1 s.a2,
    by rw [s.b1]; exact rotr_rotl s.l2 (by decide), lB1, (xor_back hb lC1 s.x2).2, sub_back hc s.c1, by rw [s.d1]; exact rotr_rotl s.l1 (by decide), lD1, (xor_back hd lA1 s.x1).2, sub_back ha s.a1⟩
theorem eqQ (A B C D : Nat) (w : World) : (Op.equalIn 10000 23 (.agg #[.int .u32 (A : Int), .int .u32 (B : Int), .int .u32 (C : Int), .int .u32 (D : Int)]) (.agg #[.int .u32 (A : Int), .int .u32 (B : Int), .int .u32 (C : Int), .int .u32 (D : Int)])).run Tryd.prog w = .ok true w :=
  equalIn_ints w 9998 23 22 4 .u32 [(A : Int), (B : Int), (C : Int), (D : Int)] Tryd.underlying23 Tryd.underlying22 Tryd.isAgg22 Tryd.sizeOf22 rfl
theorem q4_of : ∀ (zs : List Int), zs.length = 4 → (∀ z ∈ zs, (Lit.int .u32 z).wf = true) → ∃ q : Q4, q.ok ∧ (zs.map (Value.int .u32)).toArray = q.cells
  | [a, b, c, d], _, h => by
    obtain ⟨a0, a1⟩ := wf_u32 (h a (by simp))
    obtain ⟨b0, b1⟩ := wf_u32 (h b (by simp))
    obtain ⟨c0, c1⟩ := wf_u32 (h c (by simp))
    obtain ⟨d0, d1⟩ := wf_u32 (h d (by simp))
    refine ⟨⟨a.toNat, b.toNat, c.toNat, d.toNat⟩, ⟨by show a.toNat < _; omega, by show b.toNat < _; omega, by show c.toNat < _; omega, by show d.toNat < _; omega⟩, ?_⟩
    rw [Q4.cells, Int.toNat_of_nonneg a0, Int.toNat_of_nonneg b0, Int.toNat_of_nonneg c0, Int.toNat_of_nonneg d0]
    rfl

set_option maxHeartbeats 1000000 in
set_option maxRecDepth 100000 in
theorem chachaStirs_walk (zs : List Int) (n0 : zs.length = 4) (w0 : ∀ z ∈ zs, (Lit.int .u32 z).wf = true) (W : World) (hp : Pl W) :
    Calls Tryd.prog 7 #[.agg (zs.map (Value.int .u32)).toArray] W fun e w' => e = .returned (.bool true) ∧ Below W.heap.size W w' := by
  obtain ⟨q, hq, hz⟩ := q4_of zs n0 w0
  rw [hz]
  clear hz n0 w0 zs
  obtain ⟨A1, X1, D1, C1, X2, B1, A2, X3, D2, C2, X4, B2, hs⟩ := steps hq
  have hb := backs hq hs
  have hSt := stir_any q hq
  rw [hs.res] at hSt
  have HSt := Lib.hid hSt
  clear hSt hs hq
  have H4 := Lib.hid (turn_back7 B2 X4 hb.lb2 hb.r4)
  have H3 := Lib.hid (turn_back8 D2 X3 hb.ld2 hb.r3)
  have H2 := Lib.hid (turn_back12 B1 X2 hb.lb1 hb.r2)
  have H1 := Lib.hid (turn_back16 D1 X1 hb.ld1 hb.r1)
  obtain ⟨z1, z2, e1, e2, z3, z4, e3, e4, z5, z6, e5, e6, z7, z8, e7, e8⟩ := hb
  clear z1 z2 z3 z4 z5 z6 z7 z8
  obtain ⟨A, B, C, D⟩ := q
  simp only at e5 e6 e7 e8
  unfold Q4.cells at HSt ⊢
  simp only at HSt ⊢
  have heq := eqQ A B C D
  have hp1 := hp.alloc (.cells #[.int .u32 (A : Int), .int .u32 (B : Int), .int .u32 (C : Int), .int .u32 (D : Int)] 23)
  have HA := Lib.hid (awake4_any _ hp1)
  have HQ1 := Lib.hid (Arr.new W #[.int .u32 (A : Int), .int .u32 (B : Int), .int .u32 (C : Int), .int .u32 (D : Int)] 23)
  have HB1 := Lib.hid ((Below.refl W.heap.size W).alloc (Nat.le_refl _) (.cells #[.int .u32 (A : Int), .int .u32 (B : Int), .int .u32 (C : Int), .int .u32 (D : Int)] 23))
  clear hp1 hp
  go_enter Tryd.func7, Tryd.ntmps7
  go_wp2_with (first
    | (go_at_call 9; (with_reducible refine HA.out.mono ?_); rintro e w1 ⟨rfl, hb1⟩; have HQ2 := Lib.hid (HQ1.out.next hb1))
    | (with_reducible refine wpList_load_q4 rfl _ rfl W.heap.size rfl _ rfl HQ2.out ?_)
    | (go_at_call 11; (with_reducible refine (HSt.out _).mono ?_); rintro e w2 ⟨rfl, hb2⟩)
    | (with_reducible refine wpList_store_q4_new rfl _ _ rfl _ rfl _ rfl rfl _ rfl rfl (by simp [Value.oneCell']) ?_))
  simp only [Act.put]
  have HQ3 := Lib.hid ((HQ2.out.next hb2).alloc (.cells #[.int .u32 (A2 : Int), .int .u32 (B2 : Int), .int .u32 (C2 : Int), .int .u32 (D2 : Int)] 23))
  have hR := Arr.new w2 #[.int .u32 (A2 : Int), .int .u32 (B2 : Int), .int .u32 (C2 : Int), .int .u32 (D2 : Int)] 23
  have HB3 := Lib.hid (((HB1.out.trans (hb1.mono (by simp))).trans (hb2.mono (by have := hb1.size; simp at this; omega))).alloc (by have := hb1.size; have := hb2.size; simp at *; omega) (.cells #[.int .u32 (A2 : Int), .int .u32 (B2 : Int), .int .u32 (C2 : Int), .int .u32 (D2 : Int)] 23))
  obtain ⟨g, hg⟩ : ∃ g, g = w2.heap.size := ⟨_, rfl⟩
  rw [← hg] at hR ⊢
  generalize w2.alloc (.cells #[.int .u32 (A2 : Int), .int .u32 (B2 : Int), .int .u32 (C2 : Int), .int .u32 (D2 : Int)] 23) = w3 at *
  clear hg hb1 hb2 HA HQ1 HQ2 HB1 HSt
  have c0 : w3.cell? ⟨g, 0, none⟩ = some (.int .u32 (A2 : Int)) := hR.cell (j := 0) rfl
  have c1 : w3.cell? ⟨g, 1, none⟩ = some (.int .u32 (B2 : Int)) := hR.cell (j := 1) rfl
  have c2 : w3.cell? ⟨g, 2, none⟩ = some (.int .u32 (C2 : Int)) := hR.cell (j := 2) rfl
  have c3 : w3.cell? ⟨g, 3, none⟩ = some (.int .u32 (D2 : Int)) := hR.cell (j := 3) rfl
  clear hR
  go_quiet (fail)
  have HQ4 := Lib.hid (HQ3.out.drewN nq)
  have HB4 := Lib.hid (Below_drewN HB3.out nq)
  clear c0 c1 c2 c3 HQ3 HB3
  generalize w3.drewN nq = w4 at *
  go_wp2_with fail
  refine (H4.out _).mono ?_
  rintro e w5 ⟨rfl, k4, rfl⟩
  have HQ5 := Lib.hid (HQ4.out.drewN k4)
  have HB5 := Lib.hid (Below_drewN HB4.out k4)
  generalize w4.drewN k4 = w5 at *
  go_wp2_with fail
  refine (H3.out _).mono ?_
  rintro e w6 ⟨rfl, k3, rfl⟩
  have HQ6 := Lib.hid (HQ5.out.drewN k3)
  have HB6 := Lib.hid (Below_drewN HB5.out k3)
  generalize w5.drewN k3 = w6 at *
  go_wp2_with fail
  refine (H2.out _).mono ?_
  rintro e w7 ⟨rfl, k2, rfl⟩
  have HQ7 := Lib.hid (HQ6.out.drewN k2)
  have HB7 := Lib.hid (Below_drewN HB6.out k2)
  generalize w6.drewN k2 = w7 at *
  go_wp2_with fail
  refine (H1.out _).mono ?_
  rintro e w8 ⟨rfl, k1, rfl⟩
  have HQ8 := Lib.hid (HQ7.out.drewN k1)
  have HB8 := Lib.hid (Below_drewN HB7.out k1)
  generalize w7.drewN k1 = w8 at *
  go_wp2_with (first
    | (with_reducible refine wpList_load_q4 rfl _ rfl W.heap.size rfl _ rfl HQ8.out ?_))
  go_ret
  exact ⟨rfl, HB8.out⟩
end Go.Proofs.YtebhmcnocpblkaaDoor
