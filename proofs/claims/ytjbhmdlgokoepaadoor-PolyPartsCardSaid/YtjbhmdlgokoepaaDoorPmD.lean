/- poly: the contracts of least, told. -/
import Derived.Test.YtjbhmdlgokoepaaDoorPmC
import Derived.Test.YtjbhmdlgokoepaaDoorPrL
namespace Go.Proofs.YtjbhmdlgokoepaaDoor
open Go.RowKit

theorem least_fin (n y0 C y1 D : Nat) (hn : n < TB) (h0 : y0 < TB) (e0 : y0 + TB * C = n + 5) (h1 : y1 < TB) (e1 : y1 + TB * D = n + 5 * C) : y1 = n % PP := by
  rw [last_mod n hn]
  have hT : 5 < TB := by decide
  rcases (show C = 0 ∨ C = 1 ∨ 2 ≤ C by omega) with h | h | h
  · subst h
    rw [if_pos (Nat.div_eq_of_lt (by omega))]
    rcases (show D = 0 ∨ 1 ≤ D by omega) with h | h
    · subst h; omega
    · have := Nat.mul_le_mul_left TB h; omega
  · subst h
    rw [if_neg (by rw [show n + 5 = y0 + TB by omega, Nat.add_div_right _ (by omega)]; exact Nat.succ_ne_zero _), show n + 5 = y0 + TB by omega, Nat.add_mod_right, Nat.mod_eq_of_lt h0]
    rcases (show D = 0 ∨ D = 1 ∨ 2 ≤ D by omega) with h | h | h
    · subst h; omega
    · subst h; omega
    · have := Nat.mul_le_mul_left TB h; omega
  · have := Nat.mul_le_mul_left TB h; omega

theorem sum_bound {x y : List Nat} {A B : Nat} (hx : x.length = 5) (hy : y.length = 5) (ha : ∀ z ∈ x, z < A) (hb : ∀ z ∈ y, z < B) : ∀ z ∈ sumP x y, z < A + B := by
  refine all_of_getD _ _ fun j hj => ?_
  rw [sumP_len _ _ (by omega)] at hj
  rw [sumP_get _ _ _ hj (by omega)]
  have := getD_of_all x _ ha j hj
  have := getD_of_all y _ hb j (by omega)
  omega
theorem lt5 (a B : Nat) (h : a < B) : ∀ z ∈ [a, 0, 0, 0, 0], z < B := by
  intro z hz
  simp only [List.mem_cons, List.not_mem_nil, or_false] at hz
  omega

set_option maxHeartbeats 1000000 in
set_option maxRecDepth 100000 in
theorem least5_any (x : List Nat) (hx : x.length = 5) (bx : ∀ z ∈ x, z < 67108864) (w : World) :
    Calls Tryd.prog 29 #[.agg (row5 x)] w fun e w' => (∃ y, e = .returned (.agg (row5 y)) ∧ y.length = 5 ∧ (∀ z ∈ y, z < 67108864) ∧ numP y = numP x % PP) ∧ Below w.heap.size w w' := by
  have hn : numP x < TB := by have := numP_lt x bx; rwa [hx, MB5] at this
  have s1 : ∀ w, Calls Tryd.prog 28 #[.agg (row5 x), .agg #[.int .u64 5, .int .u64 0, .int .u64 0, .int .u64 0, .int .u64 0]] w fun e w' => e = .returned (.agg (row5 (sumP x [5, 0, 0, 0, 0]))) ∧ Below w.heap.size w w' := fun w => plus5_any x [5, 0, 0, 0, 0] hx rfl (fun z hz => Nat.lt_trans (bx z hz) (by decide)) (lt5 5 _ (by decide)) w
  have e1 : numP (sumP x [5, 0, 0, 0, 0]) = numP x + 5 := by rw [sumP_num _ _ hx]; simp [numP]
  have c1 := fun w => carried5_any (sumP x [5, 0, 0, 0, 0]) (by rw [sumP_len _ _ hx, hx]) (fun z hz => Nat.lt_trans (sum_bound hx rfl bx (lt5 5 6 (by decide)) z hz) (by decide)) w
  rw [e1] at c1
  have s2 : ∀ C : Nat, C < 274877906944 → ∀ w, Calls Tryd.prog 28 #[.agg (row5 x), .agg #[.int .u64 (5 * (C : Int)), .int .u64 0, .int .u64 0, .int .u64 0, .int .u64 0]] w fun e w' => e = .returned (.agg (row5 (sumP x [5 * C, 0, 0, 0, 0]))) ∧ Below w.heap.size w w' := by
    intro C hC w
    have := plus5_any x [5 * C, 0, 0, 0, 0] hx rfl (fun z hz => Nat.lt_trans (bx z hz) (by decide)) (lt5 (5 * C) _ (by omega)) w
    rw [show row5 [5 * C, 0, 0, 0, 0] = #[.int .u64 (5 * (C : Int)), .int .u64 0, .int .u64 0, .int .u64 0, .int .u64 0] by simp [row5, u64s]] at this
    exact this
  have c2 : ∀ C : Nat, C < 274877906944 → ∀ w, Calls Tryd.prog 27 #[.agg (row5 (sumP x [5 * C, 0, 0, 0, 0]))] w fun e w' => (∃ y D, e = .returned (.tuple #[.agg (row5 y), .int .u64 ((D : Nat) : Int)]) ∧ y.length = 5 ∧ (∀ z ∈ y, z < 67108864) ∧ D < 274877906944 ∧ numP y + TB * D = numP x + 5 * C) ∧ Below w.heap.size w w' := by
    intro C hC w
    have := carried5_any (sumP x [5 * C, 0, 0, 0, 0]) (by rw [sumP_len _ _ hx, hx]) (fun z hz => Nat.lt_trans (sum_bound hx rfl bx (lt5 (5 * C) (5 * 274877906944) (by omega)) z hz) (by decide)) w
    rw [show numP (sumP x [5 * C, 0, 0, 0, 0]) = numP x + 5 * C by rw [sumP_num _ _ hx]; simp [numP]] at this
    exact this
  have HS1 := Lib.hid s1
  have HC1 := Lib.hid c1
  have HS2 := Lib.hid s2
  have HC2 := Lib.hid c2
  have hx5 := row5_size hx
  have HN := Lib.hid hn
  have HA := Lib.hid ((Arr.new w (row5 x) 50).alloc (.cells zero5 50))
  have HZ := Lib.hid (Arr.newAt (w.alloc (.cells (row5 x) 50)) (g := w.heap.size + 1) zero5 50 (by simp))
  have HB := Lib.hid (((Below.refl w.heap.size w).alloc (Nat.le_refl _) (.cells (row5 x) 50)).alloc (by simp) (.cells zero5 50))
  clear hx bx s1 e1 c1 s2 c2 hn
  go_enter Tryd.func29, Tryd.ntmps29
  go_wp2_with (first
    | (with_reducible refine wpList_load_n5 rfl _ rfl w.heap.size rfl _ hx5 HA.out ?_)
    | (go_at_call 28; (with_reducible refine (HS1.out _).mono ?_); rintro e w2 ⟨rfl, hb2⟩)
    | (go_at_call 27; (with_reducible refine (HC1.out _).mono ?_); rintro e w3 ⟨⟨y, C, rfl, hyl, hyb, hC, hnum⟩, hb3⟩; have hb23 := Below_next hb2 hb3; have hy5 := row5_size hyl; have hy1 := row5_one y; have HA2 := Lib.hid ((HA.out.next hb23).alloc (.cells (row5 y) 50)); have HYb := Lib.hid hyb; have HNum := Lib.hid hnum; have HS3 := Lib.hid (HS2.out C hC); have HC3 := Lib.hid (HC2.out C hC); clear hyb hnum)
    | (with_reducible refine wpList_store_n5_new rfl _ _ rfl zero5 rfl _ rfl rfl _ rfl hy5 hy1 ?_)
    | (with_reducible refine wpList_load_n5 rfl _ rfl w.heap.size rfl _ hx5 HA2.out ?_)
    | (go_at_call 28; (with_reducible refine (HS3.out _).mono ?_); rintro e w4 ⟨rfl, hb4⟩)
    | (go_at_call 27; (with_reducible refine (HC3.out _).mono ?_); rintro e w5 ⟨⟨v, D, rfl, hvl, hvb, hD, hvn⟩, hb5⟩; have hb45 := Below_next hb4 hb5; have hv5 := row5_size hvl; have hv1 := row5_one v; have HV := Lib.hid (Arr.new w5 (row5 v) 50); have HZ5 := Lib.hid ((((HZ.out.next hb23).alloc (.cells (row5 y) 50)).next hb45).alloc (.cells (row5 v) 50)); have HVb := Lib.hid hvb; have HVn := Lib.hid hvn; clear hvb hvn)
    | (with_reducible refine wpList_store_n5_new rfl _ _ rfl zero5 rfl _ rfl rfl _ rfl hv5 hv1 ?_)
    | (with_reducible refine wpList_load_n5 rfl _ rfl w5.heap.size rfl _ hv5 HV.out ?_)
    | (with_reducible refine wpList_store_n5 rfl _ _ rfl (w.heap.size + 1) rfl _ rfl hv5 hv1 _ rfl HZ5.out ?_))
  refine ret_n5 Tryd.results29 (w.heap.size + 1) _ hv5 rfl (HZ5.out.row _) rfl ⟨⟨v, rfl, hvl, HVb.out, ?_⟩, below_setRow ?_ (by omega) _⟩
  · have h1 := numP_lt y HYb.out
    have h2 := numP_lt v HVb.out
    rw [hyl, MB5] at h1
    rw [hvl, MB5] at h2
    exact least_fin _ _ _ _ _ HN.out h1 HNum.out h2 HVn.out
  · have hB3 := (HB.out.trans (hb23.mono HB.out.size)).alloc (HB.out.trans (hb23.mono HB.out.size)).size (.cells (row5 y) 50)
    exact (hB3.trans (hb45.mono hB3.size)).alloc (hB3.trans (hb45.mono hB3.size)).size _

theorem or_sum (i a b : Nat) (M : Nat) (hM : M = 2 ^ i) (ha : a < M) (hb : M * b < 18446744073709551616) (hl : a < 18446744073709551616) : bits .or .u64 (a : Int) ((M * b : Nat) : Int) = ((a + M * b : Nat) : Int) := by
  subst hM
  rw [or64 _ _ hl hb, Nat.or_comm, ← Nat.two_pow_add_eq_or_of_lt ha, Nat.add_comm]
/-- The halves of a tag's number. -/
def halfL (a b c : Nat) : Nat := a + 67108864 * b + 4503599627370496 * (c % 4096)
def halfH (c d e : Nat) : Nat := c / 4096 + 16384 * d + 1099511627776 * (e % 16777216)
theorem half_low {a b c : Nat} (ha : a < 67108864) (hb : b < 67108864) : bits .or .u64 (bits .or .u64 (a : Int) ((b : Int) * 67108864)) (IntKind.u64.wrap ((c : Int) * 4503599627370496)) = ((halfL a b c : Nat) : Int) ∧ halfL a b c < 18446744073709551616 := by
  have e1 := or_sum 26 a b 67108864 (by decide) ha (by omega) (by omega)
  rw [show ((67108864 * b : Nat) : Int) = (b : Int) * 67108864 by omega] at e1
  have e2 := or_sum 52 (a + 67108864 * b) (c % 4096) 4503599627370496 (by decide) (by omega) (by omega) (by omega)
  have e3 : IntKind.u64.wrap ((c : Int) * 4503599627370496) = ((4503599627370496 * (c % 4096) : Nat) : Int) := by rw [IntKind.wrap_u64]; omega
  rw [e1, e3, e2]
  exact ⟨rfl, by unfold halfL; omega⟩
theorem half_high {c d e : Nat} (hc : c < 67108864) (hd : d < 67108864) : bits .or .u64 (bits .or .u64 ((c : Int) / 4096) ((d : Int) * 16384)) (IntKind.u64.wrap ((e : Int) * 1099511627776)) = ((halfH c d e : Nat) : Int) ∧ halfH c d e < 18446744073709551616 := by
  have e1 := or_sum 14 (c / 4096) d 16384 (by decide) (by omega) (by omega) (by omega)
  rw [show ((16384 * d : Nat) : Int) = (d : Int) * 16384 by omega, show ((c / 4096 : Nat) : Int) = (c : Int) / 4096 by omega] at e1
  have e2 := or_sum 40 (c / 4096 + 16384 * d) (e % 16777216) 1099511627776 (by decide) (by omega) (by omega) (by omega)
  have e3 : IntKind.u64.wrap ((e : Int) * 1099511627776) = ((1099511627776 * (e % 16777216) : Nat) : Int) := by rw [IntKind.wrap_u64]; omega
  rw [e1, e3, e2]
  exact ⟨rfl, by unfold halfH; omega⟩
theorem byteAt_add (N a k : Nat) : byteAt N (a + k) = byteAt (N / 256 ^ a) k := by
  rw [byteAt, byteAt, ← p256, ← p256, Nat.pow_add, Nat.div_div_eq_div_mul]
theorem lowL_add (N a b : Nat) : lowL N (a + b) = lowL N a ++ lowL (N / 256 ^ a) b := by
  induction b with
  | zero => simp [lowL]
  | succ b ih => rw [← Nat.add_assoc, lowL_succ, ih, lowL_succ, byteAt_add, List.append_assoc]
theorem told_num (a b c d e : Nat) (ha : a < 67108864) (hb : b < 67108864) (hc : c < 67108864) (hd : d < 67108864) : lowL (numP [a, b, c, d, e]) 16 = lowL (halfL a b c) 8 ++ lowL (halfH c d e) 8 := by
  have hn : numP [a, b, c, d, e] = halfL a b c + 256 ^ 8 * (halfH c d e + 256 ^ 8 * (e / 16777216)) := by
    simp only [numP, halfL, halfH]; omega
  have hl := (half_low (c := c) ha hb).2
  have hh := (half_high (e := e) hc hd).2
  generalize halfL a b c = L at *
  generalize halfH c d e = H at *
  generalize e / 16777216 = R at *
  rw [show (16 : Nat) = 8 + 8 from rfl, lowL_add, hn]
  congr 1
  · rw [← lowL_mod, Nat.add_mul_mod_self_left, lowL_mod]
  · rw [Nat.add_mul_div_left _ _ (Nat.pow_pos (by decide)), Nat.div_eq_of_lt (show L < 256 ^ 8 by exact hl), Nat.zero_add, ← lowL_mod, Nat.add_mul_mod_self_left, lowL_mod]

set_option maxHeartbeats 1000000 in
set_option maxRecDepth 100000 in
theorem told5_any (x : List Nat) (hx : x.length = 5) (bx : ∀ z ∈ x, z < 67108864) (w : World) :
    Calls Tryd.prog 30 #[.agg (row5 x)] w fun e w' => e = .returned (.string ⟨(lowL (numP x) 16).toArray⟩) ∧ Below w.heap.size w w' := by
  obtain ⟨a, b, c, d, e, rfl⟩ := five x hx
  have ba := bx a (by simp)
  have bb := bx b (by simp)
  have bc := bx c (by simp)
  have bd := bx d (by simp)
  have HA := Lib.hid (Arr.new w (row5 [a, b, c, d, e]) 50)
  have HB := Lib.hid ((Below.refl w.heap.size w).alloc (Nat.le_refl _) (.cells (row5 [a, b, c, d, e]) 50))
  have c0 := HA.out.at5 0 (by simp)
  have c1 := HA.out.at5 1 (by simp)
  have c2 := HA.out.at5 2 (by simp)
  have c3 := HA.out.at5 3 (by simp)
  have c4 := HA.out.at5 4 (by simp)
  simp only [List.getD_cons_zero, List.getD_cons_succ] at c0 c1 c2 c3 c4
  obtain ⟨l1, l2⟩ := half_low (c := c) ba bb
  obtain ⟨h1, h2⟩ := half_high (e := e) bc bd
  have HT := Lib.hid (told_num a b c d e ba bb bc bd)
  have HE1 := Lib.hid l1
  have HE2 := Lib.hid h1
  have HL1 := Lib.hid (fun w => low_any (halfL a b c) l2 8 w)
  have HL2 := Lib.hid (fun w => low_any (halfH c d e) h2 8 w)
  rw [show toldN 8 = 8 from rfl] at HL1 HL2
  have hcat : ∀ w : World, (Op.stringOp .add ⟨(lowL (halfL a b c) 8).toArray⟩ ⟨(lowL (halfH c d e) 8).toArray⟩).run Tryd.prog w = .ok (.string ⟨(lowL (numP [a, b, c, d, e]) 16).toArray⟩) w := fun w => by
    rw [HT.out]
    exact (cat_run _ _ (by show (lowL (halfL a b c) 8).toArray.size + (lowL (halfH c d e) 8).toArray.size ≤ _; simp only [List.size_toArray, lowL_len]; exact of_decide_eq_true rfl) w).trans (by congr 2)
  generalize (ByteArray.mk (lowL (numP [a, b, c, d, e]) 16).toArray) = T at *
  generalize halfL a b c = L at *
  generalize halfH c d e = H at *
  clear hx bx l1 l2 h1 h2 HT
  go_enter Tryd.func30, Tryd.ntmps30
  go_wp2_with (first
    | (rw [HE1.out, HE2.out]; (go_at_call 38; (with_reducible refine (HL1.out _).mono ?_); rintro e w1 ⟨rfl, hb1⟩))
    | (go_at_call 38; (with_reducible refine (HL2.out _).mono ?_); rintro e w2 ⟨rfl, hb2⟩))
  go_ret
  exact ⟨rfl, HB.out.trans ((Below_next hb1 hb2).mono HB.out.size)⟩
end Go.Proofs.YtjbhmdlgokoepaaDoor
