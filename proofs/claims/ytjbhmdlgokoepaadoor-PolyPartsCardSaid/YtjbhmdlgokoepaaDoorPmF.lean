/- poly: a Poly in memory; the contract of next. -/
import Derived.Test.YtjbhmdlgokoepaaDoorPmE
import Derived.Deep.MidRow
import Derived.Deep.RegionHeld3
namespace Go.Proofs.YtjbhmdlgokoepaaDoor
open Go.RowKit

/-- A Poly's cells. -/
def pcells (R S A : List Nat) (p : List UInt8) (n : Nat) : Array Value := (u64s R ++ (u64s S ++ (u64s A ++ (u8s p ++ [Value.int .i64 (n : Int)])))).toArray
structure Pok (R S A : List Nat) (p : List UInt8) : Prop where
  r : R.length = 5
  s : S.length = 5
  a : A.length = 5
  p : p.length = 16
theorem pcells_size {R S A : List Nat} {p : List UInt8} (n : Nat) (h : Pok R S A p) : (pcells R S A p n).size = 32 := by
  simp [pcells, u64s_len, u8s_len, h.r, h.s, h.a, h.p]
theorem pcells_r {R S A : List Nat} {p : List UInt8} (n : Nat) (h : Pok R S A p) (j : Nat) (hj : j < 5) : (pcells R S A p n)[0 + j]? = (u64s R)[j]? := by
  rw [pcells, List.getElem?_toArray, Nat.zero_add, List.getElem?_append_left (by rw [u64s_len, h.r]; exact hj)]
theorem pcells_s {R S A : List Nat} {p : List UInt8} (n : Nat) (h : Pok R S A p) (j : Nat) (hj : j < 5) : (pcells R S A p n)[5 + j]? = (u64s S)[j]? := by
  rw [pcells, List.getElem?_toArray, List.getElem?_append_right (by rw [u64s_len, h.r]; omega), u64s_len, h.r, Nat.add_sub_cancel_left, List.getElem?_append_left (by rw [u64s_len, h.s]; exact hj)]
theorem pcells_a {R S A : List Nat} {p : List UInt8} (n : Nat) (h : Pok R S A p) (j : Nat) (hj : j < 5) : (pcells R S A p n)[10 + j]? = (u64s A)[j]? := by
  rw [pcells, List.getElem?_toArray, List.getElem?_append_right (by rw [u64s_len, h.r]; omega), u64s_len, h.r, show 10 + j - 5 = 5 + j by omega, List.getElem?_append_right (by rw [u64s_len, h.s]; omega), u64s_len, h.s, Nat.add_sub_cancel_left, List.getElem?_append_left (by rw [u64s_len, h.a]; exact hj)]
theorem pcells_p {R S A : List Nat} {p : List UInt8} (n : Nat) (h : Pok R S A p) (j : Nat) (hj : j < 16) : (pcells R S A p n)[15 + j]? = (u8s p)[j]? := by
  rw [pcells, List.getElem?_toArray, List.getElem?_append_right (by rw [u64s_len, h.r]; omega), u64s_len, h.r, show 15 + j - 5 = 10 + j by omega, List.getElem?_append_right (by rw [u64s_len, h.s]; omega), u64s_len, h.s, show 10 + j - 5 = 5 + j by omega, List.getElem?_append_right (by rw [u64s_len, h.a]; omega), u64s_len, h.a, Nat.add_sub_cancel_left, List.getElem?_append_left (by rw [u8s_len, h.p]; exact hj)]
theorem pcells_n {R S A : List Nat} {p : List UInt8} (n : Nat) (h : Pok R S A p) : (pcells R S A p n)[31]? = some (.int .i64 (n : Int)) := by
  rw [pcells, List.getElem?_toArray, List.getElem?_append_right (by rw [u64s_len, h.r]; omega), u64s_len, h.r, List.getElem?_append_right (by rw [u64s_len, h.s]; omega), u64s_len, h.s, List.getElem?_append_right (by rw [u64s_len, h.a]; omega), u64s_len, h.a, List.getElem?_append_right (by rw [u8s_len, h.p]; omega), u8s_len, h.p]; rfl

/-- Five cells from a place on, of a block that is known whole. -/
theorem load_at5 {w : World} {g o : Nat} {cs : Array Value} {t : TypeId} {x : List Nat} (h : Arr w g cs t) (hx : x.length = 5) (hc : ∀ j, j < 5 → cs[o + j]? = (u64s x)[j]?) :
    (Instr.loadAt 50 (.pointer (some ⟨g, o, none⟩))).run Tryd.prog w = .ok (.agg (row5 x)) w := by
  refine run_loadAt_mid w g o 50 (u64s x) _ ?_ Tryd.underlying50 rfl (by rw [u64s_len, hx]; exact info_n5)
  intro j v hv
  have hj : j < 5 := by have := (List.getElem?_eq_some_iff.1 hv).1; rwa [u64s_len, hx] at this
  exact h.cell (by rw [hc j hj]; exact hv)
theorem store_new5 {w : World} {g : Nat} {old : Array Value} {z : List Nat} (h : Arr w g old 50) (hz : z.length = 5) (ho : old.size = 5) :
    (Instr.storeAt 50 (.pointer (some ⟨g, 0, none⟩)) (.agg (row5 z))).run Tryd.prog w = .ok () (w.setRow g (row5 z)) := by
  have hst := run_storeCells_at Tryd.prog g 0 50 (u64s z) 0 old w h (by rw [u64s_len, hz]; omega) (fun v hv => by
    simp only [u64s, List.mem_map] at hv
    obtain ⟨b, _, rfl⟩ := hv
    rfl)
  rw [u64s_len, hz] at hst
  have hi := info_n5
  cases hq : Tryd.prog.info? 50 with
  | none => simp [hq] at hi
  | some i =>
    have hs : i.size = 5 := by simpa [hq] using hi
    have hsz : (row5 z).size = 5 := row5_size hz
    have hd : List.drop 5 old.toList = [] := List.drop_eq_nil_of_le (by simp; omega)
    simp only [Nat.add_zero, Nat.zero_add, List.take_zero, List.nil_append, hd, List.append_nil] at hst
    simp only [Instr.storeAt, Instr.sureAddr, Sem.run_bind, Sem.run_pure, Result.andThen_ok]
    simp [storeVar, sizeOf, typeInfo, hq, Value.cells, hs, hsz]
    rw [show (row5 z).toList = u64s z from rfl, hst]
    rfl

/-- Five cells are stored one by one. -/
def five5 (w : World) (gz a b c d e : Nat) : World := World.setCell (World.setCell (World.setCell (World.setCell (World.setCell w ⟨gz, 0, none⟩ (.int .u64 (a : Int))) ⟨gz, 1, none⟩ (.int .u64 (b : Int))) ⟨gz, 2, none⟩ (.int .u64 (c : Int))) ⟨gz, 3, none⟩ (.int .u64 (d : Int))) ⟨gz, 4, none⟩ (.int .u64 (e : Int))
theorem five5_arr {w : World} {gz : Nat} {a b c d e : Nat} (h : Arr w gz zero5 50) : Arr (World.setCell (World.setCell (World.setCell (World.setCell (World.setCell w ⟨gz, 0, none⟩ (.int .u64 (a : Int))) ⟨gz, 1, none⟩ (.int .u64 (b : Int))) ⟨gz, 2, none⟩ (.int .u64 (c : Int))) ⟨gz, 3, none⟩ (.int .u64 (d : Int))) ⟨gz, 4, none⟩ (.int .u64 (e : Int))) gz (row5 [a, b, c, d, e]) 50 := by
  rw [zero5_row] at h
  exact ((((h.set5 0 a).set5 1 b).set5 2 c).set5 3 d).set5 4 e
theorem five5_other {w : World} {gz g : Nat} {cs : Array Value} {t : TypeId} (h : Arr w g cs t) (hn : g ≠ gz) (a b c d e : Nat) : Arr (World.setCell (World.setCell (World.setCell (World.setCell (World.setCell w ⟨gz, 0, none⟩ (.int .u64 (a : Int))) ⟨gz, 1, none⟩ (.int .u64 (b : Int))) ⟨gz, 2, none⟩ (.int .u64 (c : Int))) ⟨gz, 3, none⟩ (.int .u64 (d : Int))) ⟨gz, 4, none⟩ (.int .u64 (e : Int))) g cs t :=
  ((((h.other _ _ hn).other _ _ hn).other _ _ hn).other _ _ hn).other _ _ hn
theorem five5_below {w v : World} {gz B : Nat} (h : Below B v w) (hg : B ≤ gz) (a b c d e : Nat) : Below B v (World.setCell (World.setCell (World.setCell (World.setCell (World.setCell w ⟨gz, 0, none⟩ (.int .u64 (a : Int))) ⟨gz, 1, none⟩ (.int .u64 (b : Int))) ⟨gz, 2, none⟩ (.int .u64 (c : Int))) ⟨gz, 3, none⟩ (.int .u64 (d : Int))) ⟨gz, 4, none⟩ (.int .u64 (e : Int))) :=
  ((((h.setCell (p := ⟨gz, 0, none⟩) hg _).setCell (p := ⟨gz, 1, none⟩) hg _).setCell (p := ⟨gz, 2, none⟩) hg _).setCell (p := ⟨gz, 3, none⟩) hg _).setCell (p := ⟨gz, 4, none⟩) hg _
/-- What next reads. -/
theorem next_cells {w' : World} {g n : Nat} {r0 r1 r2 r3 r4 a0 a1 a2 a3 a4 : Nat} {S : List Nat} {p : List UInt8} (hp : Pok [r0, r1, r2, r3, r4] S [a0, a1, a2, a3, a4] p) (h : Arr w' g (pcells [r0, r1, r2, r3, r4] S [a0, a1, a2, a3, a4] p n) 53) :
    w'.cell? ⟨g, 0, none⟩ = some (.int .u64 (r0 : Int)) ∧ w'.cell? ⟨g, 1, none⟩ = some (.int .u64 (r1 : Int)) ∧ w'.cell? ⟨g, 2, none⟩ = some (.int .u64 (r2 : Int)) ∧ w'.cell? ⟨g, 3, none⟩ = some (.int .u64 (r3 : Int)) ∧ w'.cell? ⟨g, 4, none⟩ = some (.int .u64 (r4 : Int)) ∧ w'.cell? ⟨g, 10, none⟩ = some (.int .u64 (a0 : Int)) ∧ w'.cell? ⟨g, 11, none⟩ = some (.int .u64 (a1 : Int)) ∧ w'.cell? ⟨g, 12, none⟩ = some (.int .u64 (a2 : Int)) ∧ w'.cell? ⟨g, 13, none⟩ = some (.int .u64 (a3 : Int)) ∧ w'.cell? ⟨g, 14, none⟩ = some (.int .u64 (a4 : Int)) :=
  ⟨h.cell (by rw [pcells_r n hp 0 (by decide)]; rfl), h.cell (by rw [pcells_r n hp 1 (by decide)]; rfl), h.cell (by rw [pcells_r n hp 2 (by decide)]; rfl), h.cell (by rw [pcells_r n hp 3 (by decide)]; rfl), h.cell (by rw [pcells_r n hp 4 (by decide)]; rfl),
   h.cell (by rw [pcells_a n hp 0 (by decide)]; rfl), h.cell (by rw [pcells_a n hp 1 (by decide)]; rfl), h.cell (by rw [pcells_a n hp 2 (by decide)]; rfl), h.cell (by rw [pcells_a n hp 3 (by decide)]; rfl), h.cell (by rw [pcells_a n hp 4 (by decide)]; rfl)⟩

set_option maxHeartbeats 4000000 in
set_option maxRecDepth 100000 in
theorem next_any (g : Nat) (R S A : List Nat) (p : List UInt8) (n : Nat) (hp : Pok R S A p) (bA : ∀ z ∈ A, z < 67108864) (bR : ∀ z ∈ R, z < 67108864) (b : ByteArray) (hb : b.size ≤ 16) (w : World) (h : Arr w g (pcells R S A p n) 53) :
    Calls Tryd.prog 26 #[.pointer (some ⟨g, 0, none⟩), .string b] w fun e w' => (∃ z, e = .returned (.agg (row5 z)) ∧ z.length = 5 ∧ (∀ v ∈ z, v < 67108864) ∧ numP z % PP = (numP A + (numLow b.data.toList + 256 ^ b.size)) * numP R % PP) ∧ Below w.heap.size w w' := by
  obtain ⟨B1, hB1⟩ : ∃ B1, B1 = b ++ ⟨#[1]⟩ := ⟨_, rfl⟩
  have hcat : ∀ w : World, (Op.stringOp .add b ⟨#[1]⟩).run Tryd.prog w = .ok (.string B1) w := fun w => by rw [hB1]; exact cat_run _ _ (by show b.size + 1 ≤ _; omega) w
  have hs1 : B1.size = b.size + 1 := by rw [hB1, ByteArray.size_append]; rfl
  have hn1 : numLow B1.data.toList = numLow b.data.toList + 256 ^ b.size := by
    rw [hB1, show (b ++ (⟨#[1]⟩ : ByteArray)).data.toList = b.data.toList ++ [1] by simp, numLow_append]; simp [numLow]
  have HRd := Lib.hid (fun w => read5_any B1 (by omega) (by omega) w)
  rw [hn1] at HRd
  have hN : numLow b.data.toList + 256 ^ b.size < TB := by
    have h1 := numLow_lt b.data.toList
    rw [show b.data.toList.length = b.size by simp] at h1
    have h2 := p256_le hb
    have : 256 ^ 16 + 256 ^ 16 < TB := by decide
    omega
  generalize numLow b.data.toList + 256 ^ b.size = N at *
  have hPl : (partsP N 5).length = 5 := partsP_len _ _
  have hPb := partsP_lt N 5
  have hPn := partsP_of N hN
  generalize partsP N 5 = X at *
  obtain ⟨a0, a1, a2, a3, a4, rfl⟩ := five A hp.a
  obtain ⟨r0, r1, r2, r3, r4, rfl⟩ := five R hp.r
  have hpl : ∀ w, Calls Tryd.prog 28 #[.agg #[.int .u64 (a0 : Int), .int .u64 (a1 : Int), .int .u64 (a2 : Int), .int .u64 (a3 : Int), .int .u64 (a4 : Int)], .agg (row5 X)] w fun e w' => e = .returned (.agg (row5 (sumP [a0, a1, a2, a3, a4] X))) ∧ Below w.heap.size w w' :=
    fun w => plus5_any [a0, a1, a2, a3, a4] X hp.a hPl (fun z hz => Nat.lt_trans (bA z hz) (by decide)) (fun z hz => Nat.lt_trans (hPb z hz) (by decide)) w
  have hsb := sum_bound hp.a hPl bA hPb
  have htm : ∀ w, Calls Tryd.prog 37 #[.agg (row5 (sumP [a0, a1, a2, a3, a4] X)), .agg #[.int .u64 (r0 : Int), .int .u64 (r1 : Int), .int .u64 (r2 : Int), .int .u64 (r3 : Int), .int .u64 (r4 : Int)]] w fun e w' => (∃ z0 z1 z2 z3 z4 : Nat, e = .returned (.agg #[.int .u64 (z0 : Int), .int .u64 (z1 : Int), .int .u64 (z2 : Int), .int .u64 (z3 : Int), .int .u64 (z4 : Int)]) ∧ (∀ v ∈ [z0, z1, z2, z3, z4], v < 67108864) ∧ numP [z0, z1, z2, z3, z4] % PP = (numP [a0, a1, a2, a3, a4] + N) * numP [r0, r1, r2, r3, r4] % PP) ∧ Below w.heap.size w w' := by
    intro w
    refine (times5_any (sumP [a0, a1, a2, a3, a4] X) [r0, r1, r2, r3, r4] (by rw [sumP_len _ _ (by rw [hp.a, hPl]), hp.a]) hp.r (fun z hz => by have := hsb z hz; omega) bR w).mono ?_
    rintro e w' ⟨⟨z, rfl, hz, hzb, hzn⟩, hb⟩
    obtain ⟨z0, z1, z2, z3, z4, rfl⟩ := five z hz
    rw [sumP_num _ _ (by rw [hp.a, hPl]), hPn] at hzn
    exact ⟨⟨z0, z1, z2, z3, z4, rfl, hzb, hzn⟩, hb⟩
  have HPl := Lib.hid hpl
  have HTm := Lib.hid htm
  have HOk := Lib.hid hp
  have HS0 := Lib.hid (h.alloc (.cells zero5 50))
  have HZ0 := Lib.hid (Arr.new w zero5 50)
  have HGn : Hid (g ≠ w.heap.size) := Nat.ne_of_lt h.lt
  have HB0 := Lib.hid ((Below.refl w.heap.size w).alloc (Nat.le_refl _) (.cells zero5 50))
  obtain ⟨C, hC⟩ : ∃ C, C = pcells [r0, r1, r2, r3, r4] S [a0, a1, a2, a3, a4] p n := ⟨_, rfl⟩
  generalize sumP [a0, a1, a2, a3, a4] X = Y at *
  clear hB1 hs1 hn1 hN hPl hPb hPn hsb bA bR hb h hp hpl htm hC C
  go_enter Tryd.func26, Tryd.ntmps26
  go_wp2
  go_region_held3 (fun w' => w'.cell? ⟨g, 0, none⟩ = some (.int .u64 (r0 : Int)) ∧ w'.cell? ⟨g, 1, none⟩ = some (.int .u64 (r1 : Int)) ∧ w'.cell? ⟨g, 2, none⟩ = some (.int .u64 (r2 : Int)) ∧ w'.cell? ⟨g, 3, none⟩ = some (.int .u64 (r3 : Int)) ∧ w'.cell? ⟨g, 4, none⟩ = some (.int .u64 (r4 : Int)) ∧ w'.cell? ⟨g, 10, none⟩ = some (.int .u64 (a0 : Int)) ∧ w'.cell? ⟨g, 11, none⟩ = some (.int .u64 (a1 : Int)) ∧ w'.cell? ⟨g, 12, none⟩ = some (.int .u64 (a2 : Int)) ∧ w'.cell? ⟨g, 13, none⟩ = some (.int .u64 (a3 : Int)) ∧ w'.cell? ⟨g, 14, none⟩ = some (.int .u64 (a4 : Int)))
    (first
      | with_reducible exact next_cells HOk.out HS0.out.drew
      | with_reducible exact next_cells HOk.out HS1.out
      | with_reducible exact next_cells HOk.out HS2.out
      | with_reducible exact next_cells HOk.out HS3.out
      | with_reducible exact next_cells HOk.out (five5_other HS3.out HGn.out z0 z1 z2 z3 z4))
    (first
      | (go_at_call 24; (with_reducible refine (HRd.out _).mono ?_); rintro e w1 ⟨rfl, hb1⟩; have HS1 := Lib.hid (HS0.out.drew.next hb1))
      | (go_at_call 28; (with_reducible refine (HPl.out _).mono ?_); rintro e w2 ⟨rfl, hb2⟩; have HS2 := Lib.hid (HS1.out.next hb2))
      | (go_at_call 37; (with_reducible refine (HTm.out _).mono ?_); rintro e w3 ⟨⟨z0, z1, z2, z3, z4, rfl, hzb, hzn⟩, hb3⟩; have HS3 := Lib.hid (HS2.out.next hb3); have HZ3 := Lib.hid (((HZ0.out.drew.next hb1).next hb2).next hb3); have n0 : w3.cell? ⟨w.heap.size, 0, none⟩ = some (.int .u64 0) := HZ3.out.cell (j := 0) rfl; have n1 : w3.cell? ⟨w.heap.size, 1, none⟩ = some (.int .u64 0) := HZ3.out.cell (j := 1) rfl; have n2 : w3.cell? ⟨w.heap.size, 2, none⟩ = some (.int .u64 0) := HZ3.out.cell (j := 2) rfl; have n3 : w3.cell? ⟨w.heap.size, 3, none⟩ = some (.int .u64 0) := HZ3.out.cell (j := 3) rfl; have n4 : w3.cell? ⟨w.heap.size, 4, none⟩ = some (.int .u64 0) := HZ3.out.cell (j := 4) rfl; have nf := HZ3.out.frozen))
  all_goals
    go_wp2_with fail
    exact ret_n5 Tryd.results26 w.heap.size _ (row5_size rfl) rfl (five5_arr HZ3.out) rfl ⟨⟨[z0, z1, z2, z3, z4], rfl, rfl, hzb, hzn⟩, five5_below (HB0.out.drew.trans (((Below_next (Below_next hb1 hb2) hb3)).mono HB0.out.size)) (Nat.le_refl _) z0 z1 z2 z3 z4⟩
end Go.Proofs.YtjbhmdlgokoepaaDoor
