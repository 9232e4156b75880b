/- ShaAdds: the law's walk. -/
import Derived.Test.YtlpdklnekapkaaaDoorSh11
import Derived.Test.YtlpdklnekapkaaaDoorEqa
import Derived.Deep.DeepCutAuto
namespace Go.Proofs.YtlpdklnekapkaaaDoor
open Go.RowKit

theorem arr_conv {w : World} {g : Nat} {bs : List UInt8} {t : TypeId} (h : Arr w g (u8s bs).toArray t) (hl : bs.length = 64) (m : Nat) (hm : m ≤ 64) :
    (convert 49 9 (.slice (some ⟨g, 0, none⟩) m 64)).run Tryd.prog w = .ok (.string ⟨(bs.take m).toArray⟩) w := by
  have := conv_cells w ⟨g, 0, none⟩ (bs.take m) 64 (fun j v hv => by
    have hj : j < (u8s (bs.take m)).length := (List.getElem?_eq_some_iff.1 hv).1
    rw [u8s_len, List.length_take] at hj
    rw [addr_add, Nat.zero_add]
    refine h.cell ?_
    rw [← hv]
    simp only [u8s, List.map_take, List.getElem?_toArray]
    rw [List.getElem?_take, if_pos (by omega)])
  rw [List.length_take, show min m bs.length = m from by omega] at this
  exact this

theorem eqS (s : S8) (w : World) : (Op.equalIn 10000 27 (.agg #[.int .u32 (s.a : Int), .int .u32 (s.b : Int), .int .u32 (s.c : Int), .int .u32 (s.d : Int), .int .u32 (s.e : Int), .int .u32 (s.f : Int), .int .u32 (s.g : Int), .int .u32 (s.h : Int)]) (.agg #[.int .u32 (s.a : Int), .int .u32 (s.b : Int), .int .u32 (s.c : Int), .int .u32 (s.d : Int), .int .u32 (s.e : Int), .int .u32 (s.f : Int), .int .u32 (s.g : Int), .int .u32 (s.h : Int)])).run Tryd.prog w = .ok true w :=
  equalIn_ints w 9998 27 25 8 .u32 [(s.a : Int), (s.b : Int), (s.c : Int), (s.d : Int), (s.e : Int), (s.f : Int), (s.g : Int), (s.h : Int)] Tryd.underlying27 Tryd.underlying25 Tryd.isAgg25 Tryd.sizeOf25 rfl
theorem eqZ (w : World) : (Op.equalIn 10000 27 (.agg #[.int .u32 0, .int .u32 0, .int .u32 0, .int .u32 0, .int .u32 0, .int .u32 0, .int .u32 0, .int .u32 0]) (.agg #[.int .u32 0, .int .u32 0, .int .u32 0, .int .u32 0, .int .u32 0, .int .u32 0, .int .u32 0, .int .u32 0])).run Tryd.prog w = .ok true w :=
  equalIn_ints w 9998 27 25 8 .u32 [0, 0, 0, 0, 0, 0, 0, 0] Tryd.underlying27 Tryd.underlying25 Tryd.isAgg25 Tryd.sizeOf25 rfl

/-- The law's memory: the two arguments, what has been mixed. -/
def AddsRel (w : World) (s : S8) (bs : List UInt8) (l : List (Nat × S8)) (wr : World) : Prop :=
  Arr wr w.heap.size s.cells 27 ∧ Arr wr (w.heap.size + 1) (u8s bs).toArray 48 ∧ (∀ p ∈ l, Arr wr p.1 p.2.cells 27) ∧ Tab wr ∧ Below w.heap.size w wr
def AddsCut (w : World) (s : S8) (bs : List UInt8) (l : List (Nat × S8)) (M : S8) (err : Int) (s6 s7 : Value) (wx : World) : Prop :=
  ∃ g, s6 = .pointer (some ⟨g, 0, none⟩) ∧ s7 = .int .i64 err ∧ AddsRel w s bs ((g, M) :: l) wx
theorem adds_a {w w1 w3 : World} {s : S8} {bs : List UInt8} {l : List (Nat × S8)} {M : S8} {err : Int} (h : AddsRel w s bs l w1) (hb : Below w1.drew.heap.size w1.drew w3) :
    AddsCut w s bs l M err (.pointer (some ⟨w3.heap.size, 0, none⟩)) (.int .i64 err) (w3.alloc (.cells #[.int .u32 (M.a : Int), .int .u32 (M.b : Int), .int .u32 (M.c : Int), .int .u32 (M.d : Int), .int .u32 (M.e : Int), .int .u32 (M.f : Int), .int .u32 (M.g : Int), .int .u32 (M.h : Int)] 27)) := by
  obtain ⟨h1, h2, h3, h4, h5⟩ := h
  refine ⟨w3.heap.size, rfl, rfl, (h1.drew.next hb).alloc _, (h2.drew.next hb).alloc _, ?_, (h4.drew.next hb).alloc _, ?_⟩
  · intro p hp
    rcases List.mem_cons.1 hp with rfl | hp
    · exact Arr.new w3 M.cells _
    · exact ((h3 p hp).drew.next hb).alloc _
  · have h6 : Below w.heap.size w w3 := (h5.drew).trans (hb.mono h5.size)
    exact h6.alloc h6.size _
theorem adds_b {w w1 w3 : World} {s : S8} {bs : List UInt8} {l : List (Nat × S8)} {M : S8} {err : Int} (h : AddsRel w s bs l w1) (hb : Below (World.drew (w1.alloc (.cells #[.int .u32 0, .int .u32 0, .int .u32 0, .int .u32 0, .int .u32 0, .int .u32 0, .int .u32 0, .int .u32 0] 27))).heap.size (World.drew (w1.alloc (.cells #[.int .u32 0, .int .u32 0, .int .u32 0, .int .u32 0, .int .u32 0, .int .u32 0, .int .u32 0, .int .u32 0] 27))) w3) :
    AddsCut w s bs l M err (.pointer (some ⟨w1.heap.size, 0, none⟩)) (.int .i64 err) (World.setCell (World.setCell (World.setCell (World.setCell (World.setCell (World.setCell (World.setCell (World.setCell w3 ⟨w1.heap.size, 0, none⟩ (.int .u32 (M.a : Int))) ⟨w1.heap.size, 1, none⟩ (.int .u32 (M.b : Int))) ⟨w1.heap.size, 2, none⟩ (.int .u32 (M.c : Int))) ⟨w1.heap.size, 3, none⟩ (.int .u32 (M.d : Int))) ⟨w1.heap.size, 4, none⟩ (.int .u32 (M.e : Int))) ⟨w1.heap.size, 5, none⟩ (.int .u32 (M.f : Int))) ⟨w1.heap.size, 6, none⟩ (.int .u32 (M.g : Int))) ⟨w1.heap.size, 7, none⟩ (.int .u32 (M.h : Int))) := by
  obtain ⟨h1, h2, h3, h4, h5⟩ := h
  have hs : (World.drew (w1.alloc (.cells #[.int .u32 0, .int .u32 0, .int .u32 0, .int .u32 0, .int .u32 0, .int .u32 0, .int .u32 0, .int .u32 0] 27))).heap.size = w1.heap.size + 1 := by show (w1.heap.push _).size = _; simp
  have hB3 : Below w.heap.size w w3 := ((h5.alloc h5.size _).drew).trans (hb.mono (by rw [hs]; have := h5.size; omega))
  have l1 := h1.lt
  have l2 := h2.lt
  have l4 := h4.lt
  refine ⟨w1.heap.size, rfl, rfl, set8_other ((h1.alloc _).drew.next hb) (by omega) M, set8_other ((h2.alloc _).drew.next hb) (by omega) M, ?_, ?_, set8_below hB3 h5.size M⟩
  · intro p hp
    rcases List.mem_cons.1 hp with rfl | hp
    · exact set8 (s := zeroS) (zeros_next hb) M
    · have := (h3 p hp).lt
      exact set8_other (((h3 p hp).alloc _).drew.next hb) (by omega) M
  · exact (((h4.alloc _).drew).next hb).below (B := w1.heap.size) (set8_below (Below.refl w1.heap.size w3) (Nat.le_refl _) M) l4

theorem adds_next {w w1 w3 : World} {s : S8} {bs : List UInt8} {l : List (Nat × S8)} (h : AddsRel w s bs l w1) (hb : Below w1.heap.size w1 w3) : AddsRel w s bs l w3 := by
  obtain ⟨h1, h2, h3, h4, h5⟩ := h
  exact ⟨h1.next hb, h2.next hb, fun p hp => (h3 p hp).next hb, h4.next hb, h5.trans (hb.mono h5.size)⟩
theorem adds_own {w w1 : World} {s : S8} {bs : List UInt8} (h : AddsRel w s bs [] w1) : AddsRel w s bs [(w1.heap.size, s)] (w1.alloc (.cells s.cells 27)) := by
  obtain ⟨h1, h2, h3, h4, h5⟩ := h
  refine ⟨h1.alloc _, h2.alloc _, ?_, h4.alloc _, h5.alloc h5.size _⟩
  intro p hp
  obtain rfl := List.mem_singleton.1 hp
  exact Arr.new w1 _ _
theorem conv_at {w : World} {g : Nat} {bs : List UInt8} {t : TypeId} (h : Arr w g (u8s bs).toArray t) (hl : bs.length = 64) (m : Nat) (hm : m ≤ 64) (BB : ByteArray) (hB : BB = ⟨(bs.take m).toArray⟩ ∨ (m = 64 ∧ BB = ⟨bs.toArray⟩)) :
    (convert 49 9 (.slice (some ⟨g, 0, none⟩) m 64)).run Tryd.prog w = .ok (.string BB) w := by
  have := arr_conv h hl m hm
  rcases hB with rfl | ⟨rfl, rfl⟩
  · exact this
  · rw [List.take_of_length_le (by omega)] at this
    exact this

set_option maxHeartbeats 4000000 in
theorem adds_main (s : S8) (hs : s.ok) (bs : List UInt8) (hbs : bs.length = 64) (w : World) (htab : Tab w) :
    Calls Tryd.prog 8 #[.agg s.cells, .agg (u8s bs).toArray] w fun e w' => e = .returned (.bool true) ∧ Below w.heap.size w w' := by
  have HT0 := Lib.hid ((htab.alloc (.cells s.cells 27)).alloc (.cells (u8s bs).toArray 48))
  have HA := Lib.hid (awake_any _ HT0.out)
  have hrel0 : AddsRel w s bs [] ((w.alloc (.cells s.cells 27)).alloc (.cells (u8s bs).toArray 48)) :=
    ⟨(Arr.new w _ _).alloc _, Arr.newAt _ _ _ (by simp), (fun p hp => by cases hp), HT0.out, (((Below.refl _ _).alloc (Nat.le_refl _) _).alloc (by simp) _)⟩
  have HR0 := Lib.hid hrel0
  obtain ⟨BS, hBS⟩ : ∃ BS : ByteArray, BS = ⟨bs.toArray⟩ := ⟨_, rfl⟩
  obtain ⟨BT, hBT⟩ : ∃ BT : ByteArray, BT = ⟨(bs.take 63).toArray⟩ := ⟨_, rfl⟩
  have hBSs : BS.size = 64 := by rw [hBS]; show bs.toArray.size = 64; simpa using hbs
  have hBTs : BT.size = 63 := by rw [hBT]; show (bs.take 63).toArray.size = 63; rw [List.size_toArray, List.length_take]; omega
  obtain ⟨M, hM⟩ : ∃ M, M = mixS s bs := ⟨_, rfl⟩
  have hBl : BS.data.toList = bs := by rw [hBS]
  have cm1 : ∀ wr : World, Tab wr → Calls Tryd.prog 12 #[.agg #[.int .u32 (s.a : Int), .int .u32 (s.b : Int), .int .u32 (s.c : Int), .int .u32 (s.d : Int), .int .u32 (s.e : Int), .int .u32 (s.f : Int), .int .u32 (s.g : Int), .int .u32 (s.h : Int)], .string BS] wr fun e w' => e = .returned (.tuple #[.agg #[.int .u32 (M.a : Int), .int .u32 (M.b : Int), .int .u32 (M.c : Int), .int .u32 (M.d : Int), .int .u32 (M.e : Int), .int .u32 (M.f : Int), .int .u32 (M.g : Int), .int .u32 (M.h : Int)], .int .i64 0]) ∧ Below wr.heap.size wr w' := fun wr ht =>
    (Mix_any s hs BS wr ht).mono fun _ _ ⟨h, k⟩ => ⟨h.trans (by rw [mixR, if_pos hBSs, mixE, if_pos hBSs, hBl, ← hM]; rfl), k⟩
  have cm3 : ∀ wr : World, Tab wr → Calls Tryd.prog 12 #[.agg #[.int .u32 (s.a : Int), .int .u32 (s.b : Int), .int .u32 (s.c : Int), .int .u32 (s.d : Int), .int .u32 (s.e : Int), .int .u32 (s.f : Int), .int .u32 (s.g : Int), .int .u32 (s.h : Int)], .string BT] wr fun e w' => e = .returned (.tuple #[.agg #[.int .u32 (zeroS.a : Int), .int .u32 (zeroS.b : Int), .int .u32 (zeroS.c : Int), .int .u32 (zeroS.d : Int), .int .u32 (zeroS.e : Int), .int .u32 (zeroS.f : Int), .int .u32 (zeroS.g : Int), .int .u32 (zeroS.h : Int)], .int .i64 5]) ∧ Below wr.heap.size wr w' := fun wr ht =>
    (Mix_any s hs BT wr ht).mono fun _ _ ⟨h, k⟩ => ⟨h.trans (by rw [mixR, if_neg (by omega), mixE, if_neg (by omega)]; rfl), k⟩
  obtain ⟨B1, hB1⟩ : ∃ B1 : ByteArray, B1 = ⟨#[0]⟩ := ⟨_, rfl⟩
  have hB1s : B1.size = 1 := by rw [hB1]; rfl
  have hB0 : (BS ++ B1).size = 65 := by rw [ByteArray.size_append, hBSs, hB1s]
  have hrun : ∀ w : World, (Op.stringOp .add BS B1).run Tryd.prog w = .ok (.string (BS ++ B1)) w := fun w => cat_run BS B1 (by omega) w
  obtain ⟨B4, hB4⟩ : ∃ B4, B4 = BS ++ B1 := ⟨_, rfl⟩
  rw [← hB4] at hB0 hrun
  rw [hB1] at hrun
  have cm4 : ∀ wr : World, Tab wr → Calls Tryd.prog 12 #[.agg #[.int .u32 (s.a : Int), .int .u32 (s.b : Int), .int .u32 (s.c : Int), .int .u32 (s.d : Int), .int .u32 (s.e : Int), .int .u32 (s.f : Int), .int .u32 (s.g : Int), .int .u32 (s.h : Int)], .string B4] wr fun e w' => e = .returned (.tuple #[.agg #[.int .u32 (zeroS.a : Int), .int .u32 (zeroS.b : Int), .int .u32 (zeroS.c : Int), .int .u32 (zeroS.d : Int), .int .u32 (zeroS.e : Int), .int .u32 (zeroS.f : Int), .int .u32 (zeroS.g : Int), .int .u32 (zeroS.h : Int)], .int .i64 5]) ∧ Below wr.heap.size wr w' := fun wr ht =>
    (Mix_any s hs B4 wr ht).mono fun _ _ ⟨h, k⟩ => ⟨h.trans (by rw [mixR, if_neg (by omega), mixE, if_neg (by omega)]; rfl), k⟩
  have CM1 := Lib.hid cm1
  have CM3 := Lib.hid cm3
  have CM4 := Lib.hid cm4
  have HBL := Lib.hid hbs
  have HBS := Lib.hid hBS
  have HBT := Lib.hid hBT
  have hsa := arr64_all (w.heap.size + 1) 0
  have hst := arr64_to (w.heap.size + 1) 0 63 (by decide)
  clear cm1 cm3 cm4 hBl htab hrel0 hBS hBT hBSs hBTs hM hbs hB0 hB4 hB1 hB1s
  go_enter Tryd.func8, Tryd.ntmps8
  go_wp2_with (first
    | (go_at_call 9; (with_reducible refine HA.out.mono ?_); rintro e w1 ⟨rfl, hb1⟩; have HR1 := Lib.hid (adds_next HR0.out hb1); have HS1 := Lib.hid HR1.out.1)
    | (with_reducible refine wpList_load8 rfl _ rfl w.heap.size rfl _ (cells_size s) HS1.out ?_)
    | (with_reducible refine wpList_store8_new rfl _ _ rfl _ (by simp) rfl _ rfl (cells_size s) (cells_one s) ?_))
  have HR2 := Lib.hid (adds_own HR1.out)
  clear hb1 HR1 HS1 HR0 HA HT0
  simp only [Act.put, List.setIfInBounds_toArray, List.set_cons_succ, List.set_cons_zero]
  generalize (w1.alloc (.cells s.cells 27)) = wc0 at *
  generalize w1.heap.size = g5 at *
  have hR := HR2.out
  have hcells := hR.1
  have hlb := hcells.lt
  have hlb2 := hR.2.1.lt
  have c0 : wc0.cell? ⟨w.heap.size, 0, none⟩ = some (.int .u32 (s.a : Int)) := hcells.cell (j := 0) rfl
  have c1 : wc0.cell? ⟨w.heap.size, 1, none⟩ = some (.int .u32 (s.b : Int)) := hcells.cell (j := 1) rfl
  have c2 : wc0.cell? ⟨w.heap.size, 2, none⟩ = some (.int .u32 (s.c : Int)) := hcells.cell (j := 2) rfl
  have c3 : wc0.cell? ⟨w.heap.size, 3, none⟩ = some (.int .u32 (s.d : Int)) := hcells.cell (j := 3) rfl
  have c4 : wc0.cell? ⟨w.heap.size, 4, none⟩ = some (.int .u32 (s.e : Int)) := hcells.cell (j := 4) rfl
  have c5 : wc0.cell? ⟨w.heap.size, 5, none⟩ = some (.int .u32 (s.f : Int)) := hcells.cell (j := 5) rfl
  have c6 : wc0.cell? ⟨w.heap.size, 6, none⟩ = some (.int .u32 (s.g : Int)) := hcells.cell (j := 6) rfl
  have c7 : wc0.cell? ⟨w.heap.size, 7, none⟩ = some (.int .u32 (s.h : Int)) := hcells.cell (j := 7) rfl
  have hcv1 := conv_at hR.2.1.drew HBL.out 64 (by decide) BS (.inr ⟨rfl, HBS.out⟩)
  have hcv3 := conv_at ((hR.2.1.alloc (.cells #[.int .u32 0, .int .u32 0, .int .u32 0, .int .u32 0, .int .u32 0, .int .u32 0, .int .u32 0, .int .u32 0] 27)).drew) HBL.out 64 (by decide) BS (.inr ⟨rfl, HBS.out⟩)
  have HTa := Lib.hid hR.2.2.2.1.drew
  have HTb := Lib.hid ((hR.2.2.2.1.alloc (.cells #[.int .u32 0, .int .u32 0, .int .u32 0, .int .u32 0, .int .u32 0, .int .u32 0, .int .u32 0, .int .u32 0] 27)).drew)
  clear hR hcells
  skip
  go_cut [6, 7] (fun s6 s7 wx => AddsCut w s bs [(g5, s)] M 0 s6 s7 wx)
  case first =>
    go_region_with (first
      | (go_at_call 12; (with_reducible refine (CM1.out _ HTa.out).mono ?_); rintro e w3 ⟨rfl, hb⟩)
      | (go_at_call 12; (with_reducible refine (CM1.out _ HTb.out).mono ?_); rintro e w3 ⟨rfl, hb⟩; have hz := zeros_next hb; have n0 : w3.cell? ⟨wc0.heap.size, 0, none⟩ = some (.int .u32 0) := hz.cell (j := 0) rfl; have n1 : w3.cell? ⟨wc0.heap.size, 1, none⟩ = some (.int .u32 0) := hz.cell (j := 1) rfl; have n2 : w3.cell? ⟨wc0.heap.size, 2, none⟩ = some (.int .u32 0) := hz.cell (j := 2) rfl; have n3 : w3.cell? ⟨wc0.heap.size, 3, none⟩ = some (.int .u32 0) := hz.cell (j := 3) rfl; have n4 : w3.cell? ⟨wc0.heap.size, 4, none⟩ = some (.int .u32 0) := hz.cell (j := 4) rfl; have n5 : w3.cell? ⟨wc0.heap.size, 5, none⟩ = some (.int .u32 0) := hz.cell (j := 5) rfl; have n6 : w3.cell? ⟨wc0.heap.size, 6, none⟩ = some (.int .u32 0) := hz.cell (j := 6) rfl; have n7 : w3.cell? ⟨wc0.heap.size, 7, none⟩ = some (.int .u32 0) := hz.cell (j := 7) rfl; have nf := hz.frozen))
    all_goals
      go_wp2_with fail
      go_meet
      first
        | with_reducible exact adds_a HR2.out hb
        | with_reducible exact adds_b HR2.out hb
  obtain ⟨g6, rfl, rfl, hrel0⟩ := hcut
  have HR3 := Lib.hid hrel0
  clear c0 c1 c2 c3 c4 c5 c6 c7 hcv1 hcv3 HTa HTb hlb hlb2 hrel0
  generalize wc = wc1 at *
  have hR := HR3.out
  have hcells := (hR.2.2.1 (g5, s) (by simp))
  have hlb := hcells.lt
  have hlb2 := hR.2.1.lt
  have c0 : wc1.cell? ⟨g5, 0, none⟩ = some (.int .u32 (s.a : Int)) := hcells.cell (j := 0) rfl
  have c1 : wc1.cell? ⟨g5, 1, none⟩ = some (.int .u32 (s.b : Int)) := hcells.cell (j := 1) rfl
  have c2 : wc1.cell? ⟨g5, 2, none⟩ = some (.int .u32 (s.c : Int)) := hcells.cell (j := 2) rfl
  have c3 : wc1.cell? ⟨g5, 3, none⟩ = some (.int .u32 (s.d : Int)) := hcells.cell (j := 3) rfl
  have c4 : wc1.cell? ⟨g5, 4, none⟩ = some (.int .u32 (s.e : Int)) := hcells.cell (j := 4) rfl
  have c5 : wc1.cell? ⟨g5, 5, none⟩ = some (.int .u32 (s.f : Int)) := hcells.cell (j := 5) rfl
  have c6 : wc1.cell? ⟨g5, 6, none⟩ = some (.int .u32 (s.g : Int)) := hcells.cell (j := 6) rfl
  have c7 : wc1.cell? ⟨g5, 7, none⟩ = some (.int .u32 (s.h : Int)) := hcells.cell (j := 7) rfl
  have hcv1 := conv_at hR.2.1.drew HBL.out 64 (by decide) BS (.inr ⟨rfl, HBS.out⟩)
  have hcv3 := conv_at ((hR.2.1.alloc (.cells #[.int .u32 0, .int .u32 0, .int .u32 0, .int .u32 0, .int .u32 0, .int .u32 0, .int .u32 0, .int .u32 0] 27)).drew) HBL.out 64 (by decide) BS (.inr ⟨rfl, HBS.out⟩)
  have HTa := Lib.hid hR.2.2.2.1.drew
  have HTb := Lib.hid ((hR.2.2.2.1.alloc (.cells #[.int .u32 0, .int .u32 0, .int .u32 0, .int .u32 0, .int .u32 0, .int .u32 0, .int .u32 0, .int .u32 0] 27)).drew)
  clear hR hcells
  go_wp2
  go_cut [8, 9] (fun s6 s7 wx => AddsCut w s bs ((g6, M) :: [(g5, s)]) M 0 s6 s7 wx)
  case first =>
    go_region_with (first
      | (go_at_call 12; (with_reducible refine (CM1.out _ HTa.out).mono ?_); rintro e w3 ⟨rfl, hb⟩)
      | (go_at_call 12; (with_reducible refine (CM1.out _ HTb.out).mono ?_); rintro e w3 ⟨rfl, hb⟩; have hz := zeros_next hb; have n0 : w3.cell? ⟨wc1.heap.size, 0, none⟩ = some (.int .u32 0) := hz.cell (j := 0) rfl; have n1 : w3.cell? ⟨wc1.heap.size, 1, none⟩ = some (.int .u32 0) := hz.cell (j := 1) rfl; have n2 : w3.cell? ⟨wc1.heap.size, 2, none⟩ = some (.int .u32 0) := hz.cell (j := 2) rfl; have n3 : w3.cell? ⟨wc1.heap.size, 3, none⟩ = some (.int .u32 0) := hz.cell (j := 3) rfl; have n4 : w3.cell? ⟨wc1.heap.size, 4, none⟩ = some (.int .u32 0) := hz.cell (j := 4) rfl; have n5 : w3.cell? ⟨wc1.heap.size, 5, none⟩ = some (.int .u32 0) := hz.cell (j := 5) rfl; have n6 : w3.cell? ⟨wc1.heap.size, 6, none⟩ = some (.int .u32 0) := hz.cell (j := 6) rfl; have n7 : w3.cell? ⟨wc1.heap.size, 7, none⟩ = some (.int .u32 0) := hz.cell (j := 7) rfl; have nf := hz.frozen))
    all_goals
      go_wp2_with fail
      go_meet
      first
        | with_reducible exact adds_a HR3.out hb
        | with_reducible exact adds_b HR3.out hb
  obtain ⟨g8, rfl, rfl, hrel1⟩ := hcut
  have HR4 := Lib.hid hrel1
  clear c0 c1 c2 c3 c4 c5 c6 c7 hcv1 hcv3 HTa HTb hlb hlb2 hrel1
  generalize wc = wc2 at *
  have hR := HR4.out
  have hcells := hR.1
  have hlb := hcells.lt
  have hlb2 := hR.2.1.lt
  have c0 : wc2.cell? ⟨w.heap.size, 0, none⟩ = some (.int .u32 (s.a : Int)) := hcells.cell (j := 0) rfl
  have c1 : wc2.cell? ⟨w.heap.size, 1, none⟩ = some (.int .u32 (s.b : Int)) := hcells.cell (j := 1) rfl
  have c2 : wc2.cell? ⟨w.heap.size, 2, none⟩ = some (.int .u32 (s.c : Int)) := hcells.cell (j := 2) rfl
  have c3 : wc2.cell? ⟨w.heap.size, 3, none⟩ = some (.int .u32 (s.d : Int)) := hcells.cell (j := 3) rfl
  have c4 : wc2.cell? ⟨w.heap.size, 4, none⟩ = some (.int .u32 (s.e : Int)) := hcells.cell (j := 4) rfl
  have c5 : wc2.cell? ⟨w.heap.size, 5, none⟩ = some (.int .u32 (s.f : Int)) := hcells.cell (j := 5) rfl
  have c6 : wc2.cell? ⟨w.heap.size, 6, none⟩ = some (.int .u32 (s.g : Int)) := hcells.cell (j := 6) rfl
  have c7 : wc2.cell? ⟨w.heap.size, 7, none⟩ = some (.int .u32 (s.h : Int)) := hcells.cell (j := 7) rfl
  have hcv1 := conv_at hR.2.1.drew HBL.out 63 (by decide) BT (.inl HBT.out)
  have hcv3 := conv_at ((hR.2.1.alloc (.cells #[.int .u32 0, .int .u32 0, .int .u32 0, .int .u32 0, .int .u32 0, .int .u32 0, .int .u32 0, .int .u32 0] 27)).drew) HBL.out 63 (by decide) BT (.inl HBT.out)
  have HTa := Lib.hid hR.2.2.2.1.drew
  have HTb := Lib.hid ((hR.2.2.2.1.alloc (.cells #[.int .u32 0, .int .u32 0, .int .u32 0, .int .u32 0, .int .u32 0, .int .u32 0, .int .u32 0, .int .u32 0] 27)).drew)
  clear hR hcells
  go_wp2
  go_cut [10, 11] (fun s6 s7 wx => AddsCut w s bs ((g8, M) :: ((g6, M) :: [(g5, s)])) zeroS 5 s6 s7 wx)
  case first =>
    go_region_with (first
      | (go_at_call 12; (with_reducible refine (CM3.out _ HTa.out).mono ?_); rintro e w3 ⟨rfl, hb⟩)
      | (go_at_call 12; (with_reducible refine (CM3.out _ HTb.out).mono ?_); rintro e w3 ⟨rfl, hb⟩; have hz := zeros_next hb; have n0 : w3.cell? ⟨wc2.heap.size, 0, none⟩ = some (.int .u32 0) := hz.cell (j := 0) rfl; have n1 : w3.cell? ⟨wc2.heap.size, 1, none⟩ = some (.int .u32 0) := hz.cell (j := 1) rfl; have n2 : w3.cell? ⟨wc2.heap.size, 2, none⟩ = some (.int .u32 0) := hz.cell (j := 2) rfl; have n3 : w3.cell? ⟨wc2.heap.size, 3, none⟩ = some (.int .u32 0) := hz.cell (j := 3) rfl; have n4 : w3.cell? ⟨wc2.heap.size, 4, none⟩ = some (.int .u32 0) := hz.cell (j := 4) rfl; have n5 : w3.cell? ⟨wc2.heap.size, 5, none⟩ = some (.int .u32 0) := hz.cell (j := 5) rfl; have n6 : w3.cell? ⟨wc2.heap.size, 6, none⟩ = some (.int .u32 0) := hz.cell (j := 6) rfl; have n7 : w3.cell? ⟨wc2.heap.size, 7, none⟩ = some (.int .u32 0) := hz.cell (j := 7) rfl; have nf := hz.frozen))
    all_goals
      go_wp2_with fail
      go_meet
      first
        | with_reducible exact adds_a HR4.out hb
        | with_reducible exact adds_b HR4.out hb
  obtain ⟨g10, rfl, rfl, hrel2⟩ := hcut
  have HR5 := Lib.hid hrel2
  clear c0 c1 c2 c3 c4 c5 c6 c7 hcv1 hcv3 HTa HTb hlb hlb2 hrel2
  generalize wc = wc3 at *
  have hR := HR5.out
  have hcells := hR.1
  have hlb := hcells.lt
  have hlb2 := hR.2.1.lt
  have c0 : wc3.cell? ⟨w.heap.size, 0, none⟩ = some (.int .u32 (s.a : Int)) := hcells.cell (j := 0) rfl
  have c1 : wc3.cell? ⟨w.heap.size, 1, none⟩ = some (.int .u32 (s.b : Int)) := hcells.cell (j := 1) rfl
  have c2 : wc3.cell? ⟨w.heap.size, 2, none⟩ = some (.int .u32 (s.c : Int)) := hcells.cell (j := 2) rfl
  have c3 : wc3.cell? ⟨w.heap.size, 3, none⟩ = some (.int .u32 (s.d : Int)) := hcells.cell (j := 3) rfl
  have c4 : wc3.cell? ⟨w.heap.size, 4, none⟩ = some (.int .u32 (s.e : Int)) := hcells.cell (j := 4) rfl
  have c5 : wc3.cell? ⟨w.heap.size, 5, none⟩ = some (.int .u32 (s.f : Int)) := hcells.cell (j := 5) rfl
  have c6 : wc3.cell? ⟨w.heap.size, 6, none⟩ = some (.int .u32 (s.g : Int)) := hcells.cell (j := 6) rfl
  have c7 : wc3.cell? ⟨w.heap.size, 7, none⟩ = some (.int .u32 (s.h : Int)) := hcells.cell (j := 7) rfl
  have hcv1 := conv_at hR.2.1.drew HBL.out 64 (by decide) BS (.inr ⟨rfl, HBS.out⟩)
  have hcv3 := conv_at ((hR.2.1.alloc (.cells #[.int .u32 0, .int .u32 0, .int .u32 0, .int .u32 0, .int .u32 0, .int .u32 0, .int .u32 0, .int .u32 0] 27)).drew) HBL.out 64 (by decide) BS (.inr ⟨rfl, HBS.out⟩)
  have HTa := Lib.hid hR.2.2.2.1.drew
  have HTb := Lib.hid ((hR.2.2.2.1.alloc (.cells #[.int .u32 0, .int .u32 0, .int .u32 0, .int .u32 0, .int .u32 0, .int .u32 0, .int .u32 0, .int .u32 0] 27)).drew)
  clear hR hcells
  go_wp2
  go_cut [12, 13] (fun s6 s7 wx => AddsCut w s bs ((g10, zeroS) :: ((g8, M) :: ((g6, M) :: [(g5, s)]))) zeroS 5 s6 s7 wx)
  case first =>
    go_region_with (first
      | (go_at_call 12; (with_reducible refine (CM4.out _ HTa.out).mono ?_); rintro e w3 ⟨rfl, hb⟩)
      | (go_at_call 12; (with_reducible refine (CM4.out _ HTb.out).mono ?_); rintro e w3 ⟨rfl, hb⟩; have hz := zeros_next hb; have n0 : w3.cell? ⟨wc3.heap.size, 0, none⟩ = some (.int .u32 0) := hz.cell (j := 0) rfl; have n1 : w3.cell? ⟨wc3.heap.size, 1, none⟩ = some (.int .u32 0) := hz.cell (j := 1) rfl; have n2 : w3.cell? ⟨wc3.heap.size, 2, none⟩ = some (.int .u32 0) := hz.cell (j := 2) rfl; have n3 : w3.cell? ⟨wc3.heap.size, 3, none⟩ = some (.int .u32 0) := hz.cell (j := 3) rfl; have n4 : w3.cell? ⟨wc3.heap.size, 4, none⟩ = some (.int .u32 0) := hz.cell (j := 4) rfl; have n5 : w3.cell? ⟨wc3.heap.size, 5, none⟩ = some (.int .u32 0) := hz.cell (j := 5) rfl; have n6 : w3.cell? ⟨wc3.heap.size, 6, none⟩ = some (.int .u32 0) := hz.cell (j := 6) rfl; have n7 : w3.cell? ⟨wc3.heap.size, 7, none⟩ = some (.int .u32 0) := hz.cell (j := 7) rfl; have nf := hz.frozen))
    all_goals
      go_wp2_with fail
      go_meet
      first
        | with_reducible exact adds_a HR5.out hb
        | with_reducible exact adds_b HR5.out hb
  obtain ⟨g12, rfl, rfl, hrel3⟩ := hcut
  have HR6 := Lib.hid hrel3
  clear c0 c1 c2 c3 c4 c5 c6 c7 hcv1 hcv3 HTa HTb hlb hlb2 hrel3
  have hR := HR6.out
  have k1 := hR.1
  have k2 := hR.2.2.1 (g5, s) (by simp)
  have k3 := hR.2.2.1 (g6, M) (by simp)
  have k4 := hR.2.2.1 (g8, M) (by simp)
  have k5 := hR.2.2.1 (g10, zeroS) (by simp)
  have k6 := hR.2.2.1 (g12, zeroS) (by simp)
  have ca0 : wc.cell? ⟨w.heap.size, 0, none⟩ = some (.int .u32 (s.a : Int)) := k1.cell (j := 0) rfl
  have ca1 : wc.cell? ⟨w.heap.size, 1, none⟩ = some (.int .u32 (s.b : Int)) := k1.cell (j := 1) rfl
  have ca2 : wc.cell? ⟨w.heap.size, 2, none⟩ = some (.int .u32 (s.c : Int)) := k1.cell (j := 2) rfl
  have ca3 : wc.cell? ⟨w.heap.size, 3, none⟩ = some (.int .u32 (s.d : Int)) := k1.cell (j := 3) rfl
  have ca4 : wc.cell? ⟨w.heap.size, 4, none⟩ = some (.int .u32 (s.e : Int)) := k1.cell (j := 4) rfl
  have ca5 : wc.cell? ⟨w.heap.size, 5, none⟩ = some (.int .u32 (s.f : Int)) := k1.cell (j := 5) rfl
  have ca6 : wc.cell? ⟨w.heap.size, 6, none⟩ = some (.int .u32 (s.g : Int)) := k1.cell (j := 6) rfl
  have ca7 : wc.cell? ⟨w.heap.size, 7, none⟩ = some (.int .u32 (s.h : Int)) := k1.cell (j := 7) rfl
  have cb0 : wc.cell? ⟨g5, 0, none⟩ = some (.int .u32 (s.a : Int)) := k2.cell (j := 0) rfl
  have cb1 : wc.cell? ⟨g5, 1, none⟩ = some (.int .u32 (s.b : Int)) := k2.cell (j := 1) rfl
  have cb2 : wc.cell? ⟨g5, 2, none⟩ = some (.int .u32 (s.c : Int)) := k2.cell (j := 2) rfl
  have cb3 : wc.cell? ⟨g5, 3, none⟩ = some (.int .u32 (s.d : Int)) := k2.cell (j := 3) rfl
  have cb4 : wc.cell? ⟨g5, 4, none⟩ = some (.int .u32 (s.e : Int)) := k2.cell (j := 4) rfl
  have cb5 : wc.cell? ⟨g5, 5, none⟩ = some (.int .u32 (s.f : Int)) := k2.cell (j := 5) rfl
  have cb6 : wc.cell? ⟨g5, 6, none⟩ = some (.int .u32 (s.g : Int)) := k2.cell (j := 6) rfl
  have cb7 : wc.cell? ⟨g5, 7, none⟩ = some (.int .u32 (s.h : Int)) := k2.cell (j := 7) rfl
  have cc0 : wc.cell? ⟨g6, 0, none⟩ = some (.int .u32 (M.a : Int)) := k3.cell (j := 0) rfl
  have cc1 : wc.cell? ⟨g6, 1, none⟩ = some (.int .u32 (M.b : Int)) := k3.cell (j := 1) rfl
  have cc2 : wc.cell? ⟨g6, 2, none⟩ = some (.int .u32 (M.c : Int)) := k3.cell (j := 2) rfl
  have cc3 : wc.cell? ⟨g6, 3, none⟩ = some (.int .u32 (M.d : Int)) := k3.cell (j := 3) rfl
  have cc4 : wc.cell? ⟨g6, 4, none⟩ = some (.int .u32 (M.e : Int)) := k3.cell (j := 4) rfl
  have cc5 : wc.cell? ⟨g6, 5, none⟩ = some (.int .u32 (M.f : Int)) := k3.cell (j := 5) rfl
  have cc6 : wc.cell? ⟨g6, 6, none⟩ = some (.int .u32 (M.g : Int)) := k3.cell (j := 6) rfl
  have cc7 : wc.cell? ⟨g6, 7, none⟩ = some (.int .u32 (M.h : Int)) := k3.cell (j := 7) rfl
  have cd0 : wc.cell? ⟨g8, 0, none⟩ = some (.int .u32 (M.a : Int)) := k4.cell (j := 0) rfl
  have cd1 : wc.cell? ⟨g8, 1, none⟩ = some (.int .u32 (M.b : Int)) := k4.cell (j := 1) rfl
  have cd2 : wc.cell? ⟨g8, 2, none⟩ = some (.int .u32 (M.c : Int)) := k4.cell (j := 2) rfl
  have cd3 : wc.cell? ⟨g8, 3, none⟩ = some (.int .u32 (M.d : Int)) := k4.cell (j := 3) rfl
  have cd4 : wc.cell? ⟨g8, 4, none⟩ = some (.int .u32 (M.e : Int)) := k4.cell (j := 4) rfl
  have cd5 : wc.cell? ⟨g8, 5, none⟩ = some (.int .u32 (M.f : Int)) := k4.cell (j := 5) rfl
  have cd6 : wc.cell? ⟨g8, 6, none⟩ = some (.int .u32 (M.g : Int)) := k4.cell (j := 6) rfl
  have cd7 : wc.cell? ⟨g8, 7, none⟩ = some (.int .u32 (M.h : Int)) := k4.cell (j := 7) rfl
  have ce0 : wc.cell? ⟨g10, 0, none⟩ = some (.int .u32 0) := k5.cell (j := 0) rfl
  have ce1 : wc.cell? ⟨g10, 1, none⟩ = some (.int .u32 0) := k5.cell (j := 1) rfl
  have ce2 : wc.cell? ⟨g10, 2, none⟩ = some (.int .u32 0) := k5.cell (j := 2) rfl
  have ce3 : wc.cell? ⟨g10, 3, none⟩ = some (.int .u32 0) := k5.cell (j := 3) rfl
  have ce4 : wc.cell? ⟨g10, 4, none⟩ = some (.int .u32 0) := k5.cell (j := 4) rfl
  have ce5 : wc.cell? ⟨g10, 5, none⟩ = some (.int .u32 0) := k5.cell (j := 5) rfl
  have ce6 : wc.cell? ⟨g10, 6, none⟩ = some (.int .u32 0) := k5.cell (j := 6) rfl
  have ce7 : wc.cell? ⟨g10, 7, none⟩ = some (.int .u32 0) := k5.cell (j := 7) rfl
  have cf0 : wc.cell? ⟨g12, 0, none⟩ = some (.int .u32 0) := k6.cell (j := 0) rfl
  have cf1 : wc.cell? ⟨g12, 1, none⟩ = some (.int .u32 0) := k6.cell (j := 1) rfl
  have cf2 : wc.cell? ⟨g12, 2, none⟩ = some (.int .u32 0) := k6.cell (j := 2) rfl
  have cf3 : wc.cell? ⟨g12, 3, none⟩ = some (.int .u32 0) := k6.cell (j := 3) rfl
  have cf4 : wc.cell? ⟨g12, 4, none⟩ = some (.int .u32 0) := k6.cell (j := 4) rfl
  have cf5 : wc.cell? ⟨g12, 5, none⟩ = some (.int .u32 0) := k6.cell (j := 5) rfl
  have cf6 : wc.cell? ⟨g12, 6, none⟩ = some (.int .u32 0) := k6.cell (j := 6) rfl
  have cf7 : wc.cell? ⟨g12, 7, none⟩ = some (.int .u32 0) := k6.cell (j := 7) rfl
  have e1 := eqS M
  have e2 := eqS s
  have e3 := eqZ
  clear k1 k2 k3 k4 k5 k6 hR
  go_wp2
  go_ret
  exact ⟨rfl, HR6.out.2.2.2.2⟩

theorem st_of {zs : List Int} (h : zs.length = 8) (hw : ∀ z ∈ zs, (Lit.int .u32 z).wf = true) : ∃ s : S8, s.ok ∧ (zs.map (Value.int .u32)).toArray = s.cells := by
  have each : ∀ z ∈ zs, ∃ n : Nat, z = (n : Int) ∧ n < 4294967296 := fun z hz => by
    have := hw z hz
    have hb : 0 ≤ z ∧ z ≤ 4294967295 := by simpa [Lit.wf, IntKind.min, IntKind.max, IntKind.signed, IntKind.bits] using this
    obtain ⟨n, rfl⟩ := Int.eq_ofNat_of_zero_le hb.1
    exact ⟨n, rfl, by omega⟩
  match zs, h with
  | [a, b, c, d, e, f, g, i], _ =>
    obtain ⟨a, rfl, ha⟩ := each a (by simp)
    obtain ⟨b, rfl, hb⟩ := each b (by simp)
    obtain ⟨c, rfl, hc⟩ := each c (by simp)
    obtain ⟨d, rfl, hd⟩ := each d (by simp)
    obtain ⟨e, rfl, he⟩ := each e (by simp)
    obtain ⟨f, rfl, hf⟩ := each f (by simp)
    obtain ⟨g, rfl, hg⟩ := each g (by simp)
    obtain ⟨i, rfl, hi⟩ := each i (by simp)
    exact ⟨⟨a, b, c, d, e, f, g, i⟩, ⟨ha, hb, hc, hd, he, hf, hg, hi⟩, rfl⟩
theorem bytes_of {zs : List Int} (hw : ∀ z ∈ zs, (Lit.int .u8 z).wf = true) : ∃ bs : List UInt8, bs.length = zs.length ∧ zs.map (Value.int .u8) = u8s bs := by
  induction zs with
  | nil => exact ⟨[], rfl, rfl⟩
  | cons z zs ih =>
    obtain ⟨bs, hl, hb⟩ := ih (fun x hx => hw x (by simp [hx]))
    have hz := hw z (by simp)
    have hr : 0 ≤ z ∧ z ≤ 255 := by simpa [Lit.wf, IntKind.min, IntKind.max, IntKind.signed, IntKind.bits] using hz
    obtain ⟨n, rfl⟩ := Int.eq_ofNat_of_zero_le hr.1
    refine ⟨UInt8.ofNat n :: bs, by simp [hl], ?_⟩
    rw [List.map_cons, hb]
    have : (UInt8.ofNat n).toNat = n := by rw [UInt8.toNat_ofNat']; omega
    simp [u8s, this]

theorem shaAdds_walk (a0 : List Int) (a1 : List Int) (n0 : a0.length = 8) (w0 : ∀ z ∈ a0, (Lit.int .u32 z).wf = true) (n1 : a1.length = 64) (w1 : ∀ z ∈ a1, (Lit.int .u8 z).wf = true) (w : World) (htab : Tab w) :
    Calls Tryd.prog 8 #[.agg (a0.map (Value.int .u32)).toArray, .agg (a1.map (Value.int .u8)).toArray] w fun e w' => e = .returned (.bool true) ∧ Below w.heap.size w w' := by
  obtain ⟨s, hs, e0⟩ := st_of n0 w0
  obtain ⟨bs, hl, e1⟩ := bytes_of w1
  rw [e0, e1]
  exact adds_main s hs bs (by omega) w htab
end Go.Proofs.YtlpdklnekapkaaaDoor
