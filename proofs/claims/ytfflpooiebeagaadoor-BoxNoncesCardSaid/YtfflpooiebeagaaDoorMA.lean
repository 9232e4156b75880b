/- sha: the contract of Add. sha: the contract of (*Hash).Sum. sha: the digest of 'abc'. sha: the contract of Sum; the law's 'awake'. -/
import Derived.Test.YtfflpooiebeagaaDoorM9
import Derived.Deep.DeepCutAuto
import Derived.Deep.RegionWith
import Derived.Deep.RegionHeld3
import Derived.KernelRfl
namespace Go.Proofs.YtfflpooiebeagaaDoor
open Go.RowKit

set_option maxHeartbeats 1000000 in
set_option maxRecDepth 100000 in
theorem add_small (g : Nat) (l : List UInt8) (t : ByteArray) (w : World) (h : HashOf w g l) (hl : l.length + t.size ≤ 1099511627776) (hs : l.length % 64 + t.size < 64) :
    Calls Tryd.prog 69 #[.pointer (some ⟨g, 0, none⟩), .string t] w fun e w' => e = .returned (.tuple #[]) ∧ HashOf w' g (l ++ t.data.toList) ∧ Fr g w w' := by
  have HBg := Lib.hid (begun_any g l w h)
  have hc := h.size
  obtain ⟨p, hp, hpl, ha⟩ := h
  have hf := ha.frozen 72
  have hsz : t.data.toList.length = t.size := by simp
  have hon := on_small l t.data.toList p hp hpl (by omega)
  generalize mixN firstS l (l.length / 64) = st at *
  have ha1 := ha.set 72 (.int .u64 ((l.length : Int) + (t.size : Int)))
  rw [show (l.length : Int) + (t.size : Int) = ((l.length + t.size : Nat) : Int) from by omega, hcells_setN _ _ _ _ hp, ← show (l.length : Int) + (t.size : Int) = ((l.length + t.size : Nat) : Int) from by omega] at ha1
  obtain ⟨r, hr⟩ : ∃ r, r = l.length % 64 := ⟨_, rfl⟩
  rw [← hr] at HBg hs hon
  have hr64 : r < 64 := by omega
  have HA1 := Lib.hid ha1
  have HR := Lib.hid hr
  have HON := Lib.hid hon
  have HP := Lib.hid hp
  have hsl := arr64_from g 8 r hr64
  have hcp := run_copy_str _ 3 g (8 + r) (64 - r) (64 - r) t.size t _ _ (by omega) ha1 (by rw [hcells_size _ _ _ hp]; omega)
  clear ha ha1 hpl hr hon hp hsz
  go_enter Tryd.func69, Tryd.ntmps69
  go_wp2_with (first | (go_at_call 78; ((with_reducible refine (HBg.out).mono ?_); rintro e w' ⟨rfl, rfl⟩)) | (with_reducible refine Lib.wpList_copy_run _ rfl _ _ 42 9 rfl _ _ rfl rfl hcp ?_))
  have hlen : (t.data.toList.take t.size).length = t.size := by rw [take_all]; simp
  have harr := copy_arr HA1.out (t.data.toList.take t.size) r t.size hlen HP.out (by omega)
  have htot : (l ++ t.data.toList).length = l.length + t.size := by rw [List.length_append]; simp
  have htl : t.data.toList.length = t.size := by simp
  refine bodyPost_ret (results_none rfl _ _ _) rfl ⟨rfl, ⟨p.take r ++ t.data.toList.take t.size ++ p.drop (r + t.size), ?_, ?_, ?_⟩, ((Fr.refl g w).self (p := ⟨g, 72, none⟩) rfl _).row _⟩
  · have := HON.out.2.1; rw [htl] at this; rw [take_all]; exact this
  · have := HON.out.2.2.1; rw [htl] at this; rw [take_all]; exact this
  · rw [HON.out.2.2.2, htot]; exact harr

/-- The part's bytes, read as a string. -/
theorem part_cells {w : World} {g : Nat} {st : S8} {p : List UInt8} {n : Nat} (h : Arr w g (hcells st p n) 135) (hp : p.length = 64) : ∀ j v, (u8s p)[j]? = some v → w.cell? ((⟨g, 8, none⟩ : Addr).add j) = some v := by
  intro j v hv
  have hj : j < 64 := by
    have := (List.getElem?_eq_some_iff.1 hv).1
    rw [u8s_len] at this; omega
  rw [addr_add]
  exact h.cell (by rw [hcells_part _ _ _ hp _ hj]; exact hv)
theorem part_conv {w : World} {g : Nat} {st : S8} {p : List UInt8} {n : Nat} (h : Arr w g (hcells st p n) 135) (hp : p.length = 64) :
    (convert 42 9 (.slice (some ⟨g, 8, none⟩) 64 64)).run Tryd.prog w = .ok (.string ⟨p.toArray⟩) w := by
  have := conv_cells w ⟨g, 8, none⟩ p 64 (part_cells h hp)
  rw [hp] at this
  exact this

theorem zeros_next {w1 w3 : World} (hb : Below (World.drew (w1.alloc (.cells #[.int .u32 0, .int .u32 0, .int .u32 0, .int .u32 0, .int .u32 0, .int .u32 0, .int .u32 0, .int .u32 0] 132))).heap.size (World.drew (w1.alloc (.cells #[.int .u32 0, .int .u32 0, .int .u32 0, .int .u32 0, .int .u32 0, .int .u32 0, .int .u32 0, .int .u32 0] 132))) w3) :
    Arr w3 w1.heap.size #[.int .u32 0, .int .u32 0, .int .u32 0, .int .u32 0, .int .u32 0, .int .u32 0, .int .u32 0, .int .u32 0] 132 :=
  Arr.next (Arr.drew (Arr.new w1 _ _)) hb

/-- What is known between the first block and the rest. -/
def AddMid (g : Nat) (S1 st : S8) (blk : List UInt8) (N : Nat) (w : World) (s6 : Value) (wx : World) : Prop :=
  ∃ gs, s6 = .pointer (some ⟨gs, 0, none⟩) ∧ w.heap.size ≤ gs ∧ gs ≠ g ∧ Arr wx gs S1.cells 132 ∧ Arr wx g (hcells st blk N) 135 ∧ Tab wx ∧ Fr g w wx

theorem cells8 (x0 x1 x2 x3 x4 x5 x6 x7 y0 y1 y2 y3 y4 y5 y6 y7 : Value) : (((((((((#[x0, x1, x2, x3, x4, x5, x6, x7] : Array Value).setIfInBounds 0 y0).setIfInBounds 1 y1).setIfInBounds 2 y2).setIfInBounds 3 y3).setIfInBounds 4 y4).setIfInBounds 5 y5).setIfInBounds 6 y6).setIfInBounds 7 y7) = #[y0, y1, y2, y3, y4, y5, y6, y7] := by simp
theorem set8 {w : World} {g : Nat} {s : S8} (h : Arr w g s.cells 132) (s' : S8) : Arr (World.setCell (World.setCell (World.setCell (World.setCell (World.setCell (World.setCell (World.setCell (World.setCell w ⟨g, 0, none⟩ (.int .u32 (s'.a : Int))) ⟨g, 1, none⟩ (.int .u32 (s'.b : Int))) ⟨g, 2, none⟩ (.int .u32 (s'.c : Int))) ⟨g, 3, none⟩ (.int .u32 (s'.d : Int))) ⟨g, 4, none⟩ (.int .u32 (s'.e : Int))) ⟨g, 5, none⟩ (.int .u32 (s'.f : Int))) ⟨g, 6, none⟩ (.int .u32 (s'.g : Int))) ⟨g, 7, none⟩ (.int .u32 (s'.h : Int))) g s'.cells 132 := by
  have := ((((((((h.set 0 (.int .u32 (s'.a : Int))).set 1 (.int .u32 (s'.b : Int))).set 2 (.int .u32 (s'.c : Int))).set 3 (.int .u32 (s'.d : Int))).set 4 (.int .u32 (s'.e : Int))).set 5 (.int .u32 (s'.f : Int))).set 6 (.int .u32 (s'.g : Int))).set 7 (.int .u32 (s'.h : Int)))
  rw [show s.cells = #[Value.int .u32 (s.a : Int), Value.int .u32 (s.b : Int), Value.int .u32 (s.c : Int), Value.int .u32 (s.d : Int), Value.int .u32 (s.e : Int), Value.int .u32 (s.f : Int), Value.int .u32 (s.g : Int), Value.int .u32 (s.h : Int)] from rfl, cells8] at this
  exact this
theorem set8_other {w : World} {g g' : Nat} {cs : Array Value} {t : TypeId} (h : Arr w g cs t) (hn : g ≠ g') (s' : S8) : Arr (World.setCell (World.setCell (World.setCell (World.setCell (World.setCell (World.setCell (World.setCell (World.setCell w ⟨g', 0, none⟩ (.int .u32 (s'.a : Int))) ⟨g', 1, none⟩ (.int .u32 (s'.b : Int))) ⟨g', 2, none⟩ (.int .u32 (s'.c : Int))) ⟨g', 3, none⟩ (.int .u32 (s'.d : Int))) ⟨g', 4, none⟩ (.int .u32 (s'.e : Int))) ⟨g', 5, none⟩ (.int .u32 (s'.f : Int))) ⟨g', 6, none⟩ (.int .u32 (s'.g : Int))) ⟨g', 7, none⟩ (.int .u32 (s'.h : Int))) g cs t :=
  (((((((h.other _ _ hn).other _ _ hn).other _ _ hn).other _ _ hn).other _ _ hn).other _ _ hn).other _ _ hn).other _ _ hn
theorem set8_below {B : Nat} {a w : World} (h : Below B a w) {g : Nat} (hg : B ≤ g) (s' : S8) : Below B a (World.setCell (World.setCell (World.setCell (World.setCell (World.setCell (World.setCell (World.setCell (World.setCell w ⟨g, 0, none⟩ (.int .u32 (s'.a : Int))) ⟨g, 1, none⟩ (.int .u32 (s'.b : Int))) ⟨g, 2, none⟩ (.int .u32 (s'.c : Int))) ⟨g, 3, none⟩ (.int .u32 (s'.d : Int))) ⟨g, 4, none⟩ (.int .u32 (s'.e : Int))) ⟨g, 5, none⟩ (.int .u32 (s'.f : Int))) ⟨g, 6, none⟩ (.int .u32 (s'.g : Int))) ⟨g, 7, none⟩ (.int .u32 (s'.h : Int))) :=
  (((((((h.setCell (p := ⟨g, 0, none⟩) hg _).setCell (p := ⟨g, 1, none⟩) hg _).setCell (p := ⟨g, 2, none⟩) hg _).setCell (p := ⟨g, 3, none⟩) hg _).setCell (p := ⟨g, 4, none⟩) hg _).setCell (p := ⟨g, 5, none⟩) hg _).setCell (p := ⟨g, 6, none⟩) hg _).setCell (p := ⟨g, 7, none⟩) hg _
theorem set8_fr {b : Nat} {a w : World} (h : Fr b a w) {g : Nat} (hg : a.heap.size ≤ g) (s' : S8) : Fr b a (World.setCell (World.setCell (World.setCell (World.setCell (World.setCell (World.setCell (World.setCell (World.setCell w ⟨g, 0, none⟩ (.int .u32 (s'.a : Int))) ⟨g, 1, none⟩ (.int .u32 (s'.b : Int))) ⟨g, 2, none⟩ (.int .u32 (s'.c : Int))) ⟨g, 3, none⟩ (.int .u32 (s'.d : Int))) ⟨g, 4, none⟩ (.int .u32 (s'.e : Int))) ⟨g, 5, none⟩ (.int .u32 (s'.f : Int))) ⟨g, 6, none⟩ (.int .u32 (s'.g : Int))) ⟨g, 7, none⟩ (.int .u32 (s'.h : Int))) :=
  (((((((h.fresh (p := ⟨g, 0, none⟩) hg _).fresh (p := ⟨g, 1, none⟩) hg _).fresh (p := ⟨g, 2, none⟩) hg _).fresh (p := ⟨g, 3, none⟩) hg _).fresh (p := ⟨g, 4, none⟩) hg _).fresh (p := ⟨g, 5, none⟩) hg _).fresh (p := ⟨g, 6, none⟩) hg _).fresh (p := ⟨g, 7, none⟩) hg _
theorem zeroS_cells : zeroS.cells = #[.int .u32 0, .int .u32 0, .int .u32 0, .int .u32 0, .int .u32 0, .int .u32 0, .int .u32 0, .int .u32 0] := rfl
theorem copy_arr0 {W : World} {g : Nat} {st : S8} {p : List UInt8} {N : Nat} (h : Arr W g (hcells st p N) 135) (q : List UInt8) (m : Nat) (hm : q.length = m) (hp : p.length = 64) (hr : m ≤ 64) :
    Arr (W.setRow g (List.take 8 (hcells st p N).toList ++ (u8s q ++ List.drop (8 + m) (hcells st p N).toList)).toArray) g (hcells st (q ++ p.drop m) N) 135 := by
  have := copy_arr h q 0 m hm hp (by omega)
  simpa using this

/-- What is known behind the whole blocks. -/
def AddEnd (g : Nat) (S2 st : S8) (blk : List UInt8) (R : ByteArray) (N : Nat) (w : World) (gs : Nat) (s1 : Value) (wx : World) : Prop :=
  s1 = .string R ∧ Arr wx gs S2.cells 132 ∧ Arr wx g (hcells st blk N) 135 ∧ Fr g w wx
theorem addEnd {g gs N : Nat} {S1 S2 st : S8} {blk : List UInt8} {R : ByteArray} {w w1 w4 : World} (hB : w.heap.size ≤ gs) (hne : gs ≠ g) (hgs : Arr w1 gs S1.cells 132) (hgh : Arr w1 g (hcells st blk N) 135) (hgb : Fr g w w1)
    (hb : Below w1.drew.heap.size w1.drew w4) : AddEnd g S2 st blk R N w gs (.string R) (World.setCell (World.setCell (World.setCell (World.setCell (World.setCell (World.setCell (World.setCell (World.setCell w4 ⟨gs, 0, none⟩ (.int .u32 (S2.a : Int))) ⟨gs, 1, none⟩ (.int .u32 (S2.b : Int))) ⟨gs, 2, none⟩ (.int .u32 (S2.c : Int))) ⟨gs, 3, none⟩ (.int .u32 (S2.d : Int))) ⟨gs, 4, none⟩ (.int .u32 (S2.e : Int))) ⟨gs, 5, none⟩ (.int .u32 (S2.f : Int))) ⟨gs, 6, none⟩ (.int .u32 (S2.g : Int))) ⟨gs, 7, none⟩ (.int .u32 (S2.h : Int))) := by
  have h1 : gs < w1.heap.size := hgs.lt
  exact ⟨rfl, set8 (hgs.drew.next hb) S2, set8_other (hgh.drew.next hb) (fun e => hne e.symm) S2, set8_fr ((hgb.drew).thenB hb (Nat.le_refl _)) hB S2⟩

/-- What is left is what the part begins with. -/
def HashOf_end (l : List UInt8) (t R : ByteArray) (_ : List UInt8) : Prop :=
  R.data.toList.take R.size = R.data.toList ∧ R.data.toList = (l ++ t.data.toList).drop (64 * ((l ++ t.data.toList).length / 64)) ∧ R.size = (l ++ t.data.toList).length % 64
theorem hashOf_end {l : List UInt8} {t R : ByteArray} {blk : List UInt8} (h : HashOf_end l t R blk) (hp : (R.data.toList.take R.size ++ blk.drop R.size).length = 64) (N : Nat) (hN : N = (l ++ t.data.toList).length) {w : World} {g : Nat}
    (ha : Arr w g (hcells (mixN firstS (l ++ t.data.toList) ((l ++ t.data.toList).length / 64)) (R.data.toList.take R.size ++ blk.drop R.size) N) 135) : HashOf w g (l ++ t.data.toList) := by
  subst hN
  obtain ⟨h1, h2, h3⟩ := h
  refine ⟨_, hp, ?_, ha⟩
  have hl : R.data.toList.length = R.size := by simp
  rw [← h3, h1, List.take_append_of_le_length (by omega), h1, h2]

theorem addMid_a {g N : Nat} {S1 st : S8} {blk : List UInt8} {w w1 w3 : World} (har : Arr w1 g (hcells st blk N) 135) (ht : Tab w1) (hb2 : Fr g w w1)
    (hb : Below w1.drew.heap.size w1.drew w3) : AddMid g S1 st blk N w (.pointer (some ⟨w3.heap.size, 0, none⟩)) (w3.alloc (.cells #[.int .u32 (S1.a : Int), .int .u32 (S1.b : Int), .int .u32 (S1.c : Int), .int .u32 (S1.d : Int), .int .u32 (S1.e : Int), .int .u32 (S1.f : Int), .int .u32 (S1.g : Int), .int .u32 (S1.h : Int)] 132)) := by
  have h1 : w.heap.size ≤ w1.heap.size := hb2.size
  have h2 : w1.heap.size ≤ w3.heap.size := hb.size
  have hg : g < w1.heap.size := har.lt
  have hB3 : Fr g w w3 := (hb2.drew).thenB hb (Nat.le_refl _)
  exact ⟨w3.heap.size, rfl, by omega, by omega, Arr.new w3 S1.cells _, (har.drew.next hb).alloc _, (ht.drew.next hb).alloc _, hB3.alloc _⟩
theorem addMid_b {g N : Nat} {S1 st : S8} {blk : List UInt8} {w w1 w3 : World} (har : Arr w1 g (hcells st blk N) 135) (ht : Tab w1) (hb2 : Fr g w w1)
    (hb : Below (World.drew (w1.alloc (.cells #[.int .u32 0, .int .u32 0, .int .u32 0, .int .u32 0, .int .u32 0, .int .u32 0, .int .u32 0, .int .u32 0] 132))).heap.size (World.drew (w1.alloc (.cells #[.int .u32 0, .int .u32 0, .int .u32 0, .int .u32 0, .int .u32 0, .int .u32 0, .int .u32 0, .int .u32 0] 132))) w3) : AddMid g S1 st blk N w (.pointer (some ⟨w1.heap.size, 0, none⟩)) (World.setCell (World.setCell (World.setCell (World.setCell (World.setCell (World.setCell (World.setCell (World.setCell w3 ⟨w1.heap.size, 0, none⟩ (.int .u32 (S1.a : Int))) ⟨w1.heap.size, 1, none⟩ (.int .u32 (S1.b : Int))) ⟨w1.heap.size, 2, none⟩ (.int .u32 (S1.c : Int))) ⟨w1.heap.size, 3, none⟩ (.int .u32 (S1.d : Int))) ⟨w1.heap.size, 4, none⟩ (.int .u32 (S1.e : Int))) ⟨w1.heap.size, 5, none⟩ (.int .u32 (S1.f : Int))) ⟨w1.heap.size, 6, none⟩ (.int .u32 (S1.g : Int))) ⟨w1.heap.size, 7, none⟩ (.int .u32 (S1.h : Int))) := by
  have h1 : w.heap.size ≤ w1.heap.size := hb2.size
  have hg : g < w1.heap.size := har.lt
  have hs : (World.drew (w1.alloc (.cells #[.int .u32 0, .int .u32 0, .int .u32 0, .int .u32 0, .int .u32 0, .int .u32 0, .int .u32 0, .int .u32 0] 132))).heap.size = w1.heap.size + 1 := by show (w1.heap.push _).size = _; simp
  have hB3 : Fr g w w3 := ((hb2.alloc _).drew).thenB hb (Nat.le_refl _)
  clear hs
  have ht0 := ht.lt
  refine ⟨w1.heap.size, rfl, by omega, by omega, set8 (s := zeroS) (zeros_next hb) S1, set8_other ((har.alloc _).drew.next hb) (by omega) S1, ?_, set8_fr hB3 (by omega) S1⟩
  exact (((ht.alloc _).drew).next hb).below (set8_below (Below.refl w1.heap.size w3) (Nat.le_refl _) S1) ht0

set_option maxHeartbeats 2000000 in
set_option maxRecDepth 100000 in
theorem add_big (g : Nat) (hn : 2 ≠ g) (l : List UInt8) (t : ByteArray) (w : World) (h : HashOf w g l) (hl : l.length + t.size ≤ 1099511627776) (hs : 64 ≤ l.length % 64 + t.size) (htab : Tab w) :
    Calls Tryd.prog 69 #[.pointer (some ⟨g, 0, none⟩), .string t] w fun e w' => e = .returned (.tuple #[]) ∧ HashOf w' g (l ++ t.data.toList) ∧ Fr g w w' := by
  have HBg := Lib.hid (begun_any g l w h)
  have hc := h.size
  obtain ⟨p, hp, hpl, ha⟩ := h
  have hf := ha.frozen 72
  have hsz : t.data.toList.length = t.size := by simp
  have hon := on_block l t.data.toList p hp hpl (by omega)
  have hrs := on_rest l t.data.toList (by omega)
  have hok := mixN_ok firstS_ok l (l.length / 64)
  generalize mixN firstS l (l.length / 64) = st at *
  have ha1 := ha.set 72 (.int .u64 ((l.length : Int) + (t.size : Int)))
  rw [show (l.length : Int) + (t.size : Int) = ((l.length + t.size : Nat) : Int) from by omega, hcells_setN _ _ _ _ hp, ← show (l.length : Int) + (t.size : Int) = ((l.length + t.size : Nat) : Int) from by omega] at ha1
  obtain ⟨r, hr⟩ : ∃ r, r = l.length % 64 := ⟨_, rfl⟩
  rw [← hr] at HBg hs hon hrs
  have hr64 : r < 64 := by omega
  have HA1 := Lib.hid ha1
  have HR := Lib.hid hr
  have HON := Lib.hid hon
  have HRS := Lib.hid hrs
  have HP := Lib.hid hp
  have HT1 := Lib.hid (htab.set ⟨g, 72, none⟩ (.int .u64 ((l.length : Int) + (t.size : Int))) (by show _ ≠ g; exact hn))
  have hsl := arr64_from g 8 r hr64
  have hsa := arr64_all g 8
  have hcp := run_copy_str _ 3 g (8 + r) (64 - r) (64 - r) (64 - r) t _ _ (by omega) ha1 (by rw [hcells_size _ _ _ hp]; omega)
  have hb1 := Lib.hid ((Fr.refl g w).self (p := ⟨g, 72, none⟩) rfl (.int .u64 ((l.length : Int) + (t.size : Int))))
  have hsum : (r : Int) + ((64 - r : Nat) : Int) = 64 := by omega
  clear ha ha1 hpl hr hon hp hsz hrs htab
  obtain ⟨blk, hblk⟩ : ∃ blk, blk = p.take r ++ t.data.toList.take (64 - r) := ⟨_, rfl⟩
  have hbl : blk.length = 64 := by rw [hblk]; exact HON.out.1
  have harr := copy_arr HA1.out (t.data.toList.take (64 - r)) r (64 - r) (by rw [List.length_take]; simp; omega) HP.out (by omega)
  rw [List.drop_eq_nil_of_le (show p.length ≤ r + (64 - r) by have := HP.out; omega), List.append_nil, ← hblk] at harr
  have hb2 := Lib.hid (Fr.row hb1.out (List.take (8 + r) (hcells st p (l.length + t.size)).toList ++ (u8s (t.data.toList.take (64 - r)) ++ List.drop (8 + r + (64 - r)) (hcells st p (l.length + t.size)).toList)).toArray)
  have HT2 := Lib.hid (HT1.out.row g (List.take (8 + r) (hcells st p (l.length + t.size)).toList ++ (u8s (t.data.toList.take (64 - r)) ++ List.drop (8 + r + (64 - r)) (hcells st p (l.length + t.size)).toList)).toArray hn)
  have hmix := mix_any st hok ⟨blk.toArray⟩ (by show blk.toArray.size = 64; simpa using hbl)
  rw [show (ByteArray.mk blk.toArray).data.toList = blk from rfl, hblk, HON.out.2.1, ← hblk] at hmix
  obtain ⟨S1, hS1⟩ : ∃ S1, S1 = mixN firstS (l ++ t.data.toList) (l.length / 64 + 1) := ⟨_, rfl⟩
  rw [← hS1] at hmix
  have HM : Hid (∀ w : World, Tab w → Calls Tryd.prog 79 #[.agg #[.int .u32 (st.a : Int), .int .u32 (st.b : Int), .int .u32 (st.c : Int), .int .u32 (st.d : Int), .int .u32 (st.e : Int), .int .u32 (st.f : Int), .int .u32 (st.g : Int), .int .u32 (st.h : Int)], .string ⟨blk.toArray⟩] w fun e w' => e = .returned (.agg #[.int .u32 (S1.a : Int), .int .u32 (S1.b : Int), .int .u32 (S1.c : Int), .int .u32 (S1.d : Int), .int .u32 (S1.e : Int), .int .u32 (S1.f : Int), .int .u32 (S1.g : Int), .int .u32 (S1.h : Int)]) ∧ Below w.heap.size w w') := hmix
  have HAR := Lib.hid harr
  have HS1 := Lib.hid hS1
  have HBK := Lib.hid hblk
  have HBL := Lib.hid hbl
  clear hmix hS1 hblk harr hbl HA1 HT1 hb1
  go_enter Tryd.func69, Tryd.ntmps69
  go_wp2_with (first | (go_at_call 78; ((with_reducible refine (HBg.out).mono ?_); rintro e w' ⟨rfl, rfl⟩)) | (with_reducible refine Lib.wpList_copy_run _ rfl _ _ 42 9 rfl _ _ rfl rfl hcp ?_))
  rw [List.append_assoc] at *
  generalize (World.setRow (w.setCell ⟨g, 72, none⟩ (.int .u64 ((l.length : Int) + (t.size : Int)))) g _) = w1 at *
  have c0 : w1.cell? ⟨g, 0, none⟩ = some (.int .u32 (st.a : Int)) := HAR.out.cell (j := 0) (by rw [hcells_st _ _ _ _ (by decide)]; rfl)
  have c1 : w1.cell? ⟨g, 1, none⟩ = some (.int .u32 (st.b : Int)) := HAR.out.cell (j := 1) (by rw [hcells_st _ _ _ _ (by decide)]; rfl)
  have c2 : w1.cell? ⟨g, 2, none⟩ = some (.int .u32 (st.c : Int)) := HAR.out.cell (j := 2) (by rw [hcells_st _ _ _ _ (by decide)]; rfl)
  have c3 : w1.cell? ⟨g, 3, none⟩ = some (.int .u32 (st.d : Int)) := HAR.out.cell (j := 3) (by rw [hcells_st _ _ _ _ (by decide)]; rfl)
  have c4 : w1.cell? ⟨g, 4, none⟩ = some (.int .u32 (st.e : Int)) := HAR.out.cell (j := 4) (by rw [hcells_st _ _ _ _ (by decide)]; rfl)
  have c5 : w1.cell? ⟨g, 5, none⟩ = some (.int .u32 (st.f : Int)) := HAR.out.cell (j := 5) (by rw [hcells_st _ _ _ _ (by decide)]; rfl)
  have c6 : w1.cell? ⟨g, 6, none⟩ = some (.int .u32 (st.g : Int)) := HAR.out.cell (j := 6) (by rw [hcells_st _ _ _ _ (by decide)]; rfl)
  have c7 : w1.cell? ⟨g, 7, none⟩ = some (.int .u32 (st.h : Int)) := HAR.out.cell (j := 7) (by rw [hcells_st _ _ _ _ (by decide)]; rfl)
  have hgl : g < w1.heap.size := HAR.out.lt
  have HTa := Lib.hid HT2.out.drew
  have HTb := Lib.hid ((HT2.out.alloc (.cells #[.int .u32 0, .int .u32 0, .int .u32 0, .int .u32 0, .int .u32 0, .int .u32 0, .int .u32 0, .int .u32 0] 132)).drew)
  have hcv1 := part_conv HAR.out.drew HBL.out
  have hcv2 := part_conv (HAR.out.drew.alloc (.cells #[.int .u32 0, .int .u32 0, .int .u32 0, .int .u32 0, .int .u32 0, .int .u32 0, .int .u32 0, .int .u32 0] 132)) HBL.out
  have hcv3 := part_conv ((HAR.out.alloc (.cells #[.int .u32 0, .int .u32 0, .int .u32 0, .int .u32 0, .int .u32 0, .int .u32 0, .int .u32 0, .int .u32 0] 132)).drew) HBL.out
  go_cut [6] (fun s6 wx => AddMid g S1 st blk (l.length + t.size) w s6 wx)
  case first =>
    go_region_with (first
      | (go_at_call 79; (with_reducible refine (HM.out _ HTa.out).mono ?_); rintro e w3 ⟨rfl, hb⟩)
      | (go_at_call 79; (with_reducible refine (HM.out _ HTb.out).mono ?_); rintro e w3 ⟨rfl, hb⟩; have hz := zeros_next hb; have n0 : w3.cell? ⟨w1.heap.size, 0, none⟩ = some (.int .u32 0) := hz.cell (j := 0) rfl; have n1 : w3.cell? ⟨w1.heap.size, 1, none⟩ = some (.int .u32 0) := hz.cell (j := 1) rfl; have n2 : w3.cell? ⟨w1.heap.size, 2, none⟩ = some (.int .u32 0) := hz.cell (j := 2) rfl; have n3 : w3.cell? ⟨w1.heap.size, 3, none⟩ = some (.int .u32 0) := hz.cell (j := 3) rfl; have n4 : w3.cell? ⟨w1.heap.size, 4, none⟩ = some (.int .u32 0) := hz.cell (j := 4) rfl; have n5 : w3.cell? ⟨w1.heap.size, 5, none⟩ = some (.int .u32 0) := hz.cell (j := 5) rfl; have n6 : w3.cell? ⟨w1.heap.size, 6, none⟩ = some (.int .u32 0) := hz.cell (j := 6) rfl; have n7 : w3.cell? ⟨w1.heap.size, 7, none⟩ = some (.int .u32 0) := hz.cell (j := 7) rfl; have nf := hz.frozen))
    all_goals
      go_wp2_with fail
      go_meet
      first
        | with_reducible exact addMid_a HAR.out HT2.out hb2.out hb
        | with_reducible exact addMid_b HAR.out HT2.out hb2.out hb
  case rest =>
    obtain ⟨gs, rfl, hgB, hgg, hgs, hgh, hgt, hgb⟩ := hcut
    clear c0 c1 c2 c3 c4 c5 c6 c7 hcv1 hcv2 hcv3 HTa HTb hgl HAR HT2 hb2
    have hX : (t.extract (64 - r) t.size).size = t.size - (64 - r) := ext_size _ _ _ (Nat.le_refl _)
    have hXl : (t.extract (64 - r) t.size).data.toList = t.data.toList.drop (64 - r) := by
      rw [ext_toList, List.take_of_length_le (by rw [List.length_drop]; simp)]
    have hall := mixAll_any S1 (by rw [HS1.out]; exact mixN_ok firstS_ok _ _) (t.extract (64 - r) t.size) (by omega)
    have htl : t.data.toList.length = t.size := by simp
    have hrs1 := HRS.out.1
    rw [htl] at hrs1
    rw [hXl, hX, HS1.out, hrs1, ← HS1.out] at hall
    obtain ⟨S2, hS2⟩ : ∃ S2, S2 = mixN firstS (l ++ t.data.toList) ((l ++ t.data.toList).length / 64) := ⟨_, rfl⟩
    rw [← hS2, ← hX] at hall
    obtain ⟨R, hRd⟩ : ∃ R, R = (t.extract (64 - r) t.size).extract (64 * ((t.extract (64 - r) t.size).size / 64)) (t.extract (64 - r) t.size).size := ⟨_, rfl⟩
    rw [← hRd] at hall
    have hRs : R.size = (t.size - (64 - r)) - 64 * ((t.size - (64 - r)) / 64) := by rw [hRd, ext_size _ _ _ (Nat.le_refl _), hX]
    have hRl : R.data.toList = (l ++ t.data.toList).drop (64 * ((l ++ t.data.toList).length / 64)) := by
      rw [hRd, ext_toList, hXl, List.take_of_length_le (by rw [List.length_drop, List.length_drop, htl, hX]; omega), hX]
      have := HRS.out.2.1
      rw [htl] at this
      exact this
    have hRm : R.size = (l ++ t.data.toList).length % 64 := by
      have := HRS.out.2.2
      rw [htl] at this
      omega
    have HALL : Hid (∀ w : World, Tab w → Calls Tryd.prog 80 #[.agg #[.int .u32 (S1.a : Int), .int .u32 (S1.b : Int), .int .u32 (S1.c : Int), .int .u32 (S1.d : Int), .int .u32 (S1.e : Int), .int .u32 (S1.f : Int), .int .u32 (S1.g : Int), .int .u32 (S1.h : Int)], .string (t.extract (64 - r) t.size)] w fun e w' => e = .returned (.tuple #[.agg #[.int .u32 (S2.a : Int), .int .u32 (S2.b : Int), .int .u32 (S2.c : Int), .int .u32 (S2.d : Int), .int .u32 (S2.e : Int), .int .u32 (S2.f : Int), .int .u32 (S2.g : Int), .int .u32 (S2.h : Int)], .string R]) ∧ Below w.heap.size w w') := hall
    have HRs := Lib.hid (And.intro hRl hRm)
    have HS2 := Lib.hid hS2
    have hR64 : R.size < 64 := by omega
    have b0 : (0 : Int) ≤ ((64 - r : Nat) : Int) := by omega
    have b1 : ((64 - r : Nat) : Int) ≤ (t.size : Int) := by omega
    clear hall hRd hRl hRm hS2 hrs1 hXl hX htl hRs
    have d0 : wc.cell? ⟨gs, 0, none⟩ = some (.int .u32 (S1.a : Int)) := hgs.cell (j := 0) rfl
    have d1 : wc.cell? ⟨gs, 1, none⟩ = some (.int .u32 (S1.b : Int)) := hgs.cell (j := 1) rfl
    have d2 : wc.cell? ⟨gs, 2, none⟩ = some (.int .u32 (S1.c : Int)) := hgs.cell (j := 2) rfl
    have d3 : wc.cell? ⟨gs, 3, none⟩ = some (.int .u32 (S1.d : Int)) := hgs.cell (j := 3) rfl
    have d4 : wc.cell? ⟨gs, 4, none⟩ = some (.int .u32 (S1.e : Int)) := hgs.cell (j := 4) rfl
    have d5 : wc.cell? ⟨gs, 5, none⟩ = some (.int .u32 (S1.f : Int)) := hgs.cell (j := 5) rfl
    have d6 : wc.cell? ⟨gs, 6, none⟩ = some (.int .u32 (S1.g : Int)) := hgs.cell (j := 6) rfl
    have d7 : wc.cell? ⟨gs, 7, none⟩ = some (.int .u32 (S1.h : Int)) := hgs.cell (j := 7) rfl
    have HTd := Lib.hid hgt.drew
    go_wp2
    go_cut [1] (fun s1 wx => AddEnd g S2 st blk R (l.length + t.size) w gs s1 wx)
    case first =>
      go_region_with (go_at_call 80; (with_reducible refine (HALL.out _ HTd.out).mono ?_); rintro e w4 ⟨rfl, hb⟩; have hz := hgs.drew.next hb; have n0 : w4.cell? ⟨gs, 0, none⟩ = some (.int .u32 (S1.a : Int)) := hz.cell (j := 0) rfl; have n1 : w4.cell? ⟨gs, 1, none⟩ = some (.int .u32 (S1.b : Int)) := hz.cell (j := 1) rfl; have n2 : w4.cell? ⟨gs, 2, none⟩ = some (.int .u32 (S1.c : Int)) := hz.cell (j := 2) rfl; have n3 : w4.cell? ⟨gs, 3, none⟩ = some (.int .u32 (S1.d : Int)) := hz.cell (j := 3) rfl; have n4 : w4.cell? ⟨gs, 4, none⟩ = some (.int .u32 (S1.e : Int)) := hz.cell (j := 4) rfl; have n5 : w4.cell? ⟨gs, 5, none⟩ = some (.int .u32 (S1.f : Int)) := hz.cell (j := 5) rfl; have n6 : w4.cell? ⟨gs, 6, none⟩ = some (.int .u32 (S1.g : Int)) := hz.cell (j := 6) rfl; have n7 : w4.cell? ⟨gs, 7, none⟩ = some (.int .u32 (S1.h : Int)) := hz.cell (j := 7) rfl; have nf := hz.frozen)
      all_goals
        go_wp2_with fail
        go_meet
        with_reducible exact addEnd hgB hgg hgs hgh hgb hb
    case rest =>
      clear d0 d1 d2 d3 d4 d5 d6 d7 HTd HALL hgs hgh hgt hgb
      obtain ⟨rfl, hgs, hgh, hgb⟩ := hcut
      generalize wc = w5 at *
      have hcp2 := run_copy_str _ 3 g 8 64 64 R.size R _ _ (by omega) hgh (by rw [hcells_size _ _ _ HBL.out]; omega)
      have hRT : R.data.toList.take R.size = R.data.toList := take_all R
      have harr := copy_arr0 hgh (R.data.toList.take R.size) R.size (by rw [hRT]; simp) HBL.out (by omega)
      have hgs6 := Lib.hid (hgs.rowOther (List.take 8 (hcells st blk (l.length + t.size)).toList ++ (u8s (R.data.toList.take R.size) ++ List.drop (8 + R.size) (hcells st blk (l.length + t.size)).toList)).toArray hgg)
      have hgb6 := Lib.hid (Fr.row hgb (List.take 8 (hcells st blk (l.length + t.size)).toList ++ (u8s (R.data.toList.take R.size) ++ List.drop (8 + R.size) (hcells st blk (l.length + t.size)).toList)).toArray)
      have HAR6 := Lib.hid harr
      rw [List.append_assoc] at hcp2
      have hb64 : (blk.drop R.size).length = 64 - R.size := by rw [List.length_drop, HBL.out]
      have hps : (R.data.toList.take R.size ++ blk.drop R.size).length = 64 := by rw [hRT, List.length_append, hb64]; simp; omega
      have HPS := Lib.hid hps
      have hend : HashOf_end l t R blk := ⟨hRT, HRs.out.1, HRs.out.2⟩
      have HZ : Hid (8 ≤ (hcells st (R.data.toList.take R.size ++ blk.drop R.size) (l.length + t.size)).size) := by show 8 ≤ _; rw [hcells_size _ _ _ hps]; omega
      have HE := Lib.hid hend
      clear hgs hgh hgb harr hb64 hps hend hRT
      generalize (World.setRow w5 g (List.take 8 (hcells st blk (l.length + t.size)).toList ++ (u8s (R.data.toList.take R.size) ++ List.drop (8 + R.size) (hcells st blk (l.length + t.size)).toList)).toArray) = w6 at *
      go_wp2_with (first
        | (with_reducible refine Lib.wpList_copy_run _ rfl _ _ 42 9 rfl _ _ rfl rfl hcp2 ?_)
        | (with_reducible refine wpList_load8 rfl _ rfl gs rfl _ (cells_size S2) hgs6.out ?_)
        | (with_reducible refine wpList_store_head rfl _ _ rfl g rfl _ rfl (cells_size S2) (cells_one S2) _ _ HZ.out HAR6.out ?_))
      go_end0
      refine ⟨rfl, ?_, Fr.row hgb6.out _⟩
      refine hashOf_end HE.out HPS.out (l.length + t.size) (by simp) ?_
      rw [← HS2.out]
      have := HAR6.out.row (S2.cells.toList ++ (hcells st (R.data.toList.take R.size ++ blk.drop R.size) (l.length + t.size)).toList.drop 8).toArray
      rw [hcells_state] at this
      rw [hcells_state]
      exact this

/-- Add: whatever comes, up to 2^40 bytes in all; but for the Hash all is as it was. -/
theorem add_fr (g : Nat) (hn : 2 ≠ g) (l : List UInt8) (t : ByteArray) (w : World) (h : HashOf w g l) (hl : l.length + t.size ≤ 1099511627776) (htab : Tab w) :
    Calls Tryd.prog 69 #[.pointer (some ⟨g, 0, none⟩), .string t] w fun e w' => e = .returned (.tuple #[]) ∧ HashOf w' g (l ++ t.data.toList) ∧ Fr g w w' := by
  by_cases hs : l.length % 64 + t.size < 64
  · exact add_small g l t w h hl hs
  · exact add_big g hn l t w h hl (by omega) htab

/-- Add: whatever comes, up to 2^40 bytes in all. -/
theorem add_any (B g : Nat) (hB : B ≤ g) (hB0 : 2 < B) (l : List UInt8) (t : ByteArray) (w : World) (h : HashOf w g l) (hl : l.length + t.size ≤ 1099511627776) (hBw : B ≤ w.heap.size) (htab : Tab w) :
    Calls Tryd.prog 69 #[.pointer (some ⟨g, 0, none⟩), .string t] w fun e w' => e = .returned (.tuple #[]) ∧ HashOf w' g (l ++ t.data.toList) ∧ Below B w w' :=
  (add_fr g (by omega) l t w h hl htab).mono fun _ _ ⟨h1, h2, h3⟩ => ⟨h1, h2, h3.below hB hBw⟩
end Go.Proofs.YtfflpooiebeagaaDoor
namespace Go.Proofs.YtfflpooiebeagaaDoor
open Go.RowKit

/-- A state's number at a place; the bytes of the first k of them. -/
def S8.nth (s : S8) (k : Nat) : Nat := match k with | 0 => s.a | 1 => s.b | 2 => s.c | 3 => s.d | 4 => s.e | 5 => s.f | 6 => s.g | 7 => s.h | _ => 0
def outN (s : S8) : Nat → List UInt8
  | 0 => []
  | k + 1 => outN s k ++ (lowL (s.nth k) 4).reverse

theorem part_to {w : World} {g : Nat} {st : S8} {p : List UInt8} {n : Nat} (h : Arr w g (hcells st p n) 135) (hp : p.length = 64) (r : Nat) (hr : r < 64) :
    (convert 42 9 (.slice (some ⟨g, 8, none⟩) r 64)).run Tryd.prog w = .ok (.string ⟨(p.take r).toArray⟩) w := by
  have := conv_cells w ⟨g, 8, none⟩ (p.take r) 64 (fun j v hv => part_cells h hp j v (by
    have hj : j < (u8s (p.take r)).length := (List.getElem?_eq_some_iff.1 hv).1
    rw [u8s_len, List.length_take] at hj
    rw [← hv]
    simp only [u8s, List.map_take]
    rw [List.getElem?_take, if_pos (by omega)]))
  rw [List.length_take, show min r p.length = r from by omega] at this
  exact this
theorem held_of {w : World} {g : Nat} {st : S8} {p : List UInt8} {n : Nat} (h : Arr w g (hcells st p n) 135) (hp : p.length = 64) (r : Nat) (hr : r < 64) (PT : ByteArray) (hPT : PT = ⟨(p.take r).toArray⟩) :
    w.cell? ⟨g, 0, none⟩ = some (.int .u32 (st.a : Int)) ∧ w.cell? ⟨g, 1, none⟩ = some (.int .u32 (st.b : Int)) ∧ w.cell? ⟨g, 2, none⟩ = some (.int .u32 (st.c : Int)) ∧ w.cell? ⟨g, 3, none⟩ = some (.int .u32 (st.d : Int)) ∧ w.cell? ⟨g, 4, none⟩ = some (.int .u32 (st.e : Int)) ∧ w.cell? ⟨g, 5, none⟩ = some (.int .u32 (st.f : Int)) ∧ w.cell? ⟨g, 6, none⟩ = some (.int .u32 (st.g : Int)) ∧ w.cell? ⟨g, 7, none⟩ = some (.int .u32 (st.h : Int)) ∧ w.cell? ⟨g, 72, none⟩ = some (.int .u64 (n : Int)) ∧ (convert 42 9 (.slice (some ⟨g, 8, none⟩) r 64)).run Tryd.prog w = .ok (.string PT) w :=
  ⟨h.cell (by rw [hcells_st _ _ _ _ (by decide)]; rfl), h.cell (by rw [hcells_st _ _ _ _ (by decide)]; rfl), h.cell (by rw [hcells_st _ _ _ _ (by decide)]; rfl), h.cell (by rw [hcells_st _ _ _ _ (by decide)]; rfl),
   h.cell (by rw [hcells_st _ _ _ _ (by decide)]; rfl), h.cell (by rw [hcells_st _ _ _ _ (by decide)]; rfl), h.cell (by rw [hcells_st _ _ _ _ (by decide)]; rfl), h.cell (by rw [hcells_st _ _ _ _ (by decide)]; rfl), h.cell (hcells_n _ _ _ hp), by rw [hPT]; exact part_to h hp r hr⟩

/-- What is known behind the padding's blocks. -/
def SumMid (S2 : S8) (w : World) (s3 : Value) (wx : World) : Prop :=
  ∃ gs, s3 = .pointer (some ⟨gs, 0, none⟩) ∧ w.heap.size ≤ gs ∧ Arr wx gs S2.cells 132 ∧ Below w.heap.size w wx

theorem sumMid_a {S2 : S8} {w w3 w4 : World} (hB : Below w.heap.size w w3) (hb : Below w3.heap.size w3 w4) : SumMid S2 w (.pointer (some ⟨w4.heap.size, 0, none⟩)) (w4.alloc (.cells #[.int .u32 (S2.a : Int), .int .u32 (S2.b : Int), .int .u32 (S2.c : Int), .int .u32 (S2.d : Int), .int .u32 (S2.e : Int), .int .u32 (S2.f : Int), .int .u32 (S2.g : Int), .int .u32 (S2.h : Int)] 132)) := by
  have h1 := hB.size
  have h2 := hb.size
  exact ⟨w4.heap.size, rfl, by omega, Arr.new w4 S2.cells _, (Below_next hB hb).alloc (by omega) _⟩
theorem sumMid_b {S2 : S8} {w w3 w4 : World} (hB : Below w.heap.size w w3) (hz : Arr w3 w.heap.size #[.int .u32 0, .int .u32 0, .int .u32 0, .int .u32 0, .int .u32 0, .int .u32 0, .int .u32 0, .int .u32 0] 132) (hb : Below w3.heap.size w3 w4) : SumMid S2 w (.pointer (some ⟨w.heap.size, 0, none⟩)) (World.setCell (World.setCell (World.setCell (World.setCell (World.setCell (World.setCell (World.setCell (World.setCell w4 ⟨w.heap.size, 0, none⟩ (.int .u32 (S2.a : Int))) ⟨w.heap.size, 1, none⟩ (.int .u32 (S2.b : Int))) ⟨w.heap.size, 2, none⟩ (.int .u32 (S2.c : Int))) ⟨w.heap.size, 3, none⟩ (.int .u32 (S2.d : Int))) ⟨w.heap.size, 4, none⟩ (.int .u32 (S2.e : Int))) ⟨w.heap.size, 5, none⟩ (.int .u32 (S2.f : Int))) ⟨w.heap.size, 6, none⟩ (.int .u32 (S2.g : Int))) ⟨w.heap.size, 7, none⟩ (.int .u32 (S2.h : Int))) :=
  ⟨w.heap.size, rfl, Nat.le_refl _, set8 (s := zeroS) (hz.next hb) S2, set8_below (Below_next hB hb) (Nat.le_refl _) S2⟩
theorem sumMid_c {S2 : S8} {w w3 w4 : World} (hB : Below w.heap.size w w3) (hb : Below (w3.alloc (.cells #[.int .u32 0, .int .u32 0, .int .u32 0, .int .u32 0, .int .u32 0, .int .u32 0, .int .u32 0, .int .u32 0] 132)).heap.size (w3.alloc (.cells #[.int .u32 0, .int .u32 0, .int .u32 0, .int .u32 0, .int .u32 0, .int .u32 0, .int .u32 0, .int .u32 0] 132)) w4) : SumMid S2 w (.pointer (some ⟨w3.heap.size, 0, none⟩)) (World.setCell (World.setCell (World.setCell (World.setCell (World.setCell (World.setCell (World.setCell (World.setCell w4 ⟨w3.heap.size, 0, none⟩ (.int .u32 (S2.a : Int))) ⟨w3.heap.size, 1, none⟩ (.int .u32 (S2.b : Int))) ⟨w3.heap.size, 2, none⟩ (.int .u32 (S2.c : Int))) ⟨w3.heap.size, 3, none⟩ (.int .u32 (S2.d : Int))) ⟨w3.heap.size, 4, none⟩ (.int .u32 (S2.e : Int))) ⟨w3.heap.size, 5, none⟩ (.int .u32 (S2.f : Int))) ⟨w3.heap.size, 6, none⟩ (.int .u32 (S2.g : Int))) ⟨w3.heap.size, 7, none⟩ (.int .u32 (S2.h : Int))) := by
  have h1 := hB.size
  exact ⟨w3.heap.size, rfl, h1, set8 (s := zeroS) ((Arr.new w3 _ _).next hb) S2, set8_below (Below_next (hB.alloc h1 _) hb) h1 S2⟩
theorem sum_below {w w3 : World} (hb : Below (World.drew (w.alloc (.cells #[.int .u32 0, .int .u32 0, .int .u32 0, .int .u32 0, .int .u32 0, .int .u32 0, .int .u32 0, .int .u32 0] 132))).heap.size (World.drew (w.alloc (.cells #[.int .u32 0, .int .u32 0, .int .u32 0, .int .u32 0, .int .u32 0, .int .u32 0, .int .u32 0, .int .u32 0] 132))) w3) : Below w.heap.size w w3 :=
  (((Below.refl w.heap.size w).alloc (Nat.le_refl _) (.cells #[.int .u32 0, .int .u32 0, .int .u32 0, .int .u32 0, .int .u32 0, .int .u32 0, .int .u32 0, .int .u32 0] 132)).drew).trans (hb.mono (by show w.heap.size ≤ (w.heap.push _).size; simp))
theorem outN_len (s : S8) (k : Nat) : (outN s k).length = 4 * k := by
  induction k with
  | zero => rfl
  | succ k ih => rw [outN, List.length_append, ih, List.length_reverse, lowL_len]; omega
theorem outN_full (s : S8) : outN s 8 = outL s := rfl
theorem outN_succ (s : S8) (k : Nat) (X : ByteArray) (hX : X = ⟨(lowL (s.nth k) (toldN 4)).reverse.toArray⟩) : outN s (k + 1) = outN s k ++ X.data.toList := by subst hX; rfl
theorem nth_lt {s : S8} (h : s.ok) (k : Nat) : s.nth k < 4294967296 := by
  obtain ⟨ha, hb, hc, hd, he, hf, hg, hh⟩ := h
  unfold S8.nth
  split <;> first | assumption | decide
set_option maxRecDepth 100000 in
theorem index_st (s : S8) (k : Nat) (h : k < 8) (w : World) : (Instr.index 132 (.agg s.cells) (.int .i64 (k : Int))).run Tryd.prog w = .ok (.int .u32 ((s.nth k : Nat) : Int)) w := by
  match k, h with
  | 0, _ => rfl
  | 1, _ => rfl
  | 2, _ => rfl
  | 3, _ => rfl
  | 4, _ => rfl
  | 5, _ => rfl
  | 6, _ => rfl
  | 7, _ => rfl
theorem u64_of_u32 (x : Nat) (h : x < 4294967296) : IntKind.u64.wrap (x : Int) = (x : Int) := by rw [IntKind.wrap_u64]; omega
theorem padL_size (n : Nat) : (ByteArray.mk (padL n).toArray).size ≤ 128 := by
  show (padL n).toArray.size ≤ 128
  have := padL_len n; have := padZ_lt n
  simp only [List.size_toArray]; omega
/-- The state behind a text's blocks and its padding's. -/
theorem sum_state (l : List UInt8) (n r : Nat) (p : List UInt8) (st : S8) (hn : n = l.length) (hr : r = l.length % 64) (hpl : p.take (l.length % 64) = l.drop (64 * (l.length / 64))) (hp : p.length = 64) (hst : st = mixN firstS l (l.length / 64)) :
    mixN st (p.take r ++ padL n) ((ByteArray.mk (p.take r ++ padL n).toArray).size / 64) = mixN firstS (l ++ padL l.length) ((l ++ padL l.length).length / 64) ∧ True := by
  refine ⟨?_, trivial⟩
  subst hn hr hst
  have hs : (ByteArray.mk (p.take (l.length % 64) ++ padL l.length).toArray).size = l.length % 64 + (padL l.length).length := by
    show (p.take (l.length % 64) ++ padL l.length).toArray.size = _
    simp only [List.size_toArray, List.length_append, List.length_take]; omega
  have e : (l ++ padL l.length).length / 64 = l.length / 64 + (l.length % 64 + (padL l.length).length) / 64 := by rw [List.length_append]; omega
  rw [hs, e, mixN_add, mixN_append firstS l (padL l.length) (l.length / 64) (by omega), List.drop_append_of_le_length (by omega), hpl]

set_option maxHeartbeats 4000000 in
set_option maxRecDepth 100000 in
theorem hsum_any (g : Nat) (l : List UInt8) (w : World) (h : HashOf w g l) (hl : l.length ≤ 1099511627776) (htab : Tab w) :
    Calls Tryd.prog 70 #[.pointer (some ⟨g, 0, none⟩)] w fun e w' => e = .returned (.string ⟨(shaL l).toArray⟩) ∧ Below w.heap.size w w' := by
  have HBg := Lib.hid (fun w h => begun_any g l w h)
  obtain ⟨p, hp, hpl, ha⟩ := h
  have hHash : HashOf w g l := ⟨p, hp, hpl, ha⟩
  have HH0 := Lib.hid (show HashOf w.drew g l from ⟨p, hp, hpl, ha.drew⟩)
  have HH1 := Lib.hid (show HashOf (World.drew (w.alloc (.cells #[.int .u32 0, .int .u32 0, .int .u32 0, .int .u32 0, .int .u32 0, .int .u32 0, .int .u32 0, .int .u32 0] 132))) g l from ⟨p, hp, hpl, (ha.alloc _).drew⟩)
  have hok := mixN_ok firstS_ok l (l.length / 64)
  obtain ⟨st, hst⟩ : ∃ st, st = mixN firstS l (l.length / 64) := ⟨_, rfl⟩
  rw [← hst] at ha hok
  obtain ⟨n, hn⟩ : ∃ n, n = l.length := ⟨_, rfl⟩
  rw [← hn] at ha
  obtain ⟨r, hr⟩ : ∃ r, r = l.length % 64 := ⟨_, rfl⟩
  rw [← hr] at HBg
  have hr64 : r < 64 := by omega
  have hA0 := Lib.hid ha.drew
  have hsl := arr64_to g 8 r (by omega)
  have hall0 := mixAll_any st hok ⟨(p.take r ++ padL n).toArray⟩ (by
    show (p.take r ++ padL n).toArray.size ≤ _
    have := padL_len n; have := padZ_lt n
    simp only [List.size_toArray, List.length_append, List.length_take]; omega)
  have hpz := padL_size n
  obtain ⟨PD, hPD⟩ : ∃ PD : ByteArray, PD = ⟨(padL n).toArray⟩ := ⟨_, rfl⟩
  rw [← hPD] at hpz
  have HPad := Lib.hid (pad_any n (by omega))
  rw [← hPD] at HPad
  have hcat : (⟨(p.take r ++ padL n).toArray⟩ : ByteArray) = ⟨(p.take r).toArray⟩ ++ PD := by rw [hPD]; apply ByteArray.ext; simp
  have hsum := sum_state l n r p st hn hr hpl hp hst
  rw [hsum.1] at hall0
  obtain ⟨S2, hS2⟩ : ∃ S2, S2 = mixN firstS (l ++ padL l.length) ((l ++ padL l.length).length / 64) := ⟨_, rfl⟩
  rw [← hS2, hcat] at hall0
  obtain ⟨RS, hRS⟩ : ∃ RS : ByteArray, RS = (ByteArray.mk (p.take r).toArray ++ PD).extract (64 * ((ByteArray.mk (p.take r).toArray ++ PD).size / 64)) (ByteArray.mk (p.take r).toArray ++ PD).size := ⟨_, rfl⟩
  rw [← hRS] at hall0
  have hps : (ByteArray.mk (p.take r).toArray).size ≤ 64 := by show (p.take r).toArray.size ≤ 64; simp only [List.size_toArray, List.length_take]; omega
  obtain ⟨PT, hPT⟩ : ∃ PT : ByteArray, PT = ⟨(p.take r).toArray⟩ := ⟨_, rfl⟩
  rw [← hPT] at hps hall0 hRS
  have HPT := Lib.hid hPT
  have HALL : Hid (∀ w : World, Tab w → Calls Tryd.prog 80 #[.agg #[.int .u32 (st.a : Int), .int .u32 (st.b : Int), .int .u32 (st.c : Int), .int .u32 (st.d : Int), .int .u32 (st.e : Int), .int .u32 (st.f : Int), .int .u32 (st.g : Int), .int .u32 (st.h : Int)], .string (PT ++ PD)] w fun e w' => e = .returned (.tuple #[.agg #[.int .u32 (S2.a : Int), .int .u32 (S2.b : Int), .int .u32 (S2.c : Int), .int .u32 (S2.d : Int), .int .u32 (S2.e : Int), .int .u32 (S2.f : Int), .int .u32 (S2.g : Int), .int .u32 (S2.h : Int)], .string RS]) ∧ Below w.heap.size w w') := hall0
  have hrun : ∀ w : World, (Op.stringOp .add PT PD).run Tryd.prog w = .ok (.string (PT ++ PD)) w := fun w => cat_run PT PD (by omega) w
  have HT0 := Lib.hid htab.drew
  have HT1 := Lib.hid ((htab.alloc (.cells #[.int .u32 0, .int .u32 0, .int .u32 0, .int .u32 0, .int .u32 0, .int .u32 0, .int .u32 0, .int .u32 0] 132)).drew)
  have HS2 := Lib.hid hS2
  have HW := Lib.hid (ha.lt)
  clear hall0 hcat hsum hS2 hRS hPD htab hst hn hPT
  have HP := Lib.hid hp
  have HR := Lib.hid hr
  clear hr hp hpl hHash
  go_enter Tryd.func70, Tryd.ntmps70
  go_wp2
  go_cut [3] (fun s3 wx => SumMid S2 w s3 wx)
  case first =>
    go_region_held3 (fun w' => w'.cell? ⟨g, 0, none⟩ = some (.int .u32 (st.a : Int)) ∧ w'.cell? ⟨g, 1, none⟩ = some (.int .u32 (st.b : Int)) ∧ w'.cell? ⟨g, 2, none⟩ = some (.int .u32 (st.c : Int)) ∧ w'.cell? ⟨g, 3, none⟩ = some (.int .u32 (st.d : Int)) ∧ w'.cell? ⟨g, 4, none⟩ = some (.int .u32 (st.e : Int)) ∧ w'.cell? ⟨g, 5, none⟩ = some (.int .u32 (st.f : Int)) ∧ w'.cell? ⟨g, 6, none⟩ = some (.int .u32 (st.g : Int)) ∧ w'.cell? ⟨g, 7, none⟩ = some (.int .u32 (st.h : Int)) ∧ w'.cell? ⟨g, 72, none⟩ = some (.int .u64 (n : Int)) ∧ (convert 42 9 (.slice (some ⟨g, 8, none⟩) r 64)).run Tryd.prog w' = .ok (.string PT) w')
      (first | with_reducible exact held_of hA0.out HP.out r hr64 PT HPT.out | with_reducible exact held_of (hA0.out.alloc (.cells #[.int .u32 0, .int .u32 0, .int .u32 0, .int .u32 0, .int .u32 0, .int .u32 0, .int .u32 0, .int .u32 0] 132)) HP.out r hr64 PT HPT.out | with_reducible exact held_of ((ha.alloc (.cells #[.int .u32 0, .int .u32 0, .int .u32 0, .int .u32 0, .int .u32 0, .int .u32 0, .int .u32 0, .int .u32 0] 132)).drew) HP.out r hr64 PT HPT.out | with_reducible exact held_of hA3 HP.out r hr64 PT HPT.out | with_reducible exact held_of (hA3.alloc (.cells #[.int .u32 0, .int .u32 0, .int .u32 0, .int .u32 0, .int .u32 0, .int .u32 0, .int .u32 0, .int .u32 0] 132)) HP.out r hr64 PT HPT.out | with_reducible exact held_of (hA3.next hb4) HP.out r hr64 PT HPT.out | with_reducible exact held_of ((hA3.alloc (.cells #[.int .u32 0, .int .u32 0, .int .u32 0, .int .u32 0, .int .u32 0, .int .u32 0, .int .u32 0, .int .u32 0] 132)).next hb4) HP.out r hr64 PT HPT.out | with_reducible exact held_of ((hA3.next hb4).alloc _) HP.out r hr64 PT HPT.out | with_reducible exact held_of (set8_other (hA3.next hb4) hgne S2) HP.out r hr64 PT HPT.out | with_reducible exact held_of (set8_other (hA3.next hb4) hgne3 S2) HP.out r hr64 PT HPT.out | with_reducible exact held_of (set8_other ((hA3.alloc (.cells #[.int .u32 0, .int .u32 0, .int .u32 0, .int .u32 0, .int .u32 0, .int .u32 0, .int .u32 0, .int .u32 0] 132)).next hb4) hgne3 S2) HP.out r hr64 PT HPT.out)
      (first
        | (go_at_call 78; (with_reducible refine (HBg.out _ HH0.out).mono ?_); rintro e w' ⟨rfl, rfl⟩)
        | (go_at_call 78; (with_reducible refine (HBg.out _ HH1.out).mono ?_); rintro e w' ⟨rfl, rfl⟩)
        | (go_at_call 81; (with_reducible refine (HPad.out (World.drew w)).mono ?_); rintro e w3 ⟨rfl, hb⟩; have hA3 := hA0.out.next hb; have hT3 := HT0.out.next hb; have hB3 : Below w.heap.size w w3 := (Below.drew (Below.refl w.heap.size w)).trans hb)
        | (go_at_call 81; (with_reducible refine (HPad.out (World.drew (w.alloc (.cells #[.int .u32 0, .int .u32 0, .int .u32 0, .int .u32 0, .int .u32 0, .int .u32 0, .int .u32 0, .int .u32 0] 132)))).mono ?_); rintro e w3 ⟨rfl, hb⟩; have hz3 := zeros_next hb; have hgne : g ≠ w.heap.size := (by have := HW.out; omega); have hA3 := (Arr.alloc hA0.out (.cells #[.int .u32 0, .int .u32 0, .int .u32 0, .int .u32 0, .int .u32 0, .int .u32 0, .int .u32 0, .int .u32 0] 132)).next hb; have hT3 := HT1.out.next hb; have hB3 : Below w.heap.size w w3 := sum_below hb)
        | (go_at_call 80; (with_reducible refine (HALL.out w3 hT3).mono ?_); rintro e w4 ⟨rfl, hb4⟩; have hz4 := hz3.next hb4; have n0 : w4.cell? ⟨w.heap.size, 0, none⟩ = some (.int .u32 0) := hz4.cell (j := 0) rfl; have n1 : w4.cell? ⟨w.heap.size, 1, none⟩ = some (.int .u32 0) := hz4.cell (j := 1) rfl; have n2 : w4.cell? ⟨w.heap.size, 2, none⟩ = some (.int .u32 0) := hz4.cell (j := 2) rfl; have n3 : w4.cell? ⟨w.heap.size, 3, none⟩ = some (.int .u32 0) := hz4.cell (j := 3) rfl; have n4 : w4.cell? ⟨w.heap.size, 4, none⟩ = some (.int .u32 0) := hz4.cell (j := 4) rfl; have n5 : w4.cell? ⟨w.heap.size, 5, none⟩ = some (.int .u32 0) := hz4.cell (j := 5) rfl; have n6 : w4.cell? ⟨w.heap.size, 6, none⟩ = some (.int .u32 0) := hz4.cell (j := 6) rfl; have n7 : w4.cell? ⟨w.heap.size, 7, none⟩ = some (.int .u32 0) := hz4.cell (j := 7) rfl; have nf := hz4.frozen)
        | (go_at_call 80; (with_reducible refine (HALL.out w3 hT3).mono ?_); rintro e w4 ⟨rfl, hb4⟩)
        | (go_at_call 80; (with_reducible refine (HALL.out (w3.alloc (.cells #[.int .u32 0, .int .u32 0, .int .u32 0, .int .u32 0, .int .u32 0, .int .u32 0, .int .u32 0, .int .u32 0] 132)) (hT3.alloc _)).mono ?_); rintro e w4 ⟨rfl, hb4⟩; have hz4 := (Arr.new w3 _ _).next hb4; have hgne3 : g ≠ w3.heap.size := (by have := hA3.lt; omega); have n0 : w4.cell? ⟨w3.heap.size, 0, none⟩ = some (.int .u32 0) := hz4.cell (j := 0) rfl; have n1 : w4.cell? ⟨w3.heap.size, 1, none⟩ = some (.int .u32 0) := hz4.cell (j := 1) rfl; have n2 : w4.cell? ⟨w3.heap.size, 2, none⟩ = some (.int .u32 0) := hz4.cell (j := 2) rfl; have n3 : w4.cell? ⟨w3.heap.size, 3, none⟩ = some (.int .u32 0) := hz4.cell (j := 3) rfl; have n4 : w4.cell? ⟨w3.heap.size, 4, none⟩ = some (.int .u32 0) := hz4.cell (j := 4) rfl; have n5 : w4.cell? ⟨w3.heap.size, 5, none⟩ = some (.int .u32 0) := hz4.cell (j := 5) rfl; have n6 : w4.cell? ⟨w3.heap.size, 6, none⟩ = some (.int .u32 0) := hz4.cell (j := 6) rfl; have n7 : w4.cell? ⟨w3.heap.size, 7, none⟩ = some (.int .u32 0) := hz4.cell (j := 7) rfl; have nf := hz4.frozen))
    all_goals
      go_wp2_with fail
      go_meet
      first
        | with_reducible exact sumMid_a hB3 hb4
        | with_reducible exact sumMid_b hB3 hz3 hb4
        | with_reducible exact sumMid_c hB3 hb4
  case rest =>
    obtain ⟨gs, rfl, hgB, hgs, hgb⟩ := hcut
    clear HBg HH0 HH1 hA0 HP HR HPad HALL HPT HT0 HT1 HW hsl hrun
    have HG := Lib.hid (hgs.alloc (.cells #[.pointer none, .slice none 0 0] 83))
    have hbl := Bld.new wc w.heap.size hgb.size
    have hbb := hgb.alloc hgb.size (.cells #[.pointer none, .slice none 0 0] 83)
    have HO := Lib.hid (show shaL l = outL S2 by rw [HS2.out]; rfl)
    have hS2ok : S2.ok := by rw [HS2.out]; exact mixN_ok firstS_ok _ _
    have HOK := Lib.hid hS2ok
    clear hgs hgb hS2ok
    go_wp2_with (with_reducible refine wpList_load8 rfl _ rfl gs rfl _ (cells_size S2) HG.out ?_)
    clear HG
    have HB0 := Lib.hid (And.intro hbl hbb)
    clear hbl hbb
    generalize wc.heap.size = b at *
    go_loopw [30] (fun i wr => ∃ k : Nat, k ≤ 8 ∧ i = .int .i64 k ∧ Bld wr w.heap.size b (outN S2 k) ∧ Below w.heap.size w wr) (fun i _ => 8 - (intOf i).toNat)
    case atStart => exact ⟨0, by omega, rfl, HB0.out.1, HB0.out.2⟩
    case round =>
      clear HB0
      obtain ⟨k, hk, rfl, hbl, hbel⟩ := hrel
      by_cases hlt : k < 8
      · have hix := fun w => index_st S2 k hlt w
        have hx := nth_lt HOK.out k
        have hhi := high_any (S2.nth k) (by omega) 4
        obtain ⟨X, hX⟩ : ∃ X : ByteArray, X = ⟨(lowL (S2.nth k) (toldN 4)).reverse.toArray⟩ := ⟨_, rfl⟩
        rw [← hX, ← u64_of_u32 _ hx] at hhi
        have HHI := Lib.hid hhi
        have hX4 := highB_size _ _ X hX
        rw [show toldN 4 = 4 from rfl] at hX4
        have HN := Lib.hid (outN_succ S2 k X hX)
        have HL := Lib.hid (outN_len S2 k)
        have HX4 := Lib.hid hX4
        have HX := Lib.hid hx
        clear hhi hX hX4 hx
        generalize S2.nth k = x at *
        go_wp2_with (first
          | (go_at_call 20; (with_reducible refine (HHI.out _).mono ?_); rintro e w5 ⟨rfl, hb⟩; have hbl5 := hbl.next hb; have hbel5 := Below_next hbel hb)
          | (go_at_call 41; (with_reducible refine (writeString_any w.heap.size b (outN S2 k) X _ hbl5 (by rw [HL.out, HX4.out]; omega) hbel5.size).mono ?_); rintro e w6 ⟨rfl, hbl6, hb6⟩))
        go_roundw
        case rel => exact ⟨k + 1, by omega, by go_num, by rw [HN.out]; exact hbl6, hbel5.trans hb6⟩
        case measure => simp [intOf]; omega
      · obtain rfl : k = 8 := by omega
        have HBel := Lib.hid hbel
        go_wp2_with (go_at_call 42; (with_reducible refine (bldString_any w.heap.size b (outN S2 8) _ hbl HBel.out.size).mono ?_); rintro e w6 ⟨rfl, hb6⟩)
        go_ret
        refine ⟨?_, HBel.out.trans hb6⟩
        rw [HO.out, outN_full]
        rfl
end Go.Proofs.YtfflpooiebeagaaDoor
namespace Go.Proofs.YtfflpooiebeagaaDoor
open Go.RowKit

theorem sha_abc : shaL [97, 98, 99] = [186, 120, 22, 191, 143, 1, 207, 234, 65, 65, 64, 222, 93, 174, 34, 35, 176, 3, 97, 163, 150, 23, 122, 156, 180, 16, 255, 97, 242, 0, 21, 173] := by decide +kernel
end Go.Proofs.YtfflpooiebeagaaDoor
namespace Go.Proofs.YtfflpooiebeagaaDoor
open Go.RowKit

set_option maxHeartbeats 1000000 in
theorem sum_any (t : ByteArray) (ht : t.size ≤ 1099511627776) (w : World) (htab : Tab w) :
    Calls Tryd.prog 67 #[.string t] w fun e w' => e = .returned (.string ⟨(shaL t.data.toList).toArray⟩) ∧ Below w.heap.size w w' := by
  have HT := Lib.hid htab
  have HN := Lib.hid new_any
  have HL := Lib.hid ht
  clear htab ht
  go_enter Tryd.func67, Tryd.ntmps67
  go_wp2_with (first
    | (go_at_call 68; (with_reducible refine (HN.out _).mono ?_); rintro e w1 ⟨⟨g, rfl, hg, hh⟩, hb⟩; have HT1 := Lib.hid (HT.out.next hb); have hb1 := hb)
    | (go_at_call 69; (with_reducible refine (add_any w.heap.size g hg HT.out.lt [] t w1 hh (by have := HL.out; simpa using this) hb1.size HT1.out).mono ?_); rintro e w2 ⟨rfl, hh2, hb2⟩; have HT2 := Lib.hid (HT1.out.below hb2 HT.out.lt); have HB2 := Lib.hid (hb1.trans hb2))
    | (go_at_call 70; (with_reducible refine (hsum_any g _ w2 hh2 (by have := HL.out; simpa using this) HT2.out).mono ?_); rintro e w3 ⟨rfl, hb3⟩))
  go_ret
  exact ⟨rfl, HB2.out.trans (hb3.mono HB2.out.size)⟩

/-- The digest of 'abc', called. -/
theorem sum_abc (w : World) (htab : Tab w) : Calls Tryd.prog 67 #[.string ⟨#[97, 98, 99]⟩] w fun e w' => e = .returned (.string ⟨#[186, 120, 22, 191, 143, 1, 207, 234, 65, 65, 64, 222, 93, 174, 34, 35, 176, 3, 97, 163, 150, 23, 122, 156, 180, 16, 255, 97, 242, 0, 21, 173]⟩) ∧ Below w.heap.size w w' :=
  (sum_any ⟨#[97, 98, 99]⟩ (by decide) w htab).mono fun _ _ ⟨h, k⟩ => ⟨h.trans (by rw [show (ByteArray.mk #[97, 98, 99]).data.toList = [97, 98, 99] from rfl, sha_abc]), k⟩
theorem hsum_abc (g : Nat) (w : World) (h : HashOf w g [97, 98, 99]) (htab : Tab w) : Calls Tryd.prog 70 #[.pointer (some ⟨g, 0, none⟩)] w fun e w' => e = .returned (.string ⟨#[186, 120, 22, 191, 143, 1, 207, 234, 65, 65, 64, 222, 93, 174, 34, 35, 176, 3, 97, 163, 150, 23, 122, 156, 180, 16, 255, 97, 242, 0, 21, 173]⟩) ∧ Below w.heap.size w w' :=
  (hsum_any g [97, 98, 99] w h (by decide) htab).mono fun _ _ ⟨h, k⟩ => ⟨h.trans (by rw [sha_abc]), k⟩
theorem pad_3 (w : World) : Calls Tryd.prog 81 #[.int .u64 3] w fun e w' => (∃ X : ByteArray, e = .returned (.string X) ∧ X.size = 61) ∧ Below w.heap.size w w' :=
  (pad_any 3 (by decide) w).mono fun _ _ ⟨h, k⟩ => ⟨⟨_, h, by show (padL 3).toArray.size = 61; rw [List.size_toArray, padL_len]; rfl⟩, k⟩

end Go.Proofs.YtfflpooiebeagaaDoor
