/- AddrQuotes: its walk over the record. -/
import Derived.Test.YtmaephjonfeijaaDoorApO
import Derived.Test.YtmaephjonfeijaaDoorFro
import Derived.Laws.RangeString
namespace Go.Proofs.YtmaephjonfeijaaDoor
open Go.RowKit

theorem EscR.signs {l e : List UInt8} (h : EscR l e) (c : UInt8) : EscR (l ++ [c]) (e ++ [92, c]) := by
  induction h with
  | nil => exact .sign c .nil
  | sign d _ ih => exact .sign d ih
  | plain d h1 h2 _ ih => exact .plain d h1 h2 ih
theorem EscR.plains {l e : List UInt8} (h : EscR l e) (c : UInt8) (h1 : c ≠ 34) (h2 : c ≠ 92) : EscR (l ++ [c]) (e ++ [c]) := by
  induction h with
  | nil => exact .plain c h1 h2 .nil
  | sign d _ ih => exact .sign d ih
  | plain d h3 h4 _ ih => exact .plain d h3 h4 ih
theorem EscR.len {l e : List UInt8} (h : EscR l e) : e.length ≤ 2 * l.length := by
  induction h with
  | nil => simp
  | sign d _ ih => simp only [List.length_cons]; omega
  | plain d h3 h4 _ ih => simp only [List.length_cons]; omega
/-- A mailbox with its local part in quotes. -/
theorem parse_quotes {b : BoxA} (hm : mayB b = true) {e : List UInt8} (he : EscR b.loc e) : parseL (60 :: 34 :: (e ++ 34 :: 64 :: (b.dom ++ [62]))) = some b := by
  rw [mayB, Bool.and_eq_true, Bool.and_eq_true] at hm
  obtain ⟨⟨hdo, hs⟩, hl⟩ := hm
  have hr := read_any [] (fun d h => by cases h) (.quoted hl he) hdo []
  rw [of_decide_eq_true hs, rouT, List.nil_append, List.cons_append, List.append_assoc, List.singleton_append] at hr
  rw [parseL, hr]
/-- A step of a range over a string, wherever its place is kept. -/
theorem next_on {w : World} {g : Nat} {S : ByteArray} {k : Nat} (hI : w.heap[g]? = some (.stringIter S k)) (hk : k < S.size) (ha : S[k].toNat < 128) :
    ∃ w2 : World, (∀ ty, (Instr.next (.pointer (some ⟨g, 0, none⟩)) true ty).run Tryd.prog w = .ok (.tuple #[.bool true, .int .i64 (k : Int), .int .i32 (S[k].toNat : Int)]) w2) ∧ w2.heap[g]? = some (.stringIter S (k + 1)) ∧ Fro (fun h => h = g) w w2 ∧ w2.heap.size = w.heap.size := by
  have hg : g < w.heap.size := (Array.getElem?_eq_some_iff.1 hI).1
  refine ⟨{ w with heap := w.heap.setIfInBounds g (.stringIter S (k + 1)) }, fun ty => ?_, ?_, ⟨rfl, rfl, rfl, by simp, fun h hh hn => ?_⟩, by simp⟩
  · simp only [Instr.next, getObj, setObj, Sem.run_bind, Sem.run, hI, Result.andThen, hk, if_true, decode_ascii S k hk ha]
    simp [goInt]
  · simp [hg]
  · show (w.heap.setIfInBounds g _)[h]? = _
    rw [Array.getElem?_setIfInBounds]
    rw [if_neg (fun e => hn e.symm)]
theorem next_off {w : World} {g : Nat} {S : ByteArray} {k : Nat} (hI : w.heap[g]? = some (.stringIter S k)) (hk : ¬ k < S.size) (ty : TypeId) : (Instr.next (.pointer (some ⟨g, 0, none⟩)) true ty).run Tryd.prog w = .ok (.tuple #[.bool false]) w := by
  simp [Instr.next, getObj, Sem.run, hI, hk]
/-- 'string([]byte{c})'. -/
theorem conv_one (c : UInt8) (w : World) : (convert 46 9 (.slice (some ⟨w.heap.size, 0, none⟩) 1 1)).run Tryd.prog (w.alloc (.cells #[.int .u8 (c.toNat : Int)] 5)) = .ok (.string ⟨#[c]⟩) (w.alloc (.cells #[.int .u8 (c.toNat : Int)] 5)) := by
  have := conv_cells (w.alloc (.cells #[.int .u8 (c.toNat : Int)] 5)) ⟨w.heap.size, 0, none⟩ [c] 1 (fun j v hv => by
    rw [addr_add, Nat.zero_add]; exact (Arr.new w #[.int .u8 (c.toNat : Int)] 5).cell (by simpa [u8s] using hv))
  exact this

/-- How far a range over a string has still to go, as a loop's measure. -/
def iterLeft (g : Nat) (w : World) : Nat := match w.heap[g]? with
  | some (.stringIter s k) => s.size - k
  | _ => 0
theorem iterLeft_is {g : Nat} {w : World} {S : ByteArray} {k : Nat} (h : w.heap[g]? = some (.stringIter S k)) : iterLeft g w = S.size - k := by rw [iterLeft, h]

set_option maxHeartbeats 4000000 in
set_option maxRecDepth 100000 in
theorem addrQuotes_may (C : AddrC) (b : BoxA) (a : Option Addr) (len cap : Nat) (zs : List Bool) (W : World) (h1 : b.loc.length ≤ 2048) (h2 : b.dom.length ≤ 2048) (hm : mayB b = true) (hz : IsBls W a len cap zs) :
    Calls Tryd.prog 9 #[boxV b, .slice a len cap] W fun e w' => e = .returned (.bool true) ∧ Below W.heap.size W w' := by
  have hsl := ba_size b.loc
  have hsd := ba_size b.dom
  have HA := Lib.hid (fun w => C.awake w)
  have HZ := Lib.hid hz
  have hLg := fun w => large2_any (ba b.loc) (ba b.dom) w
  have hB0 := below_one W (.cells #[.string (ba b.loc), .string (ba b.dom)] 25)
  have k0 := box_new W (.string (ba b.loc)) (.string (ba b.dom)) 25
  rw [decide_eq_false (by omega : ¬ (2048 < (ba b.loc).size ∨ 2048 < (ba b.dom).size))] at hLg
  have HLg := Lib.hid hLg
  have hMb := fun w => C.may b (by omega) (by omega) w
  rw [hm, boxV] at hMb
  have HMb := Lib.hid hMb
  have HPs := Lib.hid (fun s hs w => C.parse s hs w)
  have HPQ := Lib.hid (fun e he => parse_quotes hm (e := e) he)
  obtain ⟨ml1, ml2, ml3⟩ := may_len hm
  have hasc : ∀ (j : Nat) (c : UInt8), b.loc[j]? = some c → c.toNat < 128 := by
    rw [mayB, Bool.and_eq_true] at hm
    have hl := hm.2
    rw [locB_eq, Bool.and_eq_true, Bool.and_eq_true] at hl
    intro j c hc
    have := all_at.1 hl.1.1 j c hc
    rw [okc_nat] at this
    have := of_decide_eq_true this
    omega
  have HAs := Lib.hid hasc
  have HSl := Lib.hid hsl
  have HCv := Lib.hid conv_one
  rw [boxV]
  clear hz hLg hMb hm hasc hsl hsd
  go_enter Tryd.func9, Tryd.ntmps9
  go_wp2_with (first
    | (go_at_call 10; (with_reducible refine (HA.out _).mono ?_); rintro e w1 ⟨rfl, hb1⟩; have hb1' := Below_next hB0 hb1; obtain ⟨⟨c10, c11⟩, ⟨d10, d11⟩⟩ := cells_on k0 hb1 (.cells #[.string (ba b.loc), .string (ba b.dom)] 9))
    | (go_at_call 11; (with_reducible refine (HLg.out _).mono ?_); rintro e w2 ⟨rfl, rfl⟩; have hb2 := below_new hb1' (.cells #[.string (ba b.loc), .string (ba b.dom)] 9))
    | (go_at_call 27; (with_reducible refine (HMb.out _).mono ?_); rintro e w3 ⟨rfl, hb3⟩; have hb3' := Below_next hb2 hb3; obtain ⟨⟨c30, c31⟩, _⟩ := cells_on ⟨d10, d11⟩ hb3 (.cells #[] 9)))
  have hgW : W.heap.size < w3.heap.size := World.block_lt_of_cell? _ _ c30
  have K3 := Lib.hid (show (w3.iter (ba b.loc) 0).cell? ⟨W.heap.size, 0, none⟩ = some (.string (ba b.loc)) ∧ (w3.iter (ba b.loc) 0).cell? ⟨W.heap.size, 1, none⟩ = some (.string (ba b.dom)) from box_next ⟨c30, c31⟩ (below_one w3 (.stringIter (ba b.loc) 0)))
  have H3 := Lib.hid (show Below W.heap.size W (w3.iter (ba b.loc) 0) from below_new hb3' (.stringIter (ba b.loc) 0))
  have hI3 := Lib.hid (World.iter_heap w3 (ba b.loc) 0)
  clear c30 c31 c10 c11 d10 d11 k0 hb1 hb1' hb2 hb3 hb3' hB0
  generalize w3.iter (ba b.loc) 0 = wI at *
  generalize w3.heap.size = g at *
  go_loopw [5] (fun t wr => ∃ (k : Nat) (E : List UInt8), t = .string (ba (60 :: 34 :: E)) ∧ k ≤ b.loc.length ∧ EscR (b.loc.take k) E ∧ wr.heap[g]? = some (.stringIter (ba b.loc) k) ∧ (wr.cell? ⟨W.heap.size, 0, none⟩ = some (.string (ba b.loc)) ∧ wr.cell? ⟨W.heap.size, 1, none⟩ = some (.string (ba b.dom))) ∧ Below W.heap.size W wr) (fun _ wr => iterLeft g wr)
  case atStart => exact ⟨0, [], rfl, Nat.zero_le _, by rw [List.take_zero]; exact .nil, hI3.out, K3.out, H3.out⟩
  case round =>
    clear K3 H3 hI3
    obtain ⟨k, E, rfl, hk, hE, hI, hkb, hbel⟩ := hrel
    have hEl := hE.len
    rw [List.length_take] at hEl
    have hgs : g < wr.heap.size := (Array.getElem?_eq_some_iff.1 hI).1
    have HMs := Lib.hid (iterLeft_is hI)
    have HE := Lib.hid hE
    have hls := HSl.out
    have hes := ba_size (60 :: 34 :: E)
    simp only [List.length_cons] at hes
    clear hE
    by_cases hlt : k < b.loc.length
    · have hk' : k < (ba b.loc).size := by omega
      have hat : (ba b.loc).data.toList[k]? = some (ba b.loc)[k] := byte_at hk'
      rw [ba_list] at hat
      obtain ⟨w2, hnx, hI2, hf2, hz2⟩ := next_on hI hk' (HAs.out k _ hat)
      have hbel2 : Below W.heap.size W w2 := hbel.trans (hf2.below (fun x e => by rw [e]; exact Nat.le_of_lt hgW) hbel.size)
      have hne : W.heap.size ≠ g := Nat.ne_of_lt hgW
      have kb2 : w2.cell? ⟨W.heap.size, 0, none⟩ = some (.string (ba b.loc)) ∧ w2.cell? ⟨W.heap.size, 1, none⟩ = some (.string (ba b.dom)) :=
        ⟨(World.cell?_of_block (a := ⟨W.heap.size, 0, none⟩) (hf2.block _ (World.block_lt_of_cell? _ _ hkb.1) hne)).trans hkb.1, (World.cell?_of_block (a := ⟨W.heap.size, 1, none⟩) (hf2.block _ (World.block_lt_of_cell? _ _ hkb.2) hne)).trans hkb.2⟩
      obtain ⟨c0, c1⟩ := kb2
      have HKb2 := Lib.hid (And.intro c0 c1)
      have hk0 : (0 : Int) ≤ (k : Int) := by omega
      have hki : (k : Int) < ((ba b.loc).size : Int) := by omega
      obtain ⟨c, hc⟩ : ∃ c, (ba b.loc)[k] = c := ⟨_, rfl⟩
      rw [hc] at hat hnx
      have htk : b.loc.take (k + 1) = b.loc.take k ++ [c] := by rw [List.take_add_one, hat]; rfl
      have hg2 : g < w2.heap.size := (Array.getElem?_eq_some_iff.1 hI2).1
      have HM2 := Lib.hid (show iterLeft g (w2.alloc (.cells #[.int .u8 (c.toNat : Int)] 5)) = (ba b.loc).size - (k + 1) from iterLeft_is ((Below.heap_alloc w2 _ g hg2).trans hI2))
      have hcv := HCv.out c
      clear hz2 hf2 hI hat
      by_cases h34 : c = 34
      · have b1 : ((c.toNat : Int) == 34) = true := by rw [h34]; rfl
        clear h34
        have s1 := cat_run (ba (60 :: 34 :: E)) ⟨#[92]⟩ (by rw [hes]; have e1 : (⟨#[92]⟩ : ByteArray).size = 1 := rfl; omega)
        have s2 := cat_run (ba (60 :: 34 :: E) ++ ⟨#[92]⟩) ⟨#[c]⟩ (by rw [ByteArray.size_append, hes]; have e1 : (⟨#[92]⟩ : ByteArray).size = 1 := rfl; have e2 : (⟨#[c]⟩ : ByteArray).size = 1 := rfl; omega)
        have hN : (ba (60 :: 34 :: E) ++ ⟨#[92]⟩) ++ ⟨#[c]⟩ = ba (60 :: 34 :: (E ++ [92, c])) := by
          apply ByteArray.ext
          simp [ba]
        rw [hN] at s2
        have HE2 := Lib.hid (show EscR (b.loc.take (k + 1)) (E ++ [92, c]) by rw [htk]; exact HE.out.signs c)
        have REL := Lib.hid (show ∃ (k' : Nat) (E' : List UInt8), Value.string (ba (60 :: 34 :: (E ++ [92, c]))) = .string (ba (60 :: 34 :: E')) ∧ k' ≤ b.loc.length ∧ EscR (b.loc.take k') E' ∧ (w2.alloc (.cells #[.int .u8 (c.toNat : Int)] 5)).heap[g]? = some (.stringIter (ba b.loc) k') ∧ ((w2.alloc (.cells #[.int .u8 (c.toNat : Int)] 5)).cell? ⟨W.heap.size, 0, none⟩ = some (.string (ba b.loc)) ∧ (w2.alloc (.cells #[.int .u8 (c.toNat : Int)] 5)).cell? ⟨W.heap.size, 1, none⟩ = some (.string (ba b.dom))) ∧ Below W.heap.size W (w2.alloc (.cells #[.int .u8 (c.toNat : Int)] 5)) from ⟨k + 1, _, rfl, hlt, HE2.out, (Below.heap_alloc w2 _ g hg2).trans hI2, box_next HKb2.out (below_one w2 _), below_new hbel2 _⟩)
        clear hN htk hes hEl
        generalize ba (60 :: 34 :: (E ++ [92, c])) = T2 at *
        generalize ba (60 :: 34 :: E) ++ ⟨#[92]⟩ = T1 at *
        generalize ba (60 :: 34 :: E) = T0 at *
        go_wp2
        go_roundw
        case rel => exact REL.out
        case measure => rw [HM2.out, HMs.out]; omega
      · have b1 : ((c.toNat : Int) == 34) = false := by rw [show (34 : Int) = ((34 : Nat) : Int) from rfl, byte_is (by decide)]; exact decide_eq_false h34
        have H34 := Lib.hid h34
        clear h34
        by_cases h92 : c = 92
        · have b2 : ((c.toNat : Int) == 92) = true := by rw [h92]; rfl
          clear h92
          have s1 := cat_run (ba (60 :: 34 :: E)) ⟨#[92]⟩ (by rw [hes]; have e1 : (⟨#[92]⟩ : ByteArray).size = 1 := rfl; omega)
          have s2 := cat_run (ba (60 :: 34 :: E) ++ ⟨#[92]⟩) ⟨#[c]⟩ (by rw [ByteArray.size_append, hes]; have e1 : (⟨#[92]⟩ : ByteArray).size = 1 := rfl; have e2 : (⟨#[c]⟩ : ByteArray).size = 1 := rfl; omega)
          have hN : (ba (60 :: 34 :: E) ++ ⟨#[92]⟩) ++ ⟨#[c]⟩ = ba (60 :: 34 :: (E ++ [92, c])) := by
            apply ByteArray.ext
            simp [ba]
          rw [hN] at s2
          have HE2 := Lib.hid (show EscR (b.loc.take (k + 1)) (E ++ [92, c]) by rw [htk]; exact HE.out.signs c)
          have REL := Lib.hid (show ∃ (k' : Nat) (E' : List UInt8), Value.string (ba (60 :: 34 :: (E ++ [92, c]))) = .string (ba (60 :: 34 :: E')) ∧ k' ≤ b.loc.length ∧ EscR (b.loc.take k') E' ∧ (w2.alloc (.cells #[.int .u8 (c.toNat : Int)] 5)).heap[g]? = some (.stringIter (ba b.loc) k') ∧ ((w2.alloc (.cells #[.int .u8 (c.toNat : Int)] 5)).cell? ⟨W.heap.size, 0, none⟩ = some (.string (ba b.loc)) ∧ (w2.alloc (.cells #[.int .u8 (c.toNat : Int)] 5)).cell? ⟨W.heap.size, 1, none⟩ = some (.string (ba b.dom))) ∧ Below W.heap.size W (w2.alloc (.cells #[.int .u8 (c.toNat : Int)] 5)) from ⟨k + 1, _, rfl, hlt, HE2.out, (Below.heap_alloc w2 _ g hg2).trans hI2, box_next HKb2.out (below_one w2 _), below_new hbel2 _⟩)
          clear hN htk hes hEl
          generalize ba (60 :: 34 :: (E ++ [92, c])) = T2 at *
          generalize ba (60 :: 34 :: E) ++ ⟨#[92]⟩ = T1 at *
          generalize ba (60 :: 34 :: E) = T0 at *
          go_wp2
          go_roundw
          case rel => exact REL.out
          case measure => rw [HM2.out, HMs.out]; omega
        · have b2 : ((c.toNat : Int) == 92) = false := by rw [show (92 : Int) = ((92 : Nat) : Int) from rfl, byte_is (by decide)]; exact decide_eq_false h92
          have H92 := Lib.hid h92
          clear h92
          by_cases hg : k < len
          · have hgi : (k : Int) < (len : Int) := by omega
            obtain ⟨x, rfl, cx⟩ := (HZ.out.next hbel2).at hg
            cases hzk : zs.getD k false with
            | true =>
              rw [hzk] at cx
              have s1 := cat_run (ba (60 :: 34 :: E)) ⟨#[92]⟩ (by rw [hes]; have e1 : (⟨#[92]⟩ : ByteArray).size = 1 := rfl; omega)
              have s2 := cat_run (ba (60 :: 34 :: E) ++ ⟨#[92]⟩) ⟨#[c]⟩ (by rw [ByteArray.size_append, hes]; have e1 : (⟨#[92]⟩ : ByteArray).size = 1 := rfl; have e2 : (⟨#[c]⟩ : ByteArray).size = 1 := rfl; omega)
              have hN : (ba (60 :: 34 :: E) ++ ⟨#[92]⟩) ++ ⟨#[c]⟩ = ba (60 :: 34 :: (E ++ [92, c])) := by
                apply ByteArray.ext
                simp [ba]
              rw [hN] at s2
              have HE2 := Lib.hid (show EscR (b.loc.take (k + 1)) (E ++ [92, c]) by rw [htk]; exact HE.out.signs c)
              have REL := Lib.hid (show ∃ (k' : Nat) (E' : List UInt8), Value.string (ba (60 :: 34 :: (E ++ [92, c]))) = .string (ba (60 :: 34 :: E')) ∧ k' ≤ b.loc.length ∧ EscR (b.loc.take k') E' ∧ (w2.alloc (.cells #[.int .u8 (c.toNat : Int)] 5)).heap[g]? = some (.stringIter (ba b.loc) k') ∧ ((w2.alloc (.cells #[.int .u8 (c.toNat : Int)] 5)).cell? ⟨W.heap.size, 0, none⟩ = some (.string (ba b.loc)) ∧ (w2.alloc (.cells #[.int .u8 (c.toNat : Int)] 5)).cell? ⟨W.heap.size, 1, none⟩ = some (.string (ba b.dom))) ∧ Below W.heap.size W (w2.alloc (.cells #[.int .u8 (c.toNat : Int)] 5)) from ⟨k + 1, _, rfl, hlt, HE2.out, (Below.heap_alloc w2 _ g hg2).trans hI2, box_next HKb2.out (below_one w2 _), below_new hbel2 _⟩)
              clear hN htk hes hEl
              generalize ba (60 :: 34 :: (E ++ [92, c])) = T2 at *
              generalize ba (60 :: 34 :: E) ++ ⟨#[92]⟩ = T1 at *
              generalize ba (60 :: 34 :: E) = T0 at *
              go_wp2
              go_roundw
              case rel => exact REL.out
              case measure => rw [HM2.out, HMs.out]; omega
            | false =>
              rw [hzk] at cx
              have s2 := cat_run (ba (60 :: 34 :: E)) ⟨#[c]⟩ (by rw [hes]; have e2 : (⟨#[c]⟩ : ByteArray).size = 1 := rfl; omega)
              have hN : ba (60 :: 34 :: E) ++ ⟨#[c]⟩ = ba (60 :: 34 :: (E ++ [c])) := by
                apply ByteArray.ext
                simp [ba]
              rw [hN] at s2
              have HE2 := Lib.hid (show EscR (b.loc.take (k + 1)) (E ++ [c]) by rw [htk]; exact HE.out.plains c H34.out H92.out)
              have REL := Lib.hid (show ∃ (k' : Nat) (E' : List UInt8), Value.string (ba (60 :: 34 :: (E ++ [c]))) = .string (ba (60 :: 34 :: E')) ∧ k' ≤ b.loc.length ∧ EscR (b.loc.take k') E' ∧ (w2.alloc (.cells #[.int .u8 (c.toNat : Int)] 5)).heap[g]? = some (.stringIter (ba b.loc) k') ∧ ((w2.alloc (.cells #[.int .u8 (c.toNat : Int)] 5)).cell? ⟨W.heap.size, 0, none⟩ = some (.string (ba b.loc)) ∧ (w2.alloc (.cells #[.int .u8 (c.toNat : Int)] 5)).cell? ⟨W.heap.size, 1, none⟩ = some (.string (ba b.dom))) ∧ Below W.heap.size W (w2.alloc (.cells #[.int .u8 (c.toNat : Int)] 5)) from ⟨k + 1, _, rfl, hlt, HE2.out, (Below.heap_alloc w2 _ g hg2).trans hI2, box_next HKb2.out (below_one w2 _), below_new hbel2 _⟩)
              clear hN htk hes hEl
              generalize ba (60 :: 34 :: (E ++ [c])) = T2 at *
              generalize ba (60 :: 34 :: E) = T0 at *
              go_wp2
              go_roundw
              case rel => exact REL.out
              case measure => rw [HM2.out, HMs.out]; omega
          · have hgi : ¬ (k : Int) < (len : Int) := by omega
            have s2 := cat_run (ba (60 :: 34 :: E)) ⟨#[c]⟩ (by rw [hes]; have e2 : (⟨#[c]⟩ : ByteArray).size = 1 := rfl; omega)
            have hN : ba (60 :: 34 :: E) ++ ⟨#[c]⟩ = ba (60 :: 34 :: (E ++ [c])) := by
              apply ByteArray.ext
              simp [ba]
            rw [hN] at s2
            have HE2 := Lib.hid (show EscR (b.loc.take (k + 1)) (E ++ [c]) by rw [htk]; exact HE.out.plains c H34.out H92.out)
            have REL := Lib.hid (show ∃ (k' : Nat) (E' : List UInt8), Value.string (ba (60 :: 34 :: (E ++ [c]))) = .string (ba (60 :: 34 :: E')) ∧ k' ≤ b.loc.length ∧ EscR (b.loc.take k') E' ∧ (w2.alloc (.cells #[.int .u8 (c.toNat : Int)] 5)).heap[g]? = some (.stringIter (ba b.loc) k') ∧ ((w2.alloc (.cells #[.int .u8 (c.toNat : Int)] 5)).cell? ⟨W.heap.size, 0, none⟩ = some (.string (ba b.loc)) ∧ (w2.alloc (.cells #[.int .u8 (c.toNat : Int)] 5)).cell? ⟨W.heap.size, 1, none⟩ = some (.string (ba b.dom))) ∧ Below W.heap.size W (w2.alloc (.cells #[.int .u8 (c.toNat : Int)] 5)) from ⟨k + 1, _, rfl, hlt, HE2.out, (Below.heap_alloc w2 _ g hg2).trans hI2, box_next HKb2.out (below_one w2 _), below_new hbel2 _⟩)
            clear hN htk hes hEl
            generalize ba (60 :: 34 :: (E ++ [c])) = T2 at *
            generalize ba (60 :: 34 :: E) = T0 at *
            go_wp2
            go_roundw
            case rel => exact REL.out
            case measure => rw [HM2.out, HMs.out]; omega
    · have hnx := fun ty => next_off hI (by omega : ¬ k < (ba b.loc).size) ty
      have hEE : EscR b.loc E := by have := HE.out; rwa [List.take_of_length_le (by omega)] at this
      have hP := HPQ.out E hEE
      obtain ⟨c0, c1⟩ := hkb
      have hds := ba_size b.dom
      have e1 : (⟨#[34, 64]⟩ : ByteArray).size = 2 := rfl
      have e2 : (⟨#[62]⟩ : ByteArray).size = 1 := rfl
      have s1 := cat_run (ba (60 :: 34 :: E)) ⟨#[34, 64]⟩ (by omega)
      have s2 := cat_run (ba (60 :: 34 :: E) ++ ⟨#[34, 64]⟩) (ba b.dom) (by rw [ByteArray.size_append]; omega)
      have s3 := cat_run (ba (60 :: 34 :: E) ++ ⟨#[34, 64]⟩ ++ ba b.dom) ⟨#[62]⟩ (by rw [ByteArray.size_append, ByteArray.size_append]; omega)
      have hN : (ba (60 :: 34 :: E) ++ ⟨#[34, 64]⟩ ++ ba b.dom) ++ ⟨#[62]⟩ = ba (60 :: 34 :: (E ++ 34 :: 64 :: (b.dom ++ [62]))) := by
        apply ByteArray.ext
        simp [ba]
      rw [hN] at s3
      have hPs := fun w => HPs.out (ba (60 :: 34 :: (E ++ 34 :: 64 :: (b.dom ++ [62])))) (by rw [ba_size]; simp only [List.length_cons, List.length_append, List.length_nil]; omega) w
      rw [ba_list, hP, parseV, boxV] at hPs
      have HPS := Lib.hid hPs
      clear hPs hN hP hEE hes hds e1 e2 hls hEl hI
      generalize ba (60 :: 34 :: (E ++ 34 :: 64 :: (b.dom ++ [62]))) = N3 at *
      generalize (ba (60 :: 34 :: E) ++ ⟨#[34, 64]⟩ ++ ba b.dom : ByteArray) = N2 at *
      generalize (ba (60 :: 34 :: E) ++ ⟨#[34, 64]⟩ : ByteArray) = N1 at *
      generalize ba (60 :: 34 :: E) = T0 at *
      generalize ba b.loc = L at *
      generalize ba b.dom = D at *
      go_wp2_with (first
        | (go_at_call 14; (with_reducible refine (HPS.out _).mono ?_); rintro e w5 ⟨rfl, hb5⟩; have hb5' := below_new (Below_next hbel hb5) (.cells #[.string L, .string D] 25); obtain ⟨⟨c50, c51⟩, ⟨d50, d51⟩⟩ := cells_on ⟨c0, c1⟩ hb5 (.cells #[.string L, .string D] 25)))
      go_ret
      exact ⟨rfl, hb5'⟩
end Go.Proofs.YtmaephjonfeijaaDoor
