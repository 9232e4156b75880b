/- AddrSmall: its walk over the record. -/
import Derived.Test.YtmaephjonfeijaaDoorApB
import Derived.Test.YtmaephjonfeijaaDoorM1
import Derived.Test.YtmaephjonfeijaaDoorIsb
namespace Go.Proofs.YtmaephjonfeijaaDoor
open Go.RowKit

theorem HasBytes.next {w w' : World} {g : Nat} {l : List UInt8} (h : HasBytes w g l) (hg : g < w.heap.size) (hb : Below w.heap.size w w') : HasBytes w' g l := fun j hj =>
  ⟨(World.cell?_of_block (a := ⟨g, j, none⟩) (hb.block g hg)).trans (h j hj).1, (World.frozen?_of_block (a := ⟨g, j, none⟩) (hb.block g hg)).trans (h j hj).2⟩
theorem HasBytes.other {w : World} {g : Nat} {l : List UInt8} (h : HasBytes w g l) (a : Addr) (v : Value) (ha : g ≠ a.block) : HasBytes (w.setCell a v) g l := fun j hj =>
  ⟨(World.cell?_of_block (a := ⟨g, j, none⟩) (Below.heap_setCell _ _ _ _ ha)).trans (h j hj).1, (World.frozen?_of_block (a := ⟨g, j, none⟩) (Below.heap_setCell _ _ _ _ ha)).trans (h j hj).2⟩
/-- A box that was made ahead of a call: its cells, and the bytes' reading, behind the call and behind the stores. -/
theorem cv_on {g n cp : Nat} {M : List UInt8} {MB : ByteArray} {w5 w6 : World} {t : TypeId} (hcv : ∀ w', HasBytes w' g M → (convert 46 9 (.slice (some ⟨g, 0, none⟩) n cp)).run Tryd.prog w' = .ok (.string MB) w') (hB : HasBytes w5 g M) (hg : g < w5.heap.size)
    (hb : Below (w5.alloc (.cells #[.string ⟨#[]⟩, .string ⟨#[]⟩] t)).drew.heap.size (w5.alloc (.cells #[.string ⟨#[]⟩, .string ⟨#[]⟩] t)).drew w6) (u v : Value) :
    (convert 46 9 (.slice (some ⟨g, 0, none⟩) n cp)).run Tryd.prog w6 = .ok (.string MB) w6 ∧ (convert 46 9 (.slice (some ⟨g, 0, none⟩) n cp)).run Tryd.prog (w6.setCell ⟨w5.heap.size, 0, none⟩ u) = .ok (.string MB) (w6.setCell ⟨w5.heap.size, 0, none⟩ u) ∧
    (convert 46 9 (.slice (some ⟨g, 0, none⟩) n cp)).run Tryd.prog ((w6.setCell ⟨w5.heap.size, 0, none⟩ u).setCell ⟨w5.heap.size, 1, none⟩ v) = .ok (.string MB) ((w6.setCell ⟨w5.heap.size, 0, none⟩ u).setCell ⟨w5.heap.size, 1, none⟩ v) ∧
    (w6.cell? ⟨w5.heap.size, 0, none⟩ = some (.string ⟨#[]⟩) ∧ w6.cell? ⟨w5.heap.size, 1, none⟩ = some (.string ⟨#[]⟩)) ∧ (w6.frozen? ⟨w5.heap.size, 0, none⟩ = false ∧ w6.frozen? ⟨w5.heap.size, 1, none⟩ = false) ∧ HasBytes ((w6.setCell ⟨w5.heap.size, 0, none⟩ u).setCell ⟨w5.heap.size, 1, none⟩ v) g M ∧
    Below w5.heap.size w5 w6 := by
  have hz : (w5.alloc (.cells #[.string ⟨#[]⟩, .string ⟨#[]⟩] t)).drew.heap.size = w5.heap.size + 1 := by show (w5.heap.push _).size = _; simp
  have h5 : Below w5.heap.size w5 (w5.alloc (.cells #[.string ⟨#[]⟩, .string ⟨#[]⟩] t)).drew := (below_one w5 _).drew
  have hA := Arr.new w5 #[.string ⟨#[]⟩, .string ⟨#[]⟩] t
  have hA6 : Arr w6 w5.heap.size #[.string ⟨#[]⟩, .string ⟨#[]⟩] t := Arr.next (w := (w5.alloc (.cells #[.string ⟨#[]⟩, .string ⟨#[]⟩] t)).drew) hA hb
  have h6 := Below_next h5 hb
  have b6 : HasBytes w6 g M := hB.next hg h6
  have hne : g ≠ w5.heap.size := Nat.ne_of_lt hg
  have b7 := b6.other ⟨w5.heap.size, 0, none⟩ u hne
  have b8 := b7.other ⟨w5.heap.size, 1, none⟩ v hne
  exact ⟨hcv _ b6, hcv _ b7, hcv _ b8, ⟨hA6.cell rfl, hA6.cell rfl⟩, ⟨hA6.frozen 0, hA6.frozen 1⟩, b8, h6⟩
/-- Cells and the rest behind the stores into such a box. -/
theorem box_on {w0 w5 w6 : World} {g0 : Nat} {a b u v : Value} {t : TypeId} (hk : w5.cell? ⟨g0, 0, none⟩ = some a ∧ w5.cell? ⟨g0, 1, none⟩ = some b) (h0 : Below w0.heap.size w0 w5)
    (hb : Below (w5.alloc (.cells #[.string ⟨#[]⟩, .string ⟨#[]⟩] t)).drew.heap.size (w5.alloc (.cells #[.string ⟨#[]⟩, .string ⟨#[]⟩] t)).drew w6) :
    (((w6.setCell ⟨w5.heap.size, 0, none⟩ u).setCell ⟨w5.heap.size, 1, none⟩ v).cell? ⟨w5.heap.size, 0, none⟩ = some u ∧ ((w6.setCell ⟨w5.heap.size, 0, none⟩ u).setCell ⟨w5.heap.size, 1, none⟩ v).cell? ⟨w5.heap.size, 1, none⟩ = some v) ∧
    (((w6.setCell ⟨w5.heap.size, 0, none⟩ u).setCell ⟨w5.heap.size, 1, none⟩ v).cell? ⟨g0, 0, none⟩ = some a ∧ ((w6.setCell ⟨w5.heap.size, 0, none⟩ u).setCell ⟨w5.heap.size, 1, none⟩ v).cell? ⟨g0, 1, none⟩ = some b) ∧
    Below w0.heap.size w0 ((w6.setCell ⟨w5.heap.size, 0, none⟩ u).setCell ⟨w5.heap.size, 1, none⟩ v) := by
  have h5 : Below w5.heap.size w5 (w5.alloc (.cells #[.string ⟨#[]⟩, .string ⟨#[]⟩] t)).drew := (below_one w5 _).drew
  have hA := Arr.new w5 #[.string ⟨#[]⟩, .string ⟨#[]⟩] t
  have hA6 : Arr w6 w5.heap.size #[.string ⟨#[]⟩, .string ⟨#[]⟩] t := Arr.next (w := (w5.alloc (.cells #[.string ⟨#[]⟩, .string ⟨#[]⟩] t)).drew) hA hb
  have h6 := Below_next h5 hb
  have hA8 := Arr.set (Arr.set hA6 0 u) 1 v
  have h8 : Below w5.heap.size w5 ((w6.setCell ⟨w5.heap.size, 0, none⟩ u).setCell ⟨w5.heap.size, 1, none⟩ v) := (h6.setCell (Nat.le_refl _) _).setCell (Nat.le_refl _) _
  exact ⟨⟨hA8.cell rfl, hA8.cell rfl⟩, box_next hk h8, Below_next h0 h8⟩
/-- The same where the call comes first. -/
theorem cv_call {g n cp : Nat} {M : List UInt8} {MB : ByteArray} {w w' : World} (hcv : ∀ w', HasBytes w' g M → (convert 46 9 (.slice (some ⟨g, 0, none⟩) n cp)).run Tryd.prog w' = .ok (.string MB) w') (hB : HasBytes w g M) (hg : g < w.heap.size) (hb : Below w.heap.size w w') (o1 o2 : Obj) :
    (convert 46 9 (.slice (some ⟨g, 0, none⟩) n cp)).run Tryd.prog w' = .ok (.string MB) w' ∧ (convert 46 9 (.slice (some ⟨g, 0, none⟩) n cp)).run Tryd.prog (w'.alloc o1) = .ok (.string MB) (w'.alloc o1) ∧ (convert 46 9 (.slice (some ⟨g, 0, none⟩) n cp)).run Tryd.prog (w'.alloc o2) = .ok (.string MB) (w'.alloc o2) ∧ HasBytes (w'.alloc o2) g M :=
  have h1 := hB.next hg hb
  have h2 := Nat.lt_of_lt_of_le hg hb.size
  ⟨hcv _ h1, hcv _ (h1.next h2 (below_one w' o1)), hcv _ (h1.next h2 (below_one w' o2)), h1.next h2 (below_one w' o2)⟩
/-- A small letter made great is the same letter, small. -/
theorem sm_great {c : UInt8} (h1 : 97 ≤ c.toNat) (h2 : c.toNat ≤ 122) : (c - 32).toNat = c.toNat - 32 ∧ smB (c - 32) = smB c := by
  have e : (c - 32).toNat = c.toNat - 32 := UInt8.toNat_sub_of_le c 32 (by show (32 : UInt8).toNat ≤ c.toNat; have : (32 : UInt8).toNat = 32 := rfl; omega)
  refine ⟨e, ?_⟩
  have n65 : (65 : UInt8).toNat = 65 := rfl
  have n90 : (90 : UInt8).toNat = 90 := rfl
  have a1 : (65 : UInt8) ≤ c - 32 ∧ c - 32 ≤ 90 := ⟨UInt8.le_iff_toNat_le.2 (by omega), UInt8.le_iff_toNat_le.2 (by omega)⟩
  have a2 : ¬ ((65 : UInt8) ≤ c ∧ c ≤ 90) := fun h => by have := UInt8.le_iff_toNat_le.1 h.2; omega
  rw [smB, if_pos a1, smB, if_neg a2, UInt8.sub_add_cancel]
theorem smL_set {M : List UInt8} {k : Nat} (hk : k < M.length) {c : UInt8} (hc : smB c = smB M[k]) : smL (M.set k c) = smL M := by
  rw [smL, List.map_set, hc]
  rw [show (List.map smB M).set k (smB M[k]) = List.map smB M from by
    apply List.ext_getElem (by simp)
    intro i h1 h2
    rw [List.getElem_set]
    split
    · rename_i e; subst e; simp
    · rfl]
  rfl
/-- A mailbox' path with its domain in other letters. -/
theorem parse_small {b : BoxA} (hm : mayB b = true) {M : List UInt8} (h : smL M = b.dom) : parseL (60 :: (wrP b ++ (M ++ [62]))) = some b ∧ domR M = .tuple #[.string (ba b.dom), .int .i64 0] := by
  rw [mayB, Bool.and_eq_true, Bool.and_eq_true] at hm
  obtain ⟨⟨hd, _⟩, hl⟩ := hm
  obtain ⟨w, hw, he⟩ := wrP_W hl
  have hM : domB M = true := dom_other hd h
  have hr := read_any [] (fun d h => by cases h) hw hM []
  rw [rouT, List.nil_append, h] at hr
  refine ⟨?_, by rw [domR, if_pos hM, h]⟩
  rw [he, List.append_assoc, List.singleton_append, parseL, hr]

theorem ext_take9 (s : ByteArray) (i : Nat) : s.extract 0 i = ba (s.data.toList.take i) := by rw [ext_ba, List.drop_zero, Nat.sub_zero]

set_option maxHeartbeats 4000000 in
set_option maxRecDepth 100000 in
theorem addrSmall_may (C : AddrC) (b : BoxA) (a : Option Addr) (len cap : Nat) (zs : List Bool) (W : World) (h1 : b.loc.length ≤ 2048) (h2 : b.dom.length ≤ 2048) (hm : mayB b = true) (hz : IsBls W a len cap zs) :
    Calls Tryd.prog 7 #[boxV b, .slice a len cap] W fun e w' => e = .returned (.bool true) ∧ Below W.heap.size W w' := by
  have hsl := ba_size b.loc
  have hsd := ba_size b.dom
  have HA := Lib.hid (fun w => C.awake w)
  have HZ := Lib.hid hz
  have hLg := fun w => large2_any (ba b.loc) (ba b.dom) w
  have hB0 := below_one W (.cells #[.string (ba b.loc), .string (ba b.dom)] 25)
  have k0 := box_new W (.string (ba b.loc)) (.string (ba b.dom)) 25
  rw [decide_eq_false (by omega : ¬ (2048 < (ba b.loc).size ∨ 2048 < (ba b.dom).size))] at hLg
  have HLg := Lib.hid hLg
  have hMb := fun w => C.may b (by omega) (by omega) w
  rw [hm, boxV] at hMb
  have HMb := Lib.hid hMb
  have hWr := fun w => C.write b (by omega) (by omega) w
  rw [wrR, if_pos hm, boxV] at hWr
  have HWr := Lib.hid hWr
  have HS := Lib.hid (fun M => @parse_small b hm M)
  have HSp := Lib.hid (wr_split b)
  have hwl := wrL_len b
  have hds : smL b.dom = b.dom := by
    rw [mayB, Bool.and_eq_true, Bool.and_eq_true] at hm
    exact of_decide_eq_true hm.1.2
  have HDS := Lib.hid hds
  have hbl : (ba b.dom).data.toList = b.dom := ba_list b.dom
  rw [boxV]
  clear hz hLg hMb hWr hm hds
  go_enter Tryd.func7, Tryd.ntmps7
  go_wp2_with (first
    | (go_at_call 10; (with_reducible refine (HA.out _).mono ?_); rintro e w1 ⟨rfl, hb1⟩; have hb1' := Below_next hB0 hb1; obtain ⟨⟨c10, c11⟩, ⟨d10, d11⟩⟩ := cells_on k0 hb1 (.cells #[.string (ba b.loc), .string (ba b.dom)] 9))
    | (go_at_call 11; (with_reducible refine (HLg.out _).mono ?_); rintro e w2 ⟨rfl, rfl⟩; have hb2 := below_new hb1' (.cells #[.string (ba b.loc), .string (ba b.dom)] 9))
    | (go_at_call 27; (with_reducible refine (HMb.out _).mono ?_); rintro e w3 ⟨rfl, hb3⟩; have hb3' := Below_next hb2 hb3; obtain ⟨⟨c30, c31⟩, _⟩ := cells_on ⟨d10, d11⟩ hb3 (.cells #[] 9))
    | (with_reducible refine wpList_conv_str _ rfl _ rfl (ba b.dom) rfl ?_; intro cp w4 hby4 hb4 hz4))
  have HB4 := Lib.hid hby4
  have HB4b := Lib.hid hb4
  have K3 := Lib.hid (show w3.cell? ⟨W.heap.size, 0, none⟩ = some (.string (ba b.loc)) ∧ w3.cell? ⟨W.heap.size, 1, none⟩ = some (.string (ba b.dom)) from ⟨c30, c31⟩)
  have H3 := Lib.hid hb3'
  clear hby4 c30 c31 c10 c11 d10 d11 k0 hb1 hb1' hb2 hb3 hb3' hB0 hb4
  go_loopw [31] (fun i wr => ∃ (k : Nat) (M : List UInt8), i = .int .i64 (k : Int) ∧ k ≤ M.length ∧ M.length = b.dom.length ∧ smL M = b.dom ∧ HasBytes wr w3.heap.size M ∧ w3.heap.size < wr.heap.size ∧ Below w3.heap.size w3 wr) (fun i _ => b.dom.length - (intOf i).toNat)
  case atStart => exact ⟨0, b.dom, rfl, Nat.zero_le _, rfl, HDS.out, hbl ▸ HB4.out, by rw [hz4]; exact Nat.lt_succ_self _, HB4b.out⟩
  case round =>
    obtain ⟨k, M, rfl, hk, hMl, hsm, hby, hgl, hbel⟩ := hrel
    have HBy := Lib.hid hby
    have HSm := Lib.hid hsm
    have HMl := Lib.hid hMl
    clear hby hsm hz4
    by_cases hlt : k < M.length
    · have hli : (k : Int) < (b.dom.length : Int) := by omega
      have hk0 : (0 : Int) ≤ (k : Int) := by omega
      obtain ⟨cm, fm⟩ := HBy.out k hlt
      have rel0 := Lib.hid (show ∃ (k' : Nat) (M' : List UInt8), Value.int .i64 ((k : Int) + 1) = .int .i64 (k' : Int) ∧ k' ≤ M'.length ∧ M'.length = b.dom.length ∧ smL M' = b.dom ∧ HasBytes wr w3.heap.size M' ∧ w3.heap.size < wr.heap.size ∧ Below w3.heap.size w3 wr from ⟨k + 1, M, by go_num, hlt, hMl, HSm.out, HBy.out, hgl, hbel⟩)
      by_cases hg : k < len
      · have hgi : (k : Int) < (len : Int) := by omega
        obtain ⟨x, rfl, cx⟩ := (HZ.out.next (Below_next H3.out hbel)).at hg
        cases hzk : zs.getD k false with
        | false =>
          rw [hzk] at cx
          go_wp2
          go_roundw
          case rel => exact rel0.out
          case measure => simp only [intOf]; omega
        | true =>
          rw [hzk] at cx
          by_cases h97 : 97 ≤ M[k].toNat
          · have h97i : (97 : Int) ≤ (M[k].toNat : Int) := by omega
            by_cases h122 : M[k].toNat ≤ 122
            · have h122i : (M[k].toNat : Int) ≤ (122 : Int) := by omega
              obtain ⟨e1, e2⟩ := sm_great h97 h122
              have e3 : ((M[k] - 32).toNat : Int) = (M[k].toNat : Int) - 32 := by omega
              have HN := Lib.hid (HBy.out.set k hlt (M[k] - 32))
              have HSn := Lib.hid (show smL (M.set k (M[k] - 32)) = b.dom by rw [smL_set hlt e2, HSm.out])
              have HLn := Lib.hid (show (M.set k (M[k] - 32)).length = M.length by simp)
              rw [e3] at HN
              generalize M.set k (M[k] - 32) = M2 at *
              clear e1 e2 e3 h97 h122
              go_wp2
              go_roundw
              case rel => exact ⟨k + 1, M2, by go_num, by rw [HLn.out]; exact hlt, by rw [HLn.out]; exact hMl, HSn.out, HN.out, by simp [World.setCell]; exact hgl, hbel.setCell (Nat.le_refl _) _⟩
              case measure => simp only [intOf]; omega
            · have h122i : ¬ (M[k].toNat : Int) ≤ (122 : Int) := by omega
              go_wp2
              go_roundw
              case rel => exact rel0.out
              case measure => simp only [intOf]; omega
          · have h97i : ¬ (97 : Int) ≤ (M[k].toNat : Int) := by omega
            go_wp2
            go_roundw
            case rel => exact rel0.out
            case measure => simp only [intOf]; omega
      · have hgi : ¬ (k : Int) < (len : Int) := by omega
        go_wp2
        go_roundw
        case rel => exact rel0.out
        case measure => simp only [intOf]; omega
    · have hli : ¬ (k : Int) < (b.dom.length : Int) := by omega
      obtain ⟨hp1, hp2⟩ := HS.out M HSm.out
      obtain ⟨c0, c1⟩ := box_next K3.out hbel
      have hsp := HSp.out
      have hwr : wrP b ++ b.dom = wrL b := hsp.symm
      have hlw : (wrL b).length = (wrP b).length + b.dom.length := by rw [hsp, List.length_append]
      have hws := ba_size (wrL b)
      have hms := ba_size M
      have hsl2 := slice_to (ba (wrL b)) (wrP b).length (by omega)
      have htk : (wrL b).take (wrP b).length = wrP b := by rw [hsp, List.take_left]
      rw [ext_take9, ba_list, htk, show (((wrP b).length : Nat) : Int) = ((ba (wrL b)).size : Int) - (b.dom.length : Int) by omega] at hsl2
      have e60 : (⟨#[60]⟩ : ByteArray).size = 1 := rfl
      have e62 : (⟨#[62]⟩ : ByteArray).size = 1 := rfl
      have hps := ba_size (wrP b)
      have s1 := cat_run ⟨#[60]⟩ (ba (wrP b)) (by omega)
      have s2 := cat_run (⟨#[60]⟩ ++ ba (wrP b)) (ba M) (by rw [ByteArray.size_append]; omega)
      have s3 := cat_run (⟨#[60]⟩ ++ ba (wrP b) ++ ba M) ⟨#[62]⟩ (by rw [ByteArray.size_append, ByteArray.size_append]; omega)
      have hN : (⟨#[60]⟩ ++ ba (wrP b) ++ ba M) ++ ⟨#[62]⟩ = ba (60 :: (wrP b ++ (M ++ [62]))) := by
        apply ByteArray.ext
        simp [ba]
      rw [hN] at s3
      have hPs := fun w => C.parse (ba (60 :: (wrP b ++ (M ++ [62])))) (by rw [ba_size]; simp only [List.length_cons, List.length_append, List.length_nil]; omega) w
      rw [ba_list, hp1, parseV, boxV] at hPs
      have HPs := Lib.hid hPs
      have hDo := fun w => C.domain (ba M) (by omega) w
      rw [ba_list, hp2] at hDo
      have HDo := Lib.hid hDo
      have hge : ¬ ((ba (wrL b)).size : Int) < (b.dom.length : Int) := by omega
      have hcv : ∀ w', HasBytes w' w3.heap.size M → (convert 46 9 (.slice (some ⟨w3.heap.size, 0, none⟩) b.dom.length cp)).run Tryd.prog w' = .ok (.string (ba M)) w' := fun w' h => by
        have := h.conv cp
        rw [HMl.out] at this
        exact this
      have HCv := Lib.hid hcv
      have hsub : IntKind.i64.wrap (((ba (wrL b)).size : Int) - (b.dom.length : Int)) = ((ba (wrL b)).size : Int) - (b.dom.length : Int) := by rw [IntKind.wrap_i64]; omega
      have HBel := Lib.hid hbel
      clear hPs hDo hcv hN hp1 hp2 hsp htk hwr hlw hws hms hps e60 e62 hk hMl hlt hwl hbl hsl h1 h2 hbel
      generalize ba (60 :: (wrP b ++ (M ++ [62]))) = N3 at *
      generalize (⟨#[60]⟩ ++ ba (wrP b) ++ ba M : ByteArray) = N2 at *
      generalize (⟨#[60]⟩ ++ ba (wrP b) : ByteArray) = N1 at *
      generalize ba (wrP b) = P0 at *
      generalize ba (wrL b) = W0 at *
      generalize hMB : ba M = MB at *
      generalize ba b.loc = L at *
      generalize ba b.dom = D at *
      clear hMB
      go_wp2_with (first
        | (go_at_call 23; (with_reducible refine (HWr.out _).mono ?_); rintro e w5 ⟨rfl, hb5⟩; obtain ⟨c50, c51⟩ := box_next ⟨c0, c1⟩ hb5; have HB5 := Lib.hid (HBy.out.next hgl hb5); have hgl5 := Nat.lt_of_lt_of_le hgl hb5.size; have H5 := Lib.hid (Below_next H3.out (HBel.out.trans ⟨hb5.os, hb5.tape, hb5.output, hb5.size, fun k hk => hb5.block k (Nat.lt_trans hk hgl)⟩))))
      have hS5 := HCv.out _ HB5.out
      have hS5d := HCv.out w5.drew HB5.out
      have hS5a := HCv.out _ (HB5.out.next hgl5 (below_one w5 (.cells #[.string ⟨#[]⟩, .string ⟨#[]⟩] 25)))
      have hS5b := HCv.out (w5.alloc (.cells #[.string ⟨#[]⟩, .string ⟨#[]⟩] 25)).drew (HB5.out.next hgl5 (below_one w5 (.cells #[.string ⟨#[]⟩, .string ⟨#[]⟩] 25)).drew)
      have HB5d := Lib.hid (show HasBytes w5.drew w3.heap.size M from HB5.out)
      have hgl5d : w3.heap.size < w5.drew.heap.size := hgl5
      go_region_held3 (fun w' => (convert 46 9 (.slice (some ⟨w3.heap.size, 0, none⟩) b.dom.length cp)).run Tryd.prog w' = .ok (.string MB) w') (first | with_reducible exact hS5 | with_reducible exact hS5d | with_reducible exact hS5a | with_reducible exact hS5b | with_reducible exact hS6 | with_reducible exact hS6a | with_reducible exact hS6b) (first
        | (go_at_call 14; (with_reducible refine (HPs.out w5.drew).mono ?_); rintro e w6 ⟨rfl, hb6⟩; obtain ⟨hS6, hS6a, hS6b, hB6⟩ := cv_call HCv.out HB5d.out hgl5d hb6 (.cells #[.string ⟨#[]⟩, .string ⟨#[]⟩] 25) (.cells #[.string L, .string D] 25); have kE := box_new w6 (.string L) (.string D) 25; have kbE := box_next (box_next (box_next (And.intro c50 c51) (below_drew w5)) hb6) (below_one w6 (.cells #[.string L, .string D] 25)); have hbE := below_new (Below_next H5.out.drew hb6) (.cells #[.string L, .string D] 25))
        | (go_at_call 14; (with_reducible refine (HPs.out _).mono ?_); rintro e w6 ⟨rfl, hb6⟩; obtain ⟨hS6, hS6a, hS6b, ⟨e60, e61⟩, ⟨f60, f61⟩, hB6, hb6'⟩ := cv_on HCv.out HB5.out hgl5 hb6 (.string L) (.string D); obtain ⟨kE, kbE, hbE⟩ := box_on (u := .string L) (v := .string D) (And.intro c50 c51) H5.out hb6))
      all_goals
        clear c50 c51 c0 c1
        go_wp2_with (first
          | (go_at_call 17; (with_reducible refine (HDo.out _).mono ?_); rintro e w7 ⟨rfl, hb7⟩; obtain ⟨g70, g71⟩ := box_next kE hb7; obtain ⟨i70, i71⟩ := box_next kbE hb7; have hb7' := Below_next hbE hb7))
        go_ret
        exact ⟨rfl, hb7'⟩
end Go.Proofs.YtmaephjonfeijaaDoor
