/- aead: the plain functions: what a tag covers, the key once used, a text sealed. aead: joined and Covered. The document's own layer 6: Once, Covered, Seal, Open. aead: the landed code's contracts. -/
import Derived.Test.YtfflpooiebeagaaDoorM3
import Derived.Test.YtfflpooiebeagaaDoorM5
import Derived.Test.YtfflpooiebeagaaDoorM2
import Derived.Test.YtfflpooiebeagaaDoorM4
import Derived.Test.YtfflpooiebeagaaDoorM6
namespace Go.Proofs.YtfflpooiebeagaaDoor
open Go.RowKit

theorem ba_ext {a b : ByteArray} (h : a.data.toList = b.data.toList) : a = b := by
  apply ByteArray.ext; apply Array.ext'; exact h
theorem ba_list (l : List UInt8) : (⟨l.toArray⟩ : ByteArray).data.toList = l := rfl
theorem ba_sz (s : ByteArray) : s.data.toList.length = s.size := by simp
theorem ba_app (a b : ByteArray) : (a ++ b).data.toList = a.data.toList ++ b.data.toList := by simp
/-- Bytes filled up to sixteens; a number in eight bytes; what a tag covers. -/
def fillB (s : ByteArray) : ByteArray := fillI s 16
def lenB (n : Nat) : ByteArray := ⟨(lowL n 8).toArray⟩
def covB (d s : ByteArray) : ByteArray := fillB d ++ fillB s ++ lenB d.size ++ lenB s.size
theorem fillB_list (s : ByteArray) : (fillB s).data.toList = s.data.toList ++ List.replicate (fillMore s.size 16) 0 := by
  rw [fillB, fillI, if_neg (by omega), show (16 : Int).toNat = 16 from rfl, ba_app, show (zeros (fillMore s.size 16)).data.toList = List.replicate (fillMore s.size 16) 0 by simp [zeros]]
theorem fillMore16 (n : Nat) : n + fillMore n 16 = 16 * ((n + 15) / 16) := by unfold fillMore; split <;> omega
theorem fillB_size (s : ByteArray) : (fillB s).size = 16 * ((s.size + 15) / 16) := by
  rw [← ba_sz, fillB_list, List.length_append, List.length_replicate, ba_sz, fillMore16]
theorem lenB_size (n : Nat) : (lenB n).size = 8 := by show (lowL n 8).toArray.size = 8; rw [List.size_toArray, lowL_len]
theorem covB_size (d s : ByteArray) : (covB d s).size = 16 * ((d.size + 15) / 16) + 16 * ((s.size + 15) / 16) + 16 := by
  simp only [covB, ByteArray.size_append, fillB_size, lenB_size]
theorem lenB_inj {m n : Nat} (hm : m < 18446744073709551616) (hn : n < 18446744073709551616) (h : lowL m 8 = lowL n 8) : m = n := by
  have := lowL_inj h
  rwa [Nat.mod_eq_of_lt (show m < 256 ^ 8 from hm), Nat.mod_eq_of_lt (show n < 256 ^ 8 from hn)] at this
theorem covB_inj {d s d' s' : ByteArray} (h1 : d.size < 1000000) (h2 : s.size < 1000000) (h3 : d'.size < 1000000) (h4 : s'.size < 1000000) (h : covB d s = covB d' s') : d = d' ∧ s = s' := by
  have e := congrArg (fun b : ByteArray => b.data.toList) h
  simp only [covB, ba_app] at e
  have hs := congrArg ByteArray.size h
  rw [covB_size, covB_size] at hs
  rw [List.append_assoc, List.append_assoc ((fillB d').data.toList ++ (fillB s').data.toList)] at e
  have hl : ((fillB d).data.toList ++ (fillB s).data.toList).length = ((fillB d').data.toList ++ (fillB s').data.toList).length := by
    simp only [List.length_append, ba_sz, fillB_size]; omega
  obtain ⟨e1, e2⟩ := List.append_inj e hl
  obtain ⟨e3, e4⟩ := List.append_inj e2 (by rw [ba_sz, ba_sz, lenB_size, lenB_size])
  have n1 := lenB_inj (by omega) (by omega) e3
  have n2 := lenB_inj (by omega) (by omega) e4
  obtain ⟨e5, e6⟩ := List.append_inj e1 (by rw [ba_sz, ba_sz, fillB_size, fillB_size, n1])
  rw [fillB_list, fillB_list] at e5 e6
  exact ⟨ba_ext (List.append_inj e5 (by rw [ba_sz, ba_sz, n1])).1, ba_ext (List.append_inj e6 (by rw [ba_sz, ba_sz, n2])).1⟩

/-- The key once used; a text turned; the tag; a text sealed. -/
def onceB (k n : ByteArray) : ByteArray := strmB k 0 n 32
theorem onceB_size (k n : ByteArray) : (onceB k n).size = 32 := strmB_size _ _ _ _
def turnB (k n t : ByteArray) : ByteArray := ⟨(xorL t.data.toList (strmL k.data.toList 1 n.data.toList t.size)).toArray⟩
theorem turnB_size (k n t : ByteArray) : (turnB k n t).size = t.size := by
  show (xorL _ _).toArray.size = _; rw [List.size_toArray, xorL_len _ _ (by rw [ba_sz, strmL_len]), ba_sz]
theorem turnB_back (k n t : ByteArray) : turnB k n (turnB k n t) = t := by
  apply ba_ext
  show xorL (turnB k n t).data.toList (strmL _ _ _ (turnB k n t).size) = _
  rw [turnB_size]
  exact xorL_back _ _ (by rw [ba_sz, strmL_len])
def tag6 (k n d s : ByteArray) : ByteArray := tagB (onceB k n) (covB d s)
theorem tag6_size (k n d s : ByteArray) : (tag6 k n d s).size = 16 := tagB_size _ _
def sealB (k n d t : ByteArray) : ByteArray := turnB k n t ++ tag6 k n d (turnB k n t)
theorem sealB_size (k n d t : ByteArray) : (sealB k n d t).size = t.size + 16 := by rw [sealB, ByteArray.size_append, turnB_size, tag6_size]
/-- Sealed bytes, parted. -/
def bodyB (s : ByteArray) : ByteArray := s.extract 0 (s.size - 16)
def tailB (s : ByteArray) : ByteArray := s.extract (s.size - 16) s.size
theorem bodyB_size (s : ByteArray) : (bodyB s).size = s.size - 16 := by rw [bodyB, ext_size _ _ _ (by omega)]; omega
theorem tailB_size (s : ByteArray) (h : 16 ≤ s.size) : (tailB s).size = 16 := by rw [tailB, ext_size _ _ _ (Nat.le_refl _)]; omega
theorem parts_B (s : ByteArray) : bodyB s ++ tailB s = s := by
  apply ba_ext
  rw [ba_app, bodyB, tailB, ext_toList, ext_toList, List.drop_zero, Nat.sub_zero, List.take_of_length_le (l := List.drop _ _) (by rw [List.length_drop, ba_sz]; omega), List.take_append_drop]
theorem body_seal (k n d t : ByteArray) : bodyB (sealB k n d t) = turnB k n t := by
  rw [bodyB, sealB_size, Nat.add_sub_cancel, sealB]; exact ext_left _ _ _ (turnB_size _ _ _)
theorem tail_seal (k n d t : ByteArray) : tailB (sealB k n d t) = tag6 k n d (turnB k n t) := by
  rw [tailB, sealB_size, Nat.add_sub_cancel, sealB]; exact ext_right _ _ _ _ (turnB_size _ _ _) (by rw [tag6_size])
/-- What is opened to a text is just that text sealed. -/
theorem seal_iff (k n d s : ByteArray) : sealB k n d (turnB k n (bodyB s)) = s ↔ tailB s = tag6 k n d (bodyB s) := by
  constructor
  · intro h
    have := congrArg tailB h
    rw [tail_seal, turnB_back] at this
    exact this.symm
  · intro h
    rw [sealB, turnB_back, ← h, parts_B]

/-- The document's answers. -/
def onceR (k n : ByteArray) : Value := if szB k n = true then .tuple #[.string (onceB k n), .int .i64 0] else .tuple #[.string ByteArray.empty, .int .i64 5]
def sealOk (k n d t : ByteArray) : Prop := szB k n = true ∧ d.size ≤ 4096 ∧ t.size ≤ 16384
def openOk (k n d s : ByteArray) : Prop := szB k n = true ∧ d.size ≤ 4096 ∧ 16 ≤ s.size ∧ s.size ≤ 16400
instance (k n d t : ByteArray) : Decidable (sealOk k n d t) := by unfold sealOk; infer_instance
instance (k n d t : ByteArray) : Decidable (openOk k n d t) := by unfold openOk; infer_instance
def tagOk (k n d s : ByteArray) : Prop := tailB s = tag6 k n d (bodyB s)
instance (k n d s : ByteArray) : Decidable (tagOk k n d s) := by unfold tagOk; infer_instance
def sealS (k n d t : ByteArray) : ByteArray := if sealOk k n d t then sealB k n d t else ByteArray.empty
def sealE (k n d t : ByteArray) : Int := if sealOk k n d t then 0 else 5
def openS (k n d s : ByteArray) : ByteArray := if openOk k n d s ∧ tagOk k n d s then turnB k n (bodyB s) else ByteArray.empty
def openE (k n d s : ByteArray) : Int := if openOk k n d s then (if tagOk k n d s then 0 else 20) else 5
def sealR (k n d t : ByteArray) : Value := .tuple #[.string (sealS k n d t), .int .i64 (sealE k n d t)]
def openR (k n d s : ByteArray) : Value := .tuple #[.string (openS k n d s), .int .i64 (openE k n d s)]
theorem sealR_ok {k n d t : ByteArray} (h : sealOk k n d t) : sealR k n d t = .tuple #[.string (sealB k n d t), .int .i64 0] := by rw [sealR, sealS, sealE, if_pos h, if_pos h]
theorem sealR_no {k n d t : ByteArray} (h : ¬ sealOk k n d t) : sealR k n d t = .tuple #[.string ByteArray.empty, .int .i64 5] := by rw [sealR, sealS, sealE, if_neg h, if_neg h]
theorem openR_no {k n d s : ByteArray} (h : ¬ openOk k n d s) : openR k n d s = .tuple #[.string ByteArray.empty, .int .i64 5] := by rw [openR, openS, openE, if_neg h, if_neg (fun h2 => h h2.1)]
theorem openR_tag {k n d s : ByteArray} (h : openOk k n d s) (h2 : ¬ tagOk k n d s) : openR k n d s = .tuple #[.string ByteArray.empty, .int .i64 20] := by rw [openR, openS, openE, if_pos h, if_neg h2, if_neg (fun h3 => h2 h3.2)]
theorem openR_ok {k n d s : ByteArray} (h : openOk k n d s) (h2 : tagOk k n d s) : openR k n d s = .tuple #[.string (turnB k n (bodyB s)), .int .i64 0] := by rw [openR, openS, openE, if_pos h, if_pos h2, if_pos ⟨h, h2⟩]
theorem tag_seal (k n d t : ByteArray) : tagOk k n d (sealB k n d t) := by rw [tagOk, tail_seal, body_seal]
theorem open_seal {k n d t : ByteArray} (h : sealOk k n d t) : openR k n d (sealB k n d t) = .tuple #[.string t, .int .i64 0] := by
  rw [openR_ok ⟨h.1, h.2.1, by rw [sealB_size]; omega, by rw [sealB_size]; have := h.2.2; omega⟩ (tag_seal k n d t), body_seal, turnB_back]
end Go.Proofs.YtfflpooiebeagaaDoor
namespace Go.Proofs.YtfflpooiebeagaaDoor
open Go.RowKit

/-- What joined has written of the parts behind k rounds. -/
def partJ (d s : ByteArray) (k : Nat) : ByteArray := if k = 0 then d else s
def fillJ (d s : ByteArray) : Nat → List UInt8
  | 0 => []
  | k + 1 => fillJ d s k ++ (fillB (partJ d s k)).data.toList
def lenJ (d s : ByteArray) : Nat → List UInt8
  | 0 => []
  | k + 1 => lenJ d s k ++ (lenB (partJ d s k).size).data.toList
theorem partJ_le {d s : ByteArray} (hd : d.size ≤ 1048576) (hs : s.size ≤ 1048576) (k : Nat) : (partJ d s k).size ≤ 1048576 := by
  unfold partJ; split <;> assumption
theorem fillJ_len {d s : ByteArray} (hd : d.size ≤ 1048576) (hs : s.size ≤ 1048576) (k : Nat) : (fillJ d s k).length ≤ 1048592 * k := by
  induction k with
  | zero => rw [fillJ, List.length_nil]; omega
  | succ k ih =>
    have := partJ_le hd hs k
    rw [fillJ, List.length_append, ba_sz, fillB_size]; omega
theorem lenJ_len (d s : ByteArray) (k : Nat) : (lenJ d s k).length = 8 * k := by
  induction k with
  | zero => rfl
  | succ k ih => rw [lenJ, List.length_append, ba_sz, lenB_size, ih]; omega
theorem covB_two (d s : ByteArray) : (⟨(fillJ d s 2).toArray⟩ : ByteArray) ++ ⟨(lenJ d s 2).toArray⟩ = covB d s := by
  apply ba_ext
  have e0 : partJ d s 0 = d := if_pos rfl
  have e1 : partJ d s 1 = s := if_neg (by decide)
  rw [ba_app, ba_list, ba_list, covB, ba_app, ba_app, ba_app, fillJ, fillJ, fillJ, lenJ, lenJ, lenJ, e0, e1, List.nil_append, List.nil_append]
  simp only [List.append_assoc]

def partsC (d s : ByteArray) : Array Value := #[.string d, .string s]
theorem partsC_get (d s : ByteArray) {k : Nat} (hk : k < 2) : (partsC d s)[k]? = some (.string (partJ d s k)) := by
  match k, hk with
  | 0, _ => rfl
  | 1, _ => rfl

set_option maxHeartbeats 1000000 in
set_option maxRecDepth 100000 in
theorem joined_any (d s : ByteArray) (hd : d.size ≤ 1048576) (hs : s.size ≤ 1048576) (g : Nat) (w : World) (hg : Arr w g (partsC d s) 9) :
    Calls Tryd.prog 36 #[.slice (some ⟨g, 0, none⟩) 2 2] w fun e w' => e = .returned (.string (covB d s)) ∧ Below w.heap.size w w' := by
  have hgl := hg.lt
  have HGL := Lib.hid hgl
  have HG := Lib.hid hg
  have HD := Lib.hid hd
  have HS := Lib.hid hs
  have HT0 := Lib.hid (BTwo.new w w.heap.size (Nat.le_refl _))
  have HB0 := Lib.hid (((Below.refl w.heap.size w).alloc (Nat.le_refl _) (.cells #[.pointer none, .slice none 0 0] 83)).alloc (by simp) (.cells #[.pointer none, .slice none 0 0] 83))
  clear hg hgl hd hs
  go_enter Tryd.func36, Tryd.ntmps36
  go_wp2
  go_loopw [9] (fun f wr => ∃ k : Nat, f = .int .i64 (k : Int) ∧ k ≤ 2 ∧ BTwo wr w.heap.size w.heap.size (w.heap.size + 1) (fillJ d s k) (lenJ d s k) ∧ Below w.heap.size w wr) (fun f wr => 5 - (intOf f).toNat)
  case atStart => exact ⟨0, rfl, by omega, HT0.out, HB0.out⟩
  case round =>
    clear HT0 HB0
    obtain ⟨k, rfl, hk, ht, hbel⟩ := hrel
    have hgr := HG.out.below hbel HGL.out
    by_cases hlt : k < 2
    · have hlti : ((k : Int) < 2) := by omega
      have hk0 : (0 : Int) ≤ (k : Int) := by omega
      have hc := hgr.cell (partsC_get d s hlt)
      have hpl := partJ_le HD.out HS.out k
      have hfl := fillJ_len HD.out HS.out k
      have hll := lenJ_len d s k
      have hF : fillJ d s (k + 1) = fillJ d s k ++ (fillB (partJ d s k)).data.toList := rfl
      have hL : lenJ d s (k + 1) = lenJ d s k ++ (lenB (partJ d s k).size).data.toList := rfl
      have hfs := fillB_size (partJ d s k)
      have hls := lenB_size (partJ d s k).size
      have hf := fun w => fill_any (partJ d s k) 16 hpl (by decide) w
      have hw := fun w => low_any (partJ d s k).size (by omega) 8 w
      rw [show fillI (partJ d s k) 16 = fillB (partJ d s k) from rfl] at hf
      rw [show toldN 8 = 8 from rfl, show (⟨(lowL (partJ d s k).size 8).toArray⟩ : ByteArray) = lenB (partJ d s k).size from rfl] at hw
      generalize partJ d s k = P at *
      generalize fillB P = FP at *
      generalize lenB P.size = LP at *
      have hp0 : (0 : Int) ≤ (P.size : Int) := by omega
      have hp1 : (P.size : Int) ≤ 1048576 := by omega
      have HF := Lib.hid hf
      have HW := Lib.hid hw
      have HFs := Lib.hid (show (fillJ d s k).length + FP.size ≤ 140737488355328 by omega)
      have HLs := Lib.hid (show (lenJ d s k).length + LP.size ≤ 140737488355328 by omega)
      have HFe := Lib.hid hF
      have HLe := Lib.hid hL
      have HT := Lib.hid ht
      have HB := Lib.hid hbel
      clear hf hw hF hL hfs hls hfl hll ht hbel hgr hpl
      go_wp2_with (first
        | (go_at_call 55; (with_reducible refine (HF.out _).mono ?_); rintro e w1 ⟨rfl, hb1⟩; have HW1 := Lib.hid (BTwo.write w.heap.size _ _ _ _ FP w1 (HT.out.next hb1) HFs.out (Nat.le_trans HB.out.size hb1.size)))
        | (go_at_call 41; (first
          | ((with_reducible refine HW1.out.mono ?_); rintro e w2 ⟨rfl, ht2, hb2, _⟩; have HT2 := Lib.hid ht2; clear ht2)
          | ((with_reducible refine HW3.out.mono ?_); rintro e w4 ⟨rfl, ht4, hb4, _⟩)))
        | (go_at_call 56; (with_reducible refine (HW.out _).mono ?_); rintro e w3 ⟨rfl, hb3⟩; have HW3 := Lib.hid (BTwo.write w.heap.size _ _ _ _ LP w3 (HT2.out.next hb3).symm HLs.out (Nat.le_trans (Nat.le_trans (Nat.le_trans HB.out.size hb1.size) hb2.size) hb3.size))))
      have hBB := (((HB.out.trans (hb1.mono HB.out.size)).trans hb2).trans (hb3.mono (Nat.le_trans (Nat.le_trans HB.out.size hb1.size) hb2.size))).trans hb4
      refine ⟨⟨k + 1, by simp, by omega, ?_, hBB⟩, ?_⟩
      · rw [HFe.out, HLe.out]; exact ht4.symm
      · simp only [intOf]; omega
    · have hlti : ¬ ((k : Int) < 2) := by omega
      obtain rfl : k = 2 := by omega
      have HR := Lib.hid (BTwo.read w.heap.size _ _ _ _ wr ht)
      have hcat := covB_two d s
      have hf2 := fillJ_len HD.out HS.out 2
      have hl2 := lenJ_len d s 2
      obtain ⟨FF, hFF⟩ : ∃ FF : ByteArray, FF = ⟨(fillJ d s 2).toArray⟩ := ⟨_, rfl⟩
      obtain ⟨LL, hLL⟩ : ∃ LL : ByteArray, LL = ⟨(lenJ d s 2).toArray⟩ := ⟨_, rfl⟩
      have hFz : FF.size ≤ 2097184 := by rw [hFF]; show (fillJ d s 2).toArray.size ≤ _; rw [List.size_toArray]; omega
      have hLz : LL.size = 16 := by rw [hLL]; show (lenJ d s 2).toArray.size = _; rw [List.size_toArray]; omega
      have hread : ∀ w2, Bld w2 w.heap.size (w.heap.size + 1) (lenJ d s 2) → w.heap.size ≤ w2.heap.size → Calls Tryd.prog 42 #[.pointer (some ⟨w.heap.size + 1, 0, none⟩)] w2 fun e w' => e = .returned (.string LL) ∧ Below w.heap.size w2 w' := by
        intro w2 h2 h3
        rw [hLL]
        exact bldString_any w.heap.size _ _ w2 h2 h3
      rw [← hFF, ← hLL] at hcat
      rw [← hFF] at HR
      have hadd : ∀ W : World, (Op.stringOp .add FF LL).run Tryd.prog W = .ok (.string (covB d s)) W := fun W => by rw [← hcat]; exact cat_run _ _ (by omega) W
      have HRd := Lib.hid hread
      have HB := Lib.hid hbel
      obtain ⟨C, hC⟩ : ∃ C, C = covB d s := ⟨_, rfl⟩
      rw [← hC] at hadd
      have HC := Lib.hid hC
      clear hC hcat hf2 hl2 hFF hLL hFz hLz hread hbel ht hgr
      go_wp2_with (first
        | (go_at_call 42; (first
          | ((with_reducible refine HR.out.mono ?_); rintro e w2 ⟨rfl, hbl, hb2⟩)
          | ((with_reducible refine (HRd.out _ hbl (Nat.le_trans HB.out.size hb2.size)).mono ?_); rintro e w3 ⟨rfl, hb3⟩))))
      go_ret
      exact ⟨by rw [← HC.out]; rfl, (HB.out.trans hb2).trans hb3⟩

theorem cov_any (d s : ByteArray) (hd : d.size ≤ 1048576) (hs : s.size ≤ 1048576) (w : World) :
    Calls Tryd.prog 25 #[.string d, .string s] w fun e w' => e = .returned (.string (covB d s)) ∧ Below w.heap.size w w' := by
  have HJ : Hid (Calls Tryd.prog 36 #[.slice (some ⟨w.heap.size, 0, none⟩) 2 2] (w.alloc (.cells #[.string d, .string s] 9)) fun e w' => e = .returned (.string (covB d s)) ∧ Below (w.alloc (.cells #[.string d, .string s] 9)).heap.size (w.alloc (.cells #[.string d, .string s] 9)) w') :=
    Lib.hid (joined_any d s hd hs w.heap.size _ (Arr.new w (partsC d s) 9))
  clear hd hs
  go_enter Tryd.func25, Tryd.ntmps25
  go_wp2_with (first
    | (go_at_call 36; (with_reducible refine HJ.out.mono ?_); rintro e w1 ⟨rfl, hb1⟩))
  go_ret
  exact ⟨rfl, ((Below.refl w.heap.size w).alloc (Nat.le_refl _) _).trans (hb1.mono (by simp))⟩
end Go.Proofs.YtfflpooiebeagaaDoor
namespace Go.Proofs.YtfflpooiebeagaaDoor
open Go.RowKit

theorem tlB_ne {a b : ByteArray} (h : ¬ a = b) : (a.toList == b.toList) = false := by
  have e : ∀ s : ByteArray, s.toList = s.data.toList := fun s => by
    obtain ⟨⟨l⟩⟩ := s
    exact ByteArray.toList_mk l
  rw [e, e]
  exact beq_false_of_ne fun e => h (ba_ext e)
theorem onceR_ok {k n : ByteArray} (h : szB k n = true) : onceR k n = .tuple #[.string (onceB k n), .int .i64 0] := by rw [onceR, if_pos h]
theorem onceR_no {k n : ByteArray} (h : ¬ szB k n = true) : onceR k n = .tuple #[.string ByteArray.empty, .int .i64 5] := by rw [onceR, if_neg h]
theorem turnR_1 {k n t : ByteArray} (h : szB k n = true) (ht : t.size ≤ 65536) : turnR k 1 n t = .tuple #[.string (turnB k n t), .int .i64 0] := by rw [turnR, if_pos ⟨h, ht⟩]; rfl
theorem cov_le {d s : ByteArray} (hd : d.size ≤ 4096) (hs : s.size ≤ 16400) : (covB d s).size ≤ 1000000 := by rw [covB_size]; omega

end Go.Proofs.YtfflpooiebeagaaDoor
namespace Go.Proofs.YtfflpooiebeagaaDoor
open Go.RowKit

/-- The two tables, where their packages lay them. -/
def PK (w : World) : Prop := Pl w ∧ Kp w
theorem PK.next {w w' : World} (h : PK w) (hb : Below w.heap.size w w') : PK w' := ⟨h.1.next hb, h.2.next hb⟩
theorem PK.drew {w : World} (h : PK w) : PK w.drew := ⟨h.1.drew, h.2.drew⟩
theorem PK.alloc {w : World} (h : PK w) (o : Obj) : PK (w.alloc o) := h.next ((Below.refl w.heap.size w).alloc (Nat.le_refl _) o)
theorem stL_one (K : List UInt8) (c : Nat) (N : List UInt8) : stL K c N 1 = blockL K ((c + 0) % 4294967296) N := by rw [stL, stL, List.nil_append]
theorem blkB_take (k n : ByteArray) : (blkB k 0 n).extract 0 32 = onceB k n := by
  have e0 : (0 + 0) % 4294967296 = 0 := by decide
  apply ba_ext
  rw [ext_toList, blkB, ba_list, onceB, strmB_list, List.drop_zero, ← strmL_of _ _ _ 32 1 (by decide), stL_one, e0]

theorem once_any (k n : ByteArray) (w : World) (hp : PK w) :
    Calls Tryd.prog 22 #[.string k, .string n] w fun e w' => e = .returned (onceR k n) ∧ Below w.heap.size w w' := by
  have hs := block_any k n 0 (by decide) w hp.1
  rw [show ((0 : Nat) : Int) = 0 from rfl] at hs
  by_cases h : szB k n = true
  · rw [blkR, if_pos h] at hs
    rw [onceR_ok h]
    have hb := blkB_size k 0 n
    have ht := blkB_take k n
    have HS := Lib.hid hs
    generalize blkB k 0 n = B at *
    generalize onceB k n = O at *
    clear hs h hp
    go_enter Tryd.func22, Tryd.ntmps22
    go_wp2_with (first
      | (go_at_call 30; (with_reducible refine HS.out.mono ?_); rintro e w1 ⟨rfl, hb1⟩))
    go_ret2
    exact ⟨rfl, hb1⟩
  · rw [blkR, if_neg h] at hs
    rw [onceR_no h]
    have HS := Lib.hid hs
    clear hs h hp
    go_enter Tryd.func22, Tryd.ntmps22
    go_wp2_with (first
      | (go_at_call 30; (with_reducible refine HS.out.mono ?_); rintro e w1 ⟨rfl, hb1⟩))
    go_ret2
    exact ⟨rfl, hb1⟩

theorem noSize {d t : ByteArray} (h : ¬ (d.size ≤ 4096 ∧ t.size ≤ 16384)) : 4096 < d.size ∨ (¬ 4096 < d.size ∧ 16384 < t.size) := by
  rcases Nat.lt_or_ge 4096 d.size with h1 | h1
  · exact .inl h1
  · rcases Nat.lt_or_ge 16384 t.size with h2 | h2
    · exact .inr ⟨by omega, h2⟩
    · exact absurd ⟨h1, h2⟩ h
set_option maxHeartbeats 1000000 in
theorem seal_ok (k n d t : ByteArray) (h : sealOk k n d t) (w : World) (hp : PK w) :
    Calls Tryd.prog 17 #[.string k, .string n, .string d, .string t] w fun e w' => e = .returned (.tuple #[.string (sealB k n d t), .int .i64 0]) ∧ Below w.heap.size w w' := by
  obtain ⟨hz, hd, ht⟩ := h
  have h1 := once_any k n w hp
  rw [onceR_ok hz] at h1
  have h2 := fun (w : World) (h : PK w) => turn_any k n 1 (by decide) t w h.1
  rw [turnR_1 hz (by omega), show ((1 : Nat) : Int) = 1 from rfl] at h2
  have hS := turnB_size k n t
  have h3 := fun w => cov_any d (turnB k n t) (by omega) (by omega) w
  have h4 := fun (w : World) (h : PK w) => ptagF_ok (onceB k n) (covB d (turnB k n t)) (onceB_size k n) w h.2
  have hc : ∀ w : World, (Op.stringOp .add (turnB k n t) (tagB (onceB k n) (covB d (turnB k n t)))).run Tryd.prog w = .ok (.string (sealB k n d t)) w := fun w => cat_run _ _ (by rw [hS, tagB_size]; omega) w
  have b1 : decide (4096 < (d.size : Int)) = false := decide_eq_false (by omega)
  have b2 : decide (16384 < (t.size : Int)) = false := decide_eq_false (by omega)
  have HP := Lib.hid hp
  have H1 := Lib.hid h1
  have H2 := Lib.hid h2
  have H3 := Lib.hid h3
  have H4 := Lib.hid h4
  clear h1 h2 h3 h4 hS hz hd ht hp
  generalize sealB k n d t = R at *
  generalize tagB (onceB k n) (covB d (turnB k n t)) = T at *
  generalize covB d (turnB k n t) = CV at *
  generalize turnB k n t = S at *
  generalize onceB k n = O at *
  go_enter Tryd.func17, Tryd.ntmps17
  go_wp2_with (first
    | (go_at_call 22; (with_reducible refine H1.out.mono ?_); rintro e w1 ⟨rfl, hb1⟩)
    | (go_at_call 23; (with_reducible refine (H2.out _ (HP.out.next hb1)).mono ?_); rintro e w2 ⟨rfl, hb2⟩)
    | (go_at_call 25; (with_reducible refine (H3.out _).mono ?_); rintro e w3 ⟨rfl, hb3⟩)
    | (go_at_call 24; (with_reducible refine (H4.out _ (((HP.out.next hb1).next hb2).next hb3)).mono ?_); rintro e w4 ⟨rfl, hb4⟩))
  go_ret2
  exact ⟨rfl, Below_next (Below_next (Below_next hb1 hb2) hb3) hb4⟩
theorem seal_no (k n d t : ByteArray) (h : ¬ sealOk k n d t) (w : World) (hp : PK w) :
    Calls Tryd.prog 17 #[.string k, .string n, .string d, .string t] w fun e w' => e = .returned (.tuple #[.string ByteArray.empty, .int .i64 5]) ∧ Below w.heap.size w w' := by
  by_cases hs : d.size ≤ 4096 ∧ t.size ≤ 16384
  · have hz : ¬ szB k n = true := fun hz => h ⟨hz, hs.1, hs.2⟩
    obtain ⟨hd, ht⟩ := hs
    have h1 := once_any k n w hp
    rw [onceR_no hz] at h1
    have b1 : decide (4096 < (d.size : Int)) = false := decide_eq_false (by omega)
    have b2 : decide (16384 < (t.size : Int)) = false := decide_eq_false (by omega)
    have H1 := Lib.hid h1
    clear h1 h hz hp hd ht
    go_enter Tryd.func17, Tryd.ntmps17
    go_wp2_with (first
      | (go_at_call 22; (with_reducible refine H1.out.mono ?_); rintro e w1 ⟨rfl, hb1⟩))
    go_ret2
    exact ⟨rfl, hb1⟩
  · rcases noSize hs with hd | ⟨hd, ht⟩
    · have b1 : decide (4096 < (d.size : Int)) = true := decide_eq_true (by omega)
      clear h hs hp hd
      go_enter Tryd.func17, Tryd.ntmps17
      go_wp2
      go_ret2
      exact ⟨rfl, Below.refl _ _⟩
    · have b1 : decide (4096 < (d.size : Int)) = false := decide_eq_false (by omega)
      have b2 : decide (16384 < (t.size : Int)) = true := decide_eq_true (by omega)
      clear h hs hp hd ht
      go_enter Tryd.func17, Tryd.ntmps17
      go_wp2
      go_ret2
      exact ⟨rfl, Below.refl _ _⟩
theorem seal_any (k n d t : ByteArray) (w : World) (hp : PK w) :
    Calls Tryd.prog 17 #[.string k, .string n, .string d, .string t] w fun e w' => e = .returned (sealR k n d t) ∧ Below w.heap.size w w' := by
  by_cases h : sealOk k n d t
  · rw [sealR_ok h]; exact seal_ok k n d t h w hp
  · rw [sealR_no h]; exact seal_no k n d t h w hp

set_option maxHeartbeats 2000000 in
set_option maxRecDepth 100000 in
theorem open_any (k n d s : ByteArray) (hsz : s.size ≤ 9223372036854775807) (w : World) (hp : PK w) :
    Calls Tryd.prog 19 #[.string k, .string n, .string d, .string s] w fun e w' => e = .returned (openR k n d s) ∧ Below w.heap.size w w' := by
  by_cases hd : 4096 < d.size
  · have b1 : decide (4096 < (d.size : Int)) = true := decide_eq_true (by omega)
    rw [openR_no (fun h => by have := h.2.1; omega)]
    clear hp
    go_enter Tryd.func19, Tryd.ntmps19
    go_wp2
    go_ret2
    exact ⟨rfl, Below.refl _ _⟩
  have b1 : decide (4096 < (d.size : Int)) = false := decide_eq_false (by omega)
  by_cases h16 : s.size < 16
  · have b2 : decide ((s.size : Int) - 16 < 0) = true := decide_eq_true (by omega)
    rw [openR_no (fun h => by have := h.2.2.1; omega)]
    clear hp
    go_enter Tryd.func19, Tryd.ntmps19
    go_wp2
    go_ret2
    exact ⟨rfl, Below.refl _ _⟩
  have b2 : decide ((s.size : Int) - 16 < 0) = false := decide_eq_false (by omega)
  by_cases hm : 16400 < s.size
  · have b3 : decide (16384 < (s.size : Int) - 16) = true := decide_eq_true (by omega)
    rw [openR_no (fun h => by have := h.2.2.2; omega)]
    clear hp
    go_enter Tryd.func19, Tryd.ntmps19
    go_wp2
    go_ret2
    exact ⟨rfl, Below.refl _ _⟩
  have b3 : decide (16384 < (s.size : Int) - 16) = false := decide_eq_false (by omega)
  have h1 := once_any k n w hp
  by_cases hz : szB k n = true
  · rw [onceR_ok hz] at h1
    have hok : openOk k n d s := ⟨hz, by omega, by omega, by omega⟩
    have hbs := bodyB_size s
    have h2 := fun (w : World) (h : PK w) => turn_any k n 1 (by decide) (bodyB s) w h.1
    rw [turnR_1 hz (by omega), show ((1 : Nat) : Int) = 1 from rfl] at h2
    have h3 := fun w => cov_any d (bodyB s) (by omega) (by omega) w
    have h4 := fun (w : World) (h : PK w) => pcheck_any (onceB k n) (covB d (bodyB s)) (tailB s) w h.2
    have hsl := slice_to s (s.size - 16) (by omega)
    rw [show ((s.size - 16 : Nat) : Int) = (s.size : Int) - 16 by omega, show s.extract 0 (s.size - 16) = bodyB s from rfl] at hsl
    have hsr := slice_from s (s.size - 16) (by omega)
    rw [show ((s.size - 16 : Nat) : Int) = (s.size : Int) - 16 by omega, show s.extract (s.size - 16) s.size = tailB s from rfl] at hsr
    have HP := Lib.hid hp
    have H1 := Lib.hid h1
    have H2 := Lib.hid h2
    have H3 := Lib.hid h3
    have hck : checkB (onceB k n) (covB d (bodyB s)) (tailB s) = decide (tagOk k n d s) := by
      rw [checkB]; exact decide_eq_decide.2 ⟨fun h => h.2, fun h => ⟨onceB_size k n, h⟩⟩
    by_cases ht : tagOk k n d s
    · rw [openR_ok hok ht]
      rw [hck, decide_eq_true ht] at h4
      have H4 := Lib.hid h4
      clear h1 h2 h3 h4 hz hd hok hbs ht hck hp
      generalize turnB k n (bodyB s) = T at *
      generalize covB d (bodyB s) = CV at *
      generalize bodyB s = B at *
      generalize tailB s = TL at *
      generalize onceB k n = O at *
      go_enter Tryd.func19, Tryd.ntmps19
      go_wp2_with (first
        | (go_at_call 22; (with_reducible refine H1.out.mono ?_); rintro e w1 ⟨rfl, hb1⟩))
      go_region_held3 (fun _ => True) (first | exact trivial) (first
        | (go_at_call 25; (with_reducible refine (H3.out _).mono ?_); rintro e w2 ⟨rfl, hb2⟩)
        | (go_at_call 26; (with_reducible refine (H4.out _ ((HP.out.next hb1).drew.next hb2)).mono ?_); rintro e w3 ⟨rfl, hb3⟩))
      go_wp2_with (first
        | (go_at_call 23; (with_reducible refine (H2.out _ (((HP.out.next hb1).drew.next hb2).next hb3)).mono ?_); rintro e w4 ⟨rfl, hb4⟩))
      go_ret2
      exact ⟨rfl, Below_next (Below_next (Below_next hb1.drew hb2) hb3) hb4⟩
    · rw [openR_tag hok ht]
      rw [hck, decide_eq_false ht] at h4
      have H4 := Lib.hid h4
      clear h1 h2 h3 h4 hz hd hok hbs ht hck hp
      generalize covB d (bodyB s) = CV at *
      generalize bodyB s = B at *
      generalize tailB s = TL at *
      generalize onceB k n = O at *
      go_enter Tryd.func19, Tryd.ntmps19
      go_wp2_with (first
        | (go_at_call 22; (with_reducible refine H1.out.mono ?_); rintro e w1 ⟨rfl, hb1⟩))
      go_region_held3 (fun _ => True) (first | exact trivial) (first
        | (go_at_call 25; (with_reducible refine (H3.out _).mono ?_); rintro e w2 ⟨rfl, hb2⟩)
        | (go_at_call 26; (with_reducible refine (H4.out _ ((HP.out.next hb1).drew.next hb2)).mono ?_); rintro e w3 ⟨rfl, hb3⟩))
      go_wp2_with (first
        | (go_at_call 23; (with_reducible refine (H2.out _ (((HP.out.next hb1).drew.next hb2).next hb3)).mono ?_); rintro e w4 ⟨rfl, hb4⟩))
      go_ret2
      exact ⟨rfl, Below_next (Below_next hb1.drew hb2) hb3⟩
  · rw [onceR_no hz] at h1
    rw [openR_no (fun h => hz h.1)]
    have H1 := Lib.hid h1
    clear h1 hz hd h16 hm hp
    go_enter Tryd.func19, Tryd.ntmps19
    go_wp2_with (first
      | (go_at_call 22; (with_reducible refine H1.out.mono ?_); rintro e w1 ⟨rfl, hb1⟩))
    go_ret2
    exact ⟨rfl, hb1⟩
end Go.Proofs.YtfflpooiebeagaaDoor
