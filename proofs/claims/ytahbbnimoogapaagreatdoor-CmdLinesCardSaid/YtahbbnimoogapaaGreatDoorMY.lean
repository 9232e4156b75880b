/- A row of bytes that came of a string, appended to, one byte at a time; letters of a verb made small, one after another. CmdLetters: its walk over the record. -/
import Derived.Test.YtahbbnimoogapaaGreatDoorMU
import Derived.Test.YtahbbnimoogapaaGreatDoorM1
import Derived.ArgAppend
import Derived.OwnWalk
import Derived.Test.YtahbbnimoogapaaGreatDoorMX
import Derived.Test.YtahbbnimoogapaaGreatDoorIsb
namespace Go.Proofs.YtahbbnimoogapaaGreatDoor
open Go.RowKit

/-- A block of the call's own that reads as these bytes, each cell up to its capacity there and free. -/
def Rm (w : World) (g : Nat) (l : List UInt8) (cap : Nat) : Prop :=
  l.length ≤ cap ∧ g < w.heap.size ∧ HasBytes w g l ∧ ∀ j, j < cap → (w.cell? ⟨g, j, none⟩).isSome = true ∧ w.frozen? ⟨g, j, none⟩ = false
theorem Rm.next {w w' : World} {g cap : Nat} {l : List UInt8} (h : Rm w g l cap) (hb : Below w.heap.size w w') : Rm w' g l cap := by
  have hk : w'.heap[g]? = w.heap[g]? := hb.block g h.2.1
  refine ⟨h.1, Nat.lt_of_lt_of_le h.2.1 hb.size, fun j hj => ?_, fun j hj => ?_⟩
  · exact ⟨(World.cell?_of_block (a := ⟨g, j, none⟩) hk).trans (h.2.2.1 j hj).1, (World.frozen?_of_block (a := ⟨g, j, none⟩) hk).trans (h.2.2.1 j hj).2⟩
  · rw [World.cell?_of_block (a := ⟨g, j, none⟩) hk, World.frozen?_of_block (a := ⟨g, j, none⟩) hk]; exact h.2.2.2 j hj
theorem Rm.set {w : World} {g cap : Nat} {l : List UInt8} (h : Rm w g l cap) (k : Nat) (hk : k < l.length) (b : UInt8) : Rm (w.setCell ⟨g, k, none⟩ (.int .u8 (b.toNat : Int))) g (l.set k b) cap := by
  refine ⟨by rw [List.length_set]; exact h.1, by simp [World.setCell]; exact h.2.1, h.2.2.1.set k hk b, fun j hj => ?_⟩
  refine ⟨?_, by rw [World.frozen?_setCell]; exact (h.2.2.2 j hj).2⟩
  by_cases e : k = j
  · subst e
    rw [World.cell?_setCell_same _ _ _ (h.2.2.1 k hk).1]; rfl
  · rw [World.cell?_setCell_other _ _ _ _ (by simp)]; exact (h.2.2.2 j hj).1
theorem bytes_room (w : World) (s : ByteArray) :
    ∃ cap o, (convert 9 59 (.string s)).run Tryz.prog w = .ok (.slice (some ⟨w.heap.size, 0, none⟩) s.size cap) (w.drew.alloc o) ∧ Rm (w.drew.alloc o) w.heap.size s.data.toList cap := by
  have hge := grownCap_ge w s.size 0 5
  have hsz : s.data.size = s.size := rfl
  have hrow : (bytesRow s (grownCap w s.size 0 5)).size = grownCap w s.size 0 5 := by
    simp only [bytesRow, Array.size_append, Array.size_map, Array.size_replicate]; omega
  have hh : (w.drew).heap.size = w.heap.size := rfl
  refine ⟨_, _, run_bytes_of_string w _ _ 5 s Tryz.underlying9 Tryz.underlying59 Tryz.underlying5, by simp; omega, ?_, ?_, ?_⟩
  · show w.heap.size < (World.alloc w.drew _).heap.size
    show w.heap.size < (w.heap.push _).size
    simp
  · intro j hj
    have hj' : j < s.data.size := by simpa using hj
    constructor
    · rw [← hh, World.cell?_alloc_mark, bytesRow, Array.getElem?_append_left (by simpa using hj')]
      rw [Array.getElem?_map, Array.getElem?_eq_getElem hj']; rfl
    · rw [← hh, World.frozen?_alloc_mark]
      have : ¬ (bytesRow s (grownCap w s.size 0 5)).size ≤ j := by omega
      simp only [this, decide_false, Bool.false_and]
  · intro j hj
    constructor
    · rw [← hh, World.cell?_alloc_mark, Array.getElem?_eq_getElem (by omega)]; rfl
    · rw [← hh, World.frozen?_alloc_mark]
      have : ¬ (bytesRow s (grownCap w s.size 0 5)).size ≤ j := by omega
      simp only [this, decide_false, Bool.false_and]
/-- The walk's law for '[]byte(s)'. -/
theorem wpList_conv_room (w : World) {ops : Array Oper} {rest : List Oper} {o : Oper} {a : Act} {Q : Exit → Act → World → Prop}
    (hg : o.guard = none) (x : Operand) (hop : o.op = Op.convert 9 59 x) (s : ByteArray) (hx : a.eval x = .string s)
    (hK : ∀ cap w', Rm w' w.heap.size s.data.toList cap → Below w.heap.size w w' → wpList Tryz.prog ops Q rest (a.put o.dst (.slice (some ⟨w.heap.size, 0, none⟩) s.size cap)) w') :
    wpList Tryz.prog ops Q (o :: rest) a w := by
  refine wpList_plain hg fun K hK' => ?_
  obtain ⟨cap, ob, hrun, r1⟩ := bytes_room w s
  unfold Oper.wp
  simp [execOp, hop, hx, hrun, Result.andThen]
  exact hK' _ _ (hK cap _ r1 ((Below.refl _ _).drew.alloc (Nat.le_refl _) _))
/-- One byte more. -/
theorem run_push_room (w : World) (ty : TypeId) {base g cap : Nat} {l : List UInt8} (h : Rm w g l cap) (hg : base ≤ g) (hw : base ≤ w.heap.size) (a : Addr) (b : UInt8) (ha : w.cell? a = some (.int .u8 (b.toNat : Int))) (hl : l.length ≤ 1048576) :
    ∃ g' cap' w', (Builtin.append_ #[59, 59] ty #[.slice (some ⟨g, 0, none⟩) l.length cap, .slice (some a) 1 1]).run Tryz.prog w = .ok (.slice (some ⟨g', 0, none⟩) (l.length + 1) cap') w' ∧ Rm w' g' (l ++ [b]) cap' ∧ Below base w w' ∧ base ≤ g' := by
  obtain ⟨i0, hi, hz0, hz1, hz2⟩ := info_parts Tryz.infoU8
  have hone : ∀ u ∈ [Value.int .u8 (b.toNat : Int)], u.oneCell' = true := by
    intro u hu; simp at hu; subst hu; rfl
  have hnew : ∀ j u, [Value.int .u8 (b.toNat : Int)][j]? = some u → w.cell? (a.add j) = some u := by
    intro j u hj
    match j, hj with
    | 0, hj => simp at hj; subst hj; simp [Addr.add]; exact ha
  by_cases hroom : l.length + 1 ≤ cap
  · have hr := run_append_room_cells (P := Tryz.prog) w 59 ty 5 i0 Tryz.underlying59 hi g 0 l.length cap a 1 1 [.int .u8 (b.toNat : Int)] (by rw [hz1]; rfl) hnew hone hroom
      (fun j hj => by
        simp at hj; subst hj
        rw [hz1]; have := (h.2.2.2 l.length (by omega)).1; simpa using this)
      (fun j hj => by
        simp at hj; subst hj
        rw [hz1]; have := (h.2.2.2 l.length (by omega)).2; simpa using this)
    rw [hz1] at hr
    have hset : w.setCells g (0 + l.length * 1) [.int .u8 (b.toNat : Int)] = w.setCell ⟨g, l.length, none⟩ (.int .u8 (b.toNat : Int)) := by
      simp [World.setCells]
    rw [hset] at hr
    obtain ⟨v0, hv0⟩ := Option.isSome_iff_exists.1 (h.2.2.2 l.length (by omega)).1
    refine ⟨g, cap, _, hr, ⟨by rw [List.length_append, List.length_singleton]; exact hroom, by simp [World.setCell]; exact h.2.1, fun j hj => ?_, fun j hj => ?_⟩, (Below.refl _ _).setCell hg _, hg⟩
    · rw [World.frozen?_setCell]
      by_cases e : l.length = j
      · subst e
        rw [World.cell?_setCell_same _ _ _ hv0]
        refine ⟨by simp, (h.2.2.2 l.length (by omega)).2⟩
      · rw [List.length_append, List.length_singleton] at hj
        rw [World.cell?_setCell_other _ _ _ _ (by simp), List.getElem_append_left (by omega)]
        exact h.2.2.1 j (by omega)
    · rw [World.frozen?_setCell]
      refine ⟨?_, (h.2.2.2 j hj).2⟩
      by_cases e : l.length = j
      · subst e
        rw [World.cell?_setCell_same _ _ _ hv0]; rfl
      · rw [World.cell?_setCell_other _ _ _ _ (by simp)]; exact (h.2.2.2 j hj).1
  · obtain ⟨v', w', hr, hown, hgr⟩ := run_append_arg_grows (P := Tryz.prog) w 59 ty 5 i0 (.int .u8 0) 1 1 Tryz.underlying59 hi hz0 hz1 hz2 rfl (by decide) ⟨g, 0, none⟩ l.length cap (u8s l) (by rw [u8s_len, Nat.mul_one])
      (fun j v hv => by
        have hj : j < l.length := by
          have := (List.getElem?_eq_some_iff.1 hv).1
          rw [u8s_len] at this; exact this
        rw [u8s_get l j hj] at hv
        rw [addr_add, Nat.zero_add, ← Option.some.inj hv]
        exact (h.2.2.1 j hj).1)
      a 1 1 [.int .u8 (b.toNat : Int)] rfl hnew (by omega) (by unfold maxLen; omega) (by omega)
    have hB : Below w.heap.size w w' := Below.grown (Below.refl _ _) hgr (Nat.le_refl _) (fun k h => by cases h)
    rcases hown.2 with ⟨_, h0⟩ | ⟨g', cap', cur, rfl, hbg, hgc, hnc, hcm, hcs, htake⟩
    · omega
    · have hA : Arr w' g' cur 5 := hgc
      have hu : u8s l ++ [Value.int .u8 (b.toNat : Int)] = u8s (l ++ [b]) := by simp [u8s]
      refine ⟨g', cap', w', hr, ⟨by rw [List.length_append, List.length_singleton]; exact hnc, hA.lt, fun j hj => ?_, fun j hj => ?_⟩, hB.mono hw, Nat.le_trans hw hbg⟩
      · refine ⟨hA.cell ?_, hA.frozen j⟩
        have hj' : j < l.length + 1 := by rwa [List.length_append, List.length_singleton] at hj
        have h1 : (cur.toList.take ((l.length + 1) * 1))[j]? = (u8s (l ++ [b]))[j]? := by rw [htake, hu]
        rw [List.getElem?_take, if_pos (by omega), u8s_get _ j hj] at h1
        simpa using h1
      · refine ⟨?_, hA.frozen j⟩
        rw [hA.cell (j := j) (Array.getElem?_eq_getElem (by omega))]; rfl
theorem wpList_push_room (w : World) {ops : Array Oper} {rest : List Oper} {o : Oper} {a : Act} {Q : Exit → Act → World → Prop} (hgd : o.guard = none) (s x : Operand)
    (ho : o.op = .call { callee := .builtin .append, args := #[s, x], argTypes := #[59, 59] }) {base g cap n : Nat} {l : List UInt8} (h : Rm w g l cap) (hn : l.length = n) (hg : base ≤ g) (hw : base ≤ w.heap.size)
    (hs : a.eval s = .slice (some ⟨g, 0, none⟩) n cap) (b : UInt8) (y : Addr) (hx : a.eval x = .slice (some y) 1 1) (hy : w.cell? y = some (.int .u8 (b.toNat : Int))) (hl : l.length ≤ 1048576)
    (hK : ∀ g' cap' w', Rm w' g' (l ++ [b]) cap' → Below base w w' → base ≤ g' → wpList Tryz.prog ops Q rest (a.put o.dst (.slice (some ⟨g', 0, none⟩) (n + 1) cap')) w') :
    wpList Tryz.prog ops Q (o :: rest) a w := by
  subst hn
  refine wpList_plain hgd fun K hK' => ?_
  obtain ⟨g', cap', w', hrun, r1, r2, r3⟩ := run_push_room w o.type h hg hw y b hy hl
  unfold Oper.wp
  simp [execOp, ho, resolve, invoke, builtin, hs, hx, hrun, Result.andThen]
  exact hK' _ _ (hK g' cap' w' r1 r2 r3)
/-- One letter more. -/
theorem low_one : ∀ (k : Nat) (zs : List Bool) (v : List UInt8) (hk : k < v.length), lowF (zs.take (k + 1)) v = (if zs.getD k false = true then (lowF (zs.take k) v).set k (v[k] + 32) else lowF (zs.take k) v) ∧ (lowF (zs.take k) v)[k]? = some v[k]
  | _, [], v, hk => by
    simp only [List.take_nil, lowF]
    exact ⟨rfl, List.getElem?_eq_getElem hk⟩
  | 0, z :: zs, c :: v, _ => by
    cases z <;> exact ⟨rfl, rfl⟩
  | k + 1, z :: zs, c :: v, hk => by
    obtain ⟨i1, i2⟩ := low_one k zs v (by simpa using hk)
    simp only [List.take_succ_cons, lowF, List.getD_cons_succ, List.getElem_cons_succ, List.getElem?_cons_succ]
    refine ⟨?_, i2⟩
    rw [i1]
    cases zs.getD k false <;> rfl
theorem low_len : ∀ (zs : List Bool) (v : List UInt8), (lowF zs v).length = v.length
  | [], _ => rfl
  | _ :: _, [] => rfl
  | _ :: zs, _ :: v => by rw [lowF, List.length_cons, List.length_cons, low_len zs v]
end Go.Proofs.YtahbbnimoogapaaGreatDoor
namespace Go.Proofs.YtahbbnimoogapaaGreatDoor
open Go.RowKit

/-- The letters of a line's verb: great ones; made small they are other bytes by 32. -/
theorem line_great {c : CmdA} {w : List UInt8} (h : lineC c = some w) (hv : 1 ≤ c.verb ∧ c.verb ≤ 9) : 4 ≤ w.length ∧ ∀ b ∈ w.take 4, 65 ≤ b.toNat ∧ b.toNat ≤ 90 := by
  obtain ⟨k, hk, h1, h2, hw⟩ := line_verb h hv
  obtain ⟨hl, hc⟩ := vb_four ⟨k, by omega⟩ (by show k ≠ 0; omega)
  simp only at hl hc
  have ht : w.take 4 = vb k ∧ 4 ≤ w.length := by
    rcases hw with rfl | ⟨t, rfl⟩
    · exact ⟨by rw [List.take_of_length_le (by omega)], by omega⟩
    · exact ⟨List.take_left' hl, by rw [List.length_append, hl]; omega⟩
  refine ⟨ht.2, fun b hb => ?_⟩
  rw [ht.1] at hb
  have := hc b hb
  exact ⟨UInt8.le_iff_toNat_le.1 this.1, UInt8.le_iff_toNat_le.1 this.2⟩
theorem meas_up {m q : Nat} (h : m < q) : q - (intOf (.int .i64 ((m : Int) + 1))).toNat < q - (intOf (.int .i64 (m : Int))).toNat := by
  simp only [intOf]; omega
theorem let_par {c : CmdA} {w : List UInt8} (h : lineC c = some w) (hv : 1 ≤ c.verb ∧ c.verb ≤ 9) (zs : List Bool) (n : Nat) :
    parV (lowF zs (w.take 4) ++ w.drop 4 ++ List.replicate n 32) = parV w := by
  obtain ⟨h1, h2, _⟩ := par_letters h hv zs n
  rw [parV, parV, h1, h2]

set_option maxHeartbeats 8000000 in
set_option maxRecDepth 100000 in
theorem cmdLetters_yes (C : CmdC) (c : CmdA) (a : Option Addr) (len cap : Nat) (zs : List Bool) (sp : Nat) (W : World) (hTb : Tb W) (hi : I64 c.size) (h1 : c.text.length ≤ 2048) (h2 : c.box.loc.length ≤ 2048) (h3 : c.box.dom.length ≤ 2048) (hz : IsBls W a len cap zs) (hsp : sp < 256)
    (p : List UInt8) (hw : wriV c = .tuple #[.string (ba p), .int .i64 0]) (hl : lineC c = some p) (hv : 1 ≤ c.verb ∧ c.verb ≤ 9) :
    Calls Tryz.prog 7 #[cmdV c, .slice a len cap, .int .u8 (sp : Int)] W fun e w' => e = .returned (.bool true) ∧ Below W.heap.size W w' := by
  have hA := Arr.new W (cmdZ c) 26
  have hb := Lib.hid (below_one W (.cells (cmdZ c) 26))
  have HAw := Lib.hid (fun w h => C.awake w h)
  have HTb := Lib.hid hTb
  clear hTb
  have HZ := Lib.hid hz
  have hs1 := ba_size c.text
  have hs2 := ba_size c.box.loc
  have hs3 := ba_size c.box.dom
  have hLg := fun w => large10_any c.verb c.size (ba c.text) (ba c.box.loc) (ba c.box.dom) c.eight w
  rw [decide_eq_false (by omega)] at hLg
  have HLg := Lib.hid hLg
  have hW1 := fun w h => C.write c (by omega) (by omega) (by omega) hi w h
  rw [hw, cmdV] at hW1
  obtain ⟨hp4, hgr⟩ := line_great hl hv
  have hpl := line_len hl hv
  obtain ⟨d, er, hd⟩ := parV_form p
  have HQ := Lib.hid (fun zs n => (let_par hl hv zs n).trans (par_of_line hl hv))
  have hPp := fun w h => C.parse (ba p) (by rw [ba_size]; omega) w h
  rw [ba_list, par_of_line hl hv] at hPp
  generalize fixC c = d at *
  have HPr := Lib.hid (fun s h w g => C.parse s h w g)
  rw [cmdV] at hPp
  unfold cmdZ at hA hb hW1 hPp
  rw [cmdV]
  unfold cmdZ
  have hps := ba_size p
  have b4 : ¬ ((ba p).size : Int) < 4 := by omega
  have HA := Lib.hid hA
  have HW1 := Lib.hid hW1
  have HPp := Lib.hid hPp
  have HG := Lib.hid hgr
  have HPl := Lib.hid (show 4 ≤ p.length ∧ p.length ≤ 10000 by omega)
  have HBl := Lib.hid (ba_list p)
  clear hA hW1 hPp hi hs1 hs2 hs3 h1 h2 h3 hw hLg hl hv hgr hp4 hpl hd hz hps
  generalize ba c.text = T at *
  generalize ba c.box.loc = L at *
  generalize ba c.box.dom = D at *
  generalize c.size = S at *
  generalize c.eight = E at *
  generalize c.verb = V at *
  generalize ba p = P at *
  go_enter Tryz.func7, Tryz.ntmps7
  go_wp2_with (first
    | (go_at_call 9; (with_reducible refine (HAw.out _ (HTb.out.next hb.out)).mono ?_); rintro e w1 ⟨rfl, hb1⟩; have HA1 := Lib.hid (HA.out.next hb1); obtain ⟨b0, b1, b2, b3, b4', b5⟩ := six_cells HA1.out)
    | (go_at_call 13; (with_reducible refine (HLg.out _).mono ?_); rintro e w2 ⟨rfl, hb2⟩; have HB2 := Lib.hid (Below_next (Below_next hb.out hb1) hb2); have HA2 := Lib.hid (HA1.out.next hb2); obtain ⟨d0, d1, d2, d3, d4, d5⟩ := six_cells HA2.out)
    | (go_at_call 14; (with_reducible refine (HW1.out _ (HTb.out.next HB2.out)).mono ?_); rintro e w3 ⟨rfl, hb3⟩; have HB3 := Lib.hid (Below_next HB2.out hb3))
    | (with_reducible refine wpList_conv_room _ rfl _ rfl P rfl ?_; intro cp w4 hr4 hb4))
  have HB4 := Lib.hid hb4
  have HR4 := Lib.hid (show Rm w4 w3.heap.size (lowF ((zs.take len).take 0) (p.take 4) ++ p.drop 4) cp by
    rw [List.take_zero, lowF, List.take_append_drop, ← HBl.out]; exact hr4)
  have HPs := Lib.hid (show P.size = p.length by rw [← HBl.out]; simp)
  obtain ⟨v, hvv⟩ : ∃ v, v = p.take 4 := ⟨_, rfl⟩
  have HVl := Lib.hid (show v.length = 4 by rw [hvv, List.length_take]; have := HPl.out; omega)
  rw [← hvv] at HR4 HG
  rw [← hvv] at HQ
  clear hvv hr4 hb4 HA HA1 HA2 b0 b1 b2 b3 b4' b5 d0 d1 d2 d3 d4 d5 HAw HLg HW1 hb hb1 hb2 HB2 hb3
  obtain ⟨ys, hys⟩ : ∃ ys, ys = zs.take len := ⟨_, rfl⟩
  rw [← hys] at HR4
  have HYs := Lib.hid hys
  clear hys
  go_loopw [36] (fun i wr => ∃ k : Nat, i = .int .i64 (k : Int) ∧ k ≤ 4 ∧ Rm wr w3.heap.size (lowF (ys.take k) v ++ p.drop 4) cp ∧ Below w3.heap.size w3 wr) (fun i _ => 4 - (intOf i).toNat)
  case atStart => exact ⟨0, rfl, by decide, HR4.out, HB4.out⟩
  case round =>
    clear HR4 HB4
    obtain ⟨k, rfl, hk, hrm, hbel⟩ := hrel
    have HRm := Lib.hid hrm
    have HBel := Lib.hid hbel
    have hk0 : (0 : Int) ≤ (k : Int) := by omega
    clear hrm hbel
    by_cases hlt : k < 4
    · have hli : (k : Int) < 4 := by omega
      have hkv : k < v.length := by rw [HVl.out]; exact hlt
      obtain ⟨s1, s2⟩ := low_one k ys v hkv
      by_cases hg : k < len
      · have hgi : (k : Int) < (len : Int) := by omega
        obtain ⟨x, rfl, cx⟩ := (HZ.out.next (Below_next HB3.out HBel.out)).at hg
        have hyz : ys.getD k false = zs.getD k false := by rw [HYs.out, List.getD_eq_getElem?_getD, List.getD_eq_getElem?_getD, List.getElem?_take, if_pos hg]
        cases hzk : zs.getD k false with
        | false =>
          rw [hyz, hzk, if_neg (by decide)] at s1
          rw [hzk] at cx
          have HN := Lib.hid (show Rm wr w3.heap.size (lowF (ys.take (k + 1)) v ++ p.drop 4) cp by rw [s1]; exact HRm.out)
          clear s1 s2 hyz hzk
          go_wp2
          go_roundw
          case rel => exact ⟨k + 1, by go_num, by omega, HN.out, HBel.out⟩
          case measure => simp only [intOf]; omega
        | true =>
          rw [hyz, hzk, if_pos rfl] at s1
          rw [hzk] at cx
          have hML : k < (lowF (ys.take k) v ++ p.drop 4).length := by rw [List.length_append, low_len, HVl.out]; omega
          have hMk : (lowF (ys.take k) v ++ p.drop 4)[k] = v[k] := by
            have h := List.getElem?_eq_getElem hML
            rw [List.getElem?_append_left (by rw [low_len]; exact hkv), s2] at h
            exact (Option.some.inj h).symm
          obtain ⟨cm, fm⟩ := HRm.out.2.2.1 k hML
          rw [hMk] at cm
          have h90 := HG.out v[k] (List.getElem_mem hkv)
          have e3 : ((v[k] + 32).toNat : Int) = (v[k].toNat : Int) + 32 := by
            rw [UInt8.toNat_add, show (32 : UInt8).toNat = 32 from rfl]; omega
          have hN := HRm.out.set k hML (v[k] + 32)
          rw [List.set_append_left _ _ (by rw [low_len]; exact hkv), ← s1, e3] at hN
          have HN := Lib.hid hN
          have HPk : (k : Int) < (P.size : Int) := by have := HPs.out; have := HPl.out; omega
          have h90i : (v[k].toNat : Int) ≤ 90 := by omega
          clear s1 s2 hyz hzk hN hMk e3 hML h90
          generalize v[k].toNat = X at *
          go_wp2
          go_roundw
          case rel => exact ⟨k + 1, by go_num, by omega, HN.out, HBel.out.setCell (Nat.le_refl _) _⟩
          case measure => simp only [intOf]; omega
      · have hgi : ¬ (k : Int) < (len : Int) := by omega
        have hyz : ys.getD k false = false := by rw [HYs.out, List.getD_eq_getElem?_getD, List.getElem?_take, if_neg hg]; rfl
        rw [hyz, if_neg (by decide)] at s1
        have HN := Lib.hid (show Rm wr w3.heap.size (lowF (ys.take (k + 1)) v ++ p.drop 4) cp by rw [s1]; exact HRm.out)
        clear s1 s2 hyz
        go_wp2
        go_roundw
        case rel => exact ⟨k + 1, by go_num, by omega, HN.out, HBel.out⟩
        case measure => simp only [intOf]; omega
    · have hli : ¬ (k : Int) < 4 := by omega
      obtain ⟨M, hM⟩ : ∃ M, M = lowF (ys.take k) v ++ p.drop 4 := ⟨_, rfl⟩
      have HML := Lib.hid (show M.length = P.size by rw [hM, List.length_append, low_len, HVl.out, List.length_drop, HPs.out]; have := HPl.out; omega)
      have HQ2 := Lib.hid (show ∀ n, parV (M ++ List.replicate n 32) = .tuple #[cmdV d, .int .i64 0] from fun n => by rw [hM]; exact HQ.out _ n)
      rw [← hM] at HRm
      clear hM HQ
      have hmod : ((sp : Int).tmod 9) = ((sp % 9 : Nat) : Int) := by rw [Int.tmod_eq_emod_of_nonneg (by omega)]; omega
      obtain ⟨q, hq⟩ : ∃ q, q = sp % 9 := ⟨_, rfl⟩
      rw [← hq] at hmod
      have HQl := Lib.hid (show q < 9 by omega)
      have hw64 : wrap64 (q : Int) = (q : Int) := by unfold wrap64; omega
      clear hq
      go_wp2
      go_loopw [9, 11] (fun b i wr => ∃ (m g cap' : Nat), i = .int .i64 (m : Int) ∧ m ≤ q ∧ b = .slice (some ⟨g, 0, none⟩) (P.size + m) cap' ∧ Rm wr g (M ++ List.replicate m 32) cap' ∧ Below w3.heap.size w3 wr ∧ w3.heap.size ≤ g) (fun _ i _ => q - (intOf i).toNat)
      case atStart => exact ⟨0, w3.heap.size, cp, rfl, Nat.zero_le _, rfl, by rw [List.replicate_zero, List.append_nil]; exact HRm.out, HBel.out, Nat.le_refl _⟩
      case round =>
        clear HRm HBel
        obtain ⟨m, g, cap', rfl, hm, rfl, hrm, hbel, hgl⟩ := hrel
        have HRm := Lib.hid hrm
        have HBel := Lib.hid hbel
        have HGl := Lib.hid hgl
        have HL9 := Lib.hid (show (M ++ List.replicate m 32).length = P.size + m by rw [List.length_append, List.length_replicate, HML.out])
        have hm0 : (0 : Int) ≤ (m : Int) := by omega
        clear hrm hbel hgl
        by_cases hlm : m < q
        · have hmi : (m : Int) < (q : Int) := by omega
          have hw1 : wrap64 ((m : Int) + 1) = (m : Int) + 1 := by have := HQl.out; unfold wrap64; omega
          have HO := Lib.hid (below_one wr (.cells #[.int .u8 32] 5))
          have HR1 := Lib.hid (HRm.out.next HO.out)
          have HC1 := Lib.hid (show (wr.alloc (.cells #[.int .u8 32] 5)).cell? ⟨wr.heap.size, 0, none⟩ = some (.int .u8 (((32 : UInt8).toNat : Nat) : Int)) from (Arr.new wr #[.int .u8 32] 5).cell rfl)
          have HS1 := Lib.hid (show w3.heap.size ≤ (wr.alloc (.cells #[.int .u8 32] 5)).heap.size from Nat.le_trans HBel.out.size HO.out.size)
          have HLm := Lib.hid (show (M ++ List.replicate m 32).length ≤ 1048576 by rw [HL9.out, HPs.out]; have := HPl.out; have := HQl.out; omega)
          have HBa := Lib.hid (HBel.out.alloc HBel.out.size (.cells #[.int .u8 32] 5))
          go_wp2_with (first
            | (at_builtin; refine wpList_push_room _ rfl _ _ rfl HR1.out HL9.out HGl.out HS1.out rfl 32 _ rfl HC1.out HLm.out ?_; intro g' cap'' w' r1 r2 r3))
          go_roundw
          case rel => exact ⟨m + 1, g', cap'', by go_num, by omega, rfl, by rw [List.replicate_succ', ← List.append_assoc]; exact r1, HBa.out.trans r2, r3⟩
          case measure => exact Nat.lt_of_le_of_lt (Nat.le_of_eq (congrArg (fun z => q - (intOf (.int .i64 z)).toNat) hw1)) (meas_up hlm)
        · have hmi : ¬ (m : Int) < (q : Int) := by omega
          have hPb := fun w g' => HPr.out (ba (M ++ List.replicate m 32)) (by rw [ba_size, HL9.out, HPs.out]; have := HPl.out; have := HQl.out; omega) w g'
          rw [ba_list, HQ2.out m, cmdV] at hPb
          unfold cmdZ at hPb
          have HPb := Lib.hid hPb
          have HCv := Lib.hid (fun (W : World) (h : Rm W g (M ++ List.replicate m 32) cap') => show (convert 59 9 (.slice (some ⟨g, 0, none⟩) (P.size + m) cap')).run Tryz.prog W = .ok (.string (ba (M ++ List.replicate m 32))) W by
            have := h.2.2.1.conv cap'
            rwa [HL9.out] at this)
          clear hPb
          generalize hMB : ba (M ++ List.replicate m 32) = MB at *
          generalize ba d.text = T2 at *
          generalize ba d.box.loc = L2 at *
          generalize ba d.box.dom = D2 at *
          generalize d.verb = V2 at *
          generalize d.size = S2 at *
          generalize d.eight = E2 at *
          have HBr := Lib.hid (Below_next HB3.out HBel.out)
          clear hMB
          go_wp2_with (first
            | (go_at_call 10; (with_reducible refine (HPp.out _ (HTb.out.next HBr.out)).mono ?_); rintro e w5 ⟨rfl, hb5⟩; have o5 := below_one w5 (.cells #[.int .i64 V2, .string T2, .string L2, .string D2, .int .i64 S2, .bool E2] 26); have HD5 := Lib.hid (Arr.new w5 #[.int .i64 V2, .string T2, .string L2, .string D2, .int .i64 S2, .bool E2] 26); have hcv := HCv.out _ ((HRm.out.next hb5).next o5); have HB5 := Lib.hid (Below_next (Below_next HBr.out hb5) o5))
            | (go_at_call 10; (with_reducible refine (HPb.out _ (HTb.out.next HB5.out)).mono ?_); rintro e w6 ⟨rfl, hb6⟩; have o6 := below_one w6 (.cells #[.int .i64 V2, .string T2, .string L2, .string D2, .int .i64 S2, .bool E2] 26); have HD6 := Lib.hid ((HD5.out.next hb6).next o6); obtain ⟨a0, a1, a2, a3, a4, a5⟩ := six_cells HD6.out; have HB6 := Lib.hid (Below_next (Below_next HB5.out hb6) o6)))
          go_ret
          exact ⟨rfl, HB6.out⟩

set_option maxHeartbeats 4000000 in
set_option maxRecDepth 100000 in
theorem cmdLetters_no (C : CmdC) (c : CmdA) (a : Option Addr) (len cap : Nat) (u : Int) (W : World) (hTb : Tb W) (hi : I64 c.size) (h1 : c.text.length ≤ 2048) (h2 : c.box.loc.length ≤ 2048) (h3 : c.box.dom.length ≤ 2048) (er : Int) (hw : wriV c = .tuple #[.string ⟨#[]⟩, .int .i64 er]) (he : (er == 0) = false) :
    Calls Tryz.prog 7 #[cmdV c, .slice a len cap, .int .u8 u] W fun e w' => e = .returned (.bool true) ∧ Below W.heap.size W w' := by
  have hA := Arr.new W (cmdZ c) 26
  have hb := Lib.hid (below_one W (.cells (cmdZ c) 26))
  have HAw := Lib.hid (fun w h => C.awake w h)
  have HTb := Lib.hid hTb
  clear hTb
  have hs1 := ba_size c.text
  have hs2 := ba_size c.box.loc
  have hs3 := ba_size c.box.dom
  have hLg := fun w => large10_any c.verb c.size (ba c.text) (ba c.box.loc) (ba c.box.dom) c.eight w
  rw [decide_eq_false (by omega)] at hLg
  have HLg := Lib.hid hLg
  have hW1 := fun w h => C.write c (by omega) (by omega) (by omega) hi w h
  rw [hw, cmdV] at hW1
  unfold cmdZ at hW1
  have HW1 := Lib.hid hW1
  have hen : (er != 0) = true := by rw [bne, he]; rfl
  clear hW1 hw h1 h2 h3 hi
  rw [cmdV]
  unfold cmdZ at hA hb ⊢
  have HA := Lib.hid hA
  clear hA hs1 hs2 hs3 hLg
  generalize ba c.text = T at *
  generalize ba c.box.loc = L at *
  generalize ba c.box.dom = D at *
  generalize c.size = S at *
  generalize c.eight = E at *
  generalize c.verb = V at *
  go_enter Tryz.func7, Tryz.ntmps7
  go_wp2_with (first
    | (go_at_call 9; (with_reducible refine (HAw.out _ (HTb.out.next hb.out)).mono ?_); rintro e w1 ⟨rfl, hb1⟩; have HA1 := Lib.hid (HA.out.next hb1); obtain ⟨b0, b1, b2, b3, b4', b5⟩ := six_cells HA1.out)
    | (go_at_call 13; (with_reducible refine (HLg.out _).mono ?_); rintro e w2 ⟨rfl, hb2⟩; have HB2 := Lib.hid (Below_next (Below_next hb.out hb1) hb2); have HA2 := Lib.hid (HA1.out.next hb2); obtain ⟨d0, d1, d2, d3, d4, d5⟩ := six_cells HA2.out)
    | (go_at_call 14; (with_reducible refine (HW1.out _ (HTb.out.next HB2.out)).mono ?_); rintro e w3 ⟨rfl, hb3⟩; have HB3 := Lib.hid (Below_next HB2.out hb3)))
  go_ret
  exact ⟨rfl, HB3.out⟩

set_option maxHeartbeats 4000000 in
set_option maxRecDepth 100000 in
theorem cmdLetters_large (C : CmdC) (c : CmdA) (a : Option Addr) (len cap : Nat) (u : Int) (W : World) (hTb : Tb W) (h : ¬ (c.text.length ≤ 2048 ∧ c.box.loc.length ≤ 2048 ∧ c.box.dom.length ≤ 2048)) :
    Calls Tryz.prog 7 #[cmdV c, .slice a len cap, .int .u8 u] W fun e w' => e = .returned (.bool true) ∧ Below W.heap.size W w' := by
  have hA := Arr.new W (cmdZ c) 26
  have hb := Lib.hid (below_one W (.cells (cmdZ c) 26))
  have HAw := Lib.hid (fun w h => C.awake w h)
  have HTb := Lib.hid hTb
  clear hTb
  have hs1 := ba_size c.text
  have hs2 := ba_size c.box.loc
  have hs3 := ba_size c.box.dom
  have hLg := fun w => large10_any c.verb c.size (ba c.text) (ba c.box.loc) (ba c.box.dom) c.eight w
  rw [decide_eq_true (by omega)] at hLg
  have HLg := Lib.hid hLg
  clear h
  rw [cmdV]
  unfold cmdZ at hA hb ⊢
  have HA := Lib.hid hA
  clear hA hs1 hs2 hs3 hLg
  generalize ba c.text = T at *
  generalize ba c.box.loc = L at *
  generalize ba c.box.dom = D at *
  generalize c.size = S at *
  generalize c.eight = E at *
  generalize c.verb = V at *
  go_enter Tryz.func7, Tryz.ntmps7
  go_wp2_with (first
    | (go_at_call 9; (with_reducible refine (HAw.out _ (HTb.out.next hb.out)).mono ?_); rintro e w1 ⟨rfl, hb1⟩; have HA1 := Lib.hid (HA.out.next hb1); obtain ⟨b0, b1, b2, b3, b4', b5⟩ := six_cells HA1.out)
    | (go_at_call 13; (with_reducible refine (HLg.out _).mono ?_); rintro e w2 ⟨rfl, hb2⟩; have HB2 := Lib.hid (Below_next (Below_next hb.out hb1) hb2); have HA2 := Lib.hid (HA1.out.next hb2); obtain ⟨d0, d1, d2, d3, d4, d5⟩ := six_cells HA2.out))
  go_ret
  exact ⟨rfl, HB2.out⟩

theorem cmdLetters_walk (C : CmdC) (c : CmdA) (a : Option Addr) (len cap : Nat) (zs : List Bool) (sp : Nat) (W : World) (hTb : Tb W) (hi : I64 c.size) (hz : IsBls W a len cap zs) (hsp : sp < 256) :
    Calls Tryz.prog 7 #[cmdV c, .slice a len cap, .int .u8 (sp : Int)] W fun e w' => e = .returned (.bool true) ∧ Below W.heap.size W w' := by
  by_cases h : c.text.length ≤ 2048 ∧ c.box.loc.length ≤ 2048 ∧ c.box.dom.length ≤ 2048
  · obtain ⟨h1, h2, h3⟩ := h
    rcases wri_ways c with ⟨er, hw, he⟩ | ⟨p, hw, hl, hv⟩
    · exact cmdLetters_no C c a len cap _ W hTb hi h1 h2 h3 er hw he
    · exact cmdLetters_yes C c a len cap zs sp W hTb hi h1 h2 h3 hz hsp p hw hl hv
  · exact cmdLetters_large C c a len cap _ W hTb h
end Go.Proofs.YtahbbnimoogapaaGreatDoor
