/- OctetSame: the law's walk. -/
import Derived.Test.YtanaingknbjgdaaOc6
import Derived.Outline
namespace Go.Proofs.Ytanaingknbjgdaa
open Go.RowKit

/-- A block of the call's own that reads as these bytes, each cell free. -/
def HasBytes (w : World) (g : Nat) (l : List UInt8) : Prop := ∀ j, (h : j < l.length) → w.cell? ⟨g, j, none⟩ = some (.int .u8 (l[j].toNat : Int)) ∧ w.frozen? ⟨g, j, none⟩ = false

theorem HasBytes.set {w : World} {g : Nat} {l : List UInt8} (h : HasBytes w g l) (k : Nat) (hk : k < l.length) (b : UInt8) : HasBytes (w.setCell ⟨g, k, none⟩ (.int .u8 (b.toNat : Int))) g (l.set k b) := by
  intro j hj
  have hj' : j < l.length := by simpa using hj
  refine ⟨?_, by rw [World.frozen?_setCell]; exact (h j hj').2⟩
  by_cases e : k = j
  · subst e
    rw [World.cell?_setCell_same _ _ _ (h k hk).1]; simp
  · rw [World.cell?_setCell_other _ _ _ _ (by simp [e]), (h j hj').1]; simp [e]

theorem HasBytes.conv {w : World} {g : Nat} {l : List UInt8} (h : HasBytes w g l) (cap : Nat) :
    (convert 40 9 (.slice (some ⟨g, 0, none⟩) l.length cap)).run Try.prog w = .ok (.string ⟨l.toArray⟩) w := by
  refine conv_cells w _ l cap fun j v hv => ?_
  have hj : j < l.length := by
    have := (List.getElem?_eq_some_iff.1 hv).1
    rw [u8s_len] at this; exact this
  rw [u8s_get l j hj] at hv
  rw [← hv, ← (h j hj).1]
  rcases j with _ | j <;> simp [Addr.add]

/-- '[]byte(s)': a new block that reads as the string's bytes. -/
theorem bytes_of (w : World) (s : ByteArray) :
    ∃ cap o, (convert 9 40 (.string s)).run Try.prog w = .ok (.slice (some ⟨w.heap.size, 0, none⟩) s.size cap) (w.drew.alloc o) ∧ HasBytes (w.drew.alloc o) w.heap.size s.data.toList := by
  refine ⟨_, _, run_bytes_of_string w _ _ 5 s Try.underlying9 Try.underlying40 Try.underlying5, ?_⟩
  intro j hj
  have hj' : j < s.data.size := by simpa using hj
  have hh : (w.drew).heap.size = w.heap.size := rfl
  constructor
  · rw [← hh, World.cell?_alloc_mark, bytesRow, Array.getElem?_append_left (by simpa using hj')]
    rw [Array.getElem?_map, Array.getElem?_eq_getElem hj']; rfl
  · rw [← hh, World.frozen?_alloc_mark]
    have hge := grownCap_ge w s.size 0 5
    have hsz : s.data.size = s.size := rfl
    have : ¬ (bytesRow s (grownCap w s.size 0 5)).size ≤ j := by
      simp only [bytesRow, Array.size_append, Array.size_map, Array.size_replicate]; omega
    simp only [this, decide_false, Bool.false_and]

/-- The walk's law for '[]byte(s)': a new block of the call's own that reads as the string's bytes. -/
theorem wpList_conv_str (w : World) {ops : Array Oper} {rest : List Oper} {o : Oper} {a : Act} {Q : Exit → Act → World → Prop}
    (hg : o.guard = none) (x : Operand) (hop : o.op = Op.convert 9 40 x) (s : ByteArray) (hx : a.eval x = .string s)
    (hK : ∀ cap w', HasBytes w' w.heap.size s.data.toList → Below w.heap.size w w' → w'.heap.size = w.heap.size + 1 → wpList Try.prog ops Q rest (a.put o.dst (.slice (some ⟨w.heap.size, 0, none⟩) s.size cap)) w') :
    wpList Try.prog ops Q (o :: rest) a w := by
  refine wpList_plain hg fun K hK' => ?_
  obtain ⟨cap, ob, hrun, r1⟩ := bytes_of w s
  unfold Oper.wp
  simp [execOp, hop, hx, hrun, Result.andThen]
  exact hK' _ _ (hK cap _ r1 ((Below.refl _ _).drew.alloc (Nat.le_refl _) _) (by show (w.heap.push ob).size = _; simp))

/-- The walk's law for 'string(b)'. -/
theorem wpList_conv_bytes (w : World) {ops : Array Oper} {rest : List Oper} {o : Oper} {a : Act} {Q : Exit → Act → World → Prop}
    (hg : o.guard = none) (x : Operand) (hop : o.op = Op.convert 40 9 x) {g n cap : Nat} {l : List UInt8} (h : HasBytes w g l) (hn : l.length = n) (hx : a.eval x = .slice (some ⟨g, 0, none⟩) n cap)
    (hK : wpList Try.prog ops Q rest (a.put o.dst (.string ⟨l.toArray⟩)) w) :
    wpList Try.prog ops Q (o :: rest) a w := by
  subst hn
  refine wpList_plain hg fun K hK' => ?_
  have hrun := h.conv cap
  unfold Oper.wp
  simp [execOp, hop, hx, hrun, Result.andThen]
  exact hK' _ _ hK

theorem toList_data (s : ByteArray) : s.toList = s.data.toList := by
  obtain ⟨⟨l⟩⟩ := s
  exact ByteArray.toList_mk l

theorem same_self (s : ByteArray) (w : World) : Calls Try.prog 24 #[.string s, .string s] w fun e w' => e = .returned (.bool true) ∧ w = w' :=
  (same_any _ _ w).mono fun _ _ ⟨h, k⟩ => ⟨h.trans (by simp), k⟩

theorem beq_false_of_len {a b : List UInt8} (h : a.length ≠ b.length) : (a == b) = false := by
  rw [beq_eq_false_iff_ne]; intro e; exact h (by rw [e])
theorem same_app (s : ByteArray) (w : World) : Calls Try.prog 24 #[.string s, .string (s ++ ⟨#[0]⟩)] w fun e w' => e = .returned (.bool false) ∧ w = w' :=
  (same_any _ _ w).mono fun _ _ ⟨h, k⟩ => ⟨h.trans (by rw [toList_data, toList_data, beq_false_of_len]; simp), k⟩
theorem same_pre (s : ByteArray) (w : World) : Calls Try.prog 24 #[.string (⟨#[0]⟩ ++ s), .string s] w fun e w' => e = .returned (.bool false) ∧ w = w' :=
  (same_any _ _ w).mono fun _ _ ⟨h, k⟩ => ⟨h.trans (by rw [toList_data, toList_data, beq_false_of_len]; simp), k⟩

theorem big_walk (s : ByteArray) (a1 a2 : Int) (h : 4096 < s.size) (w0 : s.size ≤ maxLen) (w : World) :
    Calls Try.prog 8 #[.string s, .int .u16 a1, .int .u8 a2] w fun e w' => e = .returned (.bool true) ∧ Below w.heap.size w w' := by
  have hbel := Below.refl w.heap.size w
  go_enter Try.func8, Try.ntmps8
  go_wp2_with (go_at_call 9; ((with_reducible refine (awake_any _).mono ?_); rintro e w' ⟨rfl, hb⟩; replace hbel := Below_next hbel hb; clear hb))
  go_ret
  exact ⟨rfl, hbel⟩

theorem xor_set_beq (l : List UInt8) (k : Nat) (hk : k < l.length) (c : UInt8) : (l == l.set k (l[k] ^^^ c)) = (c == 0) := by
  by_cases hc : c = 0
  · subst hc; simp
  · rw [show (c == 0) = false from by simp [hc], beq_eq_false_iff_ne]
    intro e
    have h : l[k] ^^^ c = l[k] := by
      have h1 := List.getElem_set_self (l := l) (i := k) (a := l[k] ^^^ c) (by simpa using hk)
      have h2 : (l.set k (l[k] ^^^ c))[k]'(by simpa using hk) = l[k] := by
        have : ∀ m : List UInt8, l = m → ∀ hm : k < m.length, m[k] = l[k] := by intro m hm _; subst hm; rfl
        exact this _ e _
      rw [← h1]; exact h2
    have h3 : l[k] ^^^ (l[k] ^^^ c) = l[k] ^^^ l[k] := by rw [h]
    rw [← UInt8.xor_assoc, UInt8.xor_self, UInt8.zero_xor] at h3
    exact hc h3
theorem same_mod (s : ByteArray) (k : Nat) (hk : k < s.data.toList.length) (c : UInt8) (w : World) :
    Calls Try.prog 24 #[.string s, .string ⟨(s.data.toList.set k (s.data.toList[k] ^^^ c)).toArray⟩] w fun e w' => e = .returned (.bool (c == 0)) ∧ w = w' :=
  (same_any _ _ w).mono fun _ _ ⟨h, k⟩ => ⟨h.trans (by rw [toList_data, ByteArray.toList_mk, xor_set_beq]), k⟩

set_option maxHeartbeats 400000 in
theorem main_walk (s : ByteArray) (a1 : Int) (c : UInt8) (h : s.size ≤ 4096) (h1 : 0 ≤ a1) (h1' : a1 < 65536) (w : World) :
    Calls Try.prog 8 #[.string s, .int .u16 a1, .int .u8 (c.toNat : Int)] w fun e w' => e = .returned (.bool true) ∧ Below w.heap.size w w' := by
  have hbel := Below.refl w.heap.size w
  by_cases h0 : s.size = 0
  · have e0 : ((s.size : Int) == 0) = true := by simp [h0]
    have H0 := Lib.hid h0
    clear h0
    go_enter Try.func8, Try.ntmps8
    go_wp2_with (first
      | (go_at_call 9; ((with_reducible refine (awake_any _).mono ?_); rintro e w' ⟨rfl, hb⟩; replace hbel := Below_next hbel hb; clear hb))
      | (go_at_call 24; (first | (with_reducible refine (same_self _ _).mono ?_) | (with_reducible refine (same_app _ _).mono ?_) | (with_reducible refine (same_pre _ _).mono ?_)); rintro e w' ⟨rfl, rfl⟩))
    go_ret
    exact ⟨rfl, hbel⟩
  · have e0 : ((s.size : Int) == 0) = false := by simp [h0]
    have hpos : 0 < s.size := by omega
    have H0 := Lib.hid h0
    clear h0
    go_enter Try.func8, Try.ntmps8
    obtain ⟨k, hk⟩ : ∃ k : Nat, a1 % (s.size : Int) = (k : Int) := Int.eq_ofNat_of_zero_le (Int.emod_nonneg _ (by omega))
    have hkl : k < s.data.toList.length := by
      have := Int.emod_lt_of_pos a1 (show (0 : Int) < s.size by omega)
      have : s.data.toList.length = s.size := by simp
      omega
    go_wp2_with (first
      | (go_at_call 9; ((with_reducible refine (awake_any _).mono ?_); rintro e w' ⟨rfl, hb⟩; replace hbel := Below_next hbel hb; clear hb))
      | (with_reducible refine wpList_conv_str _ (o := ⟨some 33, _, _, _, _, _⟩) rfl _ rfl _ rfl ?_)
      | (go_at_call 24; (first | (with_reducible refine (same_self _ _).mono ?_) | (with_reducible refine (same_app _ _).mono ?_) | (with_reducible refine (same_pre _ _).mono ?_)); rintro e w' ⟨rfl, rfl⟩))
    intro cap w2 hB hb2 hsz
    have hlow := hbel.size
    replace hbel := Below_next hbel hb2
    have hB2 := hB.set k hkl (s.data.toList[k] ^^^ c)
    rw [← xor_num] at hB2
    have hcell := (hB k hkl).1
    have hce := c.toNat_lt
    have hcb : ((c.toNat : Int) == 0) = (c == 0) := by
      rw [Bool.eq_iff_iff, beq_iff_eq, beq_iff_eq]
      constructor
      · intro e; exact UInt8.toNat_inj.1 (by simpa using e)
      · intro e; subst e; rfl
    have HSM := Lib.hid (same_mod s k hkl c)
    generalize s.data.toList[k] = b0 at *
    have hl : (s.data.toList.set k (b0 ^^^ c)).length = s.size := by simp
    have HL := Lib.hid hl
    clear hl
    have hfree := (hB k hkl).2
    clear hb2
    go_wp2_with (first
      | (with_reducible refine wpList_conv_bytes _ (o := ⟨some 47, _, _, _, _, _⟩) rfl _ rfl hB2 HL.out rfl ?_)
      | (go_at_call 24; ((with_reducible refine (HSM.out _).mono ?_); rintro e w' ⟨rfl, rfl⟩)))
    go_ret
    exact ⟨by simp, hbel.setCell hlow _⟩

theorem octetSame_walk (s : ByteArray) (a1 a2 : Int) (w0 : s.size ≤ maxLen) (w1 : (Lit.int .u16 a1).wf = true) (w2 : (Lit.int .u8 a2).wf = true) (w : World) :
    Calls Try.prog 8 #[.string s, .int .u16 a1, .int .u8 a2] w fun e w' => e = .returned (.bool true) ∧ Below w.heap.size w w' := by
  by_cases h : 4096 < s.size
  · exact big_walk s a1 a2 h w0 w
  · have h1 : 0 ≤ a1 ∧ a1 ≤ 65535 := by simpa [Lit.wf, IntKind.min, IntKind.max, IntKind.signed, IntKind.bits] using w1
    have h2 : 0 ≤ a2 ∧ a2 ≤ 255 := by simpa [Lit.wf, IntKind.min, IntKind.max, IntKind.signed, IntKind.bits] using w2
    have h3 : a2 = ((UInt8.ofNat a2.toNat).toNat : Int) := by rw [UInt8.toNat_ofNat']; omega
    rw [h3]
    exact main_walk s a1 _ (by omega) h1.1 (by omega) w
end Go.Proofs.Ytanaingknbjgdaa
