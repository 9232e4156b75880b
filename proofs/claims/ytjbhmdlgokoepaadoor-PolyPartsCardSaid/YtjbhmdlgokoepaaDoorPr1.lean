/- The document's own digits, digit, carried of layer 5. -/
import Derived.Test.YtjbhmdlgokoepaaDoorPdN
import Derived.Test.YtjbhmdlgokoepaaDoorOi
namespace Go.Proofs.YtjbhmdlgokoepaaDoor
open Go.RowKit

theorem Oi.next' {w w' : World} {base : Nat} {v : Value} {l : List Nat} (h : Oi w base v l) (hb : Below w.heap.size w w') : Oi w' base v l := Oi.next h hb
/-- Bytes as digits. -/
def natL (l : List UInt8) : List Nat := l.map fun (b : UInt8) => b.toNat
theorem natL_len (l : List UInt8) : (natL l).length = l.length := by simp [natL]
theorem natL_lt (l : List UInt8) : ∀ x ∈ natL l, x < 256 := by
  intro x hx
  rw [natL, List.mem_map] at hx
  obtain ⟨b, _, rfl⟩ := hx
  exact b.toNat_lt
theorem natL_num (l : List UInt8) : numD (natL l) = numLow l := numD_map l
/-- A slice value that reads as these numbers. -/
def DV (w : World) (v : Value) (d : List Nat) : Prop := ∃ (g : Nat) (a : Option Addr) (cap : Nat), v = .slice a d.length cap ∧ RowI w g d ∧ (0 < d.length → a = some ⟨g, 0, none⟩ ∧ g < w.heap.size)
theorem DV.next {w w' : World} {v : Value} {d : List Nat} (h : DV w v d) (hb : Below w.heap.size w w') : DV w' v d := by
  obtain ⟨g, a, cap, rfl, hr, ha⟩ := h
  by_cases hd : 0 < d.length
  · exact ⟨g, a, cap, rfl, hr.next hd hb, fun _ => ⟨(ha hd).1, Nat.lt_of_lt_of_le (ha hd).2 hb.size⟩⟩
  · exact ⟨g, a, cap, rfl, fun j hj => absurd hj (by omega), fun h => absurd h hd⟩
theorem DV.alloc {w : World} {v : Value} {d : List Nat} (h : DV w v d) (o : Obj) : DV (w.alloc o) v d := h.next ((Below.refl _ _).alloc (Nat.le_refl _) o)
theorem DV.at {w : World} {a : Option Addr} {n cap : Nat} {d : List Nat} (h : DV w (.slice a n cap) d) (k : Nat) (hk : k < d.length) : ∃ g, a = some ⟨g, 0, none⟩ ∧ w.cell? ⟨g, k, none⟩ = some (.int .i64 ((d.getD k 0 : Nat) : Int)) := by
  obtain ⟨g, a', cap', he, hr, ha⟩ := h
  injection he with h1 h2 h3
  subst h1
  exact ⟨g, (ha (by omega)).1, hr.at k hk⟩
theorem carry_num (o M A q r : Nat) (h : A = r + 256 * q) (rest : Nat) : o + M * r + M * 256 * (q + rest) = o + M * (A + 256 * rest) := by
  subst h
  rw [Nat.mul_assoc, Nat.add_assoc, ← Nat.mul_add, Nat.mul_add 256]
  congr 2; omega
theorem DV.drewN {w : World} {v : Value} {d : List Nat} (h : DV w v d) (n : Nat) : DV (w.drewN n) v d := h
theorem DV.drew {w : World} {v : Value} {d : List Nat} (h : DV w v d) : DV w.drew v d := h
theorem Oi.dv {w : World} {base : Nat} {v : Value} {d : List Nat} (h : Oi w base v d) : DV w v d := by
  rcases h.2 with ⟨rfl, h0⟩ | ⟨g, cap, cur, rfl, _⟩
  · exact ⟨0, none, 0, by rw [h0], fun j hj => absurd hj (by omega), fun h => absurd h (by omega)⟩
  · have hr : RowI w g d := Oi.row h
    exact ⟨g, _, cap, rfl, hr, fun h => ⟨rfl, hr.lt h⟩⟩

set_option maxHeartbeats 400000 in
theorem digits_any (s : ByteArray) (hs : s.size ≤ 100000000) (w : World) :
    Calls Tryd.prog 20 #[.string s] w fun e w' => (∃ v, e = .returned v ∧ DV w' v (natL s.data.toList)) ∧ Below w.heap.size w w' := by
  have HO := Lib.hid (Oi.start w w.heap.size (Nat.le_refl _))
  have HB := Lib.hid ((Below.refl w.heap.size w).alloc (Nat.le_refl _) (.cells #[] 3))
  go_enter Tryd.func20, Tryd.ntmps20
  go_wp2
  go_loopw [3, 4] (fun v i wr => ∃ k : Nat, k ≤ s.size ∧ i = .int .i64 (k : Int) ∧ Oi wr w.heap.size v (natL (s.data.toList.take k)) ∧ Below w.heap.size w wr) (fun _ i _ => s.size - (intOf i).toNat)
  case atStart => exact ⟨0, Nat.zero_le _, rfl, HO.out, HB.out⟩
  case round =>
    clear HO HB
    obtain ⟨k, hk, rfl, hown, hbel⟩ := hrel
    by_cases hlt : k < s.size
    · have hnl := take_len s k hk
      have hts : natL (s.data.toList.take (k + 1)) = natL (s.data.toList.take k) ++ [s[k].toNat] := by rw [take_snoc s k hlt, natL, List.map_append]; rfl
      have HT := Lib.hid hts
      have HL := Lib.hid (show (natL (s.data.toList.take k)).length ≤ 1000000000 by rw [natL_len, hnl]; omega)
      have hb0 : (s[k].toNat : Int) ≤ 255 := by have := s[k].toNat_lt; omega
      clear hts hnl
      go_wp2_with (at_builtin; refine wpList_pushi wr rfl _ _ rfl w.heap.size _ (natL (s.data.toList.take k)) rfl rfl hown s[k].toNat rfl HL.out hbel.size ?_; intro v' w1 hown' hb1)
      go_roundw
      case rel => exact ⟨k + 1, by omega, by go_num, by rw [HT.out]; exact hown', hbel.trans hb1⟩
      case measure => simp [intOf]; omega
    · obtain rfl : k = s.size := by omega
      rw [take_all] at hown
      go_wp2
      go_ret
      exact ⟨⟨_, rfl, hown.dv⟩, hbel⟩

set_option maxHeartbeats 400000 in
theorem digit_any (v : Value) (d : List Nat) (i : Nat) (w : World) (h : DV w v d) :
    Calls Tryd.prog 23 #[v, .int .i64 (i : Int)] w fun e w' => e = .returned (.int .i64 ((d.getD i 0 : Nat) : Int)) ∧ w = w' := by
  obtain ⟨g, a, cap, rfl, hr, ha⟩ := h
  by_cases hi : i < d.length
  · obtain ⟨rfl, _⟩ := ha (by omega)
    have hc := hr.at i hi
    have h1 : ¬ (d.length : Int) ≤ (i : Int) := by omega
    generalize d.getD i 0 = x at *
    generalize d.length = n at *
    clear hr ha
    go_enter Tryd.func23, Tryd.ntmps23
    go_wp2
    go_ret
    exact ⟨rfl, rfl⟩
  · have hz : d.getD i 0 = 0 := by rw [List.getD_eq_getElem?_getD, List.getElem?_eq_none (by omega)]; rfl
    have h1 : (d.length : Int) ≤ (i : Int) := by omega
    rw [hz]
    generalize d.length = n at *
    clear hr ha hz
    go_enter Tryd.func23, Tryd.ntmps23
    go_wp2
    go_ret
    exact ⟨rfl, rfl⟩

set_option maxHeartbeats 1000000 in
theorem carried_any (v : Value) (d : List Nat) (hb : ∀ x ∈ d, x < 1099511627776) (hl : d.length ≤ 1000) (w : World) (h : DV w v d) :
    Calls Tryd.prog 34 #[v] w fun e w' => (∃ v' c, e = .returned v' ∧ DV w' v' c ∧ (∀ x ∈ c, x < 256) ∧ numD c = numD d ∧ c.length ≤ d.length + 6) ∧ Below w.heap.size w w' := by
  have HO := Lib.hid (Oi.start w w.heap.size (Nat.le_refl _))
  have HB := Lib.hid ((Below.refl w.heap.size w).alloc (Nat.le_refl _) (.cells #[] 3))
  have HD0 := Lib.hid h
  have HBd := Lib.hid hb
  obtain ⟨g, a, cap, rfl, _, _⟩ := h
  clear hb
  obtain ⟨n, hn⟩ : ∃ n, n = d.length := ⟨_, rfl⟩
  have HNd := Lib.hid hn
  rw [← hn] at hl HD0 ⊢
  clear hn
  go_enter Tryd.func34, Tryd.ntmps34
  go_wp2
  go_loopw [3, 4, 5] (fun o c i wr => ∃ (out : List Nat) (C k : Nat), c = .int .i64 (C : Int) ∧ i = .int .i64 (k : Int) ∧ out.length = k ∧ k ≤ n + 6 ∧ C * 256 ^ (k - n) < 2199023255552 ∧ (∀ x ∈ out, x < 256) ∧ numD out + 256 ^ k * (C + numD (d.drop k)) = numD d ∧ Oi wr w.heap.size o out ∧ Below w.heap.size w wr) (fun _ c i _ => (n - (intOf i).toNat) * 4398046511104 + (intOf c).toNat)
  case atStart => exact ⟨[], 0, 0, rfl, rfl, rfl, by omega, by simp, by simp, by simp [numD], HO.out, HB.out⟩
  case round =>
    clear HO HB
    obtain ⟨out, C, k, rfl, rfl, hok, hk, hC, hout, hnum, hown, hbel⟩ := hrel
    have hdv := HD0.out.next hbel
    have hnd := HNd.out
    have hol : out.length ≤ 1000000000 := by omega
    have HOl := Lib.hid hol
    have HOw := Lib.hid hown
    have HBel := Lib.hid hbel
    have HOut := Lib.hid hout
    by_cases hlt : k < n
    · obtain ⟨g', rfl, hcell⟩ := hdv.at k (by omega)
      have hx : d.getD k 0 < 1099511627776 := by
        rw [List.getD_eq_getElem?_getD, List.getElem?_eq_getElem (by omega)]; exact HBd.out _ (List.getElem_mem _)
      have hC' : C < 2199023255552 := by rw [show k - n = 0 by omega] at hC; simpa using hC
      have hstep : numD (out ++ [(C + d.getD k 0) % 256]) + 256 ^ (k + 1) * ((C + d.getD k 0) / 256 + numD (d.drop (k + 1))) = numD d := by
        rw [← hnum, numD_snoc, hok, Nat.pow_succ, carry_num _ _ (C + d.getD k 0) _ _ (by omega), numD_drop d k (by omega), Nat.add_assoc C]
      have hlen : (out ++ [(C + d.getD k 0) % 256]).length = k + 1 := by rw [List.length_append, hok]; rfl
      have HStep := Lib.hid hstep
      have HLen := Lib.hid hlen
      have hc2 : (C + d.getD k 0) / 256 * 256 ^ (k + 1 - n) < 2199023255552 := by
        rcases (show k + 1 - n = 0 ∨ k + 1 - n = 1 by omega) with h | h <;> rw [h] <;> omega
      have HC2 := Lib.hid hc2
      clear hstep hlen hc2 hnum hC hown hdv hbel hout hnd hol hok
      generalize d.getD k 0 = x at *
      have e1 : ((C : Int) + (x : Int)) % 256 = (((C + x) % 256 : Nat) : Int) := by omega
      have e2 : ((C : Int) + (x : Int)) / 256 = (((C + x) / 256 : Nat) : Int) := by omega
      have hm : (C + x) % 256 < 256 := Nat.mod_lt _ (by decide)
      have hq : (C + x) / 256 < 4398046511104 := by omega
      generalize (C + x) % 256 = r at *
      generalize (C + x) / 256 = q at *
      go_wp2_with (at_builtin; refine wpList_pushi wr rfl _ _ rfl w.heap.size _ out rfl rfl HOw.out r rfl HOl.out HBel.out.size ?_; intro v' w1 hown' hb1)
      go_roundw
      case rel => exact ⟨out ++ [r], q, k + 1, by first | rfl | rw [e2], by go_num, HLen.out, by omega, HC2.out, (by intro y hy; rcases List.mem_append.1 hy with h | h; exact HOut.out y h; simp at h; omega), HStep.out, hown', HBel.out.trans hb1⟩
      case measure => simp [intOf]; omega
    · have h0 : d.drop k = [] := List.drop_eq_nil_of_le (by omega)
      rw [h0] at hnum
      by_cases hc0 : 0 < C
      · obtain ⟨j, rfl⟩ : ∃ j, k = n + j := ⟨k - n, by omega⟩
        rw [show n + j - n = j by omega] at hC
        have hj : j ≤ 5 := by
          rcases (show j ≤ 5 ∨ j = 6 by omega) with h | h
          · exact h
          · subst h; omega
        have hstep : numD (out ++ [C % 256]) + 256 ^ (n + j + 1) * (C / 256 + numD (d.drop (n + j + 1))) = numD d := by
          rw [List.drop_eq_nil_of_le (by omega), ← hnum, numD_snoc, hok, Nat.pow_succ, carry_num _ _ C _ _ (by omega)]
          simp [numD]
        have hlen : (out ++ [C % 256]).length = n + j + 1 := by rw [List.length_append, hok]; rfl
        have HStep := Lib.hid hstep
        have HLen := Lib.hid hlen
        have hc2 : C / 256 * 256 ^ (n + j + 1 - n) < 2199023255552 := by
          rw [show n + j + 1 - n = j + 1 by omega, Nat.pow_succ, Nat.mul_comm (256 ^ j), ← Nat.mul_assoc]
          exact Nat.lt_of_le_of_lt (Nat.mul_le_mul_right _ (Nat.div_mul_le_self C 256)) hC
        have HC2 := Lib.hid hc2
        have hCb : C < 2199023255552 := by
          have := Nat.le_mul_of_pos_right C (show 0 < 256 ^ j from Nat.pow_pos (by decide))
          omega
        clear hstep hlen hc2 hnum hC hown hdv hbel hout hnd hol hok h0
        have hk1 : ¬ ((n : Int) + (j : Int)) < (n : Int) := by omega
        have e1 : (C : Int) % 256 = ((C % 256 : Nat) : Int) := by omega
        have e2 : (C : Int) / 256 = ((C / 256 : Nat) : Int) := by omega
        have hm : C % 256 < 256 := Nat.mod_lt _ (by decide)
        have hq : C / 256 < C := by omega
        generalize C % 256 = r at *
        generalize C / 256 = q at *
        go_wp2_with (at_builtin; refine wpList_pushi wr rfl _ _ rfl w.heap.size _ out rfl rfl HOw.out r rfl HOl.out HBel.out.size ?_; intro v' w1 hown' hb1)
        go_roundw
        case rel => exact ⟨out ++ [r], q, n + j + 1, rfl, by go_num, HLen.out, by omega, HC2.out, (by intro y hy; rcases List.mem_append.1 hy with h | h; exact HOut.out y h; simp at h; omega), HStep.out, hown', HBel.out.trans hb1⟩
        case measure => simp [intOf]; omega
      · obtain rfl : C = 0 := by omega
        have hnum' : numD out = numD d := by rw [← hnum]; simp [numD]
        have HR : Hid (∃ c, DV wr _ c ∧ (∀ x ∈ c, x < 256) ∧ numD c = numD d ∧ c.length ≤ n + 6) := ⟨out, hown.dv, hout, hnum', by omega⟩
        clear hnum hC hown hdv hout hnd hol hnum' h0 hok
        go_wp2
        go_ret
        obtain ⟨c, h1, h2, h3, h4⟩ := HR.out
        exact ⟨⟨_, c, rfl, h1, h2, h3, h4⟩, hbel⟩
end Go.Proofs.YtjbhmdlgokoepaaDoor
