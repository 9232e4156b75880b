/- Contracts of the reference's Xor and Fill. -/
import Derived.Test.YtanaingknbjgdaaOcRefs2
import Derived.Deep.RegionLaw
namespace Go.Proofs.Ytanaingknbjgdaa
open Go.RowKit

/-- 'append(out, b)' as one step of a region that draws its order. -/
theorem step_push {ops : Array Oper} {o : Oper} {a : Act} (wr W : World) {K : Act → World → Prop} {Q : Exit → Act → World → Prop} {E : Prop} {bv : Int}
    (hg : o.guard = none) (s x : Operand) (ho : o.op = .call { callee := .builtin .append, args := #[s, x], argTypes := #[40, 40] })
    (base : Nat) (v : Value) (l : List UInt8) (hs : a.eval s = v) (hx : a.eval x = .slice (some ⟨wr.heap.size, 0, none⟩) 1 1) (hown : Ob wr base v l) (b : UInt8) (hb : bv = (b.toNat : Int))
    (hW : W.heap = (wr.alloc (.cells #[.int .u8 bv] 5)).heap)
    (hlen : l.length ≤ 1099511627776) (hbase : base ≤ wr.heap.size)
    (h : ∀ v' w', Ob w' base v' (l ++ [b]) → Below base W w' → K (a.put o.dst v') w') :
    if Region.wanted o (yielded ops a.tmps) = true then Oper.wp Try.prog o a W K Q else E := by
  have hw : Region.wanted o (yielded ops a.tmps) = true := by simp [Region.wanted, hg]
  rw [if_pos hw]
  subst hb
  obtain ⟨i0, hi, hz0, hz1, hz2⟩ := info_parts Try.infoU8
  have hsz : W.heap.size = wr.heap.size + 1 := by rw [hW]; show (wr.heap.push _).size = _; simp
  have hcell : ∀ ad, W.cell? ad = (wr.alloc (.cells #[.int .u8 (b.toNat : Int)] 5)).cell? ad := fun ad => by unfold World.cell?; rw [hW]
  have hownW : W.ownsRow base 5 1 v l.length (u8s l) := by
    have := World.ownsRow.alloc hown (.cells #[.int .u8 (b.toNat : Int)] 5)
    unfold World.ownsRow at this ⊢
    rw [hW]; exact this
  refine wp_append_own _ s x 40 ho base 5 i0 (.int .u8 0) 1 1 Try.underlying40 hi hz0 hz1 hz2 rfl (by decide) v l.length (u8s l) hs hownW ⟨wr.heap.size, 0, none⟩ 1 1 [.int .u8 (b.toNat : Int)] hx rfl ?_ ?_ (by unfold maxLen; omega) (by omega) (by omega) ?_
  · intro j u hj
    match j, hj with
    | 0, hj => simp at hj; subst hj; rw [hcell]; simp [Addr.add]
  · intro u hu; simp at hu; subst hu; rfl
  · intro v' w' h1 h2 _
    refine h v' w' ?_ ?_
    · have e : u8s (l ++ [b]) = u8s l ++ [.int .u8 (b.toNat : Int)] := by simp [u8s]
      unfold Ob
      rw [e, List.length_append]; exact h1
    · refine Below.grown (Below.refl _ _) h2 (by omega) ?_
      intro k hk
      rcases hown.2 with ⟨rfl, _⟩ | ⟨g, cap, cur, rfl, hb, _⟩
      · simp [Value.ownBlock] at hk
      · simp [Value.ownBlock] at hk; omega

theorem xorL_take_step (s t : ByteArray) (k : Nat) (hs : k < s.size) (ht : k < t.size) :
    xorL (s.data.toList.take (k + 1)) (t.data.toList.take (k + 1)) = xorL (s.data.toList.take k) (t.data.toList.take k) ++ [s[k] ^^^ t[k]] := by
  rw [take_snoc s k hs, take_snoc t k ht, xorL, xorL, List.zipWith_append (by rw [take_len s k (by omega), take_len t k (by omega)])]
  rfl

set_option maxHeartbeats 400000 in
theorem rxor_any (s t : ByteArray) (hs : s.size ≤ 1099511627776) (ht : t.size ≤ 1099511627776) (w : World) :
    Calls Try.prog 23 #[.string s, .string t] w fun e w' => e = .returned (.tuple #[.string (xorB s t), .int .i64 (xorE s t)]) ∧ Below w.heap.size w w' := by
  by_cases he : t.size = s.size
  · have hne : ((s.size : Int) != (t.size : Int)) = false := by rw [he]; simp
    have HE := Lib.hid he
    have hle : t.size ≤ s.size := by omega
    have hge : s.size ≤ t.size := by omega
    clear he
    go_enter Try.func23, Try.ntmps23
    go_wp2_with fail
    have hst := Ob.start w w.heap.size (Nat.le_refl _)
    have hbe := (Below.refl w.heap.size w).alloc (Nat.le_refl _) (.cells #[] 5)
    go_loopw [6, 7] (fun v i wr => ∃ k : Nat, k ≤ s.size ∧ i = .int .i64 k ∧ Ob wr w.heap.size v (xorL (s.data.toList.take k) (t.data.toList.take k)) ∧ Below w.heap.size w wr) (fun _ i _ => s.size - (intOf i).toNat)
    case atStart => exact ⟨0, Nat.zero_le _, rfl, hst, hbe⟩
    case round =>
      clear hst hbe
      obtain ⟨k, hk, rfl, hown, hbel⟩ := hrel
      by_cases hlt : k < s.size
      · have hlt2 : k < t.size := by omega
        have HS := Lib.hid (xorL_take_step s t k hlt hlt2)
        have HL : Hid ((xorL (s.data.toList.take k) (t.data.toList.take k)).length ≤ 1099511627776) := by
          show (xorL (s.data.toList.take k) (t.data.toList.take k)).length ≤ 1099511627776
          rw [xorL_len _ _ (by rw [take_len s k (by omega), take_len t k (by omega)]), take_len s k (by omega)]; omega
        go_wp2_with fail
        go_region_law (refine step_push wr _ rfl _ _ rfl w.heap.size _ (xorL (s.data.toList.take k) (t.data.toList.take k)) rfl rfl hown (s[k] ^^^ t[k]) (xor_num _ _) rfl HL.out hbel.size ?_; intro v' w1 hown' hb1)
        all_goals
          go_wp2
          go_roundw
          case rel => exact ⟨k + 1, by omega, by go_num, by rw [HS.out]; exact hown', (hbel.alloc hbel.size _).drew.trans hb1⟩
          case measure => simp [intOf]; omega
      · obtain rfl : k = s.size := by omega
        have ha := take_all t
        rw [HE.out] at ha
        rw [take_all, ha] at hown
        clear ha
        go_wp2_with (with_reducible refine wpList_ob_string _ rfl _ rfl hown rfl ?_)
        go_ret2
        exact ⟨ret_strnum (by rw [xorB, if_pos HE.out]) (by rw [xorE, if_pos HE.out]), hbel⟩
  · have hne : ((s.size : Int) != (t.size : Int)) = true := by simp; omega
    have HE := Lib.hid he
    clear he
    go_enter Try.func23, Try.ntmps23
    go_wp2
    go_ret2
    exact ⟨ret_strnum (by rw [xorB, if_neg HE.out]) (by rw [xorE, if_neg HE.out]), Below.refl _ _⟩

theorem fillMore_round (l n : Nat) (h : 1 ≤ n) : (-(l : Int)) % (n : Int) = ((fillMore l n : Nat) : Int) := by
  unfold fillMore
  have hlt := Nat.mod_lt l (show n > 0 by omega)
  have hd := Nat.div_add_mod l n
  split
  · rename_i h0
    have : (n : Int) ∣ -(l : Int) := by
      rw [Int.dvd_neg]; exact Int.natCast_dvd_natCast.2 (Nat.dvd_of_mod_eq_zero h0)
    rw [Int.emod_eq_zero_of_dvd this]; rfl
  · rename_i h0
    have e : -(l : Int) = ((n - l % n : Nat) : Int) + (n : Int) * (-((l / n : Nat) : Int) - 1) := by
      have h1 : (l : Int) = (n : Int) * ((l / n : Nat) : Int) + ((l % n : Nat) : Int) := by exact_mod_cast hd.symm
      have h2 : ((n - l % n : Nat) : Int) = (n : Int) - ((l % n : Nat) : Int) := by omega
      rw [h2, Int.mul_sub, Int.mul_neg]
      omega
    rw [e, Int.add_mul_emod_self_left]
    exact Int.emod_eq_of_lt (by omega) (by omega)

set_option maxHeartbeats 400000 in
theorem rfill_main (s : ByteArray) (n : Nat) (hs : s.size ≤ 1048576) (h1 : 1 ≤ n) (hn : n ≤ 1048576) (w : World) :
    Calls Try.prog 26 #[.string s, .int .i64 n] w fun e w' => e = .returned (.string (fillI s n)) ∧ Below w.heap.size w w' := by
  have hlt := fillMore_lt s.size n h1
  have hR := round_any (-(s.size : Int)) n (by omega) (by omega) (by omega) (by omega)
  rw [fillMore_round s.size n h1] at hR
  have HR := Lib.hid hR
  have HF := Lib.hid (fillI_pos s n h1)
  obtain ⟨i0, hi, hz0, hz1, hz2⟩ := info_parts Try.infoU8
  clear hR
  generalize fillMore s.size n = k at *
  go_enter Try.func26, Try.ntmps26
  go_wp2_with (first
    | (go_at_call 29; ((with_reducible refine (HR.out _).mono ?_); rintro e w' ⟨rfl, rfl⟩))
    | (at_make; refine wpList_make_full _ rfl _ _ 40 rfl w.heap.size 5 i0 (.int .u8 0) 1 Try.underlying40 hi hz0 hz1 _ _ _ _ k rfl rfl rfl rfl (by rw [hz2]; omega) (by unfold maxLen; omega) (Nat.le_refl _) ?_))
  intro w1 hown hgrow
  rw [u8s_zeros] at hown
  have hbel := (Below.refl w.heap.size w).grown hgrow (Nat.le_refl _) (by simp)
  have hback := conv_own hown
  clear hgrow
  go_wp2
  go_ret
  exact ⟨by rw [HF.out]; rfl, hbel⟩

theorem rfill_any (s : ByteArray) (n : Int) (hs : s.size ≤ 1048576) (hn : n ≤ 1048576) (w : World) :
    Calls Try.prog 26 #[.string s, .int .i64 n] w fun e w' => e = .returned (.string (fillI s n)) ∧ Below w.heap.size w w' := by
  by_cases h : n < 1
  · go_enter Try.func26, Try.ntmps26
    go_wp2
    go_ret
    exact ⟨by rw [fillI, if_pos h]; rfl, Below.refl _ _⟩
  · obtain ⟨m, rfl⟩ := Int.eq_ofNat_of_zero_le (show 0 ≤ n from by omega)
    exact rfill_main s m hs (by omega) (by omega) w
end Go.Proofs.Ytanaingknbjgdaa
