/- Contracts of the document's own answers of layer 1. -/
import Derived.Test.YtebhmcnocpblkaaDoorOct
import Derived.Deep.RegionLaw
namespace Go.Proofs.YtebhmcnocpblkaaDoor
open Go.RowKit

theorem round_any (n k : Int) (h0 : -9223372036854775808 ≤ n) (h : n ≤ 9223372036854775807) (hk : 1 ≤ k) (hk2 : k ≤ 4611686018427387904) (w : World) :
    Calls Tryd.prog 35 #[.int .i64 n, .int .i64 k] w fun e w' => e = .returned (.int .i64 (n % k)) ∧ w = w' := by
  have hk0 : (k == 0) = false := by simp; omega
  have hm : n.tmod k = n % k ∨ n.tmod k + k = n % k ∧ n.tmod k < 0 := by
    by_cases hn : 0 ≤ n
    · left; exact Int.tmod_eq_emod_of_nonneg hn
    · rw [Int.tmod_eq_emod]
      by_cases hd : k ∣ n
      · left; simp [hd]
      · right
        have hlt := Int.emod_lt_of_pos n (show 0 < k by omega)
        rw [if_neg (by simp [hd]; omega)]; omega
  have hl := Int.emod_nonneg n (show k ≠ 0 by omega)
  have hlt := Int.emod_lt_of_pos n (show 0 < k by omega)
  by_cases hn : 0 ≤ n
  · clear hm
    go_enter Tryd.func35, Tryd.ntmps35
    go_wp2
    go_ret
    exact ⟨rfl, rfl⟩
  · rcases hm with hm | ⟨hm, hneg⟩
    · have ht : 0 ≤ n.tmod k := by omega
      have HM := Lib.hid hm
      clear hm
      go_enter Tryd.func35, Tryd.ntmps35
      go_wp2
      go_ret
      exact ⟨ret_int HM.out, rfl⟩
    · have ht : -k ≤ n.tmod k := by omega
      have HM := Lib.hid hm
      clear hm
      go_enter Tryd.func35, Tryd.ntmps35
      go_wp2
      go_ret
      exact ⟨ret_int HM.out, rfl⟩

set_option maxHeartbeats 400000 in
theorem rleft_any (x : Nat) (hx : x < 4294967296) (n : Int) (h0 : -9223372036854775808 ≤ n) (h : n ≤ 9223372036854775807) (w : World) :
    Calls Tryd.prog 21 #[.int .u32 x, .int .i64 n] w fun e w' => e = .returned (.int .u32 (rotl x (n % 32).toNat : Nat)) ∧ w = w' := by
  have HR := Lib.hid (round_any n 32 h0 h (by decide) (by decide))
  obtain ⟨m, hm⟩ : ∃ m : Nat, n % 32 = (m : Int) := Int.eq_ofNat_of_zero_le (by omega)
  have hml : m < 32 := by omega
  rw [hm] at HR ⊢
  rw [Int.toNat_natCast]
  clear hm
  go_enter Tryd.func21, Tryd.ntmps21
  go_wp2_with fail
  go_loop [0, 5] (fun x' i => ∃ j : Nat, j ≤ m ∧ i = .int .i64 j ∧ x' = .int .u32 (rotl x j : Nat)) (fun _ i => m - (intOf i).toNat)
  case atStart => exact ⟨0, Nat.zero_le _, rfl, by rw [rotl_zero hx]⟩
  case round =>
    obtain ⟨j, hj, rfl, rfl⟩ := hrel
    by_cases hjm : j < m
    · have hlt := rotl_lt hx j
      have hs : rotl (rotl x j) 1 = rotl x (j + 1) := by rw [rotl_rotl hx (by omega) (by decide), Nat.mod_eq_of_lt (by omega)]
      rw [rotl_one hlt] at hs
      have HS := Lib.hid hs
      clear hs
      generalize rotl x j = y at *
      have hyi : (y : Int) < 4294967296 := by omega
      go_wp2_with (go_at_call 35; ((with_reducible refine (HR.out _).mono ?_); rintro e w' ⟨rfl, rfl⟩))
      go_round
      case rel => exact ⟨j + 1, by omega, by go_num, by rw [← HS.out]; go_num⟩
      case measure => simp [intOf]; omega
    · obtain rfl : j = m := by omega
      go_wp2_with (go_at_call 35; ((with_reducible refine (HR.out _).mono ?_); rintro e w' ⟨rfl, rfl⟩))
      go_ret
      exact ⟨rfl, rfl⟩

theorem lowL_step (x k : Nat) : ((x / 256 ^ k : Nat) : Int) % 256 = ((byteAt x k).toNat : Int) := by
  rw [byteAt, UInt8.toNat_ofNat', p256]
  omega

theorem wrap_div {y : Nat} (h : y < 18446744073709551616) : IntKind.u64.wrap ((y : Int) / 256) = ((y / 256 : Nat) : Int) := by
  rw [IntKind.wrap_u64]; omega

set_option maxHeartbeats 400000 in
theorem rlow_any (x : Nat) (hx : x < 18446744073709551616) (n : Int) (w : World) :
    Calls Tryd.prog 26 #[.int .u64 x, .int .i64 n] w fun e w' => e = .returned (.string ⟨(lowL x (toldN n)).toArray⟩) ∧ Below w.heap.size w w' := by
  have HX0 := Lib.hid hx
  clear hx
  go_enter Tryd.func26, Tryd.ntmps26
  go_wp2_with fail
  have hst := Ob.start w w.heap.size (Nat.le_refl _)
  have hbe := (Below.refl w.heap.size w).alloc (Nat.le_refl _) (.cells #[] 5)
  go_loopw [0, 5, 6] (fun x' v i wr => ∃ k : Nat, k ≤ toldN n ∧ i = .int .i64 k ∧ x' = .int .u64 (x / 256 ^ k : Nat) ∧ Ob wr w.heap.size v (lowL x k) ∧ Below w.heap.size w wr) (fun _ _ i _ => toldN n - (intOf i).toNat)
  case atStart => exact ⟨0, Nat.zero_le _, rfl, by simp, hst, hbe⟩
  case round =>
    clear hst hbe
    obtain ⟨k, hk, rfl, rfl, hown, hbel⟩ := hrel
    have hlk := lowL_len x k
    have hk64 := toldN_le n
    have hqs : x / 256 ^ k / 256 = x / 256 ^ (k + 1) := by rw [Nat.div_div_eq_div_mul, Nat.pow_succ]
    have HW := Lib.hid (wrap_div (Nat.lt_of_le_of_lt (Nat.div_le_self x (256 ^ k)) HX0.out))
    have hbt := lowL_step x k
    have HQ := Lib.hid hqs
    have HB := Lib.hid hbt
    have HL := Lib.hid hlk
    clear hqs hbt hlk
    by_cases hlt : k < toldN n
    · have d1 : (k : Int) < n := by unfold toldN at hlt; omega
      have d2 : k < 64 := by omega
      generalize x / 256 ^ k = y at *
      go_wp2_with (at_builtin; refine wpList_push wr rfl _ _ rfl w.heap.size _ (lowL x k) rfl rfl hown (byteAt x k) HB.out (by rw [HL.out]; omega) hbel.size ?_)
      intro v' w1 hown' hb1
      go_wp2
      go_roundw
      case rel => exact ⟨k + 1, by omega, by go_num, by rw [← HQ.out]; exact congrArg _ HW.out, by rw [lowL_succ]; exact hown', hbel.trans hb1⟩
      case measure => simp [intOf]; omega
    · obtain rfl : k = toldN n := by omega
      have d3 : ¬ ((toldN n : Int) < n ∧ (toldN n : Int) < 64) := by unfold toldN; omega
      by_cases d1 : ((toldN n : Nat) : Int) < n
      · have d2 : ¬ ((toldN n : Nat) : Int) < 64 := fun h => d3 ⟨d1, h⟩
        clear d3 HB HQ HL
        generalize hN : toldN n = N at *
        have HN := Lib.hid hN
        clear hN
        go_wp2_with (with_reducible refine wpList_ob_string _ rfl _ rfl hown rfl ?_)
        go_ret
        exact ⟨by rw [HN.out]; rfl, hbel⟩
      · clear d3 HB HQ HL
        generalize hN : toldN n = N at *
        have HN := Lib.hid hN
        clear hN
        go_wp2_with (with_reducible refine wpList_ob_string _ rfl _ rfl hown rfl ?_)
        go_ret
        exact ⟨by rw [HN.out]; rfl, hbel⟩


theorem take_rev_step (l : List UInt8) (k : Nat) (h : k < l.length) : l.reverse.take (k + 1) = l.reverse.take k ++ [l[l.length - 1 - k]] := by
  rw [List.take_succ_eq_append_getElem (by simpa using h)]
  simp [List.getElem_reverse]

set_option maxHeartbeats 400000 in
theorem turned_any (s : ByteArray) (hs : s.size ≤ 1099511627776) (w : World) :
    Calls Tryd.prog 39 #[.string s] w fun e w' => e = .returned (.string ⟨s.data.toList.reverse.toArray⟩) ∧ Below w.heap.size w w' := by
  go_enter Tryd.func39, Tryd.ntmps39
  go_wp2_with fail
  have hst := Ob.start w w.heap.size (Nat.le_refl _)
  have hbe := (Below.refl w.heap.size w).alloc (Nat.le_refl _) (.cells #[] 5)
  go_loopw [3, 4] (fun v i wr => ∃ k : Nat, k ≤ s.size ∧ i = .int .i64 k ∧ Ob wr w.heap.size v (s.data.toList.reverse.take k) ∧ Below w.heap.size w wr) (fun _ i _ => s.size - (intOf i).toNat)
  case atStart => exact ⟨0, Nat.zero_le _, rfl, hst, hbe⟩
  case round =>
    clear hst hbe
    obtain ⟨k, hk, rfl, hown, hbel⟩ := hrel
    have hlen : s.data.toList.length = s.size := by simp
    by_cases hlt : k < s.size
    · obtain ⟨j, hj⟩ : ∃ j, j = s.size - 1 - k := ⟨_, rfl⟩
      have hjs : j < s.size := by omega
      have e1 : (s.size : Int) - 1 - (k : Int) = (j : Int) := by omega
      have e2 : s.data.toList.reverse.take (k + 1) = s.data.toList.reverse.take k ++ [s[j]] := by
        rw [take_rev_step _ _ (by omega)]
        have : s.data.toList[s.data.toList.length - 1 - k]'(by omega) = s[j] := by
          subst hj
          simp [ByteArray.getElem_eq_getElem_data]
        rw [this]
      have HE := Lib.hid e2
      have HJ := Lib.hid hj
      have HL : Hid ((s.data.toList.reverse.take k).length ≤ 1099511627776) := by
        show (s.data.toList.reverse.take k).length ≤ 1099511627776
        rw [List.length_take, List.length_reverse]; omega
      clear e2 hlen hj
      go_wp2_with (at_builtin; refine wpList_push wr rfl _ _ rfl w.heap.size _ (s.data.toList.reverse.take k) rfl rfl hown (s[j]) rfl HL.out hbel.size ?_)
      intro v' w1 hown' hb1
      clear e1
      go_wp2
      go_roundw
      case rel => exact ⟨k + 1, by omega, by go_num, by rw [HE.out]; exact hown', hbel.trans hb1⟩
      case measure => simp [intOf]; omega
    · obtain rfl : k = s.size := by omega
      rw [List.take_of_length_le (by rw [List.length_reverse]; omega)] at hown
      clear hlen
      go_wp2_with (with_reducible refine wpList_ob_string _ rfl _ rfl hown rfl ?_)
      go_ret
      exact ⟨rfl, hbel⟩

theorem rhigh_step (s : ByteArray) (k : Nat) (hk : k < s.size) (h8 : s.size ≤ 8) :
    IntKind.u64.wrap (IntKind.u64.wrap (((numHigh (s.data.toList.take k) : Nat) : Int) * 256) + IntKind.u64.wrap (s[k].toNat : Int)) = ((numHigh (s.data.toList.take (k + 1)) : Nat) : Int) := by
  have hlen := take_len s k (by omega)
  have hlt := numHigh_lt (s.data.toList.take k)
  rw [hlen] at hlt
  have hb := s[k].toNat_lt
  have hp : 256 ^ (k + 1) ≤ 18446744073709551616 := p256_le (m := 8) (by omega)
  rw [Nat.pow_succ] at hp
  rw [wrap64_byte, IntKind.wrap_u64, IntKind.wrap_u64, take_snoc s k hk, numHigh_snoc]
  omega

set_option maxHeartbeats 400000 in
theorem rfromHigh_any (s : ByteArray) (hs : s.size ≤ 1099511627776) (w : World) :
    Calls Tryd.prog 38 #[.string s] w fun e w' => e = .returned (.tuple #[.int .u64 (fitNum s.size (numHigh s.data.toList) : Nat), .int .i64 (fitErr s.size)]) ∧ w = w' := by
  by_cases h8 : s.size ≤ 8
  · go_enter Tryd.func38, Tryd.ntmps38
    go_wp2
    go_loop [4, 5] (fun x i => ∃ k : Nat, k ≤ s.size ∧ i = .int .i64 k ∧ x = .int .u64 (numHigh (s.data.toList.take k) : Nat)) (fun _ i => s.size - (intOf i).toNat)
    case atStart => exact ⟨0, Nat.zero_le _, rfl, rfl⟩
    case round =>
      obtain ⟨k, hk, rfl, rfl⟩ := hrel
      by_cases hlt : k < s.size
      · have H := Lib.hid (rhigh_step s k hlt h8)
        go_wp2
        go_round
        case rel => exact ⟨k + 1, by omega, by go_num, congrArg _ H.out⟩
        case measure => simp [intOf]; omega
      · go_wp2
        go_ret2
        have : k = s.size := by omega
        subst this
        exact ⟨ret_pair (by rw [take_all, fitNum, if_pos h8]) (by rw [fitErr, if_pos h8]), rfl⟩
  · go_enter Tryd.func38, Tryd.ntmps38
    go_wp2
    go_ret2
    exact ⟨ret_pair (by rw [fitNum, if_neg h8]; rfl) (by rw [fitErr, if_neg h8]), rfl⟩

theorem rfromLow_any (s : ByteArray) (hs : s.size ≤ 1099511627776) (w : World) :
    Calls Tryd.prog 27 #[.string s] w fun e w' => e = .returned (.tuple #[.int .u64 (fitNum s.size (numLow s.data.toList) : Nat), .int .i64 (fitErr s.size)]) ∧ Below w.heap.size w w' := by
  have hbel := Below.refl w.heap.size w
  have HT := Lib.hid (turned_any s hs)
  have hz : (ByteArray.mk s.data.toList.reverse.toArray).size = s.size := by show s.data.toList.reverse.toArray.size = _; simp
  have hF := rfromHigh_any ⟨s.data.toList.reverse.toArray⟩ (by omega)
  rw [hz, show (ByteArray.mk s.data.toList.reverse.toArray).data.toList = s.data.toList.reverse from rfl, numHigh_reverse] at hF
  have HF := Lib.hid hF
  clear hF hz
  go_enter Tryd.func27, Tryd.ntmps27
  go_wp2_with (first
    | (go_at_call 38; ((with_reducible refine (HF.out _).mono ?_); rintro e w' ⟨rfl, rfl⟩))
    | (go_at_call 39; ((with_reducible refine (HT.out _).mono ?_); rintro e w' ⟨rfl, hb⟩; replace hbel := Below_next hbel hb; clear hb)))
  go_ret2
  exact ⟨rfl, hbel⟩


/-- 'append(out, b)' as one step of a region that draws its order. -/
theorem step_push {ops : Array Oper} {o : Oper} {a : Act} (wr W : World) {K : Act → World → Prop} {Q : Exit → Act → World → Prop} {E : Prop} {bv : Int}
    (hg : o.guard = none) (s x : Operand) (ho : o.op = .call { callee := .builtin .append, args := #[s, x], argTypes := #[38, 38] })
    (base : Nat) (v : Value) (l : List UInt8) (hs : a.eval s = v) (hx : a.eval x = .slice (some ⟨wr.heap.size, 0, none⟩) 1 1) (hown : Ob wr base v l) (b : UInt8) (hb : bv = (b.toNat : Int))
    (hW : W.heap = (wr.alloc (.cells #[.int .u8 bv] 5)).heap)
    (hlen : l.length ≤ 1099511627776) (hbase : base ≤ wr.heap.size)
    (h : ∀ v' w', Ob w' base v' (l ++ [b]) → Below base W w' → K (a.put o.dst v') w') :
    if Region.wanted o (yielded ops a.tmps) = true then Oper.wp Tryd.prog o a W K Q else E := by
  have hw : Region.wanted o (yielded ops a.tmps) = true := by simp [Region.wanted, hg]
  rw [if_pos hw]
  subst hb
  obtain ⟨i0, hi, hz0, hz1, hz2⟩ := info_parts Tryd.infoU8
  have hsz : W.heap.size = wr.heap.size + 1 := by rw [hW]; show (wr.heap.push _).size = _; simp
  have hcell : ∀ ad, W.cell? ad = (wr.alloc (.cells #[.int .u8 (b.toNat : Int)] 5)).cell? ad := fun ad => by unfold World.cell?; rw [hW]
  have hownW : W.ownsRow base 5 1 v l.length (u8s l) := by
    have := World.ownsRow.alloc hown (.cells #[.int .u8 (b.toNat : Int)] 5)
    unfold World.ownsRow at this ⊢
    rw [hW]; exact this
  refine wp_append_own _ s x 38 ho base 5 i0 (.int .u8 0) 1 1 Tryd.underlying38 hi hz0 hz1 hz2 rfl (by decide) v l.length (u8s l) hs hownW ⟨wr.heap.size, 0, none⟩ 1 1 [.int .u8 (b.toNat : Int)] hx rfl ?_ ?_ (by unfold maxLen; omega) (by omega) (by omega) ?_
  · intro j u hj
    match j, hj with
    | 0, hj => simp at hj; subst hj; rw [hcell]; simp [Addr.add]
  · intro u hu; simp at hu; subst hu; rfl
  · intro v' w' h1 h2 _
    refine h v' w' ?_ ?_
    · have e : u8s (l ++ [b]) = u8s l ++ [.int .u8 (b.toNat : Int)] := by simp [u8s]
      unfold Ob
      rw [e, List.length_append]; exact h1
    · refine Below.grown (Below.refl _ _) h2 (by omega) ?_
      intro k hk
      rcases hown.2 with ⟨rfl, _⟩ | ⟨g, cap, cur, rfl, hb, _⟩
      · simp [Value.ownBlock] at hk
      · simp [Value.ownBlock] at hk; omega

theorem xorL_take_step (s t : ByteArray) (k : Nat) (hs : k < s.size) (ht : k < t.size) :
    xorL (s.data.toList.take (k + 1)) (t.data.toList.take (k + 1)) = xorL (s.data.toList.take k) (t.data.toList.take k) ++ [s[k] ^^^ t[k]] := by
  rw [take_snoc s k hs, take_snoc t k ht, xorL, xorL, List.zipWith_append (by rw [take_len s k (by omega), take_len t k (by omega)])]
  rfl

set_option maxHeartbeats 400000 in
theorem rxor_any (s t : ByteArray) (hs : s.size ≤ 1099511627776) (_ : t.size ≤ 1099511627776) (w : World) :
    Calls Tryd.prog 33 #[.string s, .string t] w fun e w' => e = .returned (.tuple #[.string (xorB s t), .int .i64 (xorE s t)]) ∧ Below w.heap.size w w' := by
  by_cases he : t.size = s.size
  · have hne : ((s.size : Int) != (t.size : Int)) = false := by rw [he]; simp
    have HE := Lib.hid he
    have hle : t.size ≤ s.size := by omega
    have hge : s.size ≤ t.size := by omega
    clear he
    go_enter Tryd.func33, Tryd.ntmps33
    go_wp2_with fail
    have hst := Ob.start w w.heap.size (Nat.le_refl _)
    have hbe := (Below.refl w.heap.size w).alloc (Nat.le_refl _) (.cells #[] 5)
    go_loopw [6, 7] (fun v i wr => ∃ k : Nat, k ≤ s.size ∧ i = .int .i64 k ∧ Ob wr w.heap.size v (xorL (s.data.toList.take k) (t.data.toList.take k)) ∧ Below w.heap.size w wr) (fun _ i _ => s.size - (intOf i).toNat)
    case atStart => exact ⟨0, Nat.zero_le _, rfl, hst, hbe⟩
    case round =>
      clear hst hbe
      obtain ⟨k, hk, rfl, hown, hbel⟩ := hrel
      by_cases hlt : k < s.size
      · have hlt2 : k < t.size := by omega
        have HS := Lib.hid (xorL_take_step s t k hlt hlt2)
        have HL : Hid ((xorL (s.data.toList.take k) (t.data.toList.take k)).length ≤ 1099511627776) := by
          show (xorL (s.data.toList.take k) (t.data.toList.take k)).length ≤ 1099511627776
          rw [xorL_len _ _ (by rw [take_len s k (by omega), take_len t k (by omega)]), take_len s k (by omega)]; omega
        go_wp2_with fail
        go_region_law (refine step_push wr _ rfl _ _ rfl w.heap.size _ (xorL (s.data.toList.take k) (t.data.toList.take k)) rfl rfl hown (s[k] ^^^ t[k]) (xor_num _ _) rfl HL.out hbel.size ?_; intro v' w1 hown' hb1)
        all_goals
          go_wp2
          go_roundw
          case rel => exact ⟨k + 1, by omega, by go_num, by rw [HS.out]; exact hown', (hbel.alloc hbel.size _).drew.trans hb1⟩
          case measure => simp [intOf]; omega
      · obtain rfl : k = s.size := by omega
        have ha := take_all t
        rw [HE.out] at ha
        rw [take_all, ha] at hown
        clear ha
        go_wp2_with (with_reducible refine wpList_ob_string _ rfl _ rfl hown rfl ?_)
        go_ret2
        exact ⟨ret_strnum (by rw [xorB, if_pos HE.out]) (by rw [xorE, if_pos HE.out]), hbel⟩
  · have hne : ((s.size : Int) != (t.size : Int)) = true := by simp; omega
    have HE := Lib.hid he
    clear he
    go_enter Tryd.func33, Tryd.ntmps33
    go_wp2
    go_ret2
    exact ⟨ret_strnum (by rw [xorB, if_neg HE.out]) (by rw [xorE, if_neg HE.out]), Below.refl _ _⟩

theorem fillMore_round (l n : Nat) (h : 1 ≤ n) : (-(l : Int)) % (n : Int) = ((fillMore l n : Nat) : Int) := by
  unfold fillMore
  have hlt := Nat.mod_lt l (show n > 0 by omega)
  have hd := Nat.div_add_mod l n
  split
  · rename_i h0
    have : (n : Int) ∣ -(l : Int) := by
      rw [Int.dvd_neg]; exact Int.natCast_dvd_natCast.2 (Nat.dvd_of_mod_eq_zero h0)
    rw [Int.emod_eq_zero_of_dvd this]; rfl
  · rename_i h0
    have e : -(l : Int) = ((n - l % n : Nat) : Int) + (n : Int) * (-((l / n : Nat) : Int) - 1) := by
      have h1 : (l : Int) = (n : Int) * ((l / n : Nat) : Int) + ((l % n : Nat) : Int) := by exact_mod_cast hd.symm
      have h2 : ((n - l % n : Nat) : Int) = (n : Int) - ((l % n : Nat) : Int) := by omega
      rw [h2, Int.mul_sub, Int.mul_neg]
      omega
    rw [e, Int.add_mul_emod_self_left]
    exact Int.emod_eq_of_lt (by omega) (by omega)

end Go.Proofs.YtebhmcnocpblkaaDoor
