/- The document's own layer 9: letters, signs, small letters. The document's own layer 9: is, domainAt, split. The document's own layer 9: Small, split. The document's own layer 9: split. The document's own layer 9: Local, Domain. The document's own layer 9: Domain. The document's own layer 9: Plain. The document's own layer 9: May, Write, Path. -/
import Derived.Test.YtahbbnimoogapaaGreatDoorME
import Derived.Test.YtahbbnimoogapaaGreatDoorOs
import Derived.Deep.RegionHeld3
namespace Go.Proofs.YtahbbnimoogapaaGreatDoor
open Go.RowKit

theorem letB_nat (c : UInt8) : letB c = decide ((97 ≤ c.toNat ∧ c.toNat ≤ 122) ∨ (65 ≤ c.toNat ∧ c.toNat ≤ 90) ∨ (48 ≤ c.toNat ∧ c.toNat ≤ 57)) := by
  simp only [letB, UInt8.le_iff_toNat_le, Bool.decide_or, Bool.decide_and, Bool.or_assoc]
  rfl
theorem ret_bool {a b : Bool} (h : a = b) : Ending.returned (.bool a) = .returned (.bool b) := by rw [h]
theorem rletter_any (c : UInt8) (w : World) :
    Calls Tryz.prog 59 #[.int .u8 (c.toNat : Int)] w fun e w' => e = .returned (.bool (letB c)) ∧ w = w' := by
  rw [letB_nat]
  obtain ⟨B, hB⟩ : ∃ B, B = decide ((97 ≤ c.toNat ∧ c.toNat ≤ 122) ∨ (65 ≤ c.toNat ∧ c.toNat ≤ 90) ∨ (48 ≤ c.toNat ∧ c.toNat ≤ 57)) := ⟨_, rfl⟩
  rw [← hB]
  have HB := Lib.hid hB
  clear hB
  generalize c.toNat = n at *
  go_enter Tryz.func59, Tryz.ntmps59
  go_wp2
  all_goals
    go_ret
    refine ⟨ret_bool ?_, rfl⟩
    rw [HB.out]
    clear HB
    apply Bool.eq_iff_iff.2
    simp only [Bool.or_eq_true, decide_eq_true_eq, true_iff, Bool.false_eq_true, false_iff]
    omega

theorem sig_find (c : UInt8) : sigB c = true ↔ ∃ k : Nat, signS[k]? = some c := by
  rw [sigB, List.contains_iff_mem, List.mem_iff_getElem?]
def signT : ByteArray := ⟨#[33, 35, 36, 37, 38, 39, 42, 43, 45, 47, 61, 63, 94, 95, 96, 123, 124, 125, 126]⟩
theorem sign_at {k : Nat} (h : k < signT.size) : signS[k]? = some signT[k] := by
  have : signT.data.toList = signS := rfl
  rw [← this, byte_at h]
set_option maxHeartbeats 1000000 in
set_option maxRecDepth 100000 in
theorem rsign_any (c : UInt8) (w : World) :
    Calls Tryz.prog 119 #[.int .u8 (c.toNat : Int)] w fun e w' => e = .returned (.bool (sigB c)) ∧ w = w' := by
  have HS := Lib.hid (show (⟨#[33, 35, 36, 37, 38, 39, 42, 43, 45, 47, 61, 63, 94, 95, 96, 123, 124, 125, 126]⟩ : ByteArray) = signT from rfl)
  have hsz : signT.size = 19 := rfl
  have HA := Lib.hid (fun k (h : k < signT.size) => sign_at h)
  have HF := Lib.hid (sig_find c)
  generalize sigB c = B at *
  go_enter Tryz.func119, Tryz.ntmps119
  go_wp2
  rw [HS.out]
  generalize signT = T at *
  clear HS
  go_loopw [4] (fun i wr => ∃ k : Nat, i = .int .i64 (k : Int) ∧ k ≤ T.size ∧ (∀ j, j < k → signS[j]? ≠ some c) ∧ w = wr) (fun i _ => 20 - (intOf i).toNat)
  case atStart => exact ⟨0, rfl, Nat.zero_le _, fun j hj => absurd hj (by omega), rfl⟩
  case round =>
    obtain ⟨k, rfl, hk, hno, rfl⟩ := hrel
    have HNo := Lib.hid hno
    clear hno
    have hk0 : (0 : Int) ≤ (k : Int) := by omega
    by_cases hlt : k < T.size
    · have hli : (k : Int) < (T.size : Int) := by omega
      have hat := HA.out k hlt
      by_cases he : T[k] = c
      · have q : ((T[k].toNat : Int) == (c.toNat : Int)) = true := by rw [he]; simp
        have HB := Lib.hid (HF.out.2 ⟨k, by rw [hat, he]⟩)
        clear hat HF he
        go_wp2
        go_ret
        exact ⟨by rw [HB.out]; rfl, rfl⟩
      · have q : ((T[k].toNat : Int) == (c.toNat : Int)) = false := beq_false_of_ne fun e => he (UInt8.toNat_inj.1 (by omega))
        have HN2 := Lib.hid (show ∀ j, j < k + 1 → signS[j]? ≠ some c from fun j hj => by
          by_cases hjk : j = k
          · subst hjk; rw [hat]; exact fun e => he (Option.some.inj e)
          · exact HNo.out j (by omega))
        clear hat he HNo
        go_wp2
        go_roundw
        case rel => exact ⟨k + 1, by go_num, by omega, HN2.out, trivial⟩
        case measure => simp only [intOf]; omega
    · have hli : ¬ (k : Int) < (T.size : Int) := by omega
      have hB : B = false := Bool.eq_false_iff.2 fun h => by
        obtain ⟨j, hj⟩ := HF.out.1 h
        have hj19 : j < 19 := (List.getElem?_eq_some_iff.1 hj).1
        exact HNo.out j (by omega) hj
      have HB := Lib.hid hB
      clear hB HF HNo
      go_wp2
      go_ret
      exact ⟨by rw [HB.out]; rfl, rfl⟩
end Go.Proofs.YtahbbnimoogapaaGreatDoor
namespace Go.Proofs.YtahbbnimoogapaaGreatDoor
open Go.RowKit

theorem byte_int {a b : UInt8} : ((a.toNat : Int) == (b.toNat : Int)) = decide (a = b) := by
  by_cases h : a = b
  · rw [h, decide_eq_true rfl]; simp
  · rw [decide_eq_false h]; exact beq_false_of_ne fun e => h (UInt8.toNat_inj.1 (by omega))
/-- Does a byte stand at a place? -/
theorem ris_any (s : ByteArray) (i : Nat) (c : UInt8) (w : World) :
    Calls Tryz.prog 82 #[.string s, .int .i64 (i : Int), .int .u8 (c.toNat : Int)] w fun e w' => e = .returned (.bool (decide (s.data.toList[i]? = some c))) ∧ w = w' := by
  by_cases hi : i < s.size
  · have hli : (i : Int) < (s.size : Int) := by omega
    have hi0 : (0 : Int) ≤ (i : Int) := by omega
    have q := byte_int (a := s[i]) (b := c)
    have HB := Lib.hid (show decide (s.data.toList[i]? = some c) = decide (s[i] = c) by rw [byte_at hi]; simp)
    rw [HB.out]
    generalize decide (s[i] = c) = B at *
    clear HB
    go_enter Tryz.func82, Tryz.ntmps82
    go_wp2
    go_ret
    exact ⟨rfl, rfl⟩
  · have hli : ¬ (i : Int) < (s.size : Int) := by omega
    have HB : decide (s.data.toList[i]? = some c) = false := decide_eq_false fun e => hi (by have := (List.getElem?_eq_some_iff.1 e).1; simpa using this)
    rw [HB]
    clear HB
    go_enter Tryz.func82, Tryz.ntmps82
    go_wp2
    go_ret
    exact ⟨rfl, rfl⟩

theorem tw_step {p : UInt8 → Bool} {l : List UInt8} {i n : Nat} {c : UInt8} (hc : l[i + n]? = some c) (hp : p c = true) (hn : n ≤ ((l.drop i).takeWhile p).length) : n + 1 ≤ ((l.drop i).takeWhile p).length := by
  have e := List.takeWhile_append_dropWhile (p := p) (l := l.drop i)
  rcases Nat.lt_or_ge n ((l.drop i).takeWhile p).length with h | h
  · omega
  · exfalso
    have hn2 : n = ((l.drop i).takeWhile p).length := by omega
    have h1 : (l.drop i)[n]? = some c := by rw [List.getElem?_drop]; exact hc
    rw [← e, List.getElem?_append_right (by omega), hn2, Nat.sub_self] at h1
    cases hd : (l.drop i).dropWhile p with
    | nil => rw [hd] at h1; cases h1
    | cons b r =>
      have := List.head?_dropWhile_not p (l.drop i)
      rw [hd] at h1 this
      simp at h1 this
      rw [h1, hp] at this
      cases this
theorem tw_end {p : UInt8 → Bool} {l : List UInt8} {i n : Nat} (hn : n ≤ ((l.drop i).takeWhile p).length) (h : l[i + n]? = none ∨ ∃ c, l[i + n]? = some c ∧ p c = false) : n = ((l.drop i).takeWhile p).length := by
  rcases Nat.lt_or_ge n ((l.drop i).takeWhile p).length with hlt | hge
  · exfalso
    have e := List.takeWhile_append_dropWhile (p := p) (l := l.drop i)
    have h1 : ((l.drop i).takeWhile p)[n]? = l[i + n]? := by
      conv => rhs; rw [← List.getElem?_drop, ← e, List.getElem?_append_left hlt]
    rw [List.getElem?_eq_getElem hlt] at h1
    have h2 : p (((l.drop i).takeWhile p)[n]) = true := List.all_eq_true.1 (List.all_takeWhile (p := p) (l := l.drop i)) _ (List.getElem_mem _)
    rcases h with h | ⟨c, hc, hp⟩
    · rw [h] at h1; cases h1
    · rw [hc] at h1
      injection h1 with h1
      rw [h1, hp] at h2
      cases h2
  · omega
theorem tw_step' {p : UInt8 → Bool} {l : List UInt8} {i n j : Nat} {c : UInt8} (hj : j = i + n) (hc : l[j]? = some c) (hp : p c = true) (hn : n ≤ ((l.drop i).takeWhile p).length) : n + 1 ≤ ((l.drop i).takeWhile p).length := by
  subst hj
  exact tw_step hc hp hn
theorem tw_end' {p : UInt8 → Bool} {l : List UInt8} {i n j : Nat} (hj : j = i + n) (hn : n ≤ ((l.drop i).takeWhile p).length) (h : l[j]? = none ∨ ∃ c, l[j]? = some c ∧ p c = false) : n = ((l.drop i).takeWhile p).length := by
  subst hj
  exact tw_end hn h
/-- How many of a domain's bytes stand at a place. -/
def domN (l : List UInt8) (i : Nat) : Nat := ((l.drop i).takeWhile dcB).length
theorem domN_le (l : List UInt8) (i : Nat) : domN l i ≤ l.length - i := by
  have := (List.takeWhile_prefix (l := l.drop i) dcB).length_le
  rwa [List.length_drop] at this

set_option maxHeartbeats 1000000 in
set_option maxRecDepth 100000 in
theorem rdomAt_any (s : ByteArray) (hs : s.size ≤ 1048576) (i : Nat) (hi : i ≤ s.size) (w : World) :
    Calls Tryz.prog 85 #[.string s, .int .i64 (i : Int)] w fun e w' => e = .returned (.int .i64 ((domN s.data.toList i : Nat) : Int)) ∧ w = w' := by
  have HL := Lib.hid (fun c w => rletter_any c w)
  have HAt := Lib.hid (fun k (h : k < s.size) => byte_at (s := s) h)
  have hll : s.data.toList.length = s.size := by simp
  have HN := Lib.hid (show domN s.data.toList i = ((s.data.toList.drop i).takeWhile dcB).length from rfl)
  generalize hl : s.data.toList = l at *
  generalize domN l i = D at *
  clear hl
  go_enter Tryz.func85, Tryz.ntmps85
  go_wp2
  go_loopw [5] (fun n wr => ∃ k : Nat, n = .int .i64 (k : Int) ∧ i + k ≤ s.size ∧ k ≤ ((l.drop i).takeWhile dcB).length ∧ w = wr) (fun n _ => 1048577 - (intOf n).toNat)
  case atStart => exact ⟨0, rfl, by omega, Nat.zero_le _, rfl⟩
  case round =>
    obtain ⟨k, rfl, hk, hkn, rfl⟩ := hrel
    have HKN := Lib.hid hkn
    clear hkn
    have hk0 : (0 : Int) ≤ (k : Int) := by omega
    have hi0 : (0 : Int) ≤ (i : Int) := by omega
    obtain ⟨j, hj⟩ : ∃ j, j = i + k := ⟨_, rfl⟩
    have hji : (i : Int) + (k : Int) = (j : Int) := by omega
    have hjs : j ≤ s.size := by omega
    have HJ := Lib.hid hj
    have hj0 : (0 : Int) ≤ (j : Int) := by omega
    by_cases hlt : j < s.size
    · have hli : (j : Int) < (s.size : Int) := by omega
      have hat := HAt.out j hlt
      have hL := HL.out s[j]
      obtain ⟨c, hc⟩ : ∃ c, c = s[j] := ⟨_, rfl⟩
      have q45 := byte_int (a := s[j]) (b := 45)
      have q46 := byte_int (a := s[j]) (b := 46)
      rw [show (((45 : UInt8).toNat : Nat) : Int) = 45 from rfl] at q45
      rw [show (((46 : UInt8).toNat : Nat) : Int) = 46 from rfl] at q46
      rw [← hc] at hat
      by_cases h1 : letB c = true
      · have HLt := Lib.hid hL
        rw [← hc, h1, hc] at HLt
        have HK2 := Lib.hid (tw_step' (p := dcB) hj hat (by rw [dcB, h1]; rfl) HKN.out)
        clear hat h1 hj hk hL q45 q46 hc
        go_wp2_with (first
          | (go_at_call 59; (with_reducible refine (HLt.out _).mono ?_); rintro e w1 ⟨rfl, rfl⟩))
        go_roundw
        case rel => exact ⟨k + 1, by go_num, by have := HJ.out; omega, HK2.out, trivial⟩
        case measure => simp only [intOf]; have := HJ.out; omega
      · have h1f : letB c = false := Bool.eq_false_iff.2 h1
        have HLf := Lib.hid hL
        rw [← hc, h1f, hc] at HLf
        by_cases h45 : c = 45
        · rw [← hc, decide_eq_true h45, hc] at q45
          have HK2 := Lib.hid (tw_step' (p := dcB) hj hat (by rw [h45]; decide) HKN.out)
          clear hat h1 hj hk hL q46 hc h45 h1f
          go_wp2_with (first
            | (go_at_call 59; (with_reducible refine (HLf.out _).mono ?_); rintro e w1 ⟨rfl, rfl⟩))
          go_roundw
          case rel => exact ⟨k + 1, by go_num, by have := HJ.out; omega, HK2.out, trivial⟩
          case measure => simp only [intOf]; have := HJ.out; omega
        · rw [← hc, decide_eq_false h45, hc] at q45
          by_cases h46 : c = 46
          · rw [← hc, decide_eq_true h46, hc] at q46
            have HK2 := Lib.hid (tw_step' (p := dcB) hj hat (by rw [h46]; decide) HKN.out)
            clear hat h1 hj hk hL hc h45 h1f h46
            go_wp2_with (first
              | (go_at_call 59; (with_reducible refine (HLf.out _).mono ?_); rintro e w1 ⟨rfl, rfl⟩))
            go_roundw
            case rel => exact ⟨k + 1, by go_num, by have := HJ.out; omega, HK2.out, trivial⟩
            case measure => simp only [intOf]; have := HJ.out; omega
          · rw [← hc, decide_eq_false h46, hc] at q46
            have hend := tw_end' (p := dcB) hj HKN.out (.inr ⟨c, hat, by rw [dcB, h1f]; simp [h45, h46]⟩)
            have HD := Lib.hid (show D = k by rw [HN.out, hend])
            clear hat h1 hj hk hL hc h45 h1f h46 hend
            go_wp2_with (first
              | (go_at_call 59; (with_reducible refine (HLf.out _).mono ?_); rintro e w1 ⟨rfl, rfl⟩))
            go_ret
            exact ⟨by rw [HD.out]; rfl, rfl⟩
    · have hli : ¬ (j : Int) < (s.size : Int) := by omega
      have hend := tw_end' (p := dcB) hj HKN.out (.inl (List.getElem?_eq_none (by omega)))
      have HD := Lib.hid (show D = k by rw [HN.out, hend])
      clear hj hk hend
      go_wp2
      go_ret
      exact ⟨by rw [HD.out]; rfl, rfl⟩
end Go.Proofs.YtahbbnimoogapaaGreatDoor
namespace Go.Proofs.YtahbbnimoogapaaGreatDoor
open Go.RowKit

/-- 'append(out, b)' of a byte: the row's fact first. -/
theorem wpList_push2 (wr : World) {ops : Array Oper} {rest : List Oper} {o : Oper} {a : Act} {Q : Exit → Act → World → Prop} {bv : Int} {base : Nat} {v : Value} {l : List UInt8} (hown : Ob wr base v l)
    (hgd : o.guard = none) (s x : Operand) (ho : o.op = .call { callee := .builtin .append, args := #[s, x], argTypes := #[59, 59] })
    (hs : a.eval s = v) (hx : a.eval x = .slice (some ⟨wr.heap.size, 0, none⟩) 1 1) (b : UInt8) (hb : bv = (b.toNat : Int))
    (hlen : l.length ≤ 1099511627776) (hbase : base ≤ wr.heap.size)
    (h : ∀ v' w', Ob w' base v' (l ++ [b]) → Below base wr w' → wpList Tryz.prog ops Q rest (a.put o.dst v') w') :
    wpList Tryz.prog ops Q (o :: rest) a (wr.alloc (.cells #[.int .u8 bv] 5)) := wpList_push wr hgd s x ho base v l hs hx hown b hb hlen hbase h
theorem smB_yes {c : UInt8} (h : 65 ≤ c.toNat ∧ c.toNat ≤ 90) : ((smB c).toNat : Int) = (c.toNat : Int) + 32 := by
  have h1 : (65 : UInt8) ≤ c := UInt8.le_iff_toNat_le.2 h.1
  have h2 : c ≤ (90 : UInt8) := UInt8.le_iff_toNat_le.2 h.2
  rw [smB, if_pos ⟨h1, h2⟩, UInt8.toNat_add]
  have : (32 : UInt8).toNat = 32 := rfl
  rw [this]
  omega
theorem smB_no {c : UInt8} (h : ¬ (65 ≤ c.toNat ∧ c.toNat ≤ 90)) : smB c = c := by
  rw [smB, if_neg]
  rintro ⟨h1, h2⟩
  exact h ⟨UInt8.le_iff_toNat_le.1 h1, UInt8.le_iff_toNat_le.1 h2⟩
theorem take_one {l : List UInt8} {k : Nat} {c : UInt8} (h : l[k]? = some c) : l.take (k + 1) = l.take k ++ [c] := by
  rw [List.take_add_one, h]; rfl

set_option maxHeartbeats 1000000 in
set_option maxRecDepth 100000 in
theorem rsmall_any (s : ByteArray) (hs : s.size ≤ 1048576) (w : World) :
    Calls Tryz.prog 60 #[.string s] w fun e w' => e = .returned (.string (ba (smL s.data.toList))) ∧ Below w.heap.size w w' := by
  have HAt := Lib.hid (fun k (h : k < s.size) => byte_at (s := s) h)
  have hll : s.data.toList.length = s.size := by simp
  generalize s.data.toList = l at *
  have h0 := Lib.hid ((Below.refl w.heap.size w).alloc (Nat.le_refl _) (.cells #[] 5))
  go_enter Tryz.func60, Tryz.ntmps60
  go_wp2
  go_loopw [3, 4] (fun o i wr => ∃ k : Nat, i = .int .i64 (k : Int) ∧ k ≤ s.size ∧ Ob wr w.heap.size o (smL (l.take k)) ∧ Below w.heap.size w wr) (fun _ i _ => 1048577 - (intOf i).toNat)
  case atStart => exact ⟨0, rfl, Nat.zero_le _, Ob.start w _ (Nat.le_refl _), h0.out⟩
  case round =>
    clear h0
    obtain ⟨k, rfl, hk, hown, hbel⟩ := hrel
    have HOw := Lib.hid hown
    clear hown
    by_cases hlt : k < s.size
    · have hli : (k : Int) < (s.size : Int) := by omega
      have hk0 : (0 : Int) ≤ (k : Int) := by omega
      have hat := HAt.out k hlt
      have HT := Lib.hid (show smL (l.take (k + 1)) = smL (l.take k) ++ [smB s[k]] by rw [take_one hat, smL, List.map_append]; rfl)
      have hlen : (smL (l.take k)).length ≤ 1048576 := by rw [sm_len, List.length_take]; omega
      have HL := Lib.hid hlen
      clear hat hlen
      have hc255 : s[k].toNat < 256 := s[k].toNat_lt
      by_cases hc : 65 ≤ s[k].toNat ∧ s[k].toNat ≤ 90
      · have HS := Lib.hid (smB_yes hc)
        have b1 : (65 : Int) ≤ (s[k].toNat : Int) := by omega
        have b2 : (s[k].toNat : Int) ≤ 90 := by omega
        clear hc
        go_wp2_with (first
          | (at_builtin; refine wpList_push2 wr HOw.out rfl _ _ rfl rfl rfl (smB s[k]) (by rw [HS.out]) (by have := HL.out; omega) hbel.size ?_; intro v' w5 h5 hb5; rw [← HT.out] at h5))
        go_roundw
        case rel => exact ⟨k + 1, by go_num, by omega, h5, hbel.trans hb5⟩
        case measure => simp only [intOf]; omega
      · have HS := Lib.hid (smB_no hc)
        rw [HS.out] at HT
        by_cases h65 : 65 ≤ s[k].toNat
        · have b1 : (65 : Int) ≤ (s[k].toNat : Int) := by omega
          have b2 : ¬ (s[k].toNat : Int) ≤ 90 := by omega
          clear hc h65
          go_wp2_with (first
            | (at_builtin; refine wpList_push2 wr HOw.out rfl _ _ rfl rfl rfl s[k] rfl (by have := HL.out; omega) hbel.size ?_; intro v' w5 h5 hb5; rw [← HT.out] at h5))
          go_roundw
          case rel => exact ⟨k + 1, by go_num, by omega, h5, hbel.trans hb5⟩
          case measure => simp only [intOf]; omega
        · have b1 : ¬ (65 : Int) ≤ (s[k].toNat : Int) := by omega
          clear hc h65
          go_wp2_with (first
            | (at_builtin; refine wpList_push2 wr HOw.out rfl _ _ rfl rfl rfl s[k] rfl (by have := HL.out; omega) hbel.size ?_; intro v' w5 h5 hb5; rw [← HT.out] at h5))
          go_roundw
          case rel => exact ⟨k + 1, by go_num, by omega, h5, hbel.trans hb5⟩
          case measure => simp only [intOf]; omega
    · have hli : ¬ (k : Int) < (s.size : Int) := by omega
      rw [List.take_of_length_le (by omega)] at HOw
      go_wp2_with (first
        | (refine wpList_ob_string wr rfl _ rfl HOw.out rfl ?_))
      go_ret
      exact ⟨rfl, hbel⟩
end Go.Proofs.YtahbbnimoogapaaGreatDoor
namespace Go.Proofs.YtahbbnimoogapaaGreatDoor
open Go.RowKit

theorem parts_cut : ∀ (n : Nat) (m : List UInt8), m[n]? = some 46 → (∀ j, j < n → m[j]? ≠ some 46) → partsL m = m.take n :: partsL (m.drop (n + 1))
  | n, [], h, _ => by cases n <;> cases h
  | 0, b :: m, h, _ => by
    simp only [List.getElem?_cons_zero, Option.some.injEq] at h
    rw [partsL, if_pos h]
    rfl
  | n + 1, b :: m, h, hno => by
    have hb : ¬ b = 46 := fun e => hno 0 (by omega) (by rw [List.getElem?_cons_zero, e])
    have ih := parts_cut n m (by simpa using h) (fun j hj e => hno (j + 1) (by omega) (by rw [List.getElem?_cons_succ]; exact e))
    rw [partsL, if_neg hb, ih]
    rfl
theorem parts_one : ∀ (m : List UInt8), (∀ j : Nat, m[j]? ≠ some 46) → partsL m = [m]
  | [], _ => rfl
  | b :: m, hno => by
    have hb : ¬ b = 46 := fun e => hno 0 (by rw [List.getElem?_cons_zero, e])
    rw [partsL, if_neg hb, parts_one m fun j e => hno (j + 1) (by rw [List.getElem?_cons_succ]; exact e)]
theorem parts_step {l : List UInt8} {f k : Nat} (hf : f ≤ k) (he : l[k]? = some 46) (hno : ∀ j, f ≤ j → j < k → l[j]? ≠ some 46) : partsL (l.drop f) = (l.drop f).take (k - f) :: partsL (l.drop (k + 1)) := by
  have := parts_cut (k - f) (l.drop f) (by rw [List.getElem?_drop, show f + (k - f) = k by omega]; exact he) (fun j hj => by rw [List.getElem?_drop]; exact hno _ (by omega) (by omega))
  rw [this, List.drop_drop, show f + (k - f + 1) = k + 1 by omega]
theorem parts_last {l : List UInt8} {f : Nat} (hno : ∀ j, f ≤ j → j < l.length → l[j]? ≠ some 46) : partsL (l.drop f) = [l.drop f] :=
  parts_one _ fun j e => by
    rw [List.getElem?_drop] at e
    exact hno (f + j) (by omega) (List.getElem?_eq_some_iff.1 e).1 e

set_option maxHeartbeats 1000000 in
set_option maxRecDepth 100000 in
theorem rparts_any (s : ByteArray) (hs : s.size ≤ 1048576) (w : World) :
    Calls Tryz.prog 58 #[.string s] w fun e w' => ∃ (a : Option Addr) (len cap : Nat), e = .returned (.slice a len cap) ∧ IsTexts w' a len cap (bas (partsL s.data.toList)) ∧ Below w.heap.size w w' := by
  have HAt := Lib.hid (fun k (h : k < s.size) => byte_at (s := s) h)
  have HX := Lib.hid (fun a b => ext_ba s a b)
  have HY := Lib.hid (fun a => ext_all s a)
  have hlen : s.data.toList.length = s.size := by simp
  have hS0 := Lib.hid (show partsL s.data.toList = [] ++ partsL (s.data.toList.drop 0) by rw [List.drop_zero]; rfl)
  generalize s.data.toList = l at *
  have h0 := (Below.refl w.heap.size w).alloc (Nat.le_refl _) (.cells #[] 9)
  go_enter Tryz.func58, Tryz.ntmps58
  go_wp2
  go_loopw [3, 4, 5] (fun o f i wr => ∃ (k fr : Nat) (L : List (List UInt8)), i = .int .i64 (k : Int) ∧ f = .int .i64 (fr : Int) ∧ k ≤ s.size ∧ fr ≤ k ∧ L.length ≤ k ∧ (∀ x ∈ L, x.length ≤ 1048576) ∧ OwS wr w.heap.size o (bas L) ∧ Below w.heap.size w wr ∧
    partsL l = L ++ partsL (l.drop fr) ∧ (∀ j, fr ≤ j → j < k → l[j]? ≠ some 46)) (fun _ _ i _ => 1048577 - (intOf i).toNat)
  case atStart => exact ⟨0, 0, [], rfl, rfl, by omega, by omega, Nat.le_refl _, fun _ h => (by cases h), OwS.start w _ (Nat.le_refl _), h0, hS0.out, fun j hj h => absurd h (by omega)⟩
  case round =>
    obtain ⟨k, fr, L, rfl, rfl, hk, hfk, hLk, hLs, hown, hbel, hln, hno⟩ := hrel
    have HLn := Lib.hid hln
    have HNo := Lib.hid hno
    have HOw := Lib.hid hown
    have HLs := Lib.hid hLs
    have hk0 : (0 : Int) ≤ (k : Int) := by omega
    have hf0 : (0 : Int) ≤ (fr : Int) := by omega
    clear hln hno hLs hown
    by_cases hlt : k < s.size
    · have hli : (k : Int) < (s.size : Int) := by omega
      have hat := HAt.out k hlt
      by_cases he : s[k] = 46
      · have q : ((s[k].toNat : Int) == 46) = true := by rw [he]; rfl
        have hsl := slice_str s (fr : Int) (k : Int) fr k rfl rfl hfk (by omega)
        have HR := Lib.hid (show partsL l = (L ++ [(l.drop fr).take (k - fr)]) ++ partsL (l.drop (k + 1)) by rw [HLn.out, parts_step hfk (by rw [hat, he]) HNo.out]; simp)
        have HM := Lib.hid (show ∀ x ∈ L ++ [(l.drop fr).take (k - fr)], x.length ≤ 1048576 from fun x hx => by
          rcases List.mem_append.1 hx with hx | hx
          · exact HLs.out x hx
          · rw [List.mem_singleton.1 hx, List.length_take]; omega)
        have hx := HX.out fr k
        have HB := Lib.hid (bas_snoc L ((l.drop fr).take (k - fr)))
        generalize (l.drop fr).take (k - fr) = X at *
        rw [hx] at hsl
        clear he hx hat
        go_wp2_with (first
          | (at_builtin; refine wpList_pushs wr HOw.out rfl _ _ rfl rfl rfl (ba X) (by rw [bas_len]; omega) hbel.size ?_; intro v' w5 h5 hb5; rw [← HB.out] at h5))
        go_roundw
        case rel => exact ⟨k + 1, k + 1, L ++ [X], by go_num, by go_num, by omega, by omega, by rw [List.length_append]; show _ + 1 ≤ _; omega, HM.out, h5, hbel.trans hb5, HR.out, fun j hj h => absurd h (by omega)⟩
        case measure => simp only [intOf]; omega
      · have q : ((s[k].toNat : Int) == 46) = false := by rw [show (46 : Int) = ((46 : Nat) : Int) from rfl, byte_is (by decide)]; exact decide_eq_false he
        have HN2 := Lib.hid (show ∀ j, fr ≤ j → j < k + 1 → l[j]? ≠ some 46 from fun j h1 h2 => by
          by_cases hjk : j = k
          · subst hjk; rw [hat]; exact fun e => he (Option.some.inj e)
          · exact HNo.out j h1 (by omega))
        clear he hat HNo
        go_wp2
        go_roundw
        case rel => exact ⟨k + 1, fr, L, by go_num, rfl, by omega, by omega, by omega, HLs.out, HOw.out, hbel, HLn.out, HN2.out⟩
        case measure => simp only [intOf]; omega
    · have hli : ¬ (k : Int) < (s.size : Int) := by omega
      have hsl := slice_from s fr (by omega)
      rw [HY.out fr] at hsl
      have HF := Lib.hid (show partsL l = L ++ [l.drop fr] by rw [HLn.out, parts_last (fun j h1 h2 => HNo.out j h1 (by omega))])
      have HB := Lib.hid (bas_snoc L (l.drop fr))
      have HM := Lib.hid (show ∀ x ∈ L ++ [l.drop fr], x.length ≤ 1048576 from fun x hx => by
        rcases List.mem_append.1 hx with hx | hx
        · exact HLs.out x hx
        · rw [List.mem_singleton.1 hx, List.length_drop]; omega)
      clear HLn HNo
      generalize l.drop fr = X at *
      go_wp2_with (first
        | (at_builtin; refine wpList_pushs wr HOw.out rfl _ _ rfl rfl rfl (ba X) (by rw [bas_len]; omega) hbel.size ?_; intro v' w5 h5 hb5; rw [← HB.out] at h5; obtain ⟨a5, n5, c5, rfl, ht5⟩ := OwS.some h5 (mem_bas (by decide) HM.out)))
      go_ret
      exact ⟨_, _, _, rfl, by rw [HF.out]; exact ht5, hbel.trans hb5⟩
end Go.Proofs.YtahbbnimoogapaaGreatDoor
namespace Go.Proofs.YtahbbnimoogapaaGreatDoor
open Go.RowKit

theorem all_at {l : List UInt8} {p : UInt8 → Bool} : l.all p = true ↔ ∀ (j : Nat) (c : UInt8), l[j]? = some c → p c = true := by
  rw [List.all_eq_true]
  constructor
  · intro h j c hc
    exact h c (List.mem_of_getElem? hc)
  · intro h c hc
    obtain ⟨j, hj, rfl⟩ := List.getElem_of_mem hc
    exact h j _ (List.getElem?_eq_getElem hj)
def okc (c : UInt8) : Bool := decide (32 ≤ c) && decide (c ≤ 126)
theorem okc_nat (c : UInt8) : okc c = decide (32 ≤ c.toNat ∧ c.toNat ≤ 126) := by
  simp only [okc, UInt8.le_iff_toNat_le, Bool.decide_and]
  rfl
theorem locB_eq (l : List UInt8) : locB l = (l.all okc && decide (1 ≤ l.length) && decide (l.length ≤ 64)) := rfl

set_option maxHeartbeats 1000000 in
set_option maxRecDepth 100000 in
theorem rlocal_any (s : ByteArray) (hs : s.size ≤ 1048576) (w : World) :
    Calls Tryz.prog 120 #[.string s] w fun e w' => e = .returned (.bool (locB s.data.toList)) ∧ w = w' := by
  have HAt := Lib.hid (fun k (h : k < s.size) => byte_at (s := s) h)
  have hll : s.data.toList.length = s.size := by simp
  have HB := Lib.hid (locB_eq s.data.toList)
  generalize s.data.toList = l at *
  generalize locB l = B at *
  go_enter Tryz.func120, Tryz.ntmps120
  go_wp2
  go_loopw [3] (fun i wr => ∃ k : Nat, i = .int .i64 (k : Int) ∧ k ≤ s.size ∧ (∀ j c, j < k → l[j]? = some c → okc c = true) ∧ w = wr) (fun i _ => 1048577 - (intOf i).toNat)
  case atStart => exact ⟨0, rfl, Nat.zero_le _, fun j c hj => absurd hj (by omega), rfl⟩
  case round =>
    obtain ⟨k, rfl, hk, hno, rfl⟩ := hrel
    have HNo := Lib.hid hno
    clear hno
    have hk0 : (0 : Int) ≤ (k : Int) := by omega
    by_cases hlt : k < s.size
    · have hli : (k : Int) < (s.size : Int) := by omega
      have hat := HAt.out k hlt
      have hok := okc_nat s[k]
      by_cases hc : 32 ≤ s[k].toNat ∧ s[k].toNat ≤ 126
      · have b1 : ¬ (s[k].toNat : Int) < 32 := by omega
        have b2 : ¬ (126 : Int) < (s[k].toNat : Int) := by omega
        have HN2 := Lib.hid (show ∀ j c, j < k + 1 → l[j]? = some c → okc c = true from fun j c hj hjc => by
          by_cases hjk : j = k
          · subst hjk
            rw [hat] at hjc
            injection hjc with hjc
            rw [← hjc, hok, decide_eq_true hc]
          · exact HNo.out j c (by omega) hjc)
        clear hat hok hc HNo
        go_wp2
        go_roundw
        case rel => exact ⟨k + 1, by go_num, by omega, HN2.out, trivial⟩
        case measure => simp only [intOf]; omega
      · have hB : B = false := by
          rw [HB.out]
          have : l.all okc = false := Bool.eq_false_iff.2 fun h => by
            have := all_at.1 h k _ hat
            rw [hok, decide_eq_false hc] at this
            cases this
          rw [this]
          rfl
        have HBf := Lib.hid hB
        by_cases h32 : s[k].toNat < 32
        · have b1 : (s[k].toNat : Int) < 32 := by omega
          clear hat hok hc HNo hB h32
          go_wp2
          go_ret
          exact ⟨by rw [HBf.out]; rfl, rfl⟩
        · have b1 : ¬ (s[k].toNat : Int) < 32 := by omega
          have b2 : (126 : Int) < (s[k].toNat : Int) := by omega
          clear hat hok hc HNo hB h32
          go_wp2
          go_ret
          exact ⟨by rw [HBf.out]; rfl, rfl⟩
    · have hli : ¬ (k : Int) < (s.size : Int) := by omega
      have hall : l.all okc = true := all_at.2 fun j c hj => HNo.out j c (by have := (List.getElem?_eq_some_iff.1 hj).1; omega) hj
      have HBe := Lib.hid (show B = (decide (1 ≤ s.size) && decide (s.size ≤ 64)) by rw [HB.out, hall, hll]; rfl)
      clear hall HNo
      by_cases h1 : 1 ≤ s.size
      · have b1 : (1 : Int) ≤ (s.size : Int) := by omega
        by_cases h2 : s.size ≤ 64
        · have b2 : (s.size : Int) ≤ 64 := by omega
          have HBf := Lib.hid (show B = true by rw [HBe.out, decide_eq_true h1, decide_eq_true h2]; rfl)
          go_wp2
          go_ret
          exact ⟨by rw [HBf.out]; rfl, rfl⟩
        · have b2 : ¬ (s.size : Int) ≤ 64 := by omega
          have HBf := Lib.hid (show B = false by rw [HBe.out, decide_eq_true h1, decide_eq_false h2]; rfl)
          go_wp2
          go_ret
          exact ⟨by rw [HBf.out]; rfl, rfl⟩
      · have b1 : ¬ (1 : Int) ≤ (s.size : Int) := by omega
        have HBf := Lib.hid (show B = false by rw [HBe.out, decide_eq_false h1]; rfl)
        go_wp2
        go_ret
        exact ⟨by rw [HBf.out]; rfl, rfl⟩
end Go.Proofs.YtahbbnimoogapaaGreatDoor
namespace Go.Proofs.YtahbbnimoogapaaGreatDoor
open Go.RowKit

def lcB (c : UInt8) : Bool := letB c || c == 45
theorem labB_eq (p : List UInt8) : labB p = (decide (1 ≤ p.length) && decide (p.length ≤ 63) && !(p[0]? == some 45) && !(p[p.length - 1]? == some 45) && p.all lcB) := rfl
theorem labB_no {p : List UInt8} (h : p.length < 1 ∨ 63 < p.length ∨ p[0]? = some 45 ∨ p[p.length - 1]? = some 45 ∨ ∃ (j : Nat) (c : UInt8), p[j]? = some c ∧ lcB c = false) : labB p = false := Bool.eq_false_iff.2 fun e => by
  rw [labB_eq] at e
  simp only [Bool.and_eq_true, decide_eq_true_eq, Bool.not_eq_true', beq_eq_false_iff_ne] at e
  obtain ⟨⟨⟨⟨h1, h2⟩, h3⟩, h4⟩, h5⟩ := e
  rcases h with h | h | h | h | ⟨j, c, hj, hc⟩
  · omega
  · omega
  · exact h3 h
  · exact h4 h
  · rw [all_at.1 h5 j c hj] at hc; cases hc
theorem labB_yes {p : List UInt8} (h1 : 1 ≤ p.length) (h2 : p.length ≤ 63) (h3 : p[0]? ≠ some 45) (h4 : p[p.length - 1]? ≠ some 45) (h5 : ∀ (j : Nat) (c : UInt8), p[j]? = some c → lcB c = true) : labB p = true := by
  rw [labB_eq]
  simp only [Bool.and_eq_true, decide_eq_true_eq, Bool.not_eq_true', beq_eq_false_iff_ne]
  exact ⟨⟨⟨⟨h1, h2⟩, h3⟩, h4⟩, all_at.2 h5⟩
theorem domB_no {l : List UInt8} {p : List UInt8} (h : p ∈ partsL l) (hp : labB p = false) : domB l = false := Bool.eq_false_iff.2 fun e => by
  rw [domB, Bool.and_eq_true] at e
  rw [List.all_eq_true.1 e.1 p h] at hp
  cases hp
theorem parts_len : ∀ (l : List UInt8), ∀ p ∈ partsL l, p.length ≤ l.length
  | [], p, h => by rw [List.mem_singleton.1 h]; exact Nat.le_refl _
  | b :: l, p, h => by
    have ih := parts_len l
    rw [partsL] at h
    split at h
    · rcases List.mem_cons.1 h with rfl | h
      · exact Nat.zero_le _
      · have := ih p h; rw [List.length_cons]; omega
    · cases hp : partsL l with
      | nil => exact absurd hp (partsL_ne l)
      | cons q qs =>
        rw [hp] at h ih
        rcases List.mem_cons.1 h with rfl | h
        · have := ih q List.mem_cons_self; rw [List.length_cons, List.length_cons]; omega
        · have := ih p (List.mem_cons_of_mem _ h); rw [List.length_cons]; omega
theorem parts_count : ∀ (l : List UInt8), (partsL l).length ≤ l.length + 1
  | [] => Nat.le_refl _
  | b :: l => by
    have ih := parts_count l
    rw [partsL]
    split
    · rw [List.length_cons, List.length_cons]; omega
    · cases hp : partsL l with
      | nil => exact absurd hp (partsL_ne l)
      | cons q qs => rw [hp] at ih; rw [List.length_cons, List.length_cons]; rw [List.length_cons] at ih; omega
/-- What Domain answers. -/
def domR (l : List UInt8) : Value := if domB l = true then .tuple #[.string (ba (smL l)), .int .i64 0] else .tuple #[.string ⟨#[]⟩, .int .i64 2]

set_option maxHeartbeats 2000000 in
set_option maxRecDepth 100000 in
theorem rdomain_any (s : ByteArray) (hs : s.size ≤ 1048576) (w : World) :
    Calls Tryz.prog 33 #[.string s] w fun e w' => e = .returned (domR s.data.toList) ∧ Below w.heap.size w w' := by
  have HSp := Lib.hid (rparts_any s hs w)
  have HSm := Lib.hid (fun w => rsmall_any s hs w)
  have HL := Lib.hid (fun c w => rletter_any c w)
  have hll : s.data.toList.length = s.size := by simp
  generalize s.data.toList = l at *
  have HRn := Lib.hid (fun (h : domB l = false) => show domR l = .tuple #[.string ⟨#[]⟩, .int .i64 2] by rw [domR, if_neg (by rw [h]; decide)])
  have HRy := Lib.hid (fun (h : domB l = true) => show domR l = .tuple #[.string (ba (smL l)), .int .i64 0] by rw [domR, if_pos h])
  generalize domR l = R at *
  have hpl : ∀ p ∈ partsL l, p.length ≤ 1048576 := fun p hp => by have := parts_len l p hp; omega
  go_enter Tryz.func33, Tryz.ntmps33
  go_wp2_with (first
    | (go_at_call 58; (with_reducible refine HSp.out.mono ?_); rintro e w1 ⟨a, len, cap, rfl, ht1, hb1⟩))
  have HT := Lib.hid ht1
  have hlen := ht1.len.1
  rw [bas_len] at hlen
  have hlb : len ≤ 1048577 := by have := parts_count l; omega
  clear ht1 HSp
  go_loopw [5] (fun i wr => ∃ k : Nat, i = .int .i64 (k : Int) ∧ k ≤ len ∧ (∀ (j : Nat) (p : List UInt8), j < k → (partsL l)[j]? = some p → labB p = true) ∧ w1 = wr) (fun i _ => 1048578 - (intOf i).toNat)
  case atStart => exact ⟨0, rfl, Nat.zero_le _, fun j p hj => absurd hj (by omega), rfl⟩
  case round =>
    obtain ⟨k, rfl, hk, hno, rfl⟩ := hrel
    have HNo := Lib.hid hno
    clear hno
    have hk0 : (0 : Int) ≤ (k : Int) := by omega
    by_cases hlt : k < len
    · have hli : (k : Int) < (len : Int) := by omega
      obtain ⟨x, rfl, c1, _⟩ := HT.out.at hlt
      obtain ⟨p, hp⟩ : ∃ p, (partsL l)[k]? = some p := ⟨_, List.getElem?_eq_getElem (by omega)⟩
      have hpm := List.mem_of_getElem? hp
      have hps := hpl p hpm
      have hX : (bas (partsL l)).getD k ByteArray.empty = ba p := by rw [List.getD_eq_getElem?_getD, bas, List.getElem?_map, hp]; rfl
      rw [hX] at c1
      have hbp : (ba p).data.toList = p := ba_list p
      have hbs : (ba p).size = p.length := ba_size p
      generalize ba p = X at *
      have hbad : ∀ (h : labB p = false), R = .tuple #[.string ⟨#[]⟩, .int .i64 2] := fun h => HRn.out (domB_no hpm h)
      have HBad := Lib.hid hbad
      clear hX hbad hpm
      by_cases h1 : 1 ≤ X.size
      · have b1 : ¬ (X.size : Int) < 1 := by omega
        by_cases h2 : X.size ≤ 63
        · have b2 : ¬ (63 : Int) < (X.size : Int) := by omega
          have g0 : (0 : Nat) < X.size := by omega
          have b3 := byte_int (a := X[0]) (b := 45)
          rw [show (((45 : UInt8).toNat : Nat) : Int) = 45 from rfl] at b3
          have e0 := byte_at g0
          rw [hbp] at e0
          by_cases h3 : X[0] = 45
          · rw [decide_eq_true h3] at b3
            have HR := Lib.hid (HBad.out (labB_no (.inr (.inr (.inl (by rw [e0, h3]))))))
            clear h1 h2 h3 HNo e0 hbp hbs hp hps
            go_wp2
            go_ret2
            exact ⟨by rw [HR.out]; rfl, hb1⟩
          · rw [decide_eq_false h3] at b3
            obtain ⟨z, hz⟩ : ∃ z, z = X.size - 1 := ⟨_, rfl⟩
            have hzl : z < X.size := by omega
            have hz1 : (X.size : Int) - 1 = (z : Int) := by omega
            have hz0 : (0 : Int) ≤ (z : Int) := by omega
            have hzi : (z : Int) < (X.size : Int) := by omega
            have b4 := byte_int (a := X[z]) (b := 45)
            rw [show (((45 : UInt8).toNat : Nat) : Int) = 45 from rfl] at b4
            have ez := byte_at hzl
            rw [hbp] at ez
            have ez2 : p[p.length - 1]? = some X[z] := by rw [← hbs]; rw [← ez]; congr 1; exact hz.symm
            by_cases h4 : X[z] = 45
            · rw [decide_eq_true h4] at b4
              have HR := Lib.hid (HBad.out (labB_no (.inr (.inr (.inr (.inl (by rw [ez2, h4])))))))
              clear h1 h2 h3 h4 HNo e0 ez ez2 hbp hbs hp hps hz
              go_wp2
              go_ret2
              exact ⟨by rw [HR.out]; rfl, hb1⟩
            · rw [decide_eq_false h4] at b4
              have HY := Lib.hid (fun h5 => labB_yes (p := p) (by omega) (by omega) (by rw [e0]; exact fun e => h3 (Option.some.inj e)) (by rw [ez2]; exact fun e => h4 (Option.some.inj e)) h5)
              have HAt := Lib.hid (fun (m : Nat) (h : m < X.size) => (hbp ▸ byte_at h : p[m]? = some X[m]))
              have HPk := Lib.hid hp
              have HBs := Lib.hid hbs
              clear h1 h2 h3 h4 e0 ez ez2 hbp hbs hp hps hz
              go_wp2
              go_loopw [7] (fun i wr => ∃ m : Nat, i = .int .i64 (m : Int) ∧ m ≤ X.size ∧ (∀ (j : Nat) (c : UInt8), j < m → p[j]? = some c → lcB c = true) ∧ w1 = wr) (fun i _ => 1048577 - (intOf i).toNat)
              case atStart => exact ⟨0, rfl, Nat.zero_le _, fun j c hj => absurd hj (by omega), rfl⟩
              case round =>
                obtain ⟨m, rfl, hm, hmo, rfl⟩ := hrel
                have HMo := Lib.hid hmo
                clear hmo b3 b4
                have hm0 : (0 : Int) ≤ (m : Int) := by omega
                by_cases hmt : m < X.size
                · have hmi : (m : Int) < (X.size : Int) := by omega
                  have hat := HAt.out m hmt
                  have hL := HL.out X[m]
                  obtain ⟨c, hc⟩ : ∃ c, c = X[m] := ⟨_, rfl⟩
                  have q45 := byte_int (a := X[m]) (b := 45)
                  rw [show (((45 : UInt8).toNat : Nat) : Int) = 45 from rfl] at q45
                  rw [← hc] at hat
                  have hnext : lcB c = true → ∀ (j : Nat) (d : UInt8), j < m + 1 → p[j]? = some d → lcB d = true := fun h j d hj hjd => by
                    by_cases hjm : j = m
                    · subst hjm
                      rw [hat] at hjd
                      rw [← Option.some.inj hjd]; exact h
                    · exact HMo.out j d (by omega) hjd
                  by_cases h1 : letB c = true
                  · rw [← hc, h1, hc] at hL
                    have HLt := Lib.hid hL
                    have HN2 := Lib.hid (hnext (by rw [lcB, h1]; rfl))
                    clear hat hL q45 hnext h1 hc
                    go_wp2_with (first
                      | (go_at_call 59; (with_reducible refine (HLt.out _).mono ?_); rintro e w2 ⟨rfl, rfl⟩))
                    go_roundw
                    case rel => exact ⟨m + 1, by go_num, by omega, HN2.out, trivial⟩
                    case measure => simp only [intOf]; omega
                  · have h1f : letB c = false := Bool.eq_false_iff.2 h1
                    rw [← hc, h1f, hc] at hL
                    have HLf := Lib.hid hL
                    by_cases h45 : c = 45
                    · rw [← hc, decide_eq_true h45, hc] at q45
                      have HN2 := Lib.hid (hnext (by rw [h45]; decide))
                      clear hat hL hnext h1 hc h45 h1f
                      go_wp2_with (first
                        | (go_at_call 59; (with_reducible refine (HLf.out _).mono ?_); rintro e w2 ⟨rfl, rfl⟩))
                      go_roundw
                      case rel => exact ⟨m + 1, by go_num, by omega, HN2.out, trivial⟩
                      case measure => simp only [intOf]; omega
                    · rw [← hc, decide_eq_false h45, hc] at q45
                      have HR := Lib.hid (HBad.out (labB_no (.inr (.inr (.inr (.inr ⟨m, c, hat, by rw [lcB, h1f]; simp [h45]⟩))))))
                      clear hat hL hnext h1 hc h45 h1f
                      go_wp2_with (first
                        | (go_at_call 59; (with_reducible refine (HLf.out _).mono ?_); rintro e w2 ⟨rfl, rfl⟩))
                      go_ret2
                      exact ⟨by rw [HR.out]; rfl, hb1⟩
                · have hmi : ¬ (m : Int) < (X.size : Int) := by omega
                  have hlab := HY.out fun j c hj => HMo.out j c (by have := (List.getElem?_eq_some_iff.1 hj).1; have := HBs.out; omega) hj
                  have HN2 := Lib.hid (show ∀ (j : Nat) (q : List UInt8), j < k + 1 → (partsL l)[j]? = some q → labB q = true from fun j q hj hq => by
                    by_cases hjk : j = k
                    · subst hjk
                      rw [HPk.out] at hq
                      rw [← Option.some.inj hq]; exact hlab
                    · exact HNo.out j q (by omega) hq)
                  clear hlab
                  go_wp2
                  go_roundw
                  case rel => exact ⟨k + 1, by go_num, by omega, HN2.out, trivial⟩
                  case measure => simp only [intOf]; omega
        · have b2 : (63 : Int) < (X.size : Int) := by omega
          have HR := Lib.hid (HBad.out (labB_no (.inr (.inl (by omega)))))
          clear h1 h2 HNo
          go_wp2
          go_ret2
          exact ⟨by rw [HR.out]; rfl, hb1⟩
      · have b1 : (X.size : Int) < 1 := by omega
        have HR := Lib.hid (HBad.out (labB_no (.inl (by omega))))
        clear h1 HNo
        go_wp2
        go_ret2
        exact ⟨by rw [HR.out]; rfl, hb1⟩
    · have hli : ¬ (k : Int) < (len : Int) := by omega
      have hall : (partsL l).all labB = true := List.all_eq_true.2 fun p hp => by
        obtain ⟨j, hj, rfl⟩ := List.getElem_of_mem hp
        exact HNo.out j _ (by omega) (List.getElem?_eq_getElem hj)
      by_cases h255 : s.size ≤ 255
      · have b1 : ¬ (255 : Int) < (s.size : Int) := by omega
        have HR := Lib.hid (HRy.out (by rw [domB, hall, decide_eq_true (by omega)]; rfl))
        clear hall HNo h255
        go_wp2_with (first
          | (go_at_call 60; (with_reducible refine (HSm.out _).mono ?_); rintro e w2 ⟨rfl, hb2⟩))
        go_ret2
        exact ⟨by rw [HR.out]; rfl, Below_next hb1 hb2⟩
      · have b1 : (255 : Int) < (s.size : Int) := by omega
        have HR := Lib.hid (HRn.out (by rw [domB, hall, decide_eq_false (by omega)]; rfl))
        clear hall HNo h255
        go_wp2
        go_ret2
        exact ⟨by rw [HR.out]; rfl, hb1⟩
end Go.Proofs.YtahbbnimoogapaaGreatDoor
namespace Go.Proofs.YtahbbnimoogapaaGreatDoor
open Go.RowKit

def atomB (p : List UInt8) : Bool := decide (1 ≤ p.length) && p.all atB
theorem plaB_eq (l : List UInt8) : plaB l = ((partsL l).all atomB && locB l) := rfl
theorem atomB_no {p : List UInt8} (h : p.length < 1 ∨ ∃ (j : Nat) (c : UInt8), p[j]? = some c ∧ atB c = false) : atomB p = false := Bool.eq_false_iff.2 fun e => by
  rw [atomB, Bool.and_eq_true, decide_eq_true_eq] at e
  rcases h with h | ⟨j, c, hj, hc⟩
  · omega
  · rw [all_at.1 e.2 j c hj] at hc; cases hc
theorem atomB_yes {p : List UInt8} (h1 : 1 ≤ p.length) (h5 : ∀ (j : Nat) (c : UInt8), p[j]? = some c → atB c = true) : atomB p = true := by
  rw [atomB, Bool.and_eq_true, decide_eq_true_eq]
  exact ⟨h1, all_at.2 h5⟩
theorem plaB_no {l : List UInt8} {p : List UInt8} (h : p ∈ partsL l) (hp : atomB p = false) : plaB l = false := Bool.eq_false_iff.2 fun e => by
  rw [plaB_eq, Bool.and_eq_true] at e
  rw [List.all_eq_true.1 e.1 p h] at hp
  cases hp

set_option maxHeartbeats 2000000 in
set_option maxRecDepth 100000 in
theorem rplain_any (s : ByteArray) (hs : s.size ≤ 1048576) (w : World) :
    Calls Tryz.prog 91 #[.string s] w fun e w' => e = .returned (.bool (plaB s.data.toList)) ∧ Below w.heap.size w w' := by
  have HSp := Lib.hid (rparts_any s hs w)
  have HLo := Lib.hid (fun w => rlocal_any s hs w)
  have HL := Lib.hid (fun c w => rletter_any c w)
  have HG := Lib.hid (fun c w => rsign_any c w)
  have hll : s.data.toList.length = s.size := by simp
  generalize s.data.toList = l at *
  have HRn := Lib.hid (fun (p : List UInt8) (h : p ∈ partsL l) hp => plaB_no h hp)
  have HRy := Lib.hid (fun (h : (partsL l).all atomB = true) => show plaB l = locB l by rw [plaB_eq, h]; rfl)
  generalize plaB l = R at *
  have hpl : ∀ p ∈ partsL l, p.length ≤ 1048576 := fun p hp => by have := parts_len l p hp; omega
  go_enter Tryz.func91, Tryz.ntmps91
  go_wp2_with (first
    | (go_at_call 58; (with_reducible refine HSp.out.mono ?_); rintro e w1 ⟨a, len, cap, rfl, ht1, hb1⟩))
  have HT := Lib.hid ht1
  have hlen := ht1.len.1
  rw [bas_len] at hlen
  have hlb : len ≤ 1048577 := by have := parts_count l; omega
  clear ht1 HSp
  go_loopw [4] (fun i wr => ∃ k : Nat, i = .int .i64 (k : Int) ∧ k ≤ len ∧ (∀ (j : Nat) (p : List UInt8), j < k → (partsL l)[j]? = some p → atomB p = true) ∧ w1 = wr) (fun i _ => 1048578 - (intOf i).toNat)
  case atStart => exact ⟨0, rfl, Nat.zero_le _, fun j p hj => absurd hj (by omega), rfl⟩
  case round =>
    obtain ⟨k, rfl, hk, hno, rfl⟩ := hrel
    have HNo := Lib.hid hno
    clear hno
    have hk0 : (0 : Int) ≤ (k : Int) := by omega
    by_cases hlt : k < len
    · have hli : (k : Int) < (len : Int) := by omega
      obtain ⟨x, rfl, c1, _⟩ := HT.out.at hlt
      obtain ⟨p, hp⟩ : ∃ p, (partsL l)[k]? = some p := ⟨_, List.getElem?_eq_getElem (by omega)⟩
      have hpm := List.mem_of_getElem? hp
      have hps := hpl p hpm
      have hX : (bas (partsL l)).getD k ByteArray.empty = ba p := by rw [List.getD_eq_getElem?_getD, bas, List.getElem?_map, hp]; rfl
      rw [hX] at c1
      have hbp : (ba p).data.toList = p := ba_list p
      have hbs : (ba p).size = p.length := ba_size p
      generalize ba p = X at *
      have HBad := Lib.hid (fun (h : atomB p = false) => HRn.out p hpm h)
      clear hX hpm
      by_cases h1 : 1 ≤ X.size
      · have b1 : ((X.size : Int) == 0) = false := beq_false_of_ne (by omega)
        have hX6 : X.size ≤ 1048576 := by omega
        have HY := Lib.hid (fun h5 => atomB_yes (p := p) (by omega) h5)
        have HAt := Lib.hid (fun (m : Nat) (h : m < X.size) => (hbp ▸ byte_at h : p[m]? = some X[m]))
        have HPk := Lib.hid hp
        have HBs := Lib.hid hbs
        clear h1 hbp hbs hp hps
        go_wp2
        go_loopw [5] (fun i wr => ∃ m : Nat, i = .int .i64 (m : Int) ∧ m ≤ X.size ∧ (∀ (j : Nat) (c : UInt8), j < m → p[j]? = some c → atB c = true) ∧ w1 = wr) (fun i _ => 1048577 - (intOf i).toNat)
        case atStart => exact ⟨0, rfl, Nat.zero_le _, fun j c hj => absurd hj (by omega), rfl⟩
        case round =>
          obtain ⟨m, rfl, hm, hmo, rfl⟩ := hrel
          have HMo := Lib.hid hmo
          clear hmo
          have hm0 : (0 : Int) ≤ (m : Int) := by omega
          by_cases hmt : m < X.size
          · have hmi : (m : Int) < (X.size : Int) := by omega
            have hat := HAt.out m hmt
            have hL := HL.out X[m]
            have hG := HG.out X[m]
            obtain ⟨c, hc⟩ : ∃ c, c = X[m] := ⟨_, rfl⟩
            rw [← hc] at hat
            have hnext : atB c = true → ∀ (j : Nat) (d : UInt8), j < m + 1 → p[j]? = some d → atB d = true := fun h j d hj hjd => by
              by_cases hjm : j = m
              · subst hjm
                rw [hat] at hjd
                rw [← Option.some.inj hjd]; exact h
              · exact HMo.out j d (by omega) hjd
            by_cases h1 : letB c = true
            · rw [← hc, h1, hc] at hL
              have HLt := Lib.hid hL
              have HN2 := Lib.hid (hnext (by rw [atB, h1]; rfl))
              clear hat hL hG hnext h1 hc
              go_wp2_with (first
                | (go_at_call 59; (with_reducible refine (HLt.out _).mono ?_); rintro e w2 ⟨rfl, rfl⟩))
              go_roundw
              case rel => exact ⟨m + 1, by go_num, by omega, HN2.out, trivial⟩
              case measure => simp only [intOf]; omega
            · have h1f : letB c = false := Bool.eq_false_iff.2 h1
              rw [← hc, h1f, hc] at hL
              have HLf := Lib.hid hL
              by_cases h2 : sigB c = true
              · rw [← hc, h2, hc] at hG
                have HGt := Lib.hid hG
                have HN2 := Lib.hid (hnext (by rw [atB, h2, Bool.or_true]))
                clear hat hL hG hnext h1 hc h2 h1f
                go_wp2_with (first
                  | (go_at_call 59; (with_reducible refine (HLf.out _).mono ?_); rintro e w2 ⟨rfl, rfl⟩)
                  | (go_at_call 119; (with_reducible refine (HGt.out _).mono ?_); rintro e w2 ⟨rfl, rfl⟩))
                go_roundw
                case rel => exact ⟨m + 1, by go_num, by omega, HN2.out, trivial⟩
                case measure => simp only [intOf]; omega
              · have h2f : sigB c = false := Bool.eq_false_iff.2 h2
                rw [← hc, h2f, hc] at hG
                have HGf := Lib.hid hG
                have HR := Lib.hid (HBad.out (atomB_no (.inr ⟨m, c, hat, by rw [atB, h1f, h2f]; rfl⟩)))
                clear hat hL hG hnext h1 hc h2 h1f h2f
                go_wp2_with (first
                  | (go_at_call 59; (with_reducible refine (HLf.out _).mono ?_); rintro e w2 ⟨rfl, rfl⟩)
                  | (go_at_call 119; (with_reducible refine (HGf.out _).mono ?_); rintro e w2 ⟨rfl, rfl⟩))
                go_ret
                exact ⟨by rw [HR.out]; rfl, hb1⟩
          · have hmi : ¬ (m : Int) < (X.size : Int) := by omega
            have hlab := HY.out fun j c hj => HMo.out j c (by have := (List.getElem?_eq_some_iff.1 hj).1; have := HBs.out; omega) hj
            have HN2 := Lib.hid (show ∀ (j : Nat) (q : List UInt8), j < k + 1 → (partsL l)[j]? = some q → atomB q = true from fun j q hj hq => by
              by_cases hjk : j = k
              · subst hjk
                rw [HPk.out] at hq
                rw [← Option.some.inj hq]; exact hlab
              · exact HNo.out j q (by omega) hq)
            clear hlab
            go_wp2
            go_roundw
            case rel => exact ⟨k + 1, by go_num, by omega, HN2.out, trivial⟩
            case measure => simp only [intOf]; omega
      · have b1 : ((X.size : Int) == 0) = true := by rw [show (X.size : Int) = 0 by omega]; rfl
        have HR := Lib.hid (HBad.out (atomB_no (.inl (by omega))))
        clear h1 HNo hbp hbs hp hps
        go_wp2
        go_ret
        exact ⟨by rw [HR.out]; rfl, hb1⟩
    · have hli : ¬ (k : Int) < (len : Int) := by omega
      have hall : (partsL l).all atomB = true := List.all_eq_true.2 fun p hp => by
        obtain ⟨j, hj, rfl⟩ := List.getElem_of_mem hp
        exact HNo.out j _ (by omega) (List.getElem?_eq_getElem hj)
      have HR := Lib.hid (HRy.out hall)
      clear hall HNo
      go_wp2_with (first
        | (go_at_call 120; (with_reducible refine (HLo.out _).mono ?_); rintro e w2 ⟨rfl, rfl⟩))
      go_ret
      exact ⟨by rw [HR.out]; rfl, hb1⟩
end Go.Proofs.YtahbbnimoogapaaGreatDoor
namespace Go.Proofs.YtahbbnimoogapaaGreatDoor
open Go.RowKit

/-- A mailbox's value. -/
def boxV (b : BoxA) : Value := .agg #[.string (ba b.loc), .string (ba b.dom)]

set_option maxHeartbeats 1000000 in
set_option maxRecDepth 100000 in
theorem rmay_any (b : BoxA) (h1 : b.loc.length ≤ 1048576) (h2 : b.dom.length ≤ 1048576) (w : World) :
    Calls Tryz.prog 90 #[boxV b] w fun e w' => e = .returned (.bool (mayB b)) ∧ Below w.heap.size w w' := by
  have HD := Lib.hid (fun w => rdomain_any (ba b.dom) (by rw [ba_size]; exact h2) w)
  have HL := Lib.hid (fun w => rlocal_any (ba b.loc) (by rw [ba_size]; exact h1) w)
  rw [ba_list] at HD HL
  have q := tl8 (a := ba (smL b.dom)) (b := ba b.dom)
  have hq : decide (ba (smL b.dom) = ba b.dom) = decide (smL b.dom = b.dom) := by
    by_cases h : smL b.dom = b.dom
    · rw [h, decide_eq_true rfl, decide_eq_true rfl]
    · rw [decide_eq_false h, decide_eq_false fun e => h (ba_inj e)]
  rw [hq] at q
  have HM := Lib.hid (show mayB b = (domB b.dom && decide (smL b.dom = b.dom) && locB b.loc) from rfl)
  rw [boxV]
  generalize mayB b = M at *
  have hA0 := Lib.hid (Arr.new w #[.string (ba b.loc), .string (ba b.dom)] 30)
  have hb0 := Lib.hid ((Below.refl w.heap.size w).alloc (Nat.le_refl _) (.cells #[.string (ba b.loc), .string (ba b.dom)] 30))
  clear h1 h2 hq
  cases hd : domB b.dom with
  | false =>
    rw [domR, if_neg (by rw [hd]; decide)] at HD
    have HMf := Lib.hid (show M = false by rw [HM.out, hd]; rfl)
    clear hd q HM
    generalize ba b.dom = DD at *
    generalize ba b.loc = LL at *
    go_enter Tryz.func90, Tryz.ntmps90
    go_wp2_with (first
      | (go_at_call 33; (with_reducible refine (HD.out _).mono ?_); rintro e w2 ⟨rfl, hb2⟩))
    go_ret
    exact ⟨by rw [HMf.out]; rfl, Below_next hb0.out hb2⟩
  | true =>
    rw [domR, if_pos hd] at HD
    cases hs : decide (smL b.dom = b.dom) with
    | false =>
      rw [hs] at q
      have HMf := Lib.hid (show M = false by rw [HM.out, hd, hs]; rfl)
      clear hd HM hs
      generalize ba (smL b.dom) = SS at *
      generalize ba b.dom = DD at *
      generalize ba b.loc = LL at *
      go_enter Tryz.func90, Tryz.ntmps90
      go_wp2_with (first
        | (go_at_call 33; (with_reducible refine (HD.out _).mono ?_); rintro e w2 ⟨rfl, hb2⟩; have c1 := (hA0.out.next hb2).cell (j := 1) rfl))
      go_ret
      exact ⟨by rw [HMf.out]; rfl, Below_next hb0.out hb2⟩
    | true =>
      rw [hs] at q
      have HMf := Lib.hid (show M = locB b.loc by rw [HM.out, hd, hs]; rfl)
      clear hd HM hs
      generalize ba (smL b.dom) = SS at *
      generalize ba b.dom = DD at *
      generalize ba b.loc = LL at *
      generalize locB b.loc = LB at *
      go_enter Tryz.func90, Tryz.ntmps90
      go_wp2_with (first
        | (go_at_call 33; (with_reducible refine (HD.out _).mono ?_); rintro e w2 ⟨rfl, hb2⟩; have c1 := (hA0.out.next hb2).cell (j := 1) rfl; have c0 := (hA0.out.next hb2).cell (j := 0) rfl)
        | (go_at_call 120; (with_reducible refine (HL.out _).mono ?_); rintro e w3 ⟨rfl, rfl⟩))
      go_ret
      exact ⟨by rw [HMf.out]; rfl, Below_next hb0.out hb2⟩
end Go.Proofs.YtahbbnimoogapaaGreatDoor
