/- The document's own layer 9: Write, Path. The document's own layer 9: Path. The document's own layer 9: routed. The document's own layer 9: localAt. The document's own layer 9: localAt, in quotes; localAt whole. The document's own layer 9: laws for a mailbox that is a result. The document's own layer 9: a path at the beginning, by places. -/
import Derived.Test.YtahbbnimoogapaaGreatDoorMF
import Derived.Laws.Rows
import Derived.Test.YtahbbnimoogapaaGreatDoorME
namespace Go.Proofs.YtahbbnimoogapaaGreatDoor
open Go.RowKit

theorem escL_append (a b : List UInt8) : escL (a ++ b) = escL a ++ escL b := by
  induction a with
  | nil => rfl
  | cons c a ih =>
    rw [List.cons_append, escL, escL]
    split <;> simp [ih]
theorem escL_len (l : List UInt8) : (escL l).length ≤ 2 * l.length := by
  induction l with
  | nil => exact Nat.le_refl _
  | cons c l ih =>
    rw [escL]
    split <;> (simp only [List.length_cons]; omega)
theorem one_eq (c b : UInt8) : ((⟨#[c]⟩ : ByteArray).toList == [b]) = decide (c = b) := by
  rw [show (⟨#[c]⟩ : ByteArray).toList = [c] from ByteArray.toList_mk _]
  by_cases h : c = b
  · rw [h, decide_eq_true rfl]; simp
  · rw [decide_eq_false h]; simpa using h
theorem escL_take {l : List UInt8} {k : Nat} {c : UInt8} (h : l[k]? = some c) : escL (l.take (k + 1)) = escL (l.take k) ++ (if c = 34 ∨ c = 92 then [92, c] else [c]) := by
  rw [take_one h, escL_append]
  congr 1
theorem ext_one {s : ByteArray} {k : Nat} (h : k < s.size) : s.extract k (k + 1) = ⟨#[s[k]]⟩ := by
  have hl : k < s.data.toList.length := by simpa using h
  have h2 : s.data.toList[k] = s[k] := by
    have := byte_at h
    rw [List.getElem?_eq_getElem hl] at this
    exact Option.some.inj this
  rw [ext_ba, List.drop_eq_getElem_cons hl, show k + 1 - k = 1 by omega, List.take_succ_cons, List.take_zero, h2]
  rfl
/-- What Write answers. -/
def wrR (b : BoxA) : Value := if mayB b = true then .tuple #[.string (ba (wrL b)), .int .i64 0] else .tuple #[.string ⟨#[]⟩, .int .i64 2]

set_option maxHeartbeats 2000000 in
set_option maxRecDepth 100000 in
theorem rwrite_any (b : BoxA) (h1 : b.loc.length ≤ 1048576) (h2 : b.dom.length ≤ 1048576) (w : World) :
    Calls Tryz.prog 68 #[boxV b] w fun e w' => e = .returned (wrR b) ∧ Below w.heap.size w w' := by
  have HMy := Lib.hid (fun w => rmay_any b h1 h2 w)
  have HP := Lib.hid (fun w => rplain_any (ba b.loc) (by rw [ba_size]; exact h1) w)
  rw [ba_list] at HP
  have HW := Lib.hid (show wrR b = if mayB b = true then .tuple #[.string (ba (wrL b)), .int .i64 0] else .tuple #[.string ⟨#[]⟩, .int .i64 2] from rfl)
  have HWl := Lib.hid (show wrL b = if plaB b.loc = true then b.loc ++ 64 :: b.dom else 34 :: (escL b.loc ++ 34 :: 64 :: b.dom) from rfl)
  have HAt := Lib.hid (fun k (h : k < (ba b.loc).size) => byte_at (s := ba b.loc) h)
  rw [ba_list] at HAt
  have hA0 := Lib.hid (Arr.new w #[.string (ba b.loc), .string (ba b.dom)] 30)
  have hb0 := Lib.hid ((Below.refl w.heap.size w).alloc (Nat.le_refl _) (.cells #[.string (ba b.loc), .string (ba b.dom)] 30))
  have hsl := ba_size b.loc
  have hsd := ba_size b.dom
  rw [boxV] at HMy ⊢
  generalize wrR b = R at *
  generalize wrL b = WL at *
  cases hm : mayB b with
  | false =>
    rw [hm] at HMy
    have HR := Lib.hid (show R = .tuple #[.string ⟨#[]⟩, .int .i64 2] by rw [HW.out, if_neg (by rw [hm]; decide)])
    clear hm hsl hsd HAt HP h1 h2 HW HWl
    generalize ba b.dom = DD at *
    generalize ba b.loc = LL at *
    have c0 : (w.alloc (.cells #[.string LL, .string DD] 30)).cell? ⟨w.heap.size, 0, none⟩ = some (.string LL) := hA0.out.cell rfl
    have c1 : (w.alloc (.cells #[.string LL, .string DD] 30)).cell? ⟨w.heap.size, 1, none⟩ = some (.string DD) := hA0.out.cell rfl
    go_enter Tryz.func68, Tryz.ntmps68
    go_wp2_with (first
      | (go_at_call 90; (with_reducible refine (HMy.out _).mono ?_); rintro e w2 ⟨rfl, hb2⟩))
    go_ret2
    exact ⟨by rw [HR.out]; rfl, Below_next hb0.out hb2⟩
  | true =>
    rw [hm] at HMy
    have HR := Lib.hid (show R = .tuple #[.string (ba WL), .int .i64 0] by rw [HW.out, if_pos hm])
    cases hp : plaB b.loc with
    | true =>
      rw [hp] at HP
      have hW2 : ba WL = (ba b.loc ++ ⟨#[64]⟩) ++ ba b.dom := by
        rw [HWl.out, if_pos hp]
        apply ByteArray.ext
        simp [ba]
      have e1 : (⟨#[64]⟩ : ByteArray).size = 1 := rfl
      have s1 := cat_run (ba b.loc) ⟨#[64]⟩ (by omega)
      have s2 := cat_run (ba b.loc ++ ⟨#[64]⟩) (ba b.dom) (by rw [ByteArray.size_append]; omega)
      rw [← hW2] at s2
      clear hm hp hW2 HW HWl hsl hsd e1 h1 h2 HAt
      generalize ba WL = W2 at *
      generalize ba b.loc ++ ⟨#[64]⟩ = L2 at *
      generalize ba b.dom = DD at *
      generalize ba b.loc = LL at *
      have c0 : (w.alloc (.cells #[.string LL, .string DD] 30)).cell? ⟨w.heap.size, 0, none⟩ = some (.string LL) := hA0.out.cell rfl
      have c1 : (w.alloc (.cells #[.string LL, .string DD] 30)).cell? ⟨w.heap.size, 1, none⟩ = some (.string DD) := hA0.out.cell rfl
      go_enter Tryz.func68, Tryz.ntmps68
      go_wp2_with (first
        | (go_at_call 90; (with_reducible refine (HMy.out _).mono ?_); rintro e w2 ⟨rfl, hb2⟩; have hA2 := Lib.hid (hA0.out.next hb2); have c20 := hA2.out.cell (j := 0) rfl)
        | (go_at_call 91; (with_reducible refine (HP.out _).mono ?_); rintro e w3 ⟨rfl, hb3⟩; have c30 := (hA2.out.next hb3).cell (j := 0) rfl; have c31 := (hA2.out.next hb3).cell (j := 1) rfl))
      go_ret2
      exact ⟨by rw [HR.out]; rfl, Below_next (Below_next hb0.out hb2) hb3⟩
    | false =>
      rw [hp] at HP
      have hW2 : ba WL = ((ba (34 :: escL b.loc)) ++ ⟨#[34, 64]⟩) ++ ba b.dom := by
        rw [HWl.out, if_neg (by rw [hp]; decide)]
        apply ByteArray.ext
        simp [ba]
      have hel := escL_len b.loc
      have e1 : (⟨#[34, 64]⟩ : ByteArray).size = 2 := rfl
      have hes : (ba (34 :: escL b.loc)).size = (escL b.loc).length + 1 := by rw [ba_size]; rfl
      have s1 := cat_run (ba (34 :: escL b.loc)) ⟨#[34, 64]⟩ (by omega)
      have s2 := cat_run (ba (34 :: escL b.loc) ++ ⟨#[34, 64]⟩) (ba b.dom) (by rw [ByteArray.size_append]; omega)
      rw [← hW2] at s2
      have HS1 := Lib.hid s1
      have HS2 := Lib.hid s2
      clear hm hp hW2 HW HWl hsd e1 h2 hel hes s1 s2
      generalize b.loc = l at *
      generalize ba WL = W2 at *
      generalize ba b.dom = DD at *
      generalize hLL : ba l = LL at *
      have HLL := Lib.hid hLL
      clear hLL
      have c0 : (w.alloc (.cells #[.string LL, .string DD] 30)).cell? ⟨w.heap.size, 0, none⟩ = some (.string LL) := hA0.out.cell rfl
      have c1 : (w.alloc (.cells #[.string LL, .string DD] 30)).cell? ⟨w.heap.size, 1, none⟩ = some (.string DD) := hA0.out.cell rfl
      go_enter Tryz.func68, Tryz.ntmps68
      go_wp2_with (first
        | (go_at_call 90; (with_reducible refine (HMy.out _).mono ?_); rintro e w2 ⟨rfl, hb2⟩; have hA2 := Lib.hid (hA0.out.next hb2); have c20 := hA2.out.cell (j := 0) rfl)
        | (go_at_call 91; (with_reducible refine (HP.out _).mono ?_); rintro e w3 ⟨rfl, hb3⟩; have c30 := (hA2.out.next hb3).cell (j := 0) rfl; have c31 := (hA2.out.next hb3).cell (j := 1) rfl))
      have HB3 := Lib.hid (Below_next (Below_next hb0.out hb2) hb3)
      clear hb2 hb3 hA0 hb0 HMy HP c0 c1 c20 hA2
      go_loopw [4, 5] (fun o i wr => ∃ k : Nat, i = .int .i64 (k : Int) ∧ o = .string (ba (34 :: escL (l.take k))) ∧ k ≤ LL.size ∧ w3 = wr) (fun _ i _ => 1048577 - (intOf i).toNat)
      case atStart => exact ⟨0, rfl, rfl, Nat.zero_le _, rfl⟩
      case round =>
        obtain ⟨k, rfl, rfl, hk, rfl⟩ := hrel
        have hk0 : (0 : Int) ≤ (k : Int) := by omega
        by_cases hlt : k < LL.size
        · have hli : (k : Int) < (LL.size : Int) := by omega
          have hat := HAt.out k hlt
          have hsx := slice_str LL (k : Int) ((k : Int) + 1) k (k + 1) rfl (by omega) (by omega) (by omega)
          rw [ext_one hlt] at hsx
          have q1 := one_eq LL[k] 34
          have q2 := one_eq LL[k] 92
          have he := escL_take hat
          have hlk := escL_len (l.take k)
          rw [List.length_take] at hlk
          have hos : (ba (34 :: escL (l.take k))).size ≤ 2 * k + 1 := by rw [ba_size, List.length_cons]; omega
          have eo : (⟨#[LL[k]]⟩ : ByteArray).size = 1 := rfl
          have e9 : (⟨#[92]⟩ : ByteArray).size = 1 := rfl
          by_cases h34 : LL[k] = 34 ∨ LL[k] = 92
          · rw [if_pos h34] at he
            have hcat1 := cat_run (ba (34 :: escL (l.take k))) ⟨#[92]⟩ (by omega)
            have hcat2 := cat_run (ba (34 :: escL (l.take k)) ++ ⟨#[92]⟩) ⟨#[LL[k]]⟩ (by rw [ByteArray.size_append]; omega)
            have hN : (ba (34 :: escL (l.take k)) ++ ⟨#[92]⟩) ++ ⟨#[LL[k]]⟩ = ba (34 :: escL (l.take (k + 1))) := by
              rw [he]
              apply ByteArray.ext
              simp [ba]
            rw [hN] at hcat2
            by_cases h3 : LL[k] = 34
            · rw [decide_eq_true h3] at q1
              clear h34 h3 hN he hat q2 hos eo e9 hlk
              generalize (⟨#[LL[k]]⟩ : ByteArray) = CC at *
              generalize ba (34 :: escL (l.take k)) ++ ⟨#[92]⟩ = O2 at *
              go_wp2
              go_roundw
              case rel => exact ⟨k + 1, by go_num, rfl, by omega, trivial⟩
              case measure => simp only [intOf]; omega
            · rw [decide_eq_false h3] at q1
              rw [decide_eq_true (h34.resolve_left h3)] at q2
              clear h34 h3 hN he hat hos eo e9 hlk
              generalize (⟨#[LL[k]]⟩ : ByteArray) = CC at *
              generalize ba (34 :: escL (l.take k)) ++ ⟨#[92]⟩ = O2 at *
              go_wp2
              go_roundw
              case rel => exact ⟨k + 1, by go_num, rfl, by omega, trivial⟩
              case measure => simp only [intOf]; omega
          · rw [if_neg h34] at he
            have hcat2 := cat_run (ba (34 :: escL (l.take k))) ⟨#[LL[k]]⟩ (by omega)
            have hN : ba (34 :: escL (l.take k)) ++ ⟨#[LL[k]]⟩ = ba (34 :: escL (l.take (k + 1))) := by
              rw [he]
              apply ByteArray.ext
              simp [ba]
            rw [hN] at hcat2
            rw [decide_eq_false (fun h => h34 (.inl h))] at q1
            rw [decide_eq_false (fun h => h34 (.inr h))] at q2
            clear h34 hN he hat hos eo e9 hlk
            generalize (⟨#[LL[k]]⟩ : ByteArray) = CC at *
            go_wp2
            go_roundw
            case rel => exact ⟨k + 1, by go_num, rfl, by omega, trivial⟩
            case measure => simp only [intOf]; omega
        · have hli : ¬ (k : Int) < (LL.size : Int) := by omega
          have s1 := HS1.out
          have s2 := HS2.out
          rw [List.take_of_length_le (by omega)]
          generalize ba (34 :: escL l) ++ ⟨#[34, 64]⟩ = L2 at *
          generalize ba (34 :: escL l) = L3 at *
          go_wp2
          go_ret2
          exact ⟨by rw [HR.out]; rfl, HB3.out⟩
end Go.Proofs.YtahbbnimoogapaaGreatDoor
namespace Go.Proofs.YtahbbnimoogapaaGreatDoor
open Go.RowKit

/-- What Path answers. -/
def pathR (b : BoxA) : Value := match pathL b with
  | some p => .tuple #[.string (ba p), .int .i64 0]
  | none => .tuple #[.string ⟨#[]⟩, .int .i64 2]
theorem wrL_len (b : BoxA) : (wrL b).length ≤ 2 * b.loc.length + b.dom.length + 3 := by
  unfold wrL
  have := escL_len b.loc
  split <;> (simp only [List.length_append, List.length_cons]; omega)

set_option maxHeartbeats 1000000 in
set_option maxRecDepth 100000 in
theorem rpath_any (b : BoxA) (h1 : b.loc.length ≤ 1048576) (h2 : b.dom.length ≤ 1048576) (w : World) :
    Calls Tryz.prog 40 #[boxV b] w fun e w' => e = .returned (pathR b) ∧ Below w.heap.size w w' := by
  have HWr := Lib.hid (fun w => rwrite_any b h1 h2 w)
  have HR0 := Lib.hid (show pathR b = match pathL b with
    | some p => .tuple #[.string (ba p), .int .i64 0]
    | none => .tuple #[.string ⟨#[]⟩, .int .i64 2] from rfl)
  have HW := Lib.hid (show wrR b = if mayB b = true then .tuple #[.string (ba (wrL b)), .int .i64 0] else .tuple #[.string ⟨#[]⟩, .int .i64 2] from rfl)
  have HP := Lib.hid (show pathL b = if b.loc.length + b.dom.length = 0 then some [60, 62] else if mayB b = true then some (60 :: (wrL b ++ [62])) else none from rfl)
  have hwl := wrL_len b
  have hA0 := Lib.hid (Arr.new w #[.string (ba b.loc), .string (ba b.dom)] 30)
  have hb0 := Lib.hid ((Below.refl w.heap.size w).alloc (Nat.le_refl _) (.cells #[.string (ba b.loc), .string (ba b.dom)] 30))
  have hsl := ba_size b.loc
  have hsd := ba_size b.dom
  rw [boxV] at HWr ⊢
  generalize pathR b = R at *
  generalize wrR b = RW at *
  by_cases h0 : b.loc.length + b.dom.length = 0
  · have HR := Lib.hid (show R = .tuple #[.string (ba [60, 62]), .int .i64 0] by rw [HR0.out, HP.out, if_pos h0])
    generalize ba b.dom = DD at *
    generalize ba b.loc = LL at *
    have z : ((LL.size : Int) + (DD.size : Int) == 0) = true := by rw [show (LL.size : Int) + (DD.size : Int) = 0 by omega]; rfl
    have hz : IntKind.i64.wrap ((LL.size : Int) + (DD.size : Int)) = (LL.size : Int) + (DD.size : Int) := by rw [IntKind.wrap_i64]; omega
    have c0 : (w.alloc (.cells #[.string LL, .string DD] 30)).cell? ⟨w.heap.size, 0, none⟩ = some (.string LL) := hA0.out.cell rfl
    have c1 : (w.alloc (.cells #[.string LL, .string DD] 30)).cell? ⟨w.heap.size, 1, none⟩ = some (.string DD) := hA0.out.cell rfl
    have l1 : LL.size ≤ 1048576 := by omega
    have l2 : DD.size ≤ 1048576 := by omega
    clear h0 hsl hsd hwl h1 h2
    go_enter Tryz.func40, Tryz.ntmps40
    go_wp2
    go_ret2
    exact ⟨by rw [HR.out]; rfl, hb0.out⟩
  · have hpos : ¬ (ba b.loc).size + (ba b.dom).size = 0 := by omega
    have l1 : (ba b.loc).size ≤ 1048576 := by omega
    have l2 : (ba b.dom).size ≤ 1048576 := by omega
    cases hm : mayB b with
    | false =>
      have HR := Lib.hid (show R = .tuple #[.string ⟨#[]⟩, .int .i64 2] by rw [HR0.out, HP.out, if_neg h0, if_neg (by rw [hm]; decide)])
      have hrw : RW = .tuple #[.string ⟨#[]⟩, .int .i64 2] := by rw [HW.out, if_neg (by rw [hm]; decide)]
      rw [hrw] at HWr
      clear hrw hm h0 hsl hsd hwl h1 h2
      generalize ba b.dom = DD at *
      generalize ba b.loc = LL at *
      have z : ((LL.size : Int) + (DD.size : Int) == 0) = false := beq_false_of_ne (by omega)
      have c0 : (w.alloc (.cells #[.string LL, .string DD] 30)).cell? ⟨w.heap.size, 0, none⟩ = some (.string LL) := hA0.out.cell rfl
      have c1 : (w.alloc (.cells #[.string LL, .string DD] 30)).cell? ⟨w.heap.size, 1, none⟩ = some (.string DD) := hA0.out.cell rfl
      clear hpos
      go_enter Tryz.func40, Tryz.ntmps40
      go_wp2_with (first
        | (go_at_call 68; (with_reducible refine (HWr.out _).mono ?_); rintro e w2 ⟨rfl, hb2⟩))
      go_ret2
      exact ⟨by rw [HR.out]; rfl, Below_next hb0.out hb2⟩
    | true =>
      have HR := Lib.hid (show R = .tuple #[.string (ba (60 :: (wrL b ++ [62]))), .int .i64 0] by rw [HR0.out, HP.out, if_neg h0, if_pos hm])
      have hrw : RW = .tuple #[.string (ba (wrL b)), .int .i64 0] := by rw [HW.out, if_pos hm]
      rw [hrw] at HWr
      have e1 : (⟨#[60]⟩ : ByteArray).size = 1 := rfl
      have e2 : (⟨#[62]⟩ : ByteArray).size = 1 := rfl
      have hws := ba_size (wrL b)
      have s1 := cat_run ⟨#[60]⟩ (ba (wrL b)) (by omega)
      have s2 := cat_run (⟨#[60]⟩ ++ ba (wrL b)) ⟨#[62]⟩ (by rw [ByteArray.size_append]; omega)
      have hN : (⟨#[60]⟩ ++ ba (wrL b)) ++ ⟨#[62]⟩ = ba (60 :: (wrL b ++ [62])) := by
        apply ByteArray.ext
        simp [ba]
      rw [hN] at s2
      clear hrw hm h0 hsl hsd hwl h1 h2 e1 e2 hws hN
      generalize ba (60 :: (wrL b ++ [62])) = N2 at *
      generalize (⟨#[60]⟩ ++ ba (wrL b) : ByteArray) = N1 at *
      generalize ba (wrL b) = N0 at *
      generalize ba b.dom = DD at *
      generalize ba b.loc = LL at *
      have z : ((LL.size : Int) + (DD.size : Int) == 0) = false := beq_false_of_ne (by omega)
      have c0 : (w.alloc (.cells #[.string LL, .string DD] 30)).cell? ⟨w.heap.size, 0, none⟩ = some (.string LL) := hA0.out.cell rfl
      have c1 : (w.alloc (.cells #[.string LL, .string DD] 30)).cell? ⟨w.heap.size, 1, none⟩ = some (.string DD) := hA0.out.cell rfl
      clear hpos
      go_enter Tryz.func40, Tryz.ntmps40
      go_wp2_with (first
        | (go_at_call 68; (with_reducible refine (HWr.out _).mono ?_); rintro e w2 ⟨rfl, hb2⟩))
      go_ret2
      exact ⟨by rw [HR.out]; rfl, Below_next hb0.out hb2⟩
end Go.Proofs.YtahbbnimoogapaaGreatDoor
namespace Go.Proofs.YtahbbnimoogapaaGreatDoor
open Go.RowKit

theorem tw_take (p : UInt8 → Bool) (m : List UInt8) : m.take (m.takeWhile p).length = m.takeWhile p ∧ m.drop (m.takeWhile p).length = m.dropWhile p := by
  have e := List.takeWhile_append_dropWhile (p := p) (l := m)
  constructor
  · conv => lhs; rw [← e]
    rw [List.take_append_of_le_length (by rw [e]; exact Nat.le_refl _), e]
    exact List.take_length
  · conv => lhs; arg 2; rw [← e]
    exact List.drop_left
/-- Where a route ends; below 0: there is something else. -/
def rtV (l : List UInt8) : Option (List UInt8) → Value
  | none => .int .i64 (-1)
  | some r => .int .i64 ((l.length - r.length : Nat) : Int)
theorem routeF_at {n : Nat} {m : List UInt8} (h : m[0]? = some 64) : routeF (n + 1) m = if domB ((m.drop 1).takeWhile dcB) = true then
        match (m.drop 1).dropWhile dcB with
        | 58 :: r => some r
        | 44 :: 64 :: r => routeF n (64 :: r)
        | _ => none
      else none := by rw [routeF, if_pos h]; rfl
theorem drop_get {l : List UInt8} {j : Nat} : (l.drop j)[0]? = l[j]? := by rw [List.getElem?_drop, Nat.add_zero]

theorem drop_some {l : List UInt8} {q : Nat} {c : UInt8} (h : l[q]? = some c) : l.drop q = c :: l.drop (q + 1) := by
  obtain ⟨hq, e⟩ := List.getElem?_eq_some_iff.1 h
  rw [List.drop_eq_getElem_cons hq, e]
/-- What a route's domain is followed by. -/
def folR (n : Nat) (m : List UInt8) : Option (List UInt8) := match m with
  | 58 :: r => some r
  | 44 :: 64 :: r => routeF n (64 :: r)
  | _ => none
theorem folR_none {n : Nat} {l : List UInt8} {q : Nat} (h1 : l[q]? ≠ some 58) (h2 : ¬ (l[q]? = some 44 ∧ l[q + 1]? = some 64)) : folR n (l.drop q) = none := by
  unfold folR
  split
  · rename_i r e
    exact absurd (by rw [← drop_get, e]; rfl) h1
  · rename_i r e
    refine absurd ⟨by rw [← drop_get, e]; rfl, ?_⟩ h2
    have : (l.drop q)[1]? = l[q + 1]? := by rw [List.getElem?_drop]
    rw [← this, e]
    rfl
  · rfl

set_option maxHeartbeats 2000000 in
set_option maxRecDepth 100000 in
theorem rrouted_any (s : ByteArray) (hs : s.size ≤ 524288) (i : Nat) (hi : i ≤ s.size) (w : World) :
    Calls Tryz.prog 83 #[.string s, .int .i64 (i : Int)] w fun e w' => e = .returned (rtV s.data.toList (routeL (s.data.toList.drop i))) ∧ Below w.heap.size w w' := by
  have HIs := Lib.hid (fun (k : Nat) (c : UInt8) w => ris_any s k c w)
  have HDa := Lib.hid (fun (k : Nat) (h : k ≤ s.size) w => rdomAt_any s (by omega) k h w)
  have HX := Lib.hid (fun a b => ext_ba s a b)
  have hll : s.data.toList.length = s.size := by simp
  have HDl := Lib.hid (fun k => domN_le s.data.toList k)
  generalize s.data.toList = l at *
  have HV := Lib.hid (fun o (h : routeL (l.drop i) = o) => (h ▸ rfl : rtV l (routeL (l.drop i)) = rtV l o))
  have HR0 := Lib.hid (show routeF ((l.drop i).length + 1) (l.drop i) = routeL (l.drop i) from rfl)
  generalize hRR : routeL (l.drop i) = RR at *
  have hdl : ∀ k, (l.drop k).length = l.length - k := fun k => List.length_drop
  have HDLen := Lib.hid hdl
  clear hdl hRR HV
  go_enter Tryz.func83, Tryz.ntmps83
  go_wp2
  go_loopw [1] (fun t wr => ∃ j n : Nat, t = .int .i64 (j : Int) ∧ j ≤ s.size ∧ (l.drop j).length < n ∧ routeF n (l.drop j) = RR ∧ Below w.heap.size w wr) (fun t _ => 1048577 - (intOf t).toNat)
  case atStart => exact ⟨i, _, rfl, hi, Nat.lt_succ_self _, HR0.out, Below.refl _ _⟩
  case round =>
    clear HR0
    obtain ⟨j, n, rfl, hj, hn, hr, hbel⟩ := hrel
    have hj0 : (0 : Int) ≤ (j : Int) := by omega
    have hI0 := HIs.out j 64 wr
    rw [show (((64 : UInt8).toNat : Nat) : Int) = 64 from rfl] at hI0
    by_cases h64 : l[j]? = some 64
    · have hjl : j < s.size := by have := (List.getElem?_eq_some_iff.1 h64).1; omega
      rw [decide_eq_true h64] at hI0
      obtain ⟨n, rfl⟩ : ∃ m, n = m + 1 := ⟨n - 1, by omega⟩
      rw [routeF_at (by rw [drop_get]; exact h64), List.drop_drop] at hr
      have hD := HDa.out (j + 1) (by omega)
      have hdn := HDl.out (j + 1)
      obtain ⟨d, hd⟩ : ∃ d, d = domN l (j + 1) := ⟨_, rfl⟩
      rw [← hd] at hdn
      have hjd : j + 1 + d ≤ s.size := by omega
      obtain ⟨t1, t2⟩ := tw_take dcB (l.drop (j + 1))
      have hd' : ((l.drop (j + 1)).takeWhile dcB).length = d := hd.symm
      rw [hd'] at t1 t2
      rw [List.drop_drop] at t2
      have hsl := slice_str s ((j : Int) + 1) ((j : Int) + 1 + (d : Int)) (j + 1) (j + 1 + d) (by omega) (by omega) (by omega) hjd
      rw [HX.out, show j + 1 + d - (j + 1) = d by omega, t1] at hsl
      have HDo := Lib.hid (fun w => rdomain_any (ba ((l.drop (j + 1)).takeWhile dcB)) (by rw [ba_size, hd']; omega) w)
      rw [ba_list] at HDo
      rw [← t2] at hr
      rw [show (((j + 1 : Nat) : Int)) = (j : Int) + 1 by omega, ← hd] at hD
      have HD := Lib.hid hD
      have hw1 : IntKind.i64.wrap ((j : Int) + 1) = (j : Int) + 1 := by rw [IntKind.wrap_i64]; omega
      have hw2 : IntKind.i64.wrap ((j : Int) + 1 + (d : Int)) = (j : Int) + 1 + (d : Int) := by rw [IntKind.wrap_i64]; omega
      have HI0 := Lib.hid hI0
      have hd0 : (0 : Int) ≤ (d : Int) := by omega
      have hjds : (j : Int) + 1 + (d : Int) ≤ 524288 := by omega
      cases hdo : domB ((l.drop (j + 1)).takeWhile dcB) with
      | false =>
        rw [domR, if_neg (by rw [hdo]; decide)] at HDo
        rw [hdo, if_neg (by decide)] at hr
        have HR := Lib.hid hr
        generalize ba ((l.drop (j + 1)).takeWhile dcB) = T at *
        clear hr hdo t1 t2 hd' hd hdn hD hI0 h64 hn hjd hjl
        go_wp2_with (first
          | (go_at_call 82; (with_reducible refine HI0.out.mono ?_); rintro e w2 ⟨rfl, rfl⟩)
          | (go_at_call 85; (with_reducible refine (HD.out _).mono ?_); rintro e w2 ⟨rfl, rfl⟩)
          | (go_at_call 33; (with_reducible refine (HDo.out _).mono ?_); rintro e w3 ⟨rfl, hb3⟩))
        go_ret
        exact ⟨by rw [← HR.out]; rfl, Below_next hbel hb3⟩
      | true =>
        rw [domR, if_pos hdo] at HDo
        rw [hdo, if_pos rfl] at hr
        have HR := Lib.hid (show folR n (l.drop (j + 1 + d)) = RR from hr)
        obtain ⟨q, hq⟩ : ∃ q, q = j + 1 + d := ⟨_, rfl⟩
        have hqi : (j : Int) + (1 + (d : Int)) = (q : Int) := by omega
        have hq0 : (0 : Int) ≤ (q : Int) := by omega
        have hq9 : (q : Int) ≤ 524288 := by omega
        have hql : q ≤ s.size := by omega
        rw [← hq] at HR
        have HDL2 := Lib.hid (show (l.drop (q + 1)).length < n by rw [HDLen.out] at hn ⊢; omega)
        have hI1 := fun w => HIs.out q 58 w
        rw [show (((58 : UInt8).toNat : Nat) : Int) = 58 from rfl] at hI1
        have hI2 := fun w => HIs.out q 44 w
        rw [show (((44 : UInt8).toNat : Nat) : Int) = 44 from rfl] at hI2
        have hI3 := fun w => HIs.out (q + 1) 64 w
        rw [show (((64 : UInt8).toNat : Nat) : Int) = 64 from rfl, show ((q + 1 : Nat) : Int) = (q : Int) + 1 by omega] at hI3
        have hw3 : IntKind.i64.wrap ((q : Int) + 1) = (q : Int) + 1 := by rw [IntKind.wrap_i64]; omega
        have HQ := Lib.hid hq
        generalize ba ((l.drop (j + 1)).takeWhile dcB) = T at *
        generalize ba (smL ((l.drop (j + 1)).takeWhile dcB)) = T2 at *
        clear hr hdo t1 t2 hd' hd hdn hD hI0 h64 hjd hq
        by_cases h58 : l[q]? = some 58
        · have hI1' := hI1
          rw [decide_eq_true h58] at hI1'
          have HI1 := Lib.hid hI1'
          have hq2 : q + 1 ≤ l.length := by have := (List.getElem?_eq_some_iff.1 h58).1; omega
          have HV := Lib.hid (show rtV l RR = .int .i64 ((q : Int) + 1) by
            rw [← HR.out, drop_some h58]
            show Value.int .i64 ((l.length - (l.drop (q + 1)).length : Nat) : Int) = _
            rw [HDLen.out]
            congr 1
            omega)
          clear hI1 hI1' hI2 hI3 h58 hn hjl
          go_wp2_with (first
            | (go_at_call 82; (with_reducible refine HI0.out.mono ?_); rintro e w2 ⟨rfl, rfl⟩)
            | (go_at_call 85; (with_reducible refine (HD.out _).mono ?_); rintro e w2 ⟨rfl, rfl⟩)
            | (go_at_call 33; (with_reducible refine (HDo.out _).mono ?_); rintro e w3 ⟨rfl, hb3⟩)
            | (go_at_call 82; (with_reducible refine (HI1.out _).mono ?_); rintro e w4 ⟨rfl, rfl⟩))
          go_ret
          exact ⟨by rw [HV.out]; rfl, Below_next hbel hb3⟩
        · rw [decide_eq_false h58] at hI1
          have HI1 := Lib.hid hI1
          by_cases h44 : l[q]? = some 44
          · rw [decide_eq_true h44] at hI2
            have HI2 := Lib.hid hI2
            by_cases h64 : l[q + 1]? = some 64
            · rw [decide_eq_true h64] at hI3
              have HI3 := Lib.hid hI3
              have HR2 := Lib.hid (show routeF n (l.drop (q + 1)) = RR by
                rw [← HR.out, drop_some h44, drop_some h64]
                rfl)
              have hq2 : q + 1 ≤ s.size := by have := (List.getElem?_eq_some_iff.1 h64).1; omega
              clear hI1 hI2 hI3 h58 h44 h64 hn hjl
              go_wp2_with (first
                | (go_at_call 82; (with_reducible refine HI0.out.mono ?_); rintro e w2 ⟨rfl, rfl⟩)
                | (go_at_call 85; (with_reducible refine (HD.out _).mono ?_); rintro e w2 ⟨rfl, rfl⟩)
                | (go_at_call 33; (with_reducible refine (HDo.out _).mono ?_); rintro e w3 ⟨rfl, hb3⟩)
                | (go_at_call 82; (with_reducible refine (HI1.out _).mono ?_); rintro e w4 ⟨rfl, rfl⟩)
                | (go_at_call 82; (with_reducible refine (HI2.out _).mono ?_); rintro e w4 ⟨rfl, rfl⟩)
                | (go_at_call 82; (with_reducible refine (HI3.out _).mono ?_); rintro e w4 ⟨rfl, rfl⟩))
              go_roundw
              case rel => exact ⟨q + 1, n, by go_num, hq2, HDL2.out, HR2.out, Below_next hbel hb3⟩
              case measure => simp only [intOf]; have := HQ.out; omega
            · rw [decide_eq_false h64] at hI3
              have HI3 := Lib.hid hI3
              have HV := Lib.hid (show rtV l RR = .int .i64 (-1) by rw [← HR.out, folR_none h58 (fun e => h64 e.2)]; rfl)
              clear hI1 hI2 hI3 h58 h44 h64 hn hjl
              go_wp2_with (first
                | (go_at_call 82; (with_reducible refine HI0.out.mono ?_); rintro e w2 ⟨rfl, rfl⟩)
                | (go_at_call 85; (with_reducible refine (HD.out _).mono ?_); rintro e w2 ⟨rfl, rfl⟩)
                | (go_at_call 33; (with_reducible refine (HDo.out _).mono ?_); rintro e w3 ⟨rfl, hb3⟩)
                | (go_at_call 82; (with_reducible refine (HI1.out _).mono ?_); rintro e w4 ⟨rfl, rfl⟩)
                | (go_at_call 82; (with_reducible refine (HI2.out _).mono ?_); rintro e w4 ⟨rfl, rfl⟩)
                | (go_at_call 82; (with_reducible refine (HI3.out _).mono ?_); rintro e w4 ⟨rfl, rfl⟩))
              go_ret
              exact ⟨by rw [HV.out]; rfl, Below_next hbel hb3⟩
          · rw [decide_eq_false h44] at hI2
            have HI2 := Lib.hid hI2
            have HV := Lib.hid (show rtV l RR = .int .i64 (-1) by rw [← HR.out, folR_none h58 (fun e => h44 e.1)]; rfl)
            clear hI1 hI2 hI3 h58 h44 hn hjl
            go_wp2_with (first
              | (go_at_call 82; (with_reducible refine HI0.out.mono ?_); rintro e w2 ⟨rfl, rfl⟩)
              | (go_at_call 85; (with_reducible refine (HD.out _).mono ?_); rintro e w2 ⟨rfl, rfl⟩)
              | (go_at_call 33; (with_reducible refine (HDo.out _).mono ?_); rintro e w3 ⟨rfl, hb3⟩)
              | (go_at_call 82; (with_reducible refine (HI1.out _).mono ?_); rintro e w4 ⟨rfl, rfl⟩)
              | (go_at_call 82; (with_reducible refine (HI2.out _).mono ?_); rintro e w4 ⟨rfl, rfl⟩))
            go_ret
            exact ⟨by rw [HV.out]; rfl, Below_next hbel hb3⟩
    · rw [decide_eq_false h64] at hI0
      have HI0 := Lib.hid hI0
      obtain ⟨n, rfl⟩ : ∃ m, n = m + 1 := ⟨n - 1, by omega⟩
      rw [routeF, if_neg (by rw [drop_get]; exact h64)] at hr
      have HR := Lib.hid hr
      have HJ := Lib.hid (show l.length - (l.drop j).length = j by rw [HDLen.out]; omega)
      clear hr hI0 h64 hn
      go_wp2_with (first
        | (go_at_call 82; (with_reducible refine HI0.out.mono ?_); rintro e w2 ⟨rfl, rfl⟩))
      go_ret
      exact ⟨by rw [← HR.out, rtV, HJ.out]; rfl, hbel⟩
end Go.Proofs.YtahbbnimoogapaaGreatDoor
namespace Go.Proofs.YtahbbnimoogapaaGreatDoor
open Go.RowKit

theorem obKeep {w w' : World} {base : Nat} {v : Value} {l : List UInt8} (h : Ob w base v l) (hb : Below w.heap.size w w') : Ob w' base v l :=
  World.ownsRow.kept (row := none) h ⟨hb.os, hb.tape, hb.output, hb.size, fun i hi _ => hb.block i hi⟩ (Classical.em _)
/-- What localAt answers. -/
def locV (l : List UInt8) : Option (List UInt8 × List UInt8) → Value
  | none => .tuple #[.string ⟨#[]⟩, .int .i64 (-1)]
  | some p => .tuple #[.string (ba p.1), .int .i64 ((l.length - p.2.length : Nat) : Int)]
def pcB (c : UInt8) : Bool := atB c || c == 46
theorem locL_bare {m : List UInt8} (h : m[0]? ≠ some 34) : locL m = if plaB (m.takeWhile pcB) = true then some (m.takeWhile pcB, m.dropWhile pcB) else none := by rw [locL, if_neg h]; rfl
theorem locL_quo {m : List UInt8} (h : m[0]? = some 34) : locL m = match quoL (m.drop 1) with
    | none => none
    | some p => if locB p.1 = true then some p else none := by rw [locL, if_pos h]; rfl

set_option maxHeartbeats 2000000 in
set_option maxRecDepth 100000 in
theorem rlocal_bare (s : ByteArray) (hs : s.size ≤ 524288) (i : Nat) (hi : i ≤ s.size) (h34 : s.data.toList[i]? ≠ some 34) (w : World) :
    Calls Tryz.prog 84 #[.string s, .int .i64 (i : Int)] w fun e w' => e = .returned (locV s.data.toList (locL (s.data.toList.drop i))) ∧ Below w.heap.size w w' := by
  have hI0 := fun w => ris_any s i 34 w
  rw [show (((34 : UInt8).toNat : Nat) : Int) = 34 from rfl, decide_eq_false h34] at hI0
  have HI0 := Lib.hid hI0
  have HL := Lib.hid (fun c w => rletter_any c w)
  have HG := Lib.hid (fun c w => rsign_any c w)
  have HAt := Lib.hid (fun k (h : k < s.size) => byte_at (s := s) h)
  have hll : s.data.toList.length = s.size := by simp
  generalize s.data.toList = l at *
  have HLo := Lib.hid (locL_bare (m := l.drop i) (by rw [drop_get]; exact h34))
  obtain ⟨t1, t2⟩ := tw_take pcB (l.drop i)
  have HT1 := Lib.hid t1
  have HT2 := Lib.hid t2
  have hb0 := Lib.hid ((Below.refl w.heap.size w).alloc (Nat.le_refl _) (.cells #[] 5))
  clear t1 t2 hI0 h34
  go_enter Tryz.func84, Tryz.ntmps84
  go_wp2_with (first
    | (go_at_call 82; (with_reducible refine (HI0.out _).mono ?_); rintro e w2 ⟨rfl, rfl⟩))
  go_loopw [6, 1] (fun o t wr => ∃ k : Nat, t = .int .i64 ((i + k : Nat) : Int) ∧ i + k ≤ s.size ∧ k ≤ ((l.drop i).takeWhile pcB).length ∧ Ob wr w.heap.size o ((l.drop i).take k) ∧ Below w.heap.size w wr) (fun _ t _ => 1048577 - (intOf t).toNat)
  case atStart => exact ⟨0, rfl, hi, Nat.zero_le _, Ob.start w _ (Nat.le_refl _), hb0.out⟩
  case round =>
    clear hb0
    obtain ⟨k, rfl, hk, hkn, hown, hbel⟩ := hrel
    have HKN := Lib.hid hkn
    have HOw := Lib.hid hown
    clear hkn hown
    obtain ⟨j, hj⟩ : ∃ j, j = i + k := ⟨_, rfl⟩
    rw [← hj] at hk ⊢
    have HJ := Lib.hid hj
    have hj0 : (0 : Int) ≤ (j : Int) := by omega
    have hk6 : k ≤ 524288 := by omega
    by_cases hlt : j < s.size
    · have hli : (j : Int) < (s.size : Int) := by omega
      have hat := HAt.out j hlt
      have hL := HL.out s[j]
      have hG := HG.out s[j]
      obtain ⟨c, hc⟩ : ∃ c, c = s[j] := ⟨_, rfl⟩
      have q46 := byte_int (a := s[j]) (b := 46)
      rw [show (((46 : UInt8).toNat : Nat) : Int) = 46 from rfl] at q46
      rw [← hc] at hat
      have HTk := Lib.hid (show (l.drop i).take (k + 1) = (l.drop i).take k ++ [s[j]] by
        rw [← hc]
        exact take_one (by rw [List.getElem?_drop, ← hj]; exact hat))
      have hlen : ((l.drop i).take k).length ≤ 524288 := by rw [List.length_take]; omega
      have HLen := Lib.hid hlen
      clear hlen
      have hstep : pcB c = true → k + 1 ≤ ((l.drop i).takeWhile pcB).length := fun h => tw_step' hj hat h HKN.out
      by_cases h1 : letB c = true
      · rw [← hc, h1, hc] at hL
        have HLt := Lib.hid hL
        have HK2 := Lib.hid (hstep (by rw [pcB, atB, h1]; rfl))
        clear hat hL hG hstep h1 hc q46 hj
        go_wp2_with (first
          | (go_at_call 59; (with_reducible refine (HLt.out _).mono ?_); rintro e w2 ⟨rfl, rfl⟩)
          | (at_builtin; refine wpList_push2 wr HOw.out rfl _ _ rfl rfl rfl s[j] rfl (by have := HLen.out; omega) hbel.size ?_; intro v' w5 h5 hb5; rw [← HTk.out] at h5))
        go_roundw
        case rel => exact ⟨k + 1, by rw [← Nat.add_assoc, ← HJ.out]; go_num, by have := HJ.out; omega, HK2.out, h5, hbel.trans hb5⟩
        case measure => simp only [intOf]; omega
      · have h1f : letB c = false := Bool.eq_false_iff.2 h1
        rw [← hc, h1f, hc] at hL
        have HLf := Lib.hid hL
        by_cases h2 : sigB c = true
        · rw [← hc, h2, hc] at hG
          have HGx := Lib.hid hG
          have HK2 := Lib.hid (hstep (by rw [pcB, atB, h2]; simp))
          clear hat hL hG hstep h1 hc q46 h2 h1f hj
          go_wp2_with (first
            | (go_at_call 59; (with_reducible refine (HLf.out _).mono ?_); rintro e w2 ⟨rfl, rfl⟩)
            | (go_at_call 119; (with_reducible refine (HGx.out _).mono ?_); rintro e w2 ⟨rfl, rfl⟩)
            | (at_builtin; refine wpList_push2 wr HOw.out rfl _ _ rfl rfl rfl s[j] rfl (by have := HLen.out; omega) hbel.size ?_; intro v' w5 h5 hb5; rw [← HTk.out] at h5))
          go_roundw
          case rel => exact ⟨k + 1, by rw [← Nat.add_assoc, ← HJ.out]; go_num, by have := HJ.out; omega, HK2.out, h5, hbel.trans hb5⟩
          case measure => simp only [intOf]; omega
        · have h2f : sigB c = false := Bool.eq_false_iff.2 h2
          rw [← hc, h2f, hc] at hG
          have HGx := Lib.hid hG
          by_cases h46 : c = 46
          · rw [← hc, decide_eq_true h46, hc] at q46
            have HK2 := Lib.hid (hstep (by rw [h46]; decide))
            clear hat hL hG hstep h1 hc h2 h1f h2f h46 hj
            go_wp2_with (first
              | (go_at_call 59; (with_reducible refine (HLf.out _).mono ?_); rintro e w2 ⟨rfl, rfl⟩)
              | (go_at_call 119; (with_reducible refine (HGx.out _).mono ?_); rintro e w2 ⟨rfl, rfl⟩)
              | (at_builtin; refine wpList_push2 wr HOw.out rfl _ _ rfl rfl rfl s[j] rfl (by have := HLen.out; omega) hbel.size ?_; intro v' w5 h5 hb5; rw [← HTk.out] at h5))
            go_roundw
            case rel => exact ⟨k + 1, by rw [← Nat.add_assoc, ← HJ.out]; go_num, by have := HJ.out; omega, HK2.out, h5, hbel.trans hb5⟩
            case measure => simp only [intOf]; omega
          · rw [← hc, decide_eq_false h46, hc] at q46
            have hend := tw_end' (p := pcB) hj HKN.out (.inr ⟨c, hat, by rw [pcB, atB, h1f, h2f]; simp [h46]⟩)
            have hkk : (l.drop i).take k = (l.drop i).takeWhile pcB := by rw [hend]; exact HT1.out
            rw [hkk] at HOw
            have hrest : l.length - ((l.drop i).dropWhile pcB).length = j := by
              rw [← HT2.out, List.length_drop, List.length_drop, ← hend]
              omega
            have hTs : (ba ((l.drop i).takeWhile pcB)).size ≤ 1048576 := by rw [ba_size, ← hend]; omega
            have HPl := Lib.hid (fun w => rplain_any (ba ((l.drop i).takeWhile pcB)) hTs w)
            rw [ba_list] at HPl
            have HRe := Lib.hid hrest
            cases hpl : plaB ((l.drop i).takeWhile pcB) with
            | true =>
              rw [hpl] at HPl
              have HV := Lib.hid (show locV l (locL (l.drop i)) = .tuple #[.string (ba ((l.drop i).takeWhile pcB)), .int .i64 (j : Int)] by
                rw [HLo.out, if_pos hpl]
                show Value.tuple #[.string (ba ((l.drop i).takeWhile pcB)), .int .i64 ((l.length - ((l.drop i).dropWhile pcB).length : Nat) : Int)] = _
                rw [HRe.out])
              have HTT := Lib.hid (show (⟨((l.drop i).takeWhile pcB).toArray⟩ : ByteArray) = ba ((l.drop i).takeWhile pcB) from rfl)
              clear hend hkk hrest hTs hpl hat hL hG hstep h1 hc h2 h1f h2f h46 hj
              generalize (l.drop i).takeWhile pcB = TW at *
              go_wp2_with (first
                | (go_at_call 59; (with_reducible refine (HLf.out _).mono ?_); rintro e w2 ⟨rfl, rfl⟩)
                | (go_at_call 119; (with_reducible refine (HGx.out _).mono ?_); rintro e w2 ⟨rfl, rfl⟩)
                | (refine wpList_ob_string wr rfl _ rfl HOw.out rfl ?_; rw [HTT.out])
                | (go_at_call 91; (with_reducible refine (HPl.out _).mono ?_); rintro e w3 ⟨rfl, hb3⟩; have HOw3 := Lib.hid (obKeep HOw.out hb3))
                | (refine wpList_ob_string w3 rfl _ rfl HOw3.out rfl ?_; rw [HTT.out]))
              go_ret2
              exact ⟨by rw [HV.out]; rfl, Below_next hbel hb3⟩
            | false =>
              rw [hpl] at HPl
              have HV := Lib.hid (show locV l (locL (l.drop i)) = .tuple #[.string ⟨#[]⟩, .int .i64 (-1)] by rw [HLo.out, if_neg (by rw [hpl]; decide)]; rfl)
              have HTT := Lib.hid (show (⟨((l.drop i).takeWhile pcB).toArray⟩ : ByteArray) = ba ((l.drop i).takeWhile pcB) from rfl)
              clear hend hkk hrest hTs hpl hat hL hG hstep h1 hc h2 h1f h2f h46 hj
              generalize (l.drop i).takeWhile pcB = TW at *
              go_wp2_with (first
                | (go_at_call 59; (with_reducible refine (HLf.out _).mono ?_); rintro e w2 ⟨rfl, rfl⟩)
                | (go_at_call 119; (with_reducible refine (HGx.out _).mono ?_); rintro e w2 ⟨rfl, rfl⟩)
                | (refine wpList_ob_string wr rfl _ rfl HOw.out rfl ?_; rw [HTT.out])
                | (go_at_call 91; (with_reducible refine (HPl.out _).mono ?_); rintro e w3 ⟨rfl, hb3⟩))
              go_ret2
              exact ⟨by rw [HV.out]; rfl, Below_next hbel hb3⟩
    · have hli : ¬ (j : Int) < (s.size : Int) := by omega
      have hend := tw_end' (p := pcB) hj HKN.out (.inl (List.getElem?_eq_none (by omega)))
      have hkk : (l.drop i).take k = (l.drop i).takeWhile pcB := by rw [hend]; exact HT1.out
      rw [hkk] at HOw
      have hrest : l.length - ((l.drop i).dropWhile pcB).length = j := by
        rw [← HT2.out, List.length_drop, List.length_drop, ← hend]
        omega
      have hTs : (ba ((l.drop i).takeWhile pcB)).size ≤ 1048576 := by rw [ba_size, ← hend]; omega
      have HPl := Lib.hid (fun w => rplain_any (ba ((l.drop i).takeWhile pcB)) hTs w)
      rw [ba_list] at HPl
      have HRe := Lib.hid hrest
      cases hpl : plaB ((l.drop i).takeWhile pcB) with
      | true =>
        rw [hpl] at HPl
        have HV := Lib.hid (show locV l (locL (l.drop i)) = .tuple #[.string (ba ((l.drop i).takeWhile pcB)), .int .i64 (j : Int)] by
          rw [HLo.out, if_pos hpl]
          show Value.tuple #[.string (ba ((l.drop i).takeWhile pcB)), .int .i64 ((l.length - ((l.drop i).dropWhile pcB).length : Nat) : Int)] = _
          rw [HRe.out])
        have HTT := Lib.hid (show (⟨((l.drop i).takeWhile pcB).toArray⟩ : ByteArray) = ba ((l.drop i).takeWhile pcB) from rfl)
        clear hend hkk hrest hTs hpl hj
        generalize (l.drop i).takeWhile pcB = TW at *
        go_wp2_with (first
          | (refine wpList_ob_string wr rfl _ rfl HOw.out rfl ?_; rw [HTT.out])
          | (go_at_call 91; (with_reducible refine (HPl.out _).mono ?_); rintro e w3 ⟨rfl, hb3⟩; have HOw3 := Lib.hid (obKeep HOw.out hb3))
          | (refine wpList_ob_string w3 rfl _ rfl HOw3.out rfl ?_; rw [HTT.out]))
        go_ret2
        exact ⟨by rw [HV.out]; rfl, Below_next hbel hb3⟩
      | false =>
        rw [hpl] at HPl
        have HV := Lib.hid (show locV l (locL (l.drop i)) = .tuple #[.string ⟨#[]⟩, .int .i64 (-1)] by rw [HLo.out, if_neg (by rw [hpl]; decide)]; rfl)
        have HTT := Lib.hid (show (⟨((l.drop i).takeWhile pcB).toArray⟩ : ByteArray) = ba ((l.drop i).takeWhile pcB) from rfl)
        clear hend hkk hrest hTs hpl hj
        generalize (l.drop i).takeWhile pcB = TW at *
        go_wp2_with (first
          | (refine wpList_ob_string wr rfl _ rfl HOw.out rfl ?_; rw [HTT.out])
          | (go_at_call 91; (with_reducible refine (HPl.out _).mono ?_); rintro e w3 ⟨rfl, hb3⟩))
        go_ret2
        exact ⟨by rw [HV.out]; rfl, Below_next hbel hb3⟩
end Go.Proofs.YtahbbnimoogapaaGreatDoor
namespace Go.Proofs.YtahbbnimoogapaaGreatDoor
open Go.RowKit

theorem quoL_92 : quoL [92] = none := by rw [quoL.eq_def]; rfl
theorem quoL_nil : quoL [] = none := by rw [quoL.eq_def]

set_option maxHeartbeats 2000000 in
set_option maxRecDepth 100000 in
theorem rlocal_quo (s : ByteArray) (hs : s.size ≤ 524288) (i : Nat) (h34 : s.data.toList[i]? = some 34) (w : World) :
    Calls Tryz.prog 84 #[.string s, .int .i64 (i : Int)] w fun e w' => e = .returned (locV s.data.toList (locL (s.data.toList.drop i))) ∧ Below w.heap.size w w' := by
  have hI0 := fun w => ris_any s i 34 w
  rw [show (((34 : UInt8).toNat : Nat) : Int) = 34 from rfl, decide_eq_true h34] at hI0
  have HI0 := Lib.hid hI0
  have HAt := Lib.hid (fun k (h : k < s.size) => byte_at (s := s) h)
  have hll : s.data.toList.length = s.size := by simp
  generalize s.data.toList = l at *
  have hil : i < s.size := by have := (List.getElem?_eq_some_iff.1 h34).1; omega
  have HLo := Lib.hid (show locL (l.drop i) = match quoL (l.drop (i + 1)) with
    | none => none
    | some p => if locB p.1 = true then some p else none by rw [locL_quo (by rw [drop_get]; exact h34), List.drop_drop] <;> rfl)
  have HQ0 := Lib.hid (show quoL (l.drop (i + 1)) = (quoL (l.drop (i + 1))).map fun p => (([] : List UInt8) ++ p.1, p.2) by cases quoL (l.drop (i + 1)) <;> rfl)
  have hb0 := Lib.hid ((Below.refl w.heap.size w).alloc (Nat.le_refl _) (.cells #[] 5))
  clear hI0 h34
  go_enter Tryz.func84, Tryz.ntmps84
  go_wp2_with (first
    | (go_at_call 82; (with_reducible refine (HI0.out _).mono ?_); rintro e w2 ⟨rfl, rfl⟩))
  go_loopw [6, 1] (fun o t wr => ∃ (j : Nat) (out : List UInt8), t = .int .i64 (j : Int) ∧ j ≤ s.size + 1 ∧ Ob wr w.heap.size o out ∧ out.length ≤ j ∧ Below w.heap.size w wr ∧
    ((j ≤ s.size ∧ quoL (l.drop (i + 1)) = (quoL (l.drop j)).map fun p => (out ++ p.1, p.2)) ∨ (j = s.size + 1 ∧ quoL (l.drop (i + 1)) = none))) (fun _ t _ => 1048577 - (intOf t).toNat)
  case atStart => exact ⟨i + 1, [], by go_num, by omega, Ob.start w _ (Nat.le_refl _), Nat.zero_le _, hb0.out, .inl ⟨by omega, HQ0.out⟩⟩
  case round =>
    clear hb0 HQ0
    obtain ⟨j, out, rfl, hj, hown, hoj, hbel, hrel2⟩ := hrel
    have HOw := Lib.hid hown
    clear hown
    have hj0 : (0 : Int) ≤ (j : Int) := by omega
    have hj9 : (j : Int) ≤ 524289 := by omega
    by_cases hlt : j < s.size
    · have hli : (j : Int) < (s.size : Int) := by omega
      have hqr := (hrel2.resolve_right (fun h => by omega)).2
      have hat := HAt.out j hlt
      obtain ⟨c, hc⟩ : ∃ c, c = s[j] := ⟨_, rfl⟩
      have q34 := byte_int (a := s[j]) (b := 34)
      rw [show (((34 : UInt8).toNat : Nat) : Int) = 34 from rfl] at q34
      have q92 := byte_int (a := s[j]) (b := 92)
      rw [show (((92 : UInt8).toNat : Nat) : Int) = 92 from rfl] at q92
      rw [← hc] at hat
      rw [drop_some hat] at hqr
      by_cases h34 : c = 34
      · rw [← hc, decide_eq_true h34, hc] at q34
        rw [h34, quoL_end] at hqr
        have hqr2 : quoL (l.drop (i + 1)) = some (out, l.drop (j + 1)) := by rw [hqr]; simp
        have hols : (ba out).size ≤ 1048576 := by rw [ba_size]; omega
        have HLc := Lib.hid (fun w => rlocal_any (ba out) hols w)
        rw [ba_list] at HLc
        have hcv := conv_Ob HOw.out
        rw [show (⟨out.toArray⟩ : ByteArray) = ba out from rfl] at hcv
        have hge : ¬ (s.size : Int) ≤ (j : Int) := by omega
        cases hlo : locB out with
        | true =>
          rw [hlo] at HLc
          have HV := Lib.hid (show locV l (locL (l.drop i)) = .tuple #[.string (ba out), .int .i64 ((j : Int) + 1)] by
            rw [HLo.out, hqr2]
            show locV l (if locB out = true then some (out, l.drop (j + 1)) else none) = _
            rw [if_pos hlo]
            show Value.tuple #[.string (ba out), .int .i64 ((l.length - (l.drop (j + 1)).length : Nat) : Int)] = _
            rw [List.length_drop, show ((l.length - (l.length - (j + 1)) : Nat) : Int) = (j : Int) + 1 by omega])
          clear hqr hqr2 hrel2 hat hc h34 hlo hols
          go_wp2_with (first
            | (go_at_call 120; (with_reducible refine (HLc.out _).mono ?_); rintro e w3 ⟨rfl, rfl⟩))
          go_ret2
          exact ⟨by rw [HV.out]; rfl, hbel⟩
        | false =>
          rw [hlo] at HLc
          have HV := Lib.hid (show locV l (locL (l.drop i)) = .tuple #[.string ⟨#[]⟩, .int .i64 (-1)] by
            rw [HLo.out, hqr2]
            show locV l (if locB out = true then some (out, l.drop (j + 1)) else none) = _
            rw [if_neg (by rw [hlo]; decide)]
            rfl)
          clear hqr hqr2 hrel2 hat hc h34 hlo hols
          go_wp2_with (first
            | (go_at_call 120; (with_reducible refine (HLc.out _).mono ?_); rintro e w3 ⟨rfl, rfl⟩))
          go_ret2
          exact ⟨by rw [HV.out]; rfl, hbel⟩
      · rw [← hc, decide_eq_false h34, hc] at q34
        by_cases h92 : c = 92
        · rw [← hc, decide_eq_true h92, hc] at q92
          have hw1 : IntKind.i64.wrap ((j : Int) + 1) = (j : Int) + 1 := by rw [IntKind.wrap_i64]; omega
          by_cases hlt2 : j + 1 < s.size
          · have hli2 : (j : Int) + 1 < (s.size : Int) := by omega
            have hat2 := HAt.out (j + 1) hlt2
            have HQ := Lib.hid (show quoL (l.drop (i + 1)) = (quoL (l.drop (j + 2))).map fun p => ((out ++ [s[j + 1]]) ++ p.1, p.2) by
              rw [hqr, h92, drop_some hat2, quoL_sign, Option.map_map]
              congr 1
              funext p
              simp)
            clear hqr hrel2 hat hc h34 h92 hat2
            go_wp2_with (first
              | (at_builtin; refine wpList_push2 wr HOw.out rfl _ _ rfl rfl rfl s[j + 1] rfl (by omega) hbel.size ?_; intro v' w5 h5 hb5))
            go_roundw
            case rel => exact ⟨j + 2, out ++ [s[j + 1]], by go_num, by omega, h5, by rw [List.length_append]; show out.length + 1 ≤ _; omega, hbel.trans hb5, .inl ⟨by omega, HQ.out⟩⟩
            case measure => simp only [intOf]; omega
          · have hli2 : ¬ (j : Int) + 1 < (s.size : Int) := by omega
            have HQ := Lib.hid (show quoL (l.drop (i + 1)) = none by
              rw [hqr, h92, List.drop_of_length_le (by omega), quoL_92]
              rfl)
            clear hqr hrel2 hat hc h34 h92
            go_wp2
            go_roundw
            case rel => exact ⟨j + 2, out, by go_num, by omega, HOw.out, by omega, hbel, .inr ⟨by omega, HQ.out⟩⟩
            case measure => simp only [intOf]; omega
        · rw [← hc, decide_eq_false h92, hc] at q92
          have HQ := Lib.hid (show quoL (l.drop (i + 1)) = (quoL (l.drop (j + 1))).map fun p => ((out ++ [s[j]]) ++ p.1, p.2) by
            rw [hqr, quoL_other h34 h92, Option.map_map, hc]
            congr 1
            funext p
            simp)
          clear hqr hrel2 hat hc h34 h92
          go_wp2_with (first
            | (at_builtin; refine wpList_push2 wr HOw.out rfl _ _ rfl rfl rfl s[j] rfl (by omega) hbel.size ?_; intro v' w5 h5 hb5))
          go_roundw
          case rel => exact ⟨j + 1, out ++ [s[j]], by go_num, by omega, h5, by rw [List.length_append]; show out.length + 1 ≤ _; omega, hbel.trans hb5, .inl ⟨by omega, HQ.out⟩⟩
          case measure => simp only [intOf]; omega
    · have hli : ¬ (j : Int) < (s.size : Int) := by omega
      have hge : (s.size : Int) ≤ (j : Int) := by omega
      have hq : quoL (l.drop (i + 1)) = none := by
        rcases hrel2 with ⟨h1, h2⟩ | ⟨_, h2⟩
        · rw [h2, List.drop_of_length_le (by omega), quoL_nil]; rfl
        · exact h2
      have HV := Lib.hid (show locV l (locL (l.drop i)) = .tuple #[.string ⟨#[]⟩, .int .i64 (-1)] by rw [HLo.out, hq]; rfl)
      clear hq hrel2
      go_wp2
      go_ret2
      exact ⟨by rw [HV.out]; rfl, hbel⟩
theorem rlocalAt_any (s : ByteArray) (hs : s.size ≤ 524288) (i : Nat) (hi : i ≤ s.size) (w : World) :
    Calls Tryz.prog 84 #[.string s, .int .i64 (i : Int)] w fun e w' => e = .returned (locV s.data.toList (locL (s.data.toList.drop i))) ∧ Below w.heap.size w w' := by
  by_cases h : s.data.toList[i]? = some 34
  · exact rlocal_quo s hs i h w
  · exact rlocal_bare s hs i hi h w
end Go.Proofs.YtahbbnimoogapaaGreatDoor
namespace Go.Proofs.YtahbbnimoogapaaGreatDoor
open Go.RowKit

theorem info_box : (Tryz.prog.info? 30).map (·.size) = some 2 := by kernel_rfl
theorem results_box3 {fn : Func} {p t u : Tmp} (h : fn.results = #[.cell p 30, .tmp t, .tmp u]) (tmps : Array Value) (w : World) (g : Nat) (cs : Array Value) (hs : cs.size = 2) (hp : tmps.getD p undef = .pointer (some ⟨g, 0, none⟩)) (hg : Arr w g cs 30) :
    (results fn tmps).run Tryz.prog w = .ok (.tuple #[.agg cs, tmps.getD t undef, tmps.getD u undef]) w := by
  have hp' : tmps[p]?.getD undef = .pointer (some ⟨g, 0, none⟩) := by simpa using hp
  simp [results, h, hp', asAddr, run_loadVar_row w g 30 30 cs (0, 0) _ hg Tryz.underlying30 rfl (by rw [hs]; exact info_box)]
theorem results_box2 {fn : Func} {p t : Tmp} (h : fn.results = #[.cell p 30, .tmp t]) (tmps : Array Value) (w : World) (g : Nat) (cs : Array Value) (hs : cs.size = 2) (hp : tmps.getD p undef = .pointer (some ⟨g, 0, none⟩)) (hg : Arr w g cs 30) :
    (results fn tmps).run Tryz.prog w = .ok (.tuple #[.agg cs, tmps.getD t undef]) w := by
  have hp' : tmps[p]?.getD undef = .pointer (some ⟨g, 0, none⟩) := by simpa using hp
  simp [results, h, hp', asAddr, run_loadVar_row w g 30 30 cs (0, 0) _ hg Tryz.underlying30 rfl (by rw [hs]; exact info_box)]
theorem ret_box3 {fn : Func} {p t u : Tmp} {R : Ending → World → Prop} {a : Act} {w : World} (h : fn.results = #[.cell p 30, .tmp t, .tmp u]) (g : Nat) (cs : Array Value) (hs : cs.size = 2) (hp : a.tmps.getD p undef = .pointer (some ⟨g, 0, none⟩))
    (hg : Arr w g cs 30) (hd : a.defers = []) (hR : R (.returned (.tuple #[.agg cs, a.tmps.getD t undef, a.tmps.getD u undef])) w) : bodyPost Tryz.prog fn R .ret a w :=
  bodyPost_ret (results_box3 h a.tmps w g cs hs hp hg) hd hR
theorem ret_box2 {fn : Func} {p t : Tmp} {R : Ending → World → Prop} {a : Act} {w : World} (h : fn.results = #[.cell p 30, .tmp t]) (g : Nat) (cs : Array Value) (hs : cs.size = 2) (hp : a.tmps.getD p undef = .pointer (some ⟨g, 0, none⟩))
    (hg : Arr w g cs 30) (hd : a.defers = []) (hR : R (.returned (.tuple #[.agg cs, a.tmps.getD t undef])) w) : bodyPost Tryz.prog fn R .ret a w :=
  bodyPost_ret (results_box2 h a.tmps w g cs hs hp hg) hd hR
theorem wpList_store_box {ops : Array Oper} {rest : List Oper} {o : Oper} {a : Act} {w : World} {Q : Exit → Act → World → Prop} (hgd : o.guard = none) (x y : Operand) (ho : o.op = .store 30 x y)
    (g : Nat) (hx : a.eval x = .pointer (some ⟨g, 0, none⟩)) (cs : Array Value) (hy : a.eval y = .agg cs) (hs : cs.size = 2) (h1 : cs.all (·.oneCell') = true) (old : Array Value) (hz : old.size = 2) (hg : Arr w g old 30)
    (h : wpList Tryz.prog ops Q rest (a.put o.dst undef) (w.setRow g cs)) : wpList Tryz.prog ops Q (o :: rest) a w :=
  wpList_store_row hgd 30 x y ho g cs hx hy 30 old hg (by rw [hs]; exact info_box) (by omega) h1 h
end Go.Proofs.YtahbbnimoogapaaGreatDoor
namespace Go.Proofs.YtahbbnimoogapaaGreatDoor
open Go.RowKit

/-- Behind the local part. -/
def folC (x m : List UInt8) : Option (BoxA × List UInt8) :=
  if m[0]? = some 64 then
    if domB ((m.drop 1).takeWhile dcB) = true then
      if ((m.drop 1).dropWhile dcB)[0]? = some 62 then some (⟨x, smL ((m.drop 1).takeWhile dcB)⟩, ((m.drop 1).dropWhile dcB).drop 1) else none
    else none
  else none
/-- Behind the route. -/
def folB (m : List UInt8) : Option (BoxA × List UInt8) := match locL m with
  | none => none
  | some p => folC p.1 p.2
theorem readL_none : ∀ {l : List UInt8}, l[0]? = some 60 → l[1]? = some 62 → readL l = some (⟨[], []⟩, l.drop 2)
  | [], h, _ => by cases h
  | [_], _, h => by cases h
  | a :: b :: l, h1, h2 => by
    simp only [List.getElem?_cons_zero, List.getElem?_cons_succ, Option.some.injEq] at h1 h2
    subst h1 h2
    rfl
theorem readL_no : ∀ {l : List UInt8}, l[0]? ≠ some 60 → readL l = none
  | [], _ => rfl
  | c :: l, h => by
    have hc : c ≠ 60 := fun e => h (by rw [e]; rfl)
    unfold readL
    split
    · rename_i r e; injection e with e1; exact absurd e1 hc
    · rename_i r e; injection e with e1; exact absurd e1 hc
    · rfl
theorem folC_eq (x r : List UInt8) : (match (some (x, r) : Option (List UInt8 × List UInt8)) with
      | some (x, 64 :: r3) => if domB (r3.takeWhile dcB) = true then
          match r3.dropWhile dcB with
          | 62 :: r4 => some ((⟨x, smL (r3.takeWhile dcB)⟩ : BoxA), r4)
          | _ => none
        else none
      | _ => none) = folC x r := by
  unfold folC
  cases r with
  | nil => rfl
  | cons c r =>
    by_cases hc : c = 64
    · subst hc
      rw [List.getElem?_cons_zero, if_pos rfl, List.drop_succ_cons, List.drop_zero]
      split
      · rename_i x' r3 e
        injection e with e
        injection e with e1 e2
        injection e2 with _ e2
        subst e1 e2
        split
        · cases hd : r.dropWhile dcB with
          | nil => rfl
          | cons d t =>
            by_cases h62 : d = 62
            · subst h62; rfl
            · rw [List.getElem?_cons_zero, if_neg (fun e => h62 (Option.some.inj e))]
              split
              · rename_i r4 e; injection e with e1; exact absurd e1 h62
              · rfl
        · rfl
      · rename_i hne
        exact absurd rfl (hne x r)
    · rw [List.getElem?_cons_zero, if_neg (fun e => hc (Option.some.inj e))]
      split
      · rename_i x' r3 e
        injection e with e
        injection e with e1 e2
        injection e2 with e2
        exact absurd e2 hc
      · rfl
theorem readL_path : ∀ {l : List UInt8}, l[0]? = some 60 → l[1]? ≠ some 62 → readL l = match routeL (l.drop 1) with
    | none => none
    | some m => folB m
  | [], h, _ => by cases h
  | c :: l, h1, h2 => by
    simp only [List.getElem?_cons_zero, Option.some.injEq] at h1
    subst h1
    rw [List.drop_succ_cons, List.drop_zero]
    unfold readL
    split
    · rename_i r e
      injection e with _ e
      subst e
      exact absurd rfl h2
    · rename_i r _ e
      injection e with _ e
      subst e
      cases routeL l with
      | none => rfl
      | some m =>
        show (match locL m with
          | some (x, 64 :: r3) => _
          | _ => none) = folB m
        unfold folB
        cases locL m with
        | none => rfl
        | some p => exact folC_eq p.1 p.2
    · rename_i hne
      exact absurd rfl (hne l)
/-- Ends of a text: by places. -/
theorem suf_drop {l p r : List UInt8} (h : l = p ++ r) : r = l.drop (l.length - r.length) := by
  subst h
  rw [List.length_append, Nat.add_sub_cancel, List.drop_left]
theorem route_drop {l m : List UInt8} (h : routeL l = some m) : m.length ≤ l.length ∧ m = l.drop (l.length - m.length) := by
  obtain ⟨p, hp⟩ := routeF_suf _ _ _ h
  exact ⟨by rw [hp, List.length_append]; omega, suf_drop hp⟩
theorem loc_drop {l x m : List UInt8} (h : locL l = some (x, m)) : m.length ≤ l.length ∧ m = l.drop (l.length - m.length) := by
  obtain ⟨_, p, hp⟩ := locL_suf h
  exact ⟨by rw [hp, List.length_append]; omega, suf_drop hp⟩
theorem drop_again {l m : List UInt8} {i : Nat} (h : m = (l.drop i).drop ((l.drop i).length - m.length)) (hm : m.length ≤ (l.drop i).length) (hi : i ≤ l.length) : m = l.drop (l.length - m.length) := by
  rw [List.drop_drop, List.length_drop] at h
  rw [List.length_drop] at hm
  rw [show i + (l.length - i - m.length) = l.length - m.length by omega] at h
  exact h
/-- What Read answers. -/
def readV : Option (BoxA × List UInt8) → Value
  | none => .tuple #[.agg #[.string ⟨#[]⟩, .string ⟨#[]⟩], .string ⟨#[]⟩, .int .i64 2]
  | some p => .tuple #[boxV p.1, .string (ba p.2), .int .i64 0]
/-- What Parse answers. -/
def parseV : Option BoxA → Value
  | none => .tuple #[.agg #[.string ⟨#[]⟩, .string ⟨#[]⟩], .int .i64 2]
  | some b => .tuple #[boxV b, .int .i64 0]
end Go.Proofs.YtahbbnimoogapaaGreatDoor
