/- LineReads: its walk over the record. -/
import Derived.Test.YtmpchbhimfjomaaLnQ
import Derived.Test.YtmpchbhimfjomaaLnO
import Derived.Test.YtmpchbhimfjomaaIsr
import Derived.Test.YtmpchbhimfjomaaLnP
import Derived.OwnWalk
import Derived.StillTailTactics
import Derived.Deep.RegionHeld3
namespace Go.Proofs.Ytmpchbhimfjomaa
open Go.RowKit

theorem nextL_le (m : Nat) (l : List UInt8) : (nextL m l).2.2.2.length ≤ l.length := by
  cases hf : firstE l with
  | none => rw [nextL_none m hf]; exact Nat.le_refl _
  | some i => exact Nat.le_of_lt (nextL_some m hf).2
section
variable {Rd : World → (Nat → Prop) → Value → Nat → List UInt8 → Prop}
/-- A reader of the code, and one of the document, that lie apart. -/
def RxR (Rd : World → (Nat → Prop) → Value → Nat → List UInt8 → Prop) (w0 wr : World) (p : Value) (g m : Nat) (L M : List UInt8) : Prop :=
  ∃ own : Nat → Prop, Rd wr own p m L ∧ RRd wr g (m : Int) M ∧ (∀ h, own h → w0.heap.size ≤ h) ∧ ¬ own g ∧ w0.heap.size ≤ g ∧ Below w0.heap.size w0 wr
theorem RxR.bel {w0 wr : World} {p : Value} {g m : Nat} {L M : List UInt8} (h : RxR Rd w0 wr p g m L M) : Below w0.heap.size w0 wr := by obtain ⟨_, _, _, _, _, _, h⟩ := h; exact h
theorem RxR.came {w0 wr : World} {p : Value} {g m : Nat} {L M : List UInt8} (h : RxR Rd w0 wr p g m L M) : wr.cell? ⟨g, 1, none⟩ = some (.string (ba M)) := by obtain ⟨_, _, h, _⟩ := h; exact Arr.cell h rfl
theorem RxR.frozen {w0 wr : World} {p : Value} {g m : Nat} {L M : List UInt8} (h : RxR Rd w0 wr p g m L M) : wr.frozen? ⟨g, 1, none⟩ = false := by obtain ⟨_, _, h, _⟩ := h; exact Arr.frozen h 1
theorem RxR.next {w0 w w' : World} {p : Value} {g m : Nat} {L M : List UInt8} (C : LineB Rd) (h : RxR Rd w0 w p g m L M) (hb : Below w.heap.size w w') : RxR Rd w0 w' p g m L M := by
  obtain ⟨a, h1, h2, h3, h4, h5, h6⟩ := h
  exact ⟨a, C.nextB h1 hb, h2.keep (hb.block g (Arr.lt h2)), h3, h4, h5, Below_next h6 hb⟩
theorem RxR.drew' {w0 w : World} {p : Value} {g m : Nat} {L M : List UInt8} (C : LineB Rd) (h : RxR Rd w0 w p g m L M) : RxR Rd w0 w.drew p g m L M := h.next C (Below.refl w.heap.size w).drew
theorem rx_step (_ : LineB Rd) {w0 w w' : World} {p : Value} {g m : Nat} {L L' M : List UInt8} {own own' : Nat → Prop} (_ : Rd w own p m L) (h2 : RRd w g (m : Int) M) (h3 : ∀ h, own h → w0.heap.size ≤ h) (h4 : ¬ own g) (h5 : w0.heap.size ≤ g) (h6 : Below w0.heap.size w0 w)
    (k1 : Rd w' own' p m L') (k2 : ∀ h, own' h → own h ∨ w.heap.size ≤ h) (k3 : Fro own w w') : RxR Rd w0 w' p g m L' M := by
  have hs := h6.size
  have hg : g < w.heap.size := Arr.lt h2
  refine ⟨own', k1, h2.keep (k3.block g hg h4), fun h hh => ?_, fun hh => ?_, h5, h6.trans (k3.below h3 hs)⟩
  · rcases k2 h hh with h' | h'
    · exact h3 h h'
    · omega
  · rcases k2 g hh with h' | h'
    · exact h4 h'
    · omega
theorem RxR.add (C : LineB Rd) {w0 w : World} {p : Value} {g m : Nat} {L M : List UInt8} (h : RxR Rd w0 w p g m L M) (s : ByteArray) (hl : L.length + s.size ≤ 65536) :
    Calls Try.prog 23 #[p, .string s] w fun e w' => e = .returned (.tuple #[]) ∧ RxR Rd w0 w' p g m (L ++ s.data.toList) M := by
  obtain ⟨a, h1, h2, h3, h4, h5, h6⟩ := h
  exact (C.add s hl w h1).mono fun e w' ⟨he, own', k1, k2, k3⟩ => ⟨he, rx_step C h1 h2 h3 h4 h5 h6 k1 k2 k3⟩
theorem RxR.nextA (C : LineB Rd) {w0 w : World} {p : Value} {g m : Nat} {L M : List UInt8} (h : RxR Rd w0 w p g m L M) (hl : L.length ≤ 65536) :
    Calls Try.prog 24 #[p] w fun e w' => e = .returned (.tuple #[.string (ba (nextL m L).1), .int .i64 (nextL m L).2.1, .bool (nextL m L).2.2.1]) ∧ RxR Rd w0 w' p g m (nextL m L).2.2.2 M := by
  obtain ⟨a, h1, h2, h3, h4, h5, h6⟩ := h
  exact (C.next' hl w h1).mono fun e w' ⟨he, own', k1, k2, k3⟩ => ⟨he, rx_step C h1 h2 h3 h4 h5 h6 k1 k2 k3⟩
theorem RxR.nextB (C : LineB Rd) {w0 w : World} {p : Value} {g m : Nat} {L M : List UInt8} (h : RxR Rd w0 w p g m L M) (hl : M.length ≤ 1048576) (hm : m ≤ 1000) :
    Calls Try.prog 25 #[.pointer (some ⟨g, 0, none⟩)] w fun e w' => e = .returned (.tuple #[.string (ba (nextL m M).1), .int .i64 (nextL m M).2.1, .bool (nextL m M).2.2.1]) ∧ RxR Rd w0 w' p g m L (nextL m M).2.2.2 := by
  obtain ⟨a, h1, h2, h3, h4, h5, h6⟩ := h
  exact (rnext8_any g m M hl hm w h2).mono fun e w' ⟨he, k1, k2⟩ => ⟨he, a, C.keep h1 (fun x hx => k2.block x (C.lt h1 x hx) (fun e => h4 (e ▸ hx))), k1, h3, h4, h5, h6.trans (k2.below (fun x hx => by rw [show x = g from hx]; exact h5) h6.size)⟩
theorem RxR.lenA (C : LineB Rd) {w0 w : World} {p : Value} {g m : Nat} {L M : List UInt8} (h : RxR Rd w0 w p g m L M) (hl : L.length ≤ 65536) :
    Calls Try.prog 26 #[p] w fun e w' => e = .returned (.int .i64 (L.length : Int)) ∧ RxR Rd w0 w' p g m L M ∧ Below w.heap.size w w' := by
  have h' := h
  obtain ⟨a, h1, h2, h3, h4, h5, h6⟩ := h
  exact (C.len hl w h1).mono fun e w' ⟨he, hb⟩ => ⟨he, h'.next C hb, hb⟩
theorem RxR.store (C : LineB Rd) {w0 w : World} {p : Value} {g m : Nat} {L M : List UInt8} (h : RxR Rd w0 w p g m L M) (M' : List UInt8) : RxR Rd w0 (w.setCell ⟨g, 1, none⟩ (.string (ba M'))) p g m L M' := by
  obtain ⟨a, h1, h2, h3, h4, h5, h6⟩ := h
  have h2' : Arr w g #[.int .i64 (m : Int), .string (ba M)] 39 := h2
  exact ⟨a, C.keep h1 (fun x hx => Below.heap_setCell _ _ _ _ (by show x ≠ g; exact fun e => h4 (e ▸ hx))), Arr.set h2' 1 (.string (ba M')), h3, h4, h5, h6.setCell h5 _⟩
theorem rx_new (C : LineB Rd) {w0 w : World} {p : Value} {own : Nat → Prop} {m : Nat} (hb : Below w0.heap.size w0 w) (hr : Rd w own p m []) (ho : ∀ g, own g → w0.heap.size ≤ g) :
    RxR Rd w0 (w.alloc (.cells #[.int .i64 (m : Int), .string ⟨#[]⟩] 39)) p w.heap.size m [] [] := by
  have hb2 := hb.alloc hb.size (.cells #[.int .i64 (m : Int), .string ⟨#[]⟩] 39)
  exact ⟨own, C.nextB hr ((Below.refl w.heap.size w).alloc (Nat.le_refl _) _), Arr.new w #[.int .i64 (m : Int), .string ⟨#[]⟩] 39, ho, fun h => Nat.lt_irrefl _ (C.lt hr _ h), hb.size, hb2⟩

set_option maxHeartbeats 4000000 in
set_option maxRecDepth 100000 in
theorem lineReads_walk (C : LineC Rd) (n : Int) (a : Option Addr) (len cap : Nat) (ss : List ByteArray) (b : Option Addr) (len2 cap2 : Nat) (zs : List Int) (W : World) (hl : IsTexts W a len cap ss) (hz2 : IsRow .u8 W b len2 cap2 zs) :
    Calls Try.prog 4 #[.int .i64 n, .slice a len cap, .slice b len2 cap2] W fun e w' => e = .returned (.bool true) ∧ Below W.heap.size W w' := by
  have HA := Lib.hid (C.awake W)
  have HT0 := Lib.hid hl
  have HZ0 := Lib.hid hz2
  have HLg := Lib.hid (fun w h => large8_any a len cap ss w h)
  have hlen := hl.len.1
  cases hlg : largeL ss with
  | true =>
    rw [hlg] at HLg
    clear hl hlg hlen hz2
    go_enter Try.func4, Try.ntmps4
    go_wp2_with (first
      | (go_at_call 9; (with_reducible refine HA.out.mono ?_); rintro e w1 ⟨rfl, hb1⟩)
      | (go_at_call 10; (with_reducible refine (HLg.out _ (HT0.out.next hb1)).mono ?_); rintro e w2 ⟨rfl, rfl⟩))
    go_ret
    exact ⟨rfl, hb1⟩
  | false =>
  obtain ⟨hn100, hz⟩ := largeL_no hlg
  rw [hlg] at HLg
  have HC := Lib.hid C.toLineB
  by_cases hm : 1 ≤ n ∧ n ≤ 1000
  · obtain ⟨m, rfl⟩ : ∃ m : Nat, n = (m : Int) := ⟨n.toNat, by omega⟩
    have hm1 : 1 ≤ m := by omega
    have hm2 : m ≤ 1000 := by omega
    have hi1 : (1 : Int) ≤ (m : Int) := by omega
    have hi2 : (m : Int) ≤ 1000 := by omega
    have HN1 := Lib.hid (fun w => C.new' m hm1 hm2 w)
    clear hl hlg hz2 hm
    go_enter Try.func4, Try.ntmps4
    go_wp2_with (first
      | (go_at_call 9; (with_reducible refine HA.out.mono ?_); rintro e w1 ⟨rfl, hb1⟩)
      | (go_at_call 10; (with_reducible refine (HLg.out _ (HT0.out.next hb1)).mono ?_); rintro e w2 ⟨rfl, rfl⟩)
      | (go_at_call 22; (with_reducible refine (HN1.out _).mono ?_); rintro e w3 ⟨p, ownA, rfl, hr3, ho3, hb3⟩; obtain ⟨gp, rfl⟩ := HC.out.ptr hr3; have hrx3 := rx_new (w0 := W) HC.out (Below_next hb1 hb3) hr3 (fun g hg => Nat.le_trans hb1.size (ho3 g hg))))
    have HRx3 := Lib.hid hrx3
    clear HLg HA hrx3 hb1 hr3 ho3 hb3 HN1
    generalize w3.alloc (.cells #[.int .i64 (m : Int), .string ⟨#[]⟩] 39) = w4 at *
    generalize w3.heap.size = g at *
    go_loopw [36] (fun i wr => ∃ (k : Nat) (L : List UInt8), i = .int .i64 (k : Int) ∧ k ≤ ss.length ∧ RxR Rd W wr (.pointer (some ⟨gp, 0, none⟩)) g m L L ∧ L.length ≤ sizeB (ss.take k)) (fun i _ => 101 - (intOf i).toNat)
    case atStart => exact ⟨0, [], rfl, Nat.zero_le _, HRx3.out, Nat.zero_le _⟩
    case round =>
      clear HRx3
      obtain ⟨k, L, rfl, hk, hrx, hLs⟩ := hrel
      by_cases hlt : k < ss.length
      · have hli : (k : Int) < (len : Int) := by omega
        have hk0 : (0 : Int) ≤ (k : Int) := by omega
        have HT := Lib.hid (HT0.out.next hrx.bel)
        obtain ⟨x, rfl, c1, _⟩ := HT.out.at (i := k) (by omega)
        have hX1 := sizeB_take hlt
        have hX2 := sizeB_take_le ss (k + 1)
        generalize hX : ss.getD k ByteArray.empty = X at *
        have HX := Lib.hid hX
        clear hX
        have hXl : X.data.toList.length = X.size := by simp
        have hadd := hrx.add HC.out X (by omega)
        have HAdd := Lib.hid hadd
        have hcat := cat_run (ba L) X (by rw [ba_size]; omega)
        rw [show ba L ++ X = ba (L ++ X.data.toList) by rw [← ba_append, ba_of]] at hcat
        have HLX := Lib.hid (show (L ++ X.data.toList).length ≤ sizeB (ss.take (k + 1)) by rw [List.length_append]; omega)
        have HC1 := Lib.hid c1
        have hwl := World.block_lt_of_cell? _ _ c1
        have HRb := Lib.hid hrx.bel
        generalize L ++ X.data.toList = LX at *
        clear hadd hXl hX1 hX2 hLs hrx hwl
        go_wp2_with (first
          | (go_at_call 23; (with_reducible refine HAdd.out.mono ?_); rintro e w6 ⟨rfl, hrx6⟩; obtain ⟨x', hxx, c6, _⟩ := (HT0.out.next hrx6.bel).at (i := k) (by omega); obtain rfl := Option.some.inj hxx; rw [HX.out] at c6))
        have HRx6 := Lib.hid (hrx6.drew' HC.out)
        have d6 : w6.cell? ⟨g, 1, none⟩ = some (.string (ba L)) := hrx6.came
        have d6d : w6.drew.cell? ⟨g, 1, none⟩ = some (.string (ba L)) := hrx6.came
        have c6d : w6.drew.cell? (x.add k) = some (.string X) := c6
        go_still_tail 11, (by kernel_rfl)
        change wpList _ _ _ _ _ w6.drew
        have f6 : w6.drew.frozen? ⟨g, 1, none⟩ = false := HRx6.out.frozen
        have HRx7 := Lib.hid (HRx6.out.store HC.out LX)
        clear hrx6
        generalize w6.drew = w7 at *
        by_cases hlt2 : k < len2
        · obtain ⟨y, rfl, cz, wz⟩ := (HZ0.out.next HRx7.out.bel).at hlt2
          have hli2 : (k : Int) < (len2 : Int) := by omega
          obtain ⟨zn, hzn, hzn2⟩ : ∃ zn : Nat, zs.getD k 0 = (zn : Int) ∧ zn < 256 := ⟨(zs.getD k 0).toNat, by have := wf_u8 wz; omega, by have := wf_u8 wz; omega⟩
          rw [hzn] at cz
          have hz0 : (0 : Int) ≤ (zn : Int) := by omega
          have hz1 : (zn : Int) < 256 := by omega
          clear wz hzn
          go_wp2
          generalize w7.setCell ⟨g, 1, none⟩ (.string (ba LX)) = w8 at *
          have HRx5 := HRx7
          clear HRx7 HRx6 d6 d6d c6d c6 f6 hcat HAdd HC1 HRb HT c1
          go_loopw [10] (fun c wr => ∃ (K : Nat) (M : List UInt8), c = .int .i64 (K : Int) ∧ K ≤ 200 ∧ RxR Rd W wr (.pointer (some ⟨gp, 0, none⟩)) g m M M ∧ M.length ≤ sizeB (ss.take (k + 1))) (fun c _ => (intOf c).toNat)
          case atStart => exact ⟨zn % 4, LX, by go_num, by omega, HRx5.out, HLX.out⟩
          case round =>
            clear HRx5 HLX
            obtain ⟨K, M, rfl, hK, hrx, hMs⟩ := hrel
            have HMs := Lib.hid hMs
            have hM5 : M.length ≤ 65536 := by have := sizeB_take_le ss (k + 1); omega
            by_cases hKp : 0 < K
            · have hki : (0 : Int) < (K : Int) := by omega
              have hna := hrx.nextA HC.out hM5
              have hle := nextL_le m M
              have HLe := Lib.hid hle
              generalize hNX : nextL m M = NX at *
              have HNa := Lib.hid hna
              have HNX := Lib.hid hNX
              clear hna hNX hrx hMs hle
              go_wp2_with (first
                | (go_at_call 24; (with_reducible refine HNa.out.mono ?_); rintro e w7 ⟨rfl, hrx7⟩; have hnb := hrx7.nextB HC.out (by omega) hm2; rw [HNX.out] at hnb)
                | (go_at_call 25; (with_reducible refine hnb.mono ?_); rintro e w8 ⟨rfl, hrx8⟩))
              go_roundw
              case rel => exact ⟨K - 1, NX.2.2.2, by go_num, by omega, hrx8, Nat.le_trans HLe.out HMs.out⟩
              case measure => simp only [intOf]; omega
            · have hki : ¬ (0 : Int) < (K : Int) := by omega
              have HRx := Lib.hid hrx
              clear hrx hMs
              go_wp2
              have hc6 : wr.cell? ⟨g, 1, none⟩ = some (.string (ba M)) := HRx.out.came
              have hc6d : wr.drew.cell? ⟨g, 1, none⟩ = some (.string (ba M)) := HRx.out.came
              have hbs : ((ba M).size : Int) = (M.length : Int) := by rw [ba_size]
              have hln := (HRx.out.drew' HC.out).lenA HC.out hM5
              generalize ba M = MB at *
              go_region_held3 (fun w' => w'.cell? ⟨g, 1, none⟩ = some (.string MB)) (first | with_reducible exact hc6 | with_reducible exact hc6d | with_reducible exact hc7) (first
                | (go_at_call 26; (with_reducible refine hln.mono ?_); rintro e w7 ⟨rfl, hrx7, hb7⟩; have hc7 := (hb7.cell (World.block_lt_of_cell? _ _ hc6d)).trans hc6d))
              go_wp2
              go_roundw
              case rel => exact ⟨k + 1, M, by go_num, by omega, hrx7, HMs.out⟩
              case measure => simp only [intOf]; omega
        · have hli2 : ¬ (k : Int) < (len2 : Int) := by omega
          go_wp2
          generalize w7.setCell ⟨g, 1, none⟩ (.string (ba LX)) = w8 at *
          have HRx5 := HRx7
          clear HRx7 HRx6 d6 d6d c6d c6 f6 hcat HAdd HC1 HRb HT c1
          go_loopw [10] (fun c wr => ∃ (K : Nat) (M : List UInt8), c = .int .i64 (K : Int) ∧ K ≤ 200 ∧ RxR Rd W wr (.pointer (some ⟨gp, 0, none⟩)) g m M M ∧ M.length ≤ sizeB (ss.take (k + 1))) (fun c _ => (intOf c).toNat)
          case atStart => exact ⟨200, LX, rfl, by omega, HRx5.out, HLX.out⟩
          case round =>
            clear HRx5 HLX
            obtain ⟨K, M, rfl, hK, hrx, hMs⟩ := hrel
            have HMs := Lib.hid hMs
            have hM5 : M.length ≤ 65536 := by have := sizeB_take_le ss (k + 1); omega
            by_cases hKp : 0 < K
            · have hki : (0 : Int) < (K : Int) := by omega
              have hna := hrx.nextA HC.out hM5
              have hle := nextL_le m M
              have HLe := Lib.hid hle
              generalize hNX : nextL m M = NX at *
              have HNa := Lib.hid hna
              have HNX := Lib.hid hNX
              clear hna hNX hrx hMs hle
              go_wp2_with (first
                | (go_at_call 24; (with_reducible refine HNa.out.mono ?_); rintro e w7 ⟨rfl, hrx7⟩; have hnb := hrx7.nextB HC.out (by omega) hm2; rw [HNX.out] at hnb)
                | (go_at_call 25; (with_reducible refine hnb.mono ?_); rintro e w8 ⟨rfl, hrx8⟩))
              go_roundw
              case rel => exact ⟨K - 1, NX.2.2.2, by go_num, by omega, hrx8, Nat.le_trans HLe.out HMs.out⟩
              case measure => simp only [intOf]; omega
            · have hki : ¬ (0 : Int) < (K : Int) := by omega
              have HRx := Lib.hid hrx
              clear hrx hMs
              go_wp2
              have hc6 : wr.cell? ⟨g, 1, none⟩ = some (.string (ba M)) := HRx.out.came
              have hc6d : wr.drew.cell? ⟨g, 1, none⟩ = some (.string (ba M)) := HRx.out.came
              have hbs : ((ba M).size : Int) = (M.length : Int) := by rw [ba_size]
              have hln := (HRx.out.drew' HC.out).lenA HC.out hM5
              generalize ba M = MB at *
              go_region_held3 (fun w' => w'.cell? ⟨g, 1, none⟩ = some (.string MB)) (first | with_reducible exact hc6 | with_reducible exact hc6d | with_reducible exact hc7) (first
                | (go_at_call 26; (with_reducible refine hln.mono ?_); rintro e w7 ⟨rfl, hrx7, hb7⟩; have hc7 := (hb7.cell (World.block_lt_of_cell? _ _ hc6d)).trans hc6d))
              go_wp2
              go_roundw
              case rel => exact ⟨k + 1, M, by go_num, by omega, hrx7, HMs.out⟩
              case measure => simp only [intOf]; omega
      · have hli : ¬ (k : Int) < (len : Int) := by omega
        go_wp2
        go_ret
        exact ⟨rfl, hrx.bel⟩
  · have HN := Lib.hid (fun w => C.none' n hm w)
    clear hl hlg hz2
    by_cases h1 : n < 1
    · go_enter Try.func4, Try.ntmps4
      go_wp2_with (first
        | (go_at_call 9; (with_reducible refine HA.out.mono ?_); rintro e w1 ⟨rfl, hb1⟩)
        | (go_at_call 10; (with_reducible refine (HLg.out _ (HT0.out.next hb1)).mono ?_); rintro e w2 ⟨rfl, rfl⟩)
        | (go_at_call 22; (with_reducible refine (HN.out _).mono ?_); rintro e w3 ⟨rfl, hb3⟩))
      go_ret
      exact ⟨rfl, Below_next hb1 hb3⟩
    · have h2 : 1000 < n := by omega
      go_enter Try.func4, Try.ntmps4
      go_wp2_with (first
        | (go_at_call 9; (with_reducible refine HA.out.mono ?_); rintro e w1 ⟨rfl, hb1⟩)
        | (go_at_call 10; (with_reducible refine (HLg.out _ (HT0.out.next hb1)).mono ?_); rintro e w2 ⟨rfl, rfl⟩)
        | (go_at_call 22; (with_reducible refine (HN.out _).mono ?_); rintro e w3 ⟨rfl, hb3⟩))
      go_ret
      exact ⟨rfl, Below_next hb1 hb3⟩
end
end Go.Proofs.Ytmpchbhimfjomaa
