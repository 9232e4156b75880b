/- The document's own layer 8: a reader's Next. -/
import Derived.Test.YtmpchbhimfjomaaR8E
import Derived.Test.YtmpchbhimfjomaaFro
import Derived.StillTailTactics
import Derived.Deep.RegionHeld3
namespace Go.Proofs.Ytmpchbhimfjomaa
open Go.RowKit

theorem addr_zero (x : Addr) : x.add 0 = x := by
  unfold Addr.add
  split <;> simp_all
/-- The document's own reader in block g. -/
def RRd (w : World) (g : Nat) (m : Int) (l : List UInt8) : Prop := Arr w g #[.int .i64 m, .string (ba l)] 39
def isG (g : Nat) : Nat → Prop := fun h => h = g
theorem RRd.keep {w w' : World} {g : Nat} {m : Int} {l : List UInt8} (h : RRd w g m l) (hb : w'.heap[g]? = w.heap[g]?) : RRd w' g m l := hb.trans h
theorem rread_w {w w1 : World} {g : Nat} {m : Int} {l l2 : List UInt8} (h : RRd w g m l) (hb : Below w.heap.size w w1) : RRd (w1.setCell ⟨g, 1, none⟩ (.string (ba l2))) g m l2 ∧ Fro (isG g) w (w1.setCell ⟨g, 1, none⟩ (.string (ba l2))) := by
  have h1 : Arr w1 g #[.int .i64 m, .string (ba l)] 39 := (Arr.next h hb)
  refine ⟨Arr.set h1 1 (.string (ba l2)), ⟨hb.os, hb.tape, hb.output, by simp [World.setCell]; exact hb.size, fun x hx hn => (Below.heap_setCell _ _ _ _ (by show x ≠ g; exact hn)).trans (hb.block x hx)⟩⟩

theorem Fro.drewN {own : Nat → Prop} {w w' : World} (h : Fro own w w') (n : Nat) : Fro own w (w'.drewN n) := ⟨h.os, h.tape, h.output, h.size, h.block⟩
set_option maxHeartbeats 1000000 in
set_option maxRecDepth 100000 in
theorem rnext8_any (g m : Nat) (l : List UInt8) (hl : l.length ≤ 1048576) (hm : m ≤ 1000) (w : World) (h : RRd w g (m : Int) l) :
    Calls Try.prog 25 #[.pointer (some ⟨g, 0, none⟩)] w fun e w' => e = .returned (.tuple #[.string (ba (nextL m l).1), .int .i64 (nextL m l).2.1, .bool (nextL m l).2.2.1]) ∧ RRd w' g (m : Int) (nextL m l).2.2.2 ∧ Fro (isG g) w w' := by
  have HR := Lib.hid h
  have c1 : w.cell? ⟨g, 1, none⟩ = some (.string (ba l)) := Arr.cell h rfl
  have hsp := rsplit8_any (ba l) (by rw [ba_size]; exact hl) w
  rw [ba_list] at hsp
  have hsl0 := fun n (h : n ≤ (ba l).size) => slice_from (ba l) n h
  have hex := ext_all (ba l)
  rw [ba_list] at hex
  cases hf : firstE l with
  | none =>
    have hn : nextL m l = ([], 0, false, l) := by rw [nextL, hf]
    rw [linesL_none hf] at hsp
    rw [hn]
    have HSp := Lib.hid hsp
    clear hsl0 hex hf hn hsp h
    generalize ba l = s at *
    go_enter Try.func25, Try.ntmps25
    go_wp2_with (first
      | (go_at_call 12; (with_reducible refine HSp.out.mono ?_); rintro e w1 ⟨a, len, cap, rfl, ht1, hb1, _⟩; obtain ⟨hlen, _, _⟩ := ht1.len; have hz : (len : Int) = 0 := by (have : len = 0 := hlen.symm); omega))
    go_ret3
    exact ⟨rfl, HR.out.keep (hb1.block g (Arr.lt HR.out)), Fro.of_below hb1⟩
  | some i =>
    have hlt := firstE_lt hf
    have hsl := hsl0 (i + 2) (by rw [ba_size]; omega)
    rw [hex, show ((i + 2 : Nat) : Int) = (i : Int) + 2 by omega] at hsl
    rw [linesL_some hf] at hsp
    have hX : (ba (l.take i)).size = i := by rw [ba_size, List.length_take]; omega
    have HSp := Lib.hid (hsp.mono (R' := fun e w' => ∃ (x : Addr) (len cap : Nat) (R : ByteArray), e = .returned (.tuple #[.slice (some x) len cap, .string R]) ∧ 0 < len ∧ w'.cell? x = some (.string (ba (l.take i))) ∧ Below w.heap.size w w' ∧ w.heap.size ≤ x.block) fun e w' ⟨a, len, cap, he, ht, hb, hfr⟩ => by
      have h1 := ht.len.1
      rw [bas_len, List.length_cons] at h1
      obtain ⟨x, rfl, cx, _⟩ := ht.at (i := 0) (by omega)
      rw [addr_zero] at cx
      exact ⟨x, len, cap, _, he, by omega, cx, hb, hfr x rfl⟩)
    have HW := Lib.hid (fun w1 (hb : Below w.heap.size w w1) => rread_w (l2 := l.drop (i + 2)) h hb)
    have hI : (i : Int) + 2 ≤ 1048576 := by omega
    have hi0 : (0 : Int) ≤ (i : Int) := by omega
    have hm0 : (0 : Int) ≤ (m : Int) := by omega
    have hgl : g < w.heap.size := Arr.lt h
    have HA := Lib.hid (show Arr w g #[.int .i64 (m : Int), .string (ba l)] 39 from h)
    by_cases hmi : m < i
    · have hn : nextL m l = ([], 5, true, l.drop (i + 2)) := by rw [nextL, hf]; exact if_pos hmi
      rw [hn]
      clear hsl0 hex hf hn hsp hlt hl h
      generalize ba l = s at *
      generalize ba (l.drop (i + 2)) = D at *
      generalize ba (l.take i) = X at *
      subst hX
      have hw : IntKind.i64.wrap ((X.size : Int) + 2) = (X.size : Int) + 2 := by rw [IntKind.wrap_i64]; omega
      have hsl2 := hsl
      rw [← hw] at hsl2
      clear hw
      go_enter Try.func25, Try.ntmps25
      go_wp2_with (first
        | (go_at_call 12; (with_reducible refine HSp.out.mono ?_); rintro e w1 ⟨x, len, cap, R, rfl, hlen, cx, hb1, hxb⟩; have hz2 : ((len : Int) == 0) = false := (beq_false_of_ne (by omega))))
      have HCx := Lib.hid cx
      have HG1 := Lib.hid (show Arr w1 g #[.int .i64 m, .string s] 39 from HA.out.next hb1)
      have hb2 : Below w.heap.size w w1.drew := hb1.drew
      clear cx
      have c1' : w1.cell? ⟨g, 1, none⟩ = some (.string s) := HG1.out.cell rfl
      have cx' : w1.cell? x = some (.string X) := HCx.out
      have c2 : w1.drew.cell? ⟨g, 1, none⟩ = some (.string s) := HG1.out.cell rfl
      go_still_tail 13, (by kernel_rfl)
      change wpList _ _ _ _ _ w1.drew
      have f2 : w1.drew.frozen? ⟨g, 1, none⟩ = false := HG1.out.frozen 1
      have cx2 : w1.drew.cell? x = some (.string X) := HCx.out
      have HR2 := Lib.hid (HW.out _ hb2)
      have hxg : ¬ x.block = g := by omega
      generalize w1.drew = w2 at *
      go_wp2
      have cx3 : (w2.setCell ⟨g, 1, none⟩ (.string D)).cell? x = some (.string X) := (World.cell?_of_block (Below.heap_setCell _ _ _ _ hxg)).trans cx2
      have d0 : (w2.setCell ⟨g, 1, none⟩ (.string D)).cell? ⟨g, 0, none⟩ = some (.int .i64 (m : Int)) := Arr.cell HR2.out.1 rfl
      generalize w2.setCell ⟨g, 1, none⟩ (.string D) = w3 at *
      go_quiet (fail)
      have cx4 : (w3.drewN nq).cell? x = some (.string X) := cx3
      have HR4 := Lib.hid (show RRd (w3.drewN nq) g (m : Int) _ ∧ Fro (isG g) w (w3.drewN nq) from ⟨HR2.out.1, HR2.out.2.drewN nq⟩)
      generalize w3.drewN nq = w4 at *
      go_wp2
      go_ret3
      exact ⟨rfl, HR4.out.1, HR4.out.2⟩
    · have hn : nextL m l = (l.take i, 0, true, l.drop (i + 2)) := by rw [nextL, hf]; exact if_neg hmi
      rw [hn]
      show Calls _ _ _ _ fun e w' => e = .returned (.tuple #[.string (ba (l.take i)), .int .i64 0, .bool true]) ∧ RRd w' g (m : Int) (l.drop (i + 2)) ∧ Fro (isG g) w w'
      clear hsl0 hex hf hn hsp hlt hl h
      generalize ba l = s at *
      generalize ba (l.drop (i + 2)) = D at *
      generalize ba (l.take i) = X at *
      subst hX
      have hw : IntKind.i64.wrap ((X.size : Int) + 2) = (X.size : Int) + 2 := by rw [IntKind.wrap_i64]; omega
      have hsl2 := hsl
      rw [← hw] at hsl2
      clear hw
      go_enter Try.func25, Try.ntmps25
      go_wp2_with (first
        | (go_at_call 12; (with_reducible refine HSp.out.mono ?_); rintro e w1 ⟨x, len, cap, R, rfl, hlen, cx, hb1, hxb⟩; have hz2 : ((len : Int) == 0) = false := (beq_false_of_ne (by omega))))
      have HCx := Lib.hid cx
      have HG1 := Lib.hid (show Arr w1 g #[.int .i64 m, .string s] 39 from HA.out.next hb1)
      have hb2 : Below w.heap.size w w1.drew := hb1.drew
      clear cx
      have c1' : w1.cell? ⟨g, 1, none⟩ = some (.string s) := HG1.out.cell rfl
      have cx' : w1.cell? x = some (.string X) := HCx.out
      have c2 : w1.drew.cell? ⟨g, 1, none⟩ = some (.string s) := HG1.out.cell rfl
      go_still_tail 13, (by kernel_rfl)
      change wpList _ _ _ _ _ w1.drew
      have f2 : w1.drew.frozen? ⟨g, 1, none⟩ = false := HG1.out.frozen 1
      have cx2 : w1.drew.cell? x = some (.string X) := HCx.out
      have HR2 := Lib.hid (HW.out _ hb2)
      have hxg : ¬ x.block = g := by omega
      generalize w1.drew = w2 at *
      go_wp2
      have cx3 : (w2.setCell ⟨g, 1, none⟩ (.string D)).cell? x = some (.string X) := (World.cell?_of_block (Below.heap_setCell _ _ _ _ hxg)).trans cx2
      have d0 : (w2.setCell ⟨g, 1, none⟩ (.string D)).cell? ⟨g, 0, none⟩ = some (.int .i64 (m : Int)) := Arr.cell HR2.out.1 rfl
      generalize w2.setCell ⟨g, 1, none⟩ (.string D) = w3 at *
      go_quiet (fail)
      have cx4 : (w3.drewN nq).cell? x = some (.string X) := cx3
      have HR4 := Lib.hid (show RRd (w3.drewN nq) g (m : Int) _ ∧ Fro (isG g) w (w3.drewN nq) from ⟨HR2.out.1, HR2.out.2.drewN nq⟩)
      generalize w3.drewN nq = w4 at *
      go_wp2
      go_ret3
      exact ⟨rfl, HR4.out.1, HR4.out.2⟩
end Go.Proofs.Ytmpchbhimfjomaa
