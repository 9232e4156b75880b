/- line, the landed code: Unstuffed. -/
import Derived.Test.YtmpchbhimfjomaaLhD
namespace Go.Proofs.Ytmpchbhimfjomaa
open Go.RowKit

set_option maxHeartbeats 1000000 in
set_option maxRecDepth 100000 in
theorem lunstuffed_any (s : ByteArray) (hs : s.size ≤ 1048576) (w : World) :
    Calls Try.prog 13 #[.string s] w fun e w' => ∃ (a : Option Addr) (len cap : Nat), e = .returned (.tuple #[.slice a len cap, .string (ba (unstuffL s.data.toList).2.1), .bool (unstuffL s.data.toList).2.2]) ∧
      IsTexts w' a len cap (bas (unstuffL s.data.toList).1) ∧ Below w.heap.size w w' := by
  have hll : s.data.toList.length = s.size := by simp
  have HH := Lib.hid (lholding_any s w)
  obtain ⟨l, hl⟩ : ∃ l, l = s.data.toList := ⟨_, rfl⟩
  rw [← hl] at hll HH ⊢
  have HU := Lib.hid (fun p => @unG_some l p)
  have HE := Lib.hid (@unG_end l)
  have HI := Lib.hid (show unstuffG (linesL l).1 = (unstuffG (linesL l).1).map fun p => (([] : List (List UInt8)) ++ p.1, 0 + p.2) by cases unstuffG (linesL l).1 <;> simp)
  clear hl
  go_enter Try.func13, Try.ntmps13
  go_wp2_with (first
    | (go_at_call 27; (with_reducible refine HH.out.mono ?_); rintro e w0 ⟨g, a0, cap0, rfl, hg0, hrd0, hb0⟩; have HR0 := Lib.hid (RdH.start hrd0); have HB0 := Lib.hid hb0; have hB0 := hb0.size; clear hrd0))
  go_loopw [6] (fun o wr => ∃ (r : List UInt8) (N : Nat) (L : List (List UInt8)), r = l.drop N ∧ r.length ≤ s.size ∧ L.length + r.length ≤ 1048576 ∧ (∀ x ∈ L, x.length ≤ 1048576) ∧ OwS wr w0.heap.size o (bas L) ∧ RdH w0.heap.size wr g s.size r ∧ Below w.heap.size w wr ∧ w0.heap.size ≤ wr.heap.size ∧
    unstuffG (linesL l).1 = (unstuffG (linesL r).1).map fun p => (L ++ p.1, N + p.2)) (fun _ wr => leftOf g wr)
  case atStart => exact ⟨l, 0, [], rfl, by omega, by show 0 + _ ≤ _; omega, fun _ h => (by cases h), OwS.nil _ _, HR0.out, HB0.out, Nat.le_refl _, HI.out⟩
  case round =>
    clear HH HR0 HI
    obtain ⟨r, N, L, hrN, hr, hLr, hLs, hown, hrd, hbel, hsz, hun⟩ := hrel
    have HNx := Lib.hid (hrd.line (by omega))
    have HM := Lib.hid hrd.left
    have hgB := hrd.1
    have HOw := Lib.hid hown
    have HLs := Lib.hid hLs
    clear hrd
    cases hf : firstE r with
    | none =>
      rw [nextL_none _ hf] at HNx
      rw [linesL_none hf] at hun
      have HF := Lib.hid (HE.out (by rw [hun]; rfl))
      clear hun hf hLs hown hrN
      go_wp2_with (first
        | (go_at_call 24; (with_reducible refine HNx.out.mono ?_); rintro e w1 ⟨rfl, hrd1, hfr1, hz1⟩; have hbel1 := below_fro hbel hg0 hfr1))
      go_ret3
      exact ⟨none, 0, 0, by rw [HF.out]; rfl, by rw [HF.out]; exact .inl ⟨rfl, rfl, rfl, rfl⟩, hbel1⟩
    | some i =>
      have hlt := firstE_lt hf
      rw [next_short hr hf] at HNx
      rw [linesL_some hf] at hun
      have hdl : (r.drop (i + 2)).length = r.length - (i + 2) := List.length_drop
      have htl : (r.take i).length = i := by rw [List.length_take]; omega
      have hdd : r.drop (i + 2) = l.drop (N + (i + 2)) := by rw [hrN, List.drop_drop]
      have HDD := Lib.hid hdd
      have HV := Lib.hid (fun w => lunstuff_any (ba (r.take i)) w)
      rw [ba_list] at HV
      have HD := Lib.hid hdl
      have hul := undot_len (r.take i)
      cases hud : (undotL (r.take i)).2 with
      | true =>
        rw [unG_here hud, htl] at hun
        have HF := Lib.hid (HU.out _ hun)
        have hud1 : (undotL (r.take i)).1 = [] := by
          unfold undotL at hud ⊢
          split
          · rfl
          · rename_i h; rw [if_neg h] at hud; split at hud <;> cases hud
        rw [hud, hud1] at HV
        obtain ⟨a, n, cap, rfl, htx⟩ := HOw.out.some (mem_bas (by decide) HLs.out)
        clear htx hun hf hLs hown hdl htl hdd hul hud hud1 hrN
        generalize ba (r.take i) = X at *
        generalize r.drop (i + 2) = D at *
        go_wp2_with (first
          | (go_at_call 24; (with_reducible refine HNx.out.mono ?_); rintro e w1 ⟨rfl, hrd1, hfr1, hz1⟩; obtain ⟨v1, c1, cv1⟩ := hrd1.came; have HOw1 := Lib.hid (HOw.out.fro hgB hfr1); have hbel1 := below_fro hbel hg0 hfr1)
          | (go_at_call 15; (with_reducible refine (HV.out _).mono ?_); rintro e w2 ⟨rfl, rfl⟩))
        go_quiet (fail)
        go_wp2
        go_ret3
        exact ⟨_, _, _, by rw [HF.out, show (L ++ [], l.drop (N + (i + 2)), true).2.1 = l.drop (N + (i + 2)) from rfl, ← HDD.out]; rfl, by rw [HF.out, List.append_nil]; exact (HOw1.out.drewN _).read HLs.out, below_drewN hbel1 _⟩
      | false =>
        rw [unG_next hud, htl, Option.map_map] at hun
        have HR := Lib.hid (show unstuffG (linesL l).1 = (unstuffG (linesL (r.drop (i + 2))).1).map fun p => ((L ++ [(undotL (r.take i)).1]) ++ p.1, N + (i + 2) + p.2) by
          rw [hun]
          congr 1
          funext p
          simp [Nat.add_assoc])
        have HMb := Lib.hid (show ∀ x ∈ L ++ [(undotL (r.take i)).1], x.length ≤ 1048576 from fun x hx => by
          rcases List.mem_append.1 hx with hx | hx
          · exact HLs.out x hx
          · rw [List.mem_singleton.1 hx]; omega)
        have HB := Lib.hid (bas_snoc L (undotL (r.take i)).1)
        rw [hud] at HV
        clear hun hf hLs hown hdl htl hdd hul hud hrN
        generalize (undotL (r.take i)).1 = Y at *
        generalize ba (r.take i) = X at *
        generalize r.drop (i + 2) = D at *
        go_wp2_with (first
          | (go_at_call 24; (with_reducible refine HNx.out.mono ?_); rintro e w1 ⟨rfl, hrd1, hfr1, hz1⟩; have HOw1 := Lib.hid (HOw.out.fro hgB hfr1); have hbel1 := below_fro hbel hg0 hfr1; have hsz1 : w0.heap.size ≤ w1.heap.size := (by omega); clear hz1)
          | (go_at_call 15; (with_reducible refine (HV.out _).mono ?_); rintro e w2 ⟨rfl, rfl⟩)
          | (at_builtin; refine wpList_pushs w1 HOw1.out rfl _ _ rfl rfl rfl (ba Y) (by rw [bas_len]; omega) hsz1 ?_; intro v' w5 h5 hb5; rw [← HB.out] at h5))
        go_roundw
        case rel => exact ⟨D, N + (i + 2), L ++ [Y], HDD.out, by have := HD.out; omega, by rw [List.length_append]; have := HD.out; show L.length + 1 + D.length ≤ _; omega, HMb.out, h5, hrd1.next hb5, hbel1.trans ⟨hb5.os, hb5.tape, hb5.output, hb5.size, fun k hk => hb5.block k (Nat.lt_of_lt_of_le hk hB0)⟩, Nat.le_trans hsz1 hb5.size, HR.out⟩
        case measure => rw [(hrd1.next hb5).left, HM.out]; have := HD.out; omega
end Go.Proofs.Ytmpchbhimfjomaa
