/- LinePieces: its walk over the record. -/
import Derived.Test.YtmpchbhimfjomaaLnQ
import Derived.OwnWalk
namespace Go.Proofs.Ytmpchbhimfjomaa
open Go.RowKit

section
variable {Rd : World → (Nat → Prop) → Value → Nat → List UInt8 → Prop}
theorem wf_u16 {n : Int} (wf : (Lit.int .u16 n).wf = true) : ∃ k : Nat, n = (k : Int) ∧ k < 65536 := by
  have h : 0 ≤ n ∧ n ≤ 65535 := by simpa [Lit.wf, IntKind.min, IntKind.max, IntKind.signed, IntKind.bits] using wf
  exact ⟨n.toNat, by omega, by omega⟩

set_option maxHeartbeats 2000000 in
set_option maxRecDepth 100000 in
theorem linePieces_walk (C : LineC Rd) (n : Int) (a : Option Addr) (len cap : Nat) (ss : List ByteArray) (W : World) (wf : (Lit.int .u16 n).wf = true) (hl : IsTexts W a len cap ss) :
    Calls Try.prog 5 #[.int .u16 n, .slice a len cap] W fun e w' => e = .returned (.bool true) ∧ Below W.heap.size W w' := by
  obtain ⟨nn, rfl, hnn⟩ := wf_u16 wf
  have HA := Lib.hid (C.awake W)
  have HT0 := Lib.hid hl
  have HLg := Lib.hid (fun w h => large8_any a len cap ss w h)
  have hlen := hl.len.1
  cases hlg : largeL ss with
  | true =>
    rw [hlg] at HLg
    clear hl hlg hlen
    go_enter Try.func5, Try.ntmps5
    go_wp2_with (first
      | (go_at_call 9; (with_reducible refine HA.out.mono ?_); rintro e w1 ⟨rfl, hb1⟩)
      | (go_at_call 10; (with_reducible refine (HLg.out _ (HT0.out.next hb1)).mono ?_); rintro e w2 ⟨rfl, rfl⟩))
    go_ret
    exact ⟨rfl, hb1⟩
  | false =>
  obtain ⟨hn100, hz⟩ := largeL_no hlg
  rw [hlg] at HLg
  obtain ⟨m, hm⟩ : ∃ m : Nat, m = nn % 1000 + 1 := ⟨_, rfl⟩
  have hm1 : 1 ≤ m := by omega
  have hm2 : m ≤ 1000 := by omega
  have hmi : (nn : Int) % 1000 + 1 = (m : Int) := by omega
  have HN1 := Lib.hid (fun w => C.new' m hm1 hm2 w)
  have HC := Lib.hid C.toLineB
  clear hl hlg hm
  go_enter Try.func5, Try.ntmps5
  go_wp2_with (first
    | (go_at_call 9; (with_reducible refine HA.out.mono ?_); rintro e w1 ⟨rfl, hb1⟩)
    | (go_at_call 10; (with_reducible refine (HLg.out _ (HT0.out.next hb1)).mono ?_); rintro e w2 ⟨rfl, rfl⟩)
    | (go_at_call 22; (with_reducible refine (HN1.out w1).mono ?_); rintro e w3 ⟨p, ownA, rfl, hr3, ho3, hb3⟩; obtain ⟨gp, rfl⟩ := HC.out.ptr hr3; have hn2 := two_new (w0 := W) HC.out hm1 hm2 (Below_next hb1 hb3) hr3 (fun g hg => Nat.le_trans hb1.size (ho3 g hg)))
    | (go_at_call 22; (with_reducible refine hn2.mono ?_); rintro e w4 ⟨q, gq, rfl, rfl, htw⟩))
  have HTw := Lib.hid htw
  have HT := Lib.hid (HT0.out.next htw.bel)
  have HT0r := Lib.hid HT0.out
  clear HLg HA HT0 htw hb1 hr3 ho3 hb3 hn2 HN1
  go_loopw [8, 40] (fun o i wr => ∃ (k : Nat) (A : ByteArray), i = .int .i64 (k : Int) ∧ o = .string A ∧ k ≤ ss.length ∧ A = ba (flatB (ss.take k)) ∧ w4 = wr) (fun _ i _ => 101 - (intOf i).toNat)
  case atStart => exact ⟨0, ⟨#[]⟩, rfl, rfl, Nat.zero_le _, rfl, rfl⟩
  case round =>
    obtain ⟨k, A, rfl, rfl, hk, hA, rfl⟩ := hrel
    by_cases hlt : k < ss.length
    · have hli : (k : Int) < (len : Int) := by omega
      have hk0 : (0 : Int) ≤ (k : Int) := by omega
      obtain ⟨x, rfl, c1, _⟩ := HT.out.at (i := k) (by omega)
      have hA2 := flatB_take hlt
      rw [← hA] at hA2
      have h1 := congrArg ByteArray.size hA2
      rw [ba_size, flatB_len, ByteArray.size_append] at h1
      have h2 := sizeB_take_le ss (k + 1)
      have hcat := cat_run A (ss.getD k ByteArray.empty) (by omega)
      have HA2 := Lib.hid hA2
      clear hA2 h1 h2 hA
      generalize ss.getD k ByteArray.empty = X at *
      generalize A ++ X = A2 at *
      go_wp2
      go_roundw
      case rel => exact ⟨k + 1, A2, by go_num, rfl, by omega, HA2.out.symm, trivial⟩
      case measure => simp only [intOf]; omega
    · have hli : ¬ (k : Int) < (len : Int) := by omega
      rw [List.take_of_length_le (by omega)] at hA
      have hAl : A.data.toList = flatB ss := by rw [hA, ba_list]
      have hAs : A.size = sizeB ss := by rw [hA, ba_size, flatB_len]
      have hadd := HTw.out.swap.add HC.out A (by show 0 + A.size ≤ _; omega)
      rw [hAl, List.nil_append] at hadd
      have HAdd := Lib.hid hadd
      clear hadd hAl hA
      go_wp2_with (first
        | (go_at_call 23; (with_reducible refine HAdd.out.mono ?_); rintro e w5 ⟨rfl, htw5⟩))
      have HTw5 := Lib.hid (show TwoR Rd W w5 (.pointer (some ⟨gp, 0, none⟩)) (.pointer (some ⟨gq, 0, none⟩)) m [] ([] ++ flatB (ss.drop 0)) from htw5.swap)
      clear htw5 HAdd
      clear hlt hli hk
      go_loopw [55] (fun i wr => ∃ (k : Nat) (L : List UInt8), i = .int .i64 (k : Int) ∧ k ≤ ss.length ∧ TwoR Rd W wr (.pointer (some ⟨gp, 0, none⟩)) (.pointer (some ⟨gq, 0, none⟩)) m L (L ++ flatB (ss.drop k)) ∧ L.length + (flatB (ss.drop k)).length ≤ 4096 ∧ firstE L = none) (fun i _ => 101 - (intOf i).toNat)
      case atStart => exact ⟨0, [], rfl, Nat.zero_le _, HTw5.out, by rw [List.drop_zero, flatB_len]; simpa using hz, by decide⟩
      case round =>
        clear HTw5 HTw
        obtain ⟨k, L, rfl, hk, htw, hLs, hfe⟩ := hrel
        have HTw := Lib.hid htw
        by_cases hlt : k < ss.length
        · have hli : (k : Int) < (len : Int) := by omega
          have hk0 : (0 : Int) ≤ (k : Int) := by omega
          have HTr := Lib.hid (HT0r.out.next htw.bel)
          obtain ⟨x, rfl, c1, _⟩ := HTr.out.at (i := k) (by omega)
          have hd := flatB_drop hlt
          rw [hd] at htw hLs
          generalize ss.getD k ByteArray.empty = X at *
          have hXl : X.data.toList.length = X.size := by simp
          rw [List.length_append] at hLs
          have hadd := htw.add HC.out X (by omega)
          rw [← List.append_assoc] at hadd
          have HAdd := Lib.hid hadd
          have hLX : (L ++ X.data.toList).length + (flatB (ss.drop (k + 1))).length ≤ 4096 := by rw [List.length_append]; omega
          generalize L ++ X.data.toList = LX at *
          generalize hDD : flatB (ss.drop (k + 1)) = DD at *
          have HDD := Lib.hid hDD
          have HLX := Lib.hid hLX
          clear hadd hd hXl htw hLs hfe hDD hLX HTw
          go_wp2_with (first
            | (go_at_call 23; (with_reducible refine HAdd.out.mono ?_); rintro e w6 ⟨rfl, htw6⟩))
          have HTw6 := Lib.hid htw6
          clear htw6 HAdd
          go_loopw [] (fun wr => ∃ M : List UInt8, TwoR Rd W wr (.pointer (some ⟨gp, 0, none⟩)) (.pointer (some ⟨gq, 0, none⟩)) m M (M ++ DD) ∧ M.length + DD.length ≤ 4096) (fun wr => lenOf Rd wr (.pointer (some ⟨gp, 0, none⟩)))
          case atStart => exact ⟨LX, HTw6.out, HLX.out⟩
          case round =>
            clear HTw6 HLX
            obtain ⟨M, htw, hMs⟩ := hrel
            have HL2 := Lib.hid (htw.len HC.out)
            have hna := htw.nextL HC.out (by omega)
            cases hf : firstE M with
            | none =>
              rw [nextL_none m hf] at hna
              have HNa := Lib.hid hna
              have HF := Lib.hid hf
              have HMs := Lib.hid hMs
              clear hna hf htw hMs
              go_wp2_with (first
                | (go_at_call 24; (with_reducible refine HNa.out.mono ?_); rintro e w7 ⟨rfl, htw7⟩))
              go_roundw
              case rel => exact ⟨k + 1, M, by go_num, by omega, by rw [HDD.out]; exact htw7, by rw [HDD.out]; exact HMs.out, HF.out⟩
              case measure => simp only [intOf]; omega
            | some i =>
              obtain ⟨h1, h2⟩ := nextL_some m hf
              have hap := nextL_append m DD h1
              generalize nextL m M = NX at *
              rw [h1] at hna
              have HNa := Lib.hid hna
              have HAp := Lib.hid hap
              have HMs := Lib.hid hMs
              have H2 := Lib.hid h2
              have hbd : (M ++ DD).length ≤ 65536 := by rw [List.length_append]; omega
              clear hna hap hf htw hMs h1 h2
              go_wp2_with (first
                | (go_at_call 24; (with_reducible refine HNa.out.mono ?_); rintro e w7 ⟨rfl, htw7⟩; have hnb := htw7.swap.nextL HC.out hbd; rw [HAp.out] at hnb)
                | (go_at_call 24; (with_reducible refine hnb.mono ?_); rintro e w8 ⟨rfl, htw8⟩))
              go_roundw
              case rel => exact ⟨NX.2.2.2, htw8.swap, by have := HMs.out; have := H2.out; omega⟩
              case measure => rw [HL2.out, htw8.swap.len HC.out]; exact H2.out
        · have hli : ¬ (k : Int) < (len : Int) := by omega
          rw [List.drop_of_length_le (by omega), show flatB [] = [] from rfl, List.append_nil] at htw
          have HTw2 := Lib.hid htw
          have hnb := htw.swap.nextL HC.out (by omega)
          rw [nextL_none m hfe] at hnb
          have HNb := Lib.hid hnb
          have HLs := Lib.hid hLs
          clear htw hnb hfe hLs HTw
          go_wp2_with (first
            | (go_at_call 24; (with_reducible refine HNb.out.mono ?_); rintro e w8 ⟨rfl, htw8⟩; have hl1 := htw8.swap.lenL HC.out (by have := HLs.out; omega))
            | (go_at_call 26; (with_reducible refine hl1.mono ?_); rintro e w9 ⟨rfl, htw9⟩; have hl2 := htw9.swap.lenL HC.out (by have := HLs.out; omega))
            | (go_at_call 26; (with_reducible refine hl2.mono ?_); rintro e wA ⟨rfl, htwA⟩))
          go_ret
          exact ⟨rfl, htwA.bel⟩
end
end Go.Proofs.Ytmpchbhimfjomaa
