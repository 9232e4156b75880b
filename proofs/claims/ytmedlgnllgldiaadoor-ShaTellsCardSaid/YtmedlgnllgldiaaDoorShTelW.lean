/- ShaTells: the law's walk. -/
import Derived.Test.YtmedlgnllgldiaaDoorShS
namespace Go.Proofs.YtmedlgnllgldiaaDoor
open Go.RowKit

set_option maxHeartbeats 1000000 in
theorem shaTells_walk (t : ByteArray) (_ : t.size ≤ maxLen) (w : World) (htab : Tab w) :
    Calls Tryd.prog 9 #[.string t] w fun e w' => e = .returned (.bool true) ∧ Below w.heap.size w w' := by
  have HA := Lib.hid (awake_any _ htab)
  have HT := Lib.hid htab
  clear htab
  by_cases hbig : 4096 < t.size
  · go_enter Tryd.func9, Tryd.ntmps9
    go_wp2_with (go_at_call 25; (with_reducible refine HA.out.mono ?_); rintro e w1 ⟨rfl, hb1⟩)
    go_ret
    exact ⟨rfl, hb1⟩
  · have HS := Lib.hid (sum_any t (by omega))
    have HR := Lib.hid (rsum_any t (by omega))
    generalize (⟨(shaL t.data.toList).toArray⟩ : ByteArray) = D at *
    go_enter Tryd.func9, Tryd.ntmps9
    go_wp2_with (first
      | (go_at_call 25; (with_reducible refine HA.out.mono ?_); rintro e w1 ⟨rfl, hb1⟩)
      | (go_at_call 26; (with_reducible refine (HS.out _ (HT.out.next hb1)).mono ?_); rintro e w2 ⟨rfl, hb2⟩)
      | (go_at_call 24; (with_reducible refine (HR.out _).mono ?_); rintro e w3 ⟨rfl, hb3⟩))
    go_ret
    exact ⟨rfl, Below_next (Below_next hb1 hb2) hb3⟩
end Go.Proofs.YtmedlgnllgldiaaDoor
