/- AddrSmall whole; the guards of AddrRoutes and AddrQuotes. -/
import Derived.Test.YtmaephjonfeijaaDoorApS
namespace Go.Proofs.YtmaephjonfeijaaDoor
open Go.RowKit

set_option maxHeartbeats 2000000 in
set_option maxRecDepth 100000 in
theorem addrSmall_large (C : AddrC) (b : BoxA) (a : Option Addr) (len cap : Nat) (W : World) (h : ¬ (b.loc.length ≤ 2048 ∧ b.dom.length ≤ 2048)) :
    Calls Tryd.prog 7 #[boxV b, .slice a len cap] W fun e w' => e = .returned (.bool true) ∧ Below W.heap.size W w' := by
  have hsl := ba_size b.loc
  have hsd := ba_size b.dom
  have HA := Lib.hid (fun w => C.awake w)
  have hLg := fun w => large2_any (ba b.loc) (ba b.dom) w
  have hB0 := below_one W (.cells #[.string (ba b.loc), .string (ba b.dom)] 25)
  have k0 := box_new W (.string (ba b.loc)) (.string (ba b.dom)) 25
  rw [decide_eq_true (by omega : 2048 < (ba b.loc).size ∨ 2048 < (ba b.dom).size)] at hLg
  have HLg := Lib.hid hLg
  rw [boxV]
  clear hLg h hsl hsd
  generalize ba b.loc = L at *
  generalize ba b.dom = D at *
  go_enter Tryd.func7, Tryd.ntmps7
  go_wp2_with (first
    | (go_at_call 10; (with_reducible refine (HA.out _).mono ?_); rintro e w1 ⟨rfl, hb1⟩; obtain ⟨c10, c11⟩ := box_next k0 hb1; have hb1' := Below_next hB0 hb1)
    | (go_at_call 11; (with_reducible refine (HLg.out _).mono ?_); rintro e w2 ⟨rfl, rfl⟩; have hb2' := below_new hb1' (.cells #[.string L, .string D] 9)))
  go_ret
  exact ⟨rfl, hb2'⟩

set_option maxHeartbeats 2000000 in
set_option maxRecDepth 100000 in
theorem addrSmall_no (C : AddrC) (b : BoxA) (a : Option Addr) (len cap : Nat) (W : World) (h1 : b.loc.length ≤ 2048) (h2 : b.dom.length ≤ 2048) (hm : mayB b = false) :
    Calls Tryd.prog 7 #[boxV b, .slice a len cap] W fun e w' => e = .returned (.bool true) ∧ Below W.heap.size W w' := by
  have hsl := ba_size b.loc
  have hsd := ba_size b.dom
  have HA := Lib.hid (fun w => C.awake w)
  have hLg := fun w => large2_any (ba b.loc) (ba b.dom) w
  have hB0 := below_one W (.cells #[.string (ba b.loc), .string (ba b.dom)] 25)
  have k0 := box_new W (.string (ba b.loc)) (.string (ba b.dom)) 25
  rw [decide_eq_false (by omega : ¬ (2048 < (ba b.loc).size ∨ 2048 < (ba b.dom).size))] at hLg
  have HLg := Lib.hid hLg
  have hMb := fun w => C.may b (by omega) (by omega) w
  rw [hm, boxV] at hMb
  have HMb := Lib.hid hMb
  rw [boxV]
  clear hLg hMb hm h1 h2 hsl hsd
  generalize ba b.loc = L at *
  generalize ba b.dom = D at *
  go_enter Tryd.func7, Tryd.ntmps7
  go_wp2_with (first
    | (go_at_call 10; (with_reducible refine (HA.out _).mono ?_); rintro e w1 ⟨rfl, hb1⟩; have hb1' := Below_next hB0 hb1; obtain ⟨⟨c10, c11⟩, ⟨d10, d11⟩⟩ := cells_on k0 hb1 (.cells #[.string L, .string D] 9))
    | (go_at_call 11; (with_reducible refine (HLg.out _).mono ?_); rintro e w2 ⟨rfl, rfl⟩; have hb2' := below_new hb1' (.cells #[.string L, .string D] 9))
    | (go_at_call 27; (with_reducible refine (HMb.out _).mono ?_); rintro e w3 ⟨rfl, hb3⟩; have hb3' := Below_next hb2' hb3))
  go_ret
  exact ⟨rfl, hb3'⟩

set_option maxHeartbeats 2000000 in
set_option maxRecDepth 100000 in
theorem addrRoutes_large (C : AddrC) (b : BoxA) (a : Option Addr) (len cap : Nat) (W : World) (h : ¬ (b.loc.length ≤ 2048 ∧ b.dom.length ≤ 2048)) :
    Calls Tryd.prog 8 #[boxV b, .slice a len cap] W fun e w' => e = .returned (.bool true) ∧ Below W.heap.size W w' := by
  have hsl := ba_size b.loc
  have hsd := ba_size b.dom
  have HA := Lib.hid (fun w => C.awake w)
  have hLg := fun w => large2_any (ba b.loc) (ba b.dom) w
  have hB0 := below_one W (.cells #[.string (ba b.loc), .string (ba b.dom)] 25)
  have k0 := box_new W (.string (ba b.loc)) (.string (ba b.dom)) 25
  rw [decide_eq_true (by omega : 2048 < (ba b.loc).size ∨ 2048 < (ba b.dom).size)] at hLg
  have HLg := Lib.hid hLg
  rw [boxV]
  clear hLg h hsl hsd
  generalize ba b.loc = L at *
  generalize ba b.dom = D at *
  go_enter Tryd.func8, Tryd.ntmps8
  go_wp2_with (first
    | (go_at_call 10; (with_reducible refine (HA.out _).mono ?_); rintro e w1 ⟨rfl, hb1⟩; obtain ⟨c10, c11⟩ := box_next k0 hb1; have hb1' := Below_next hB0 hb1)
    | (go_at_call 11; (with_reducible refine (HLg.out _).mono ?_); rintro e w2 ⟨rfl, rfl⟩; have hb2' := below_new hb1' (.cells #[.string L, .string D] 9)))
  go_ret
  exact ⟨rfl, hb2'⟩

set_option maxHeartbeats 2000000 in
set_option maxRecDepth 100000 in
theorem addrRoutes_no (C : AddrC) (b : BoxA) (a : Option Addr) (len cap : Nat) (W : World) (h1 : b.loc.length ≤ 2048) (h2 : b.dom.length ≤ 2048) (hm : mayB b = false) :
    Calls Tryd.prog 8 #[boxV b, .slice a len cap] W fun e w' => e = .returned (.bool true) ∧ Below W.heap.size W w' := by
  have hsl := ba_size b.loc
  have hsd := ba_size b.dom
  have HA := Lib.hid (fun w => C.awake w)
  have hLg := fun w => large2_any (ba b.loc) (ba b.dom) w
  have hB0 := below_one W (.cells #[.string (ba b.loc), .string (ba b.dom)] 25)
  have k0 := box_new W (.string (ba b.loc)) (.string (ba b.dom)) 25
  rw [decide_eq_false (by omega : ¬ (2048 < (ba b.loc).size ∨ 2048 < (ba b.dom).size))] at hLg
  have HLg := Lib.hid hLg
  have hMb := fun w => C.may b (by omega) (by omega) w
  rw [hm, boxV] at hMb
  have HMb := Lib.hid hMb
  rw [boxV]
  clear hLg hMb hm h1 h2 hsl hsd
  generalize ba b.loc = L at *
  generalize ba b.dom = D at *
  go_enter Tryd.func8, Tryd.ntmps8
  go_wp2_with (first
    | (go_at_call 10; (with_reducible refine (HA.out _).mono ?_); rintro e w1 ⟨rfl, hb1⟩; have hb1' := Below_next hB0 hb1; obtain ⟨⟨c10, c11⟩, ⟨d10, d11⟩⟩ := cells_on k0 hb1 (.cells #[.string L, .string D] 9))
    | (go_at_call 11; (with_reducible refine (HLg.out _).mono ?_); rintro e w2 ⟨rfl, rfl⟩; have hb2' := below_new hb1' (.cells #[.string L, .string D] 9))
    | (go_at_call 27; (with_reducible refine (HMb.out _).mono ?_); rintro e w3 ⟨rfl, hb3⟩; have hb3' := Below_next hb2' hb3))
  go_ret
  exact ⟨rfl, hb3'⟩

set_option maxHeartbeats 2000000 in
set_option maxRecDepth 100000 in
theorem addrQuotes_large (C : AddrC) (b : BoxA) (a : Option Addr) (len cap : Nat) (W : World) (h : ¬ (b.loc.length ≤ 2048 ∧ b.dom.length ≤ 2048)) :
    Calls Tryd.prog 9 #[boxV b, .slice a len cap] W fun e w' => e = .returned (.bool true) ∧ Below W.heap.size W w' := by
  have hsl := ba_size b.loc
  have hsd := ba_size b.dom
  have HA := Lib.hid (fun w => C.awake w)
  have hLg := fun w => large2_any (ba b.loc) (ba b.dom) w
  have hB0 := below_one W (.cells #[.string (ba b.loc), .string (ba b.dom)] 25)
  have k0 := box_new W (.string (ba b.loc)) (.string (ba b.dom)) 25
  rw [decide_eq_true (by omega : 2048 < (ba b.loc).size ∨ 2048 < (ba b.dom).size)] at hLg
  have HLg := Lib.hid hLg
  rw [boxV]
  clear hLg h hsl hsd
  generalize ba b.loc = L at *
  generalize ba b.dom = D at *
  go_enter Tryd.func9, Tryd.ntmps9
  go_wp2_with (first
    | (go_at_call 10; (with_reducible refine (HA.out _).mono ?_); rintro e w1 ⟨rfl, hb1⟩; obtain ⟨c10, c11⟩ := box_next k0 hb1; have hb1' := Below_next hB0 hb1)
    | (go_at_call 11; (with_reducible refine (HLg.out _).mono ?_); rintro e w2 ⟨rfl, rfl⟩; have hb2' := below_new hb1' (.cells #[.string L, .string D] 9)))
  go_ret
  exact ⟨rfl, hb2'⟩

set_option maxHeartbeats 2000000 in
set_option maxRecDepth 100000 in
theorem addrQuotes_no (C : AddrC) (b : BoxA) (a : Option Addr) (len cap : Nat) (W : World) (h1 : b.loc.length ≤ 2048) (h2 : b.dom.length ≤ 2048) (hm : mayB b = false) :
    Calls Tryd.prog 9 #[boxV b, .slice a len cap] W fun e w' => e = .returned (.bool true) ∧ Below W.heap.size W w' := by
  have hsl := ba_size b.loc
  have hsd := ba_size b.dom
  have HA := Lib.hid (fun w => C.awake w)
  have hLg := fun w => large2_any (ba b.loc) (ba b.dom) w
  have hB0 := below_one W (.cells #[.string (ba b.loc), .string (ba b.dom)] 25)
  have k0 := box_new W (.string (ba b.loc)) (.string (ba b.dom)) 25
  rw [decide_eq_false (by omega : ¬ (2048 < (ba b.loc).size ∨ 2048 < (ba b.dom).size))] at hLg
  have HLg := Lib.hid hLg
  have hMb := fun w => C.may b (by omega) (by omega) w
  rw [hm, boxV] at hMb
  have HMb := Lib.hid hMb
  rw [boxV]
  clear hLg hMb hm h1 h2 hsl hsd
  generalize ba b.loc = L at *
  generalize ba b.dom = D at *
  go_enter Tryd.func9, Tryd.ntmps9
  go_wp2_with (first
    | (go_at_call 10; (with_reducible refine (HA.out _).mono ?_); rintro e w1 ⟨rfl, hb1⟩; have hb1' := Below_next hB0 hb1; obtain ⟨⟨c10, c11⟩, ⟨d10, d11⟩⟩ := cells_on k0 hb1 (.cells #[.string L, .string D] 9))
    | (go_at_call 11; (with_reducible refine (HLg.out _).mono ?_); rintro e w2 ⟨rfl, rfl⟩; have hb2' := below_new hb1' (.cells #[.string L, .string D] 9))
    | (go_at_call 27; (with_reducible refine (HMb.out _).mono ?_); rintro e w3 ⟨rfl, hb3⟩; have hb3' := Below_next hb2' hb3))
  go_ret
  exact ⟨rfl, hb3'⟩

theorem addrSmall_walk (C : AddrC) (b : BoxA) (a : Option Addr) (len cap : Nat) (zs : List Bool) (W : World) (hz : IsBls W a len cap zs) :
    Calls Tryd.prog 7 #[boxV b, .slice a len cap] W fun e w' => e = .returned (.bool true) ∧ Below W.heap.size W w' := by
  by_cases h : b.loc.length ≤ 2048 ∧ b.dom.length ≤ 2048
  · cases hm : mayB b with
    | false => exact addrSmall_no C b a len cap W h.1 h.2 hm
    | true => exact addrSmall_may C b a len cap zs W h.1 h.2 hm hz
  · exact addrSmall_large C b a len cap W h
end Go.Proofs.YtmaephjonfeijaaDoor
