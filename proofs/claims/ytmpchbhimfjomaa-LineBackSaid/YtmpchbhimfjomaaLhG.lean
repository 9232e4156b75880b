/- The record of layer 8's contracts, of the landed code; the laws over it. -/
import Derived.Test.YtmpchbhimfjomaaLhE
import Derived.Test.YtmpchbhimfjomaaLhF
import Derived.Test.YtmpchbhimfjomaaLnT
import Derived.Test.YtmpchbhimfjomaaLnR
import Derived.Test.YtmpchbhimfjomaaLnP
import Derived.Test.YtmpchbhimfjomaaLnB
import Derived.Test.YtmpchbhimfjomaaLnS
import Derived.Test.YtmpchbhimfjomaaLnD
import Derived.Test.YtmpchbhimfjomaaLnK
namespace Go.Proofs.Ytmpchbhimfjomaa
open Go.RowKit

theorem lineB : LineB RdL where
  keep := fun h hk => h.keep hk
  lt := fun h => h.lt
  ptr := fun h => by obtain ⟨g, _, _, _, _, hp, _⟩ := h; exact ⟨g, hp⟩
  det := fun h h' => h.det h'
  new' := fun n h1 h2 w => lnew_any n h1 h2 w
  none' := fun n h w => lnone_any n h w
  add := fun s hl w h => ladd_any s hl w h
  next' := fun hl w h => lnext_any hl w h
  len := fun _ w h => llen_any w h
  split := fun s hs w => lsplit_any s (by omega) w
  join := fun a len cap ss h1 h2 w h => ljoin_any a len cap ss (by omega) (by omega) w h
  stuff := fun a len cap ss h1 h2 w h => lstuff_any a len cap ss (by omega) (by omega) w h
  unstuff := fun s _ w => (lunstuff_any s w).mono fun e w' ⟨he, hw⟩ => ⟨he, hw ▸ Below.refl _ _⟩
  unstuffed := fun s hs w => lunstuffed_any s (by omega) w
theorem lineC : LineC RdL := { lineB with awake := fun w => awake8_walk lineB w }

theorem lineTells_walkK (s : ByteArray) (a : Option Addr) (len cap : Nat) (ss : List ByteArray) (W : World) (hs : s.size ≤ maxLen) (hl : IsTexts W a len cap ss) :
    Calls Try.prog 3 #[.string s, .slice a len cap] W fun e w' => e = .returned (.bool true) ∧ Below W.heap.size W w' := lineTells_walk lineC s a len cap ss W hs hl
theorem lineReads_walkK (n : Int) (a : Option Addr) (len cap : Nat) (ss : List ByteArray) (b : Option Addr) (len2 cap2 : Nat) (zs : List Int) (W : World) (_ : (Lit.int .i64 n).wf = true) (hl : IsTexts W a len cap ss) (hz : IsRow .u8 W b len2 cap2 zs) :
    Calls Try.prog 4 #[.int .i64 n, .slice a len cap, .slice b len2 cap2] W fun e w' => e = .returned (.bool true) ∧ Below W.heap.size W w' := lineReads_walk lineC n a len cap ss b len2 cap2 zs W hl hz
theorem linePieces_walkK (n : Int) (a : Option Addr) (len cap : Nat) (ss : List ByteArray) (W : World) (wf : (Lit.int .u16 n).wf = true) (hl : IsTexts W a len cap ss) :
    Calls Try.prog 5 #[.int .u16 n, .slice a len cap] W fun e w' => e = .returned (.bool true) ∧ Below W.heap.size W w' := linePieces_walk lineC n a len cap ss W wf hl
theorem lineBack_walkK (s : ByteArray) (a : Option Addr) (len cap : Nat) (ss : List ByteArray) (rest : ByteArray) (W : World) (_ : s.size ≤ maxLen) (hl : IsTexts W a len cap ss) (_ : rest.size ≤ maxLen) :
    Calls Try.prog 6 #[.string s, .slice a len cap, .string rest] W fun e w' => e = .returned (.bool true) ∧ Below W.heap.size W w' := lineBack_walk lineC s a len cap ss rest W hl
theorem lineStuffed_walkK (a : Option Addr) (len cap : Nat) (ss : List ByteArray) (behind : ByteArray) (W : World) (hl : IsTexts W a len cap ss) (_ : behind.size ≤ maxLen) :
    Calls Try.prog 7 #[.slice a len cap, .string behind] W fun e w' => e = .returned (.bool true) ∧ Below W.heap.size W w' := lineStuffed_walk lineC a len cap ss behind W hl
theorem lineDots_walkK (s : ByteArray) (_ : s.size ≤ maxLen) (W : World) :
    Calls Try.prog 8 #[.string s] W fun e w' => e = .returned (.bool true) ∧ Below W.heap.size W w' := lineDots_walk lineC s W
end Go.Proofs.Ytmpchbhimfjomaa
