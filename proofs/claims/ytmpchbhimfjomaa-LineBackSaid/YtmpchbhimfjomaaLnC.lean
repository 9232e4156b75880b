/- What layer 8's laws need of the code: its contracts, as one record. -/
import Derived.Test.YtmpchbhimfjomaaLnN
import Derived.Test.YtmpchbhimfjomaaBas
import Derived.Test.YtmpchbhimfjomaaFro
namespace Go.Proofs.Ytmpchbhimfjomaa
open Go.RowKit

/-- What layer 8's laws need of the code. Rd: a reader, the blocks that are its own, its most, what came and wasn't told. -/
structure LineB (Rd : World → (Nat → Prop) → Value → Nat → List UInt8 → Prop) : Prop where
  keep : ∀ {w w' : World} {own : Nat → Prop} {p : Value} {m : Nat} {l : List UInt8}, Rd w own p m l → (∀ g, own g → w'.heap[g]? = w.heap[g]?) → Rd w' own p m l
  lt : ∀ {w : World} {own : Nat → Prop} {p : Value} {m : Nat} {l : List UInt8}, Rd w own p m l → ∀ g, own g → g < w.heap.size
  ptr : ∀ {w : World} {own : Nat → Prop} {p : Value} {m : Nat} {l : List UInt8}, Rd w own p m l → ∃ g, p = .pointer (some ⟨g, 0, none⟩)
  det : ∀ {w : World} {own own' : Nat → Prop} {p : Value} {m m' : Nat} {l l' : List UInt8}, Rd w own p m l → Rd w own' p m' l' → l = l'
  new' : ∀ (n : Nat), 1 ≤ n → n ≤ 1000 → ∀ w, Calls Try.prog 22 #[.int .i64 (n : Int)] w fun e w' => ∃ (p : Value) (own : Nat → Prop), e = .returned p ∧ Rd w' own p n [] ∧ (∀ g, own g → w.heap.size ≤ g) ∧ Below w.heap.size w w'
  none' : ∀ (n : Int), ¬ (1 ≤ n ∧ n ≤ 1000) → ∀ w, Calls Try.prog 22 #[.int .i64 n] w fun e w' => e = .returned (.pointer none) ∧ Below w.heap.size w w'
  add : ∀ {own : Nat → Prop} {p : Value} {m : Nat} {l : List UInt8} (s : ByteArray), l.length + s.size ≤ 65536 → ∀ w, Rd w own p m l →
    Calls Try.prog 23 #[p, .string s] w fun e w' => e = .returned (.tuple #[]) ∧ ∃ own' : Nat → Prop, Rd w' own' p m (l ++ s.data.toList) ∧ (∀ g, own' g → own g ∨ w.heap.size ≤ g) ∧ Fro own w w'
  next' : ∀ {own : Nat → Prop} {p : Value} {m : Nat} {l : List UInt8}, l.length ≤ 65536 → ∀ w, Rd w own p m l →
    Calls Try.prog 24 #[p] w fun e w' => e = .returned (.tuple #[.string (ba (nextL m l).1), .int .i64 (nextL m l).2.1, .bool (nextL m l).2.2.1]) ∧ ∃ own' : Nat → Prop, Rd w' own' p m (nextL m l).2.2.2 ∧ (∀ g, own' g → own g ∨ w.heap.size ≤ g) ∧ Fro own w w'
  len : ∀ {own : Nat → Prop} {p : Value} {m : Nat} {l : List UInt8}, l.length ≤ 65536 → ∀ w, Rd w own p m l →
    Calls Try.prog 26 #[p] w fun e w' => e = .returned (.int .i64 (l.length : Int)) ∧ Below w.heap.size w w'
  split : ∀ s : ByteArray, s.size ≤ 65536 → ∀ w, Calls Try.prog 11 #[.string s] w fun e w' => ∃ a len cap, e = .returned (.tuple #[.slice a len cap, .string (ba (linesL s.data.toList).2)]) ∧ IsTexts w' a len cap (bas (linesL s.data.toList).1) ∧ Below w.heap.size w w'
  join : ∀ (a : Option Addr) (len cap : Nat) (ss : List ByteArray), sizeB ss ≤ 65536 → ss.length ≤ 10000 → ∀ w, IsTexts w a len cap ss → Calls Try.prog 18 #[.slice a len cap] w fun e w' => e = .returned (.string (ba (joinL (lsB ss)))) ∧ Below w.heap.size w w'
  stuff : ∀ (a : Option Addr) (len cap : Nat) (ss : List ByteArray), sizeB ss ≤ 65536 → ss.length ≤ 10000 → ∀ w, IsTexts w a len cap ss → Calls Try.prog 20 #[.slice a len cap] w fun e w' => e = .returned (.string (ba (stuffL (lsB ss)))) ∧ Below w.heap.size w w'
  unstuff : ∀ s : ByteArray, s.size ≤ 65536 → ∀ w, Calls Try.prog 15 #[.string s] w fun e w' => e = .returned (.tuple #[.string (ba (undotL s.data.toList).1), .bool (undotL s.data.toList).2]) ∧ Below w.heap.size w w'
  unstuffed : ∀ s : ByteArray, s.size ≤ 65536 → ∀ w, Calls Try.prog 13 #[.string s] w fun e w' => ∃ a len cap, e = .returned (.tuple #[.slice a len cap, .string (ba (unstuffL s.data.toList).2.1), .bool (unstuffL s.data.toList).2.2]) ∧ IsTexts w' a len cap (bas (unstuffL s.data.toList).1) ∧ Below w.heap.size w w'
structure LineC (Rd : World → (Nat → Prop) → Value → Nat → List UInt8 → Prop) : Prop extends LineB Rd where
  awake : ∀ w, Calls Try.prog 9 #[] w fun e w' => e = .returned (.bool true) ∧ Below w.heap.size w w'

section
variable {Rd : World → (Nat → Prop) → Value → Nat → List UInt8 → Prop}
theorem LineB.nextB (C : LineB Rd) {w w' : World} {own : Nat → Prop} {p : Value} {m : Nat} {l : List UInt8} (h : Rd w own p m l) (hb : Below w.heap.size w w') : Rd w' own p m l := C.keep h fun g hg => hb.block g (C.lt h g hg)
theorem LineB.other (C : LineB Rd) {w w' : World} {own own2 : Nat → Prop} {p : Value} {m : Nat} {l : List UInt8} (h : Rd w own2 p m l) (hf : Fro own w w') (ha : ∀ g, own2 g → ¬ own g) : Rd w' own2 p m l := C.keep h fun g hg => hf.block g (C.lt h g hg) (ha g hg)
end
end Go.Proofs.Ytmpchbhimfjomaa
