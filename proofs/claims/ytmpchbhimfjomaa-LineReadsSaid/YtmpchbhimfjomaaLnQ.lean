/- Two readers at once; how many bytes a reader has, as the measure of a loop. -/
import Derived.Test.YtmpchbhimfjomaaLnL
namespace Go.Proofs.Ytmpchbhimfjomaa
open Go.RowKit

section
variable {Rd : World → (Nat → Prop) → Value → Nat → List UInt8 → Prop}
open Classical in
/-- How many bytes a reader has. -/
noncomputable def lenOf (Rd : World → (Nat → Prop) → Value → Nat → List UInt8 → Prop) (w : World) (p : Value) : Nat := if h : ∃ l own m, Rd w own p m l then h.choose.length else 0
theorem lenOf_is (C : LineB Rd) {w : World} {own : Nat → Prop} {p : Value} {m : Nat} {l : List UInt8} (h : Rd w own p m l) : lenOf Rd w p = l.length := by
  have hx : ∃ l own m, Rd w own p m l := ⟨l, own, m, h⟩
  rw [lenOf, dif_pos hx]
  obtain ⟨own', m', h'⟩ := hx.choose_spec
  rw [C.det h h']

/-- Two readers that lie apart. -/
def TwoR (Rd : World → (Nat → Prop) → Value → Nat → List UInt8 → Prop) (w0 wr : World) (p q : Value) (m : Nat) (L M : List UInt8) : Prop :=
  ∃ ownA ownB : Nat → Prop, Rd wr ownA p m L ∧ Rd wr ownB q m M ∧ (∀ g, ownA g → w0.heap.size ≤ g) ∧ (∀ g, ownB g → w0.heap.size ≤ g) ∧ (∀ g, ownA g → ¬ ownB g) ∧ Below w0.heap.size w0 wr
theorem TwoR.bel {w0 wr : World} {p q : Value} {m : Nat} {L M : List UInt8} (h : TwoR Rd w0 wr p q m L M) : Below w0.heap.size w0 wr := by obtain ⟨_, _, _, _, _, _, _, h⟩ := h; exact h
theorem TwoR.len (C : LineB Rd) {w0 wr : World} {p q : Value} {m : Nat} {L M : List UInt8} (h : TwoR Rd w0 wr p q m L M) : lenOf Rd wr p = L.length := by obtain ⟨_, _, h, _⟩ := h; exact lenOf_is C h
theorem TwoR.swap {w0 wr : World} {p q : Value} {m : Nat} {L M : List UInt8} (h : TwoR Rd w0 wr p q m L M) : TwoR Rd w0 wr q p m M L := by
  obtain ⟨a, b, h1, h2, h3, h4, h5, h6⟩ := h
  exact ⟨b, a, h2, h1, h4, h3, fun g hb ha => h5 g ha hb, h6⟩
theorem TwoR.next {w0 w w' : World} {p q : Value} {m : Nat} {L M : List UInt8} (C : LineB Rd) (h : TwoR Rd w0 w p q m L M) (hb : Below w.heap.size w w') : TwoR Rd w0 w' p q m L M := by
  obtain ⟨a, b, h1, h2, h3, h4, h5, h6⟩ := h
  exact ⟨a, b, C.nextB h1 hb, C.nextB h2 hb, h3, h4, h5, Below_next h6 hb⟩
theorem two_step (C : LineB Rd) {w0 w w' : World} {p q : Value} {m : Nat} {L L' M : List UInt8} {ownA ownB own' : Nat → Prop} (_ : Rd w ownA p m L) (h2 : Rd w ownB q m M) (h3 : ∀ g, ownA g → w0.heap.size ≤ g) (h4 : ∀ g, ownB g → w0.heap.size ≤ g) (h5 : ∀ g, ownA g → ¬ ownB g) (h6 : Below w0.heap.size w0 w)
    (k1 : Rd w' own' p m L') (k2 : ∀ g, own' g → ownA g ∨ w.heap.size ≤ g) (k3 : Fro ownA w w') : TwoR Rd w0 w' p q m L' M := by
  have hs := h6.size
  refine ⟨own', ownB, k1, C.other h2 k3 (fun g hb ha => h5 g ha hb), fun g hg => ?_, h4, fun g hg hb => ?_, h6.trans (k3.below h3 hs)⟩
  · rcases k2 g hg with h | h
    · exact h3 g h
    · omega
  · rcases k2 g hg with h | h
    · exact h5 g h hb
    · have := C.lt h2 g hb; omega
theorem TwoR.add (C : LineB Rd) {w0 w : World} {p q : Value} {m : Nat} {L M : List UInt8} (h : TwoR Rd w0 w p q m L M) (s : ByteArray) (hl : L.length + s.size ≤ 65536) :
    Calls Try.prog 23 #[p, .string s] w fun e w' => e = .returned (.tuple #[]) ∧ TwoR Rd w0 w' p q m (L ++ s.data.toList) M := by
  obtain ⟨a, b, h1, h2, h3, h4, h5, h6⟩ := h
  exact (C.add s hl w h1).mono fun e w' ⟨he, own', k1, k2, k3⟩ => ⟨he, two_step C h1 h2 h3 h4 h5 h6 k1 k2 k3⟩
theorem TwoR.nextL (C : LineB Rd) {w0 w : World} {p q : Value} {m : Nat} {L M : List UInt8} (h : TwoR Rd w0 w p q m L M) (hl : L.length ≤ 65536) :
    Calls Try.prog 24 #[p] w fun e w' => e = .returned (.tuple #[.string (ba (nextL m L).1), .int .i64 (nextL m L).2.1, .bool (nextL m L).2.2.1]) ∧ TwoR Rd w0 w' p q m (nextL m L).2.2.2 M := by
  obtain ⟨a, b, h1, h2, h3, h4, h5, h6⟩ := h
  exact (C.next' hl w h1).mono fun e w' ⟨he, own', k1, k2, k3⟩ => ⟨he, two_step C h1 h2 h3 h4 h5 h6 k1 k2 k3⟩
theorem TwoR.lenL (C : LineB Rd) {w0 w : World} {p q : Value} {m : Nat} {L M : List UInt8} (h : TwoR Rd w0 w p q m L M) (hl : L.length ≤ 65536) :
    Calls Try.prog 26 #[p] w fun e w' => e = .returned (.int .i64 (L.length : Int)) ∧ TwoR Rd w0 w' p q m L M := by
  have h' := h
  obtain ⟨a, b, h1, h2, h3, h4, h5, h6⟩ := h
  exact (C.len hl w h1).mono fun e w' ⟨he, hb⟩ => ⟨he, h'.next C hb⟩
/-- The second reader. -/
theorem two_new (C : LineB Rd) {w0 w : World} {p : Value} {own : Nat → Prop} {m : Nat} (h1 : 1 ≤ m) (h2 : m ≤ 1000) (hb : Below w0.heap.size w0 w) (hr : Rd w own p m []) (ho : ∀ g, own g → w0.heap.size ≤ g) :
    Calls Try.prog 22 #[.int .i64 (m : Int)] w fun e w' => ∃ q g, q = .pointer (some ⟨g, 0, none⟩) ∧ e = .returned q ∧ TwoR Rd w0 w' p q m [] [] := by
  refine (C.new' m h1 h2 w).mono fun e w' ⟨q, own2, he, k1, k2, k3⟩ => ?_
  obtain ⟨g, hg⟩ := C.ptr k1
  have hs := hb.size
  exact ⟨q, g, hg, he, own, own2, C.nextB hr k3, k1, ho, fun g hg => Nat.le_trans hs (k2 g hg), fun g ha hb2 => by have := C.lt hr g ha; have := k2 g hb2; omega, Below_next hb k3⟩

/-- All bytes, one text behind the other. -/
def flatB (ss : List ByteArray) : List UInt8 := (lsB ss).flatten
theorem flatB_len (ss : List ByteArray) : (flatB ss).length = sizeB ss := by
  rw [flatB, List.length_flatten, lsB_size]
theorem flatB_take {ss : List ByteArray} {k : Nat} (hk : k < ss.length) : ba (flatB (ss.take (k + 1))) = ba (flatB (ss.take k)) ++ ss.getD k ByteArray.empty := by
  rw [flatB, lsB_take hk, List.flatten_append, ← ba_append]
  congr 1
  rw [List.flatten_cons, List.flatten_nil, List.append_nil, ba_of]
theorem flatB_drop {ss : List ByteArray} {k : Nat} (hk : k < ss.length) : flatB (ss.drop k) = (ss.getD k ByteArray.empty).data.toList ++ flatB (ss.drop (k + 1)) := by
  rw [flatB, flatB, List.drop_eq_getElem_cons hk, List.getD_eq_getElem?_getD, List.getElem?_eq_getElem hk]
  rfl
end
end Go.Proofs.Ytmpchbhimfjomaa
