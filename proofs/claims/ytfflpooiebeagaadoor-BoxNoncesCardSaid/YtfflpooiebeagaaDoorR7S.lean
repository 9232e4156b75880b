/- The document's own layer 7: Seal and Open. -/
import Derived.Test.YtfflpooiebeagaaDoorR7A
import Derived.Test.YtfflpooiebeagaaDoorM7
import Derived.Maps.AppendAt
import Derived.Laws.AppendOwnNone
namespace Go.Proofs.YtfflpooiebeagaaDoor
open Go.RowKit

theorem noOpen7 {k n d s : ByteArray} (h : ¬ openOk k n d s) : ¬ k.size = 32 ∨ (k.size = 32 ∧ ¬ n.size = 12) ∨ (k.size = 32 ∧ n.size = 12 ∧ 4096 < d.size) ∨ (k.size = 32 ∧ n.size = 12 ∧ ¬ 4096 < d.size ∧ s.size < 16) ∨ (k.size = 32 ∧ n.size = 12 ∧ ¬ 4096 < d.size ∧ ¬ s.size < 16 ∧ 16400 < s.size) := by
  by_cases h1 : k.size = 32
  · by_cases h2 : n.size = 12
    · by_cases h3 : 4096 < d.size
      · exact .inr (.inr (.inl ⟨h1, h2, h3⟩))
      · by_cases h4 : s.size < 16
        · exact .inr (.inr (.inr (.inl ⟨h1, h2, h3, h4⟩)))
        · by_cases h5 : 16400 < s.size
          · exact .inr (.inr (.inr (.inr ⟨h1, h2, h3, h4, h5⟩)))
          · exact absurd ⟨szB_mk h1 h2, by omega, by omega, by omega⟩ h
    · exact .inr (.inl ⟨h1, h2⟩)
  · exact .inl h1
theorem noSeal7 {k n d t : ByteArray} (h : ¬ sealOk k n d t) : ¬ k.size = 32 ∨ (k.size = 32 ∧ ¬ n.size = 12) ∨ (k.size = 32 ∧ n.size = 12 ∧ 4096 < d.size) ∨ (k.size = 32 ∧ n.size = 12 ∧ ¬ 4096 < d.size ∧ 16384 < t.size) := by
  by_cases h1 : k.size = 32
  · by_cases h2 : n.size = 12
    · by_cases h3 : 4096 < d.size
      · exact .inr (.inr (.inl ⟨h1, h2, h3⟩))
      · by_cases h4 : 16384 < t.size
        · exact .inr (.inr (.inr ⟨h1, h2, h3, h4⟩))
        · exact absurd ⟨szB_mk h1 h2, by omega, by omega⟩ h
    · exact .inr (.inl ⟨h1, h2⟩)
  · exact .inl h1
theorem ownsRow_base0 {w : World} {B : Nat} {v : Value} {n sz : Nat} {xs : List Value} {e : TypeId} (h : w.ownsRow B e sz v n xs) : w.ownsRow 0 e sz v n xs := by
  refine ⟨h.1, ?_⟩
  rcases h.2 with hn | ⟨g, cap, cur, rfl, hb, rest⟩
  · exact .inl hn
  · exact .inr ⟨g, cap, cur, rfl, Nat.zero_le _, rest⟩
theorem rowC_one (r : RowB) : ∀ u ∈ rowC r, u.oneCell' = true := by
  intro u h
  simp only [rowC, List.mem_cons, List.not_mem_nil, or_false] at h
  rcases h with rfl | rfl | rfl | rfl | rfl <;> rfl
end Go.Proofs.YtfflpooiebeagaaDoor
