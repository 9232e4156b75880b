/- The document's own layer 7: Key. -/
import Derived.Test.YtfflpooiebeagaaDoorBxC
import Derived.Test.YtfflpooiebeagaaDoorMD
namespace Go.Proofs.YtfflpooiebeagaaDoor
open Go.RowKit

theorem keyR_ok {m d : ByteArray} {e : Nat} (h : bxKeyOk m d) : bxKeyR m d e = .tuple #[.string (bxKeyB m d e), .int .i64 0] := by rw [bxKeyR, if_pos h]; rfl
theorem keyR_no {m d : ByteArray} {e : Nat} (h : ¬ bxKeyOk m d) : bxKeyR m d e = .tuple #[.string ByteArray.empty, .int .i64 5] := by rw [bxKeyR, if_neg h]; rfl
theorem infoB_size (d : ByteArray) (e : Nat) : (infoB d e).size = d.size + 10 := by
  rw [infoB, ByteArray.size_append, ByteArray.size_append]
  have h1 : (⟨((lowL d.size 2).reverse).toArray⟩ : ByteArray).size = 2 := by show ((lowL d.size 2).reverse).toArray.size = _; rw [List.size_toArray, List.length_reverse, lowL_len]
  have h2 : (⟨((lowL e 8).reverse).toArray⟩ : ByteArray).size = 8 := by show ((lowL e 8).reverse).toArray.size = _; rw [List.size_toArray, List.length_reverse, lowL_len]
  omega
end Go.Proofs.YtfflpooiebeagaaDoor
