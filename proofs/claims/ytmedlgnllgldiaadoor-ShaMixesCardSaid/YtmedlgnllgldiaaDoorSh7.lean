/- sha: a Hash in memory; the contracts of New, begun, Len. -/
import Derived.Test.YtmedlgnllgldiaaDoorSh6
import Derived.Lib.BufferWrite
import Derived.Lib.SlBuf
namespace Go.Proofs.YtmedlgnllgldiaaDoor
open Go.RowKit

/-- A Hash's cells. -/
def hcells (st : S8) (part : List UInt8) (n : Nat) : Array Value := (st.cells.toList ++ u8s part ++ [Value.int .u64 (n : Int)]).toArray
theorem hcells_size (st : S8) (part : List UInt8) (n : Nat) (h : part.length = 64) : (hcells st part n).size = 73 := by
  simp [hcells, S8.cells, u8s_len, h]
theorem hcells_st (st : S8) (part : List UInt8) (n : Nat) (i : Nat) (h : i < 8) : (hcells st part n)[i]? = st.cells[i]? := by
  have : st.cells.toList.length = 8 := rfl
  simp [hcells, List.append_assoc, List.getElem?_append_left, this, h]
theorem hcells_part (st : S8) (part : List UInt8) (n : Nat) (hp : part.length = 64) (i : Nat) (h : i < 64) : (hcells st part n)[8 + i]? = (u8s part)[i]? := by
  have h8 : st.cells.toList.length = 8 := rfl
  rw [hcells, List.append_assoc, List.getElem?_toArray, List.getElem?_append_right (by omega), h8, List.getElem?_append_left (by rw [u8s_len]; omega)]
  congr 1; omega
theorem hcells_n (st : S8) (part : List UInt8) (n : Nat) (hp : part.length = 64) : (hcells st part n)[72]? = some (.int .u64 (n : Int)) := by
  have h8 : st.cells.toList.length = 8 := rfl
  rw [hcells, List.getElem?_toArray, List.getElem?_append_right (by rw [List.length_append, u8s_len]; omega), List.length_append, u8s_len, h8, hp]
  rfl

/-- Block g is a Hash of these bytes. -/
def HashOf (w : World) (g : Nat) (l : List UInt8) : Prop :=
  ∃ part : List UInt8, part.length = 64 ∧ part.take (l.length % 64) = l.drop (64 * (l.length / 64)) ∧ Arr w g (hcells (mixN firstS l (l.length / 64)) part l.length) 87
theorem HashOf.next {w w' : World} {g : Nat} {l : List UInt8} (h : HashOf w g l) (hb : Below w.heap.size w w') : HashOf w' g l := by
  obtain ⟨p, h1, h2, h3⟩ := h
  exact ⟨p, h1, h2, h3.next hb⟩
theorem HashOf.lt {w : World} {g : Nat} {l : List UInt8} (h : HashOf w g l) : g < w.heap.size := by
  obtain ⟨p, h1, h2, h3⟩ := h
  exact h3.lt

theorem built_new : Tryd.prog.built 87 [(0, .agg firstS.cells)] = some (hcells firstS (List.replicate 64 0) 0) := by kernel_rfl
/-- A new Hash is built of the state at first. -/
theorem wpList_newHash {ops : Array Oper} {rest : List Oper} {o : Oper} {a : Act} {w : World} {Q : Exit → Act → World → Prop} (hg : o.guard = none) (x : Operand) (ho : o.op = .build 87 #[(0, x)])
    (hx : a.eval x = .agg firstS.cells) (h : wpList Tryd.prog ops Q rest (a.put o.dst (.agg (hcells firstS (List.replicate 64 0) 0))) w) : wpList Tryd.prog ops Q (o :: rest) a w :=
  wpList_build hg _ _ ho (by simp [hx, built_new]) (by simp only [List.map_toArray, List.map_cons, List.map_nil, hx, built_new]; exact h)

set_option maxHeartbeats 1000000 in
theorem new_any (w : World) :
    Calls Tryd.prog 45 #[] w fun e w' => (∃ g, e = .returned (.pointer (some ⟨g, 0, none⟩)) ∧ w.heap.size ≤ g ∧ HashOf w' g []) ∧ Below w.heap.size w w' := by
  have HF := Lib.hid first_any
  go_enter Tryd.func45, Tryd.ntmps45
  go_wp2_with (first
    | (go_at_call 30; ((with_reducible refine (HF.out _).mono ?_); rintro e w' ⟨rfl, hb⟩))
    | (with_reducible refine wpList_newHash rfl _ rfl rfl ?_))
  go_ret
  exact ⟨⟨w'.heap.size, rfl, hb.size, List.replicate 64 0, by simp, by simp, Arr.new w' (hcells firstS (List.replicate 64 0) 0) _⟩, hb.alloc hb.size _⟩

theorem HashOf.size {w : World} {g : Nat} {l : List UInt8} (h : HashOf w g l) : w.cell? ⟨g, 72, none⟩ = some (.int .u64 ((l.length : Nat) : Int)) := by
  obtain ⟨p, h1, h2, h3⟩ := h
  exact h3.cell (hcells_n _ _ _ h1)

theorem begun_any (g : Nat) (l : List UInt8) (w : World) (h : HashOf w g l) :
    Calls Tryd.prog 58 #[.pointer (some ⟨g, 0, none⟩)] w fun e w' => e = .returned (.int .i64 ((l.length % 64 : Nat) : Int)) ∧ w = w' := by
  have hc := h.size
  have e1 : wrap64 (((l.length : Nat) : Int) % 64) = ((l.length % 64 : Nat) : Int) := by rw [IntWalk.wrap64_in _ ⟨by omega, by omega⟩]; omega
  have HE := Lib.hid e1
  have h0 : (0 : Int) ≤ ((l.length : Nat) : Int) := by omega
  clear h e1
  go_enter Tryd.func58, Tryd.ntmps58
  go_wp2
  go_ret
  exact ⟨ret_int (by first | exact HE.out | omega), rfl⟩

theorem len_any (g : Nat) (l : List UInt8) (w : World) (h : HashOf w g l) :
    Calls Tryd.prog 46 #[.pointer (some ⟨g, 0, none⟩)] w fun e w' => e = .returned (.int .u64 ((l.length : Nat) : Int)) ∧ w = w' := by
  have hc := h.size
  clear h
  go_enter Tryd.func46, Tryd.ntmps46
  go_wp2
  go_ret
  exact ⟨rfl, rfl⟩
end Go.Proofs.YtmedlgnllgldiaaDoor
