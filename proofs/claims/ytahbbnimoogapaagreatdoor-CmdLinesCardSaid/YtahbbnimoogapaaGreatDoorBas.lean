/- Bytes and strings; slices of texts. -/
import Derived.Test.YtahbbnimoogapaaGreatDoorM1
namespace Go.Proofs.YtahbbnimoogapaaGreatDoor
open Go.RowKit

/-- Bytes as a string. -/
def ba (l : List UInt8) : ByteArray := ⟨l.toArray⟩
theorem ba_list (l : List UInt8) : (ba l).data.toList = l := by simp [ba]
theorem ba_size (l : List UInt8) : (ba l).size = l.length := by show l.toArray.size = _; simp
theorem ba_of (s : ByteArray) : ba s.data.toList = s := by apply ByteArray.ext; simp [ba]
theorem ba_inj {a b : List UInt8} (h : ba a = ba b) : a = b := by rw [← ba_list a, h, ba_list]
theorem ba_append (a b : List UInt8) : ba a ++ ba b = ba (a ++ b) := by apply ByteArray.ext; simp [ba]
def bas (L : List (List UInt8)) : List ByteArray := L.map ba
theorem bas_len (L : List (List UInt8)) : (bas L).length = L.length := by simp [bas]
/-- Texts as lists of bytes. -/
def lsB (ss : List ByteArray) : List (List UInt8) := ss.map fun s => s.data.toList
theorem bas_lsB (ss : List ByteArray) : bas (lsB ss) = ss := by
  induction ss with
  | nil => rfl
  | cons s ss ih => show ba s.data.toList :: bas (lsB ss) = _; rw [ba_of, ih]
theorem lsB_bas (L : List (List UInt8)) : lsB (bas L) = L := by
  induction L with
  | nil => rfl
  | cons s ss ih => show (ba s).data.toList :: lsB (bas ss) = _; rw [ba_list, ih]

theorem IsTexts.next {w w' : World} {a : Option Addr} {len cap : Nat} {ss : List ByteArray} (h : IsTexts w a len cap ss) (hb : Below w.heap.size w w') : IsTexts w' a len cap ss := by
  rcases h with h | ⟨x, rfl, h1, h2, h3, h4, h5⟩
  · exact .inl h
  · exact .inr ⟨x, rfl, h1, h2, h3, fun i hi => (hb.cell (World.block_lt_of_cell? _ _ (h4 i hi))).trans (h4 i hi), h5⟩
/-- All bytes of texts. -/
def sizeB (ss : List ByteArray) : Nat := (ss.map ByteArray.size).sum
theorem sizeB_cons (s : ByteArray) (ss : List ByteArray) : sizeB (s :: ss) = s.size + sizeB ss := by simp [sizeB]
theorem byte_at {s : ByteArray} {i : Nat} (h : i < s.size) : s.data.toList[i]? = some s[i] := by
  rw [ByteArray.getElem_eq_getElem_data, Array.getElem?_toList, Array.getElem?_eq_getElem (by simpa using h)]
theorem byte_is {a : UInt8} {n : Nat} (hn : n < 256) : ((a.toNat : Int) == (n : Int)) = decide (a = UInt8.ofNat n) := by
  by_cases h : a = UInt8.ofNat n
  · subst h
    rw [decide_eq_true rfl, UInt8.toNat_ofNat', Nat.mod_eq_of_lt (by simpa using hn)]
    simp
  · rw [decide_eq_false h]
    refine beq_false_of_ne fun e => h ?_
    have : a.toNat = n := by omega
    rw [← this, UInt8.ofNat_toNat]
/-- What a text's reading needs at a place. -/
theorem IsTexts.at {w : World} {a : Option Addr} {len cap : Nat} {ss : List ByteArray} (h : IsTexts w a len cap ss) {i : Nat} (hi : i < len) : ∃ x, a = some x ∧ w.cell? (x.add i) = some (.string (ss.getD i ByteArray.empty)) ∧ (ss.getD i ByteArray.empty).size ≤ 140737488355328 := by
  rcases h with ⟨_, rfl, _⟩ | ⟨x, rfl, h1, h2, h3, h4, h5⟩
  · omega
  · refine ⟨x, rfl, h4 i hi, h5 _ ?_⟩
    rw [List.getD_eq_getElem?_getD, List.getElem?_eq_getElem (by omega)]
    exact List.getElem_mem _
theorem IsTexts.len {w : World} {a : Option Addr} {len cap : Nat} {ss : List ByteArray} (h : IsTexts w a len cap ss) : ss.length = len ∧ len ≤ cap ∧ cap ≤ maxLen := by
  rcases h with ⟨_, rfl, rfl, rfl⟩ | ⟨x, rfl, h1, h2, h3, h4, h5⟩
  · exact ⟨rfl, Nat.le_refl _, by decide⟩
  · exact ⟨h3, h1, h2⟩
theorem tl8 {a b : ByteArray} : (a.toList == b.toList) = decide (a = b) := by
  have e : ∀ s : ByteArray, s.toList = s.data.toList := fun s => by
    obtain ⟨⟨l⟩⟩ := s
    exact ByteArray.toList_mk l
  rw [e, e]
  by_cases h : a = b
  · subst h; rw [beq_self_eq_true, decide_eq_true rfl]
  · rw [decide_eq_false h]; exact beq_false_of_ne fun e => h (ByteArray.ext (Array.toList_inj.1 e))
theorem getD_ext {ss tt : List ByteArray} (hl : ss.length = tt.length) (h : ∀ i, i < ss.length → ss.getD i ByteArray.empty = tt.getD i ByteArray.empty) : ss = tt := by
  apply List.ext_getElem hl
  intro i h1 h2
  have := h i h1
  rwa [List.getD_eq_getElem?_getD, List.getD_eq_getElem?_getD, List.getElem?_eq_getElem h1, List.getElem?_eq_getElem h2] at this
theorem bas_snoc (L : List (List UInt8)) (x : List UInt8) : bas (L ++ [x]) = bas L ++ [ba x] := by simp [bas]
theorem ext_ba (s : ByteArray) (a b : Nat) : s.extract a b = ba ((s.data.toList.drop a).take (b - a)) := by rw [← ext_toList, ba_of]
theorem ext_all (s : ByteArray) (a : Nat) : s.extract a s.size = ba (s.data.toList.drop a) := by
  rw [ext_ba, List.take_of_length_le (by simp)]
theorem mem_bas {L : List (List UInt8)} {n : Nat} (hn : n ≤ 140737488355328) (h : ∀ x ∈ L, x.length ≤ n) : ∀ s ∈ bas L, s.size ≤ 140737488355328 := fun s hs => by
  obtain ⟨x, hx, rfl⟩ := List.mem_map.1 hs
  rw [ba_size]; exact Nat.le_trans (h x hx) hn
end Go.Proofs.YtahbbnimoogapaaGreatDoor
