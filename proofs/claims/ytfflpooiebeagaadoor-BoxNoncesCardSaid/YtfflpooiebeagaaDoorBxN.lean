/- box: the plain functions: what is in a table, what is sealed and opened; the key of a domain and an epoch. -/
import Derived.Test.YtfflpooiebeagaaDoorM7
import Derived.Test.YtfflpooiebeagaaDoorMC
namespace Go.Proofs.YtfflpooiebeagaaDoor
open Go.RowKit

/-- What was sealed. -/
structure RowB where
  k : ByteArray
  n : ByteArray
  d : ByteArray
  t : ByteArray
  s : ByteArray
/-- A box: is it ideal; what is left of its draws; its table. -/
structure StB where
  ideal : Bool
  draws : ByteArray
  T : List RowB
def realB : StB := ⟨false, ByteArray.empty, []⟩
def idealB (draws : ByteArray) : StB := ⟨true, draws, []⟩
def sameB (k n : ByteArray) (r : RowB) : Bool := decide (r.k = k ∧ r.n = n)
def findB (T : List RowB) (k n : ByteArray) : Option RowB := T.find? (sameB k n)
theorem sameB_iff {k n : ByteArray} {r : RowB} : sameB k n r = true ↔ r.k = k ∧ r.n = n := by simp [sameB]
theorem findB_some {T : List RowB} {k n : ByteArray} {r : RowB} (h : findB T k n = some r) : r ∈ T ∧ r.k = k ∧ r.n = n :=
  ⟨List.mem_of_find?_eq_some h, sameB_iff.1 (List.find?_some h)⟩
theorem findB_none {T : List RowB} {k n : ByteArray} (h : findB T k n = none) : ∀ r ∈ T, ¬ (r.k = k ∧ r.n = n) := fun r hr e => by
  have := List.find?_eq_none.1 h r hr
  exact this (sameB_iff.2 e)
theorem findB_append {T : List RowB} {k n : ByteArray} (r : RowB) : findB (T ++ [r]) k n = (findB T k n).or (if sameB k n r = true then some r else none) := by
  rw [findB, List.find?_append, ← findB]
  congr 1
  by_cases h : sameB k n r = true
  · rw [if_pos h]; simp [h]
  · rw [if_neg h]; simp [h]

/-- The rows of a table are of keys and nonces of which no two are the same, of right sizes, sealed by as many draws. -/
structure WfB (T : List RowB) : Prop where
  apart : T.Pairwise fun a b => ¬ (a.k = b.k ∧ a.n = b.n)
  ok : ∀ r ∈ T, sealOk r.k r.n r.d r.t ∧ r.s.size = r.t.size + 16
theorem WfB.nil : WfB [] := ⟨List.Pairwise.nil, fun _ h => by cases h⟩
theorem WfB.snoc {T : List RowB} (h : WfB T) {r : RowB} (hn : findB T r.k r.n = none) (hok : sealOk r.k r.n r.d r.t) (hs : r.s.size = r.t.size + 16) : WfB (T ++ [r]) := by
  refine ⟨List.pairwise_append.2 ⟨h.apart, List.pairwise_singleton _ _, fun a ha b hb e => ?_⟩, fun x hx => ?_⟩
  · obtain rfl := List.mem_singleton.1 hb
    exact findB_none hn a ha e
  · rcases List.mem_append.1 hx with hx | hx
    · exact h.ok x hx
    · obtain rfl := List.mem_singleton.1 hx
      exact ⟨hok, hs⟩
theorem WfB.find {T : List RowB} (h : WfB T) {r : RowB} (hr : r ∈ T) : findB T r.k r.n = some r := by
  induction T with
  | nil => cases hr
  | cons a T ih =>
    obtain ⟨h1, h2⟩ := List.pairwise_cons.1 h.apart
    rcases List.mem_cons.1 hr with rfl | hr
    · rw [findB, List.find?_cons_of_pos]; exact sameB_iff.2 ⟨rfl, rfl⟩
    · have hne : ¬ sameB r.k r.n a = true := fun e => h1 r hr (sameB_iff.1 e)
      rw [findB, List.find?_cons_of_neg hne]
      exact ih ⟨h2, fun x hx => h.ok x (List.mem_cons_of_mem _ hx)⟩ hr

/-- What a box seals: the bytes, the error, the box behind it. -/
def newB (st : StB) (t : ByteArray) : ByteArray := st.draws.extract 0 (t.size + 16)
def afterB (st : StB) (k n d t : ByteArray) : StB := { st with draws := st.draws.extract (t.size + 16) st.draws.size, T := st.T ++ [⟨k, n, d, t, newB st t⟩] }
def idealS (st : StB) (k n d t : ByteArray) : ByteArray × Int × StB :=
  if sealOk k n d t then
    match findB st.T k n with
    | some r => if r.d = d ∧ r.t = t then (r.s, 0, st) else (ByteArray.empty, 11, st)
    | none => if st.draws.size < t.size + 16 then (ByteArray.empty, 21, st) else (newB st t, 0, afterB st k n d t)
  else (ByteArray.empty, 5, st)
def bxSeal (st : StB) (k n d t : ByteArray) : ByteArray × Int × StB :=
  if st.ideal = true then idealS st k n d t else (sealS k n d t, sealE k n d t, st)
def idealO (st : StB) (k n d s : ByteArray) : ByteArray × Int :=
  if openOk k n d s then
    match findB st.T k n with
    | some r => if r.d = d ∧ r.s = s then (r.t, 0) else (ByteArray.empty, 20)
    | none => (ByteArray.empty, 20)
  else (ByteArray.empty, 5)
def bxOpen (st : StB) (k n d s : ByteArray) : ByteArray × Int :=
  if st.ideal = true then idealO st k n d s else (openS k n d s, openE k n d s)
def pairR (x : ByteArray) (e : Int) : Value := .tuple #[.string x, .int .i64 e]
def bxSealR (st : StB) (k n d t : ByteArray) : Value := pairR (bxSeal st k n d t).1 (bxSeal st k n d t).2.1
def bxSealT (st : StB) (k n d t : ByteArray) : StB := (bxSeal st k n d t).2.2
def bxOpenR (st : StB) (k n d s : ByteArray) : Value := pairR (bxOpen st k n d s).1 (bxOpen st k n d s).2

/-- The ways of an ideal box's Seal. -/
theorem seal_size {st : StB} {k n d t : ByteArray} (hi : st.ideal = true) (h : ¬ sealOk k n d t) : bxSeal st k n d t = (ByteArray.empty, 5, st) := by
  rw [bxSeal, if_pos hi, idealS, if_neg h]
theorem seal_again {st : StB} {k n d t : ByteArray} {r : RowB} (hi : st.ideal = true) (h : sealOk k n d t) (hf : findB st.T k n = some r) (hr : r.d = d ∧ r.t = t) : bxSeal st k n d t = (r.s, 0, st) := by
  rw [bxSeal, if_pos hi, idealS, if_pos h, hf]; exact if_pos hr
theorem seal_twice {st : StB} {k n d t : ByteArray} {r : RowB} (hi : st.ideal = true) (h : sealOk k n d t) (hf : findB st.T k n = some r) (hr : ¬ (r.d = d ∧ r.t = t)) : bxSeal st k n d t = (ByteArray.empty, 11, st) := by
  rw [bxSeal, if_pos hi, idealS, if_pos h, hf]; exact if_neg hr
theorem seal_spent {st : StB} {k n d t : ByteArray} (hi : st.ideal = true) (h : sealOk k n d t) (hf : findB st.T k n = none) (hs : st.draws.size < t.size + 16) : bxSeal st k n d t = (ByteArray.empty, 21, st) := by
  rw [bxSeal, if_pos hi, idealS, if_pos h, hf]; exact if_pos hs
theorem seal_new {st : StB} {k n d t : ByteArray} (hi : st.ideal = true) (h : sealOk k n d t) (hf : findB st.T k n = none) (hs : ¬ st.draws.size < t.size + 16) : bxSeal st k n d t = (newB st t, 0, afterB st k n d t) := by
  rw [bxSeal, if_pos hi, idealS, if_pos h, hf]; exact if_neg hs
theorem seal_real {st : StB} {k n d t : ByteArray} (hi : st.ideal = false) : bxSeal st k n d t = (sealS k n d t, sealE k n d t, st) := by
  rw [bxSeal, if_neg (by rw [hi]; decide)]
theorem newB_size {st : StB} {t : ByteArray} (hs : ¬ st.draws.size < t.size + 16) : (newB st t).size = t.size + 16 := by
  rw [newB, ext_size _ _ _ (by omega)]; omega
theorem open_size {st : StB} {k n d s : ByteArray} (hi : st.ideal = true) (h : ¬ openOk k n d s) : bxOpen st k n d s = (ByteArray.empty, 5) := by
  rw [bxOpen, if_pos hi, idealO, if_neg h]
theorem open_none {st : StB} {k n d s : ByteArray} (hi : st.ideal = true) (h : openOk k n d s) (hf : findB st.T k n = none) : bxOpen st k n d s = (ByteArray.empty, 20) := by
  rw [bxOpen, if_pos hi, idealO, if_pos h, hf]
theorem open_other {st : StB} {k n d s : ByteArray} {r : RowB} (hi : st.ideal = true) (h : openOk k n d s) (hf : findB st.T k n = some r) (hr : ¬ (r.d = d ∧ r.s = s)) : bxOpen st k n d s = (ByteArray.empty, 20) := by
  rw [bxOpen, if_pos hi, idealO, if_pos h, hf]; exact if_neg hr
theorem open_row {st : StB} {k n d s : ByteArray} {r : RowB} (hi : st.ideal = true) (h : openOk k n d s) (hf : findB st.T k n = some r) (hr : r.d = d ∧ r.s = s) : bxOpen st k n d s = (r.t, 0) := by
  rw [bxOpen, if_pos hi, idealO, if_pos h, hf]; exact if_pos hr
theorem open_real {st : StB} {k n d s : ByteArray} (hi : st.ideal = false) : bxOpen st k n d s = (openS k n d s, openE k n d s) := by
  rw [bxOpen, if_neg (by rw [hi]; decide)]
theorem sealT_ideal (st : StB) (k n d t : ByteArray) : (bxSealT st k n d t).ideal = st.ideal := by
  unfold bxSealT bxSeal idealS
  split
  · split
    · split
      · split <;> rfl
      · split <;> rfl
    · rfl
  · rfl
theorem sealT_wf {st : StB} (h : WfB st.T) (k n d t : ByteArray) : WfB (bxSealT st k n d t).T := by
  unfold bxSealT bxSeal idealS
  split
  · split
    · rename_i hok
      split
      · split <;> exact h
      · rename_i hf
        split
        · exact h
        · rename_i hs
          exact h.snoc hf hok (newB_size hs)
    · exact h
  · exact h

/-- The key of a domain and an epoch. -/
def infoB (domain : ByteArray) (epoch : Nat) : ByteArray := ⟨((lowL domain.size 2).reverse).toArray⟩ ++ domain ++ ⟨((lowL epoch 8).reverse).toArray⟩
def saltB : ByteArray := ⟨#[112, 111, 115, 116, 104, 111, 114, 110]⟩
def bxKeyB (master domain : ByteArray) (epoch : Nat) : ByteArray := exB (macL saltB.data.toList master.data.toList) (infoB domain epoch).data.toList 32
def bxKeyOk (master domain : ByteArray) : Prop := master.size = 32 ∧ domain.size ≤ 255
instance (master domain : ByteArray) : Decidable (bxKeyOk master domain) := by unfold bxKeyOk; infer_instance
def bxKeyR (master domain : ByteArray) (epoch : Nat) : Value := if bxKeyOk master domain then pairR (bxKeyB master domain epoch) 0 else pairR ByteArray.empty 5
theorem bxKeyB_size (master domain : ByteArray) (epoch : Nat) : (bxKeyB master domain epoch).size = 32 := exB_size _ _ _ (by decide)
end Go.Proofs.YtfflpooiebeagaaDoor
