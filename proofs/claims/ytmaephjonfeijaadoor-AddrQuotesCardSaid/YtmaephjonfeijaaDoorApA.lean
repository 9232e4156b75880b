/- What layer 9's laws need of the code: its contracts, as one record; large; own. -/
import Derived.Test.YtmaephjonfeijaaDoorMH
import Derived.Test.YtmaephjonfeijaaDoorBas
import Derived.Test.YtmaephjonfeijaaDoorOs
import Derived.OwnWalk
namespace Go.Proofs.YtmaephjonfeijaaDoor
open Go.RowKit

/-- What layer 9's laws need of the code. -/
structure AddrB : Prop where
  domain : ∀ s : ByteArray, s.size ≤ 140737488355328 → ∀ w, Calls Tryd.prog 17 #[.string s] w fun e w' => e = .returned (domR s.data.toList) ∧ Below w.heap.size w w'
  local' : ∀ s : ByteArray, s.size ≤ 65536 → ∀ w, Calls Tryd.prog 19 #[.string s] w fun e w' => e = .returned (.bool (locB s.data.toList)) ∧ Below w.heap.size w w'
  plain : ∀ s : ByteArray, s.size ≤ 65536 → ∀ w, Calls Tryd.prog 21 #[.string s] w fun e w' => e = .returned (.bool (plaB s.data.toList)) ∧ Below w.heap.size w w'
  may : ∀ b : BoxA, b.loc.length ≤ 65536 → b.dom.length ≤ 65536 → ∀ w, Calls Tryd.prog 27 #[boxV b] w fun e w' => e = .returned (.bool (mayB b)) ∧ Below w.heap.size w w'
  write : ∀ b : BoxA, b.loc.length ≤ 65536 → b.dom.length ≤ 65536 → ∀ w, Calls Tryd.prog 23 #[boxV b] w fun e w' => e = .returned (wrR b) ∧ Below w.heap.size w w'
  path : ∀ b : BoxA, b.loc.length ≤ 65536 → b.dom.length ≤ 65536 → ∀ w, Calls Tryd.prog 25 #[boxV b] w fun e w' => e = .returned (pathR b) ∧ Below w.heap.size w w'
  read : ∀ s : ByteArray, s.size ≤ 65536 → ∀ w, Calls Tryd.prog 12 #[.string s] w fun e w' => e = .returned (readV (readL s.data.toList)) ∧ Below w.heap.size w w'
  parse : ∀ s : ByteArray, s.size ≤ 65536 → ∀ w, Calls Tryd.prog 14 #[.string s] w fun e w' => e = .returned (parseV (parseL s.data.toList)) ∧ Below w.heap.size w w'
structure AddrC : Prop extends AddrB where
  awake : ∀ w, Calls Tryd.prog 10 #[] w fun e w' => e = .returned (.bool true) ∧ Below w.heap.size w w'

/-- Are texts too long? -/
def largeS (ss : List ByteArray) : Bool := ss.any fun s => decide (2048 < s.size)
theorem largeS_no {ss : List ByteArray} : largeS ss = false ↔ ∀ s ∈ ss, s.size ≤ 2048 := by
  rw [largeS, List.any_eq_false]
  constructor
  · intro h s hs
    have := h s hs
    simp at this
    omega
  · intro h s hs
    have := h s hs
    simp
    omega
set_option maxHeartbeats 1000000 in
set_option maxRecDepth 100000 in
theorem large9_any (x : Addr) (cap : Nat) (ss : List ByteArray) (hm : ss.length ≤ 1000) (w : World) (h : ∀ i, i < ss.length → w.cell? (x.add i) = some (.string (ss.getD i ByteArray.empty))) :
    Calls Tryd.prog 11 #[.slice (some x) ss.length cap] w fun e w' => e = .returned (.bool (largeS ss)) ∧ w = w' := by
  have H1 := Lib.hid h
  clear h
  go_enter Tryd.func11, Tryd.ntmps11
  go_wp2
  go_loopw [6] (fun i wr => ∃ k : Nat, i = .int .i64 (k : Int) ∧ k ≤ ss.length ∧ (∀ j, j < k → (ss.getD j ByteArray.empty).size ≤ 2048) ∧ w = wr) (fun i _ => ss.length - (intOf i).toNat)
  case atStart => exact ⟨0, rfl, Nat.zero_le _, fun j hj => absurd hj (by omega), rfl⟩
  case round =>
    obtain ⟨k, rfl, hk, hno, rfl⟩ := hrel
    have HNo := Lib.hid hno
    clear hno
    by_cases hlt : k < ss.length
    · have hli : (k : Int) < (ss.length : Int) := by omega
      have hk0 : (0 : Int) ≤ (k : Int) := by omega
      have c1 := H1.out k hlt
      have HX := Lib.hid (show ss.getD k ByteArray.empty ∈ ss by
        rw [List.getD_eq_getElem?_getD, List.getElem?_eq_getElem hlt]
        exact List.getElem_mem _)
      by_cases h2 : 2048 < (ss.getD k ByteArray.empty).size
      · have h2i : (2048 : Int) < ((ss.getD k ByteArray.empty).size : Int) := by omega
        have HR := Lib.hid (show largeS ss = true from List.any_eq_true.2 ⟨_, HX.out, decide_eq_true h2⟩)
        clear h2 HX
        generalize ss.getD k ByteArray.empty = X at *
        go_wp2
        go_ret
        exact ⟨by rw [HR.out]; rfl, rfl⟩
      · have h2i : ¬ (2048 : Int) < ((ss.getD k ByteArray.empty).size : Int) := by omega
        have HN2 := Lib.hid (show ∀ j, j < k + 1 → (ss.getD j ByteArray.empty).size ≤ 2048 from fun j hj => by
          by_cases e : j = k
          · subst e; omega
          · exact HNo.out j (by omega))
        clear h2 HX
        generalize ss.getD k ByteArray.empty = X at *
        go_wp2
        go_roundw
        case rel => exact ⟨k + 1, by go_num, by omega, HN2.out, trivial⟩
        case measure => simp only [intOf]; omega
    · have hli : ¬ (k : Int) < (ss.length : Int) := by omega
      have HR := Lib.hid (show largeS ss = false from largeS_no.2 fun s hs => by
        obtain ⟨i, hi, rfl⟩ := List.getElem_of_mem hs
        have := HNo.out i (by omega)
        rwa [List.getD_eq_getElem?_getD, List.getElem?_eq_getElem hi] at this)
      go_wp2
      go_ret
      exact ⟨by rw [HR.out]; rfl, rfl⟩
/-- Texts that were just laid. -/
theorem texts_new (w : World) (ss : List ByteArray) : ∀ i, i < ss.length → (w.alloc (.cells (strV ss).toArray 9)).cell? ((⟨w.heap.size, 0, none⟩ : Addr).add i) = some (.string (ss.getD i ByteArray.empty)) := fun i hi => by
  rw [addr_add, Nat.zero_add]
  exact (Arr.new w _ _).cell (by rw [List.getElem?_toArray, strV_get ss i hi])

theorem info_abox : (Tryd.prog.info? 25).map (·.size) = some 2 := by kernel_rfl
theorem results_rbox1 {fn : Func} {p : Tmp} (h : fn.results = #[.cell p 29]) (tmps : Array Value) (w : World) (g : Nat) (cs : Array Value) (hs : cs.size = 2) (hp : tmps.getD p undef = .pointer (some ⟨g, 0, none⟩)) (hg : Arr w g cs 29) :
    (results fn tmps).run Tryd.prog w = .ok (.agg cs) w := by
  have hp' : tmps[p]?.getD undef = .pointer (some ⟨g, 0, none⟩) := by simpa using hp
  simp [results, h, hp', asAddr, run_loadVar_row w g 29 29 cs (0, 0) _ hg Tryd.underlying29 rfl (by rw [hs]; exact info_box)]
theorem own9_any (l d : ByteArray) (w : World) :
    Calls Tryd.prog 16 #[.agg #[.string l, .string d]] w fun e w' => e = .returned (.agg #[.string l, .string d]) ∧ Below w.heap.size w w' := by
  have HB := Lib.hid ((Below.refl w.heap.size w).alloc (Nat.le_refl _) (.cells #[.string l, .string d] 25))
  go_enter Tryd.func16, Tryd.ntmps16
  go_wp2
  have hz : (w.alloc (.cells #[.string l, .string d] 25)).heap.size = w.heap.size + 1 := by show (w.heap.push _).size = _; simp
  refine bodyPost_ret (results_rbox1 rfl _ _ (w.heap.size + 1) #[.string l, .string d] rfl rfl (Arr.newAt _ _ _ hz.symm)) rfl ⟨rfl, HB.out.alloc (by rw [hz]; exact Nat.le_succ _) _⟩
end Go.Proofs.YtmaephjonfeijaaDoor
