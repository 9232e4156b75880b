/- The document's own Mix of layer 2: rows of numbers that are built by append. -/
import Derived.Test.YtmedlgnllgldiaaDoorShR
import Derived.Test.YtmedlgnllgldiaaDoorSh3
import Derived.Deep.RegionLaw
import Derived.Deep.DeepCutAuto
import Derived.StillTailTactics
import Derived.Deep.QuietTactic
import Derived.BigQuiet
namespace Go.Proofs.YtmedlgnllgldiaaDoor
open Go.RowKit

theorem Tryd.infoU32 : (Tryd.prog.info? 43).map (fun i => (i.zero, i.size, i.bytes)) = some (some (.int .u32 0), 1, 4) := by kernel_rfl

/-- A row of numbers that the call owns. -/
def Ow (w : World) (base : Nat) (v : Value) (l : List Nat) : Prop := w.ownsRow base 43 1 v l.length (u32s l)
theorem Ow.start (w : World) (base : Nat) (h : base ≤ w.heap.size) : Ow (w.alloc (.cells #[] 43)) base (.slice (some ⟨w.heap.size, 0, none⟩) 0 0) [] :=
  World.ownsRow_lit w #[] 0 h (by unfold maxLen; omega) rfl
theorem Ow.alloc {w : World} {base : Nat} {v : Value} {l : List Nat} (h : Ow w base v l) (o : Obj) : Ow (w.alloc o) base v l := World.ownsRow.alloc h o
theorem Ow.drew {w : World} {base : Nat} {v : Value} {l : List Nat} (h : Ow w base v l) : Ow w.drew base v l := h
theorem Ow.drewN {w : World} {base : Nat} {v : Value} {l : List Nat} (h : Ow w base v l) (n : Nat) : Ow (w.drewN n) base v l := h
/-- Where a row that is not empty lies. -/
theorem Ow.form {w : World} {base : Nat} {v : Value} {l : List Nat} (h : Ow w base v l) (hl : 0 < l.length) :
    ∃ g cap, v = .slice (some ⟨g, 0, none⟩) l.length cap ∧ base ≤ g ∧ ∀ j (hj : j < l.length), w.cell? ⟨g, j, none⟩ = some (.int .u32 ((l[j] : Nat) : Int)) := by
  rcases h.2 with ⟨_, h0⟩ | ⟨g, cap, cur, rfl, hb, _⟩
  · omega
  · refine ⟨g, cap, rfl, hb, fun j hj => ?_⟩
    rw [World.ownsRow.cellAt h j (by omega), u32s_get l j hj]

/-- The walk's law for 'append(w, x)', w a row of the call's own. -/
theorem wpList_pushw (wr : World) {ops : Array Oper} {rest : List Oper} {o : Oper} {a : Act} {Q : Exit → Act → World → Prop} {bv : Int}
    (hgd : o.guard = none) (s x : Operand) (ho : o.op = .call { callee := .builtin .append, args := #[s, x], argTypes := #[49, 49] })
    (base : Nat) (v : Value) (l : List Nat) (hs : a.eval s = v) (hx : a.eval x = .slice (some ⟨wr.heap.size, 0, none⟩) 1 1) (hown : Ow wr base v l) (b : Nat) (hb : bv = (b : Int))
    (hlen : l.length ≤ 1099511627776) (hbase : base ≤ wr.heap.size)
    (h : ∀ v' w', Ow w' base v' (l ++ [b]) → Below base wr w' → wpList Tryd.prog ops Q rest (a.put o.dst v') w') :
    wpList Tryd.prog ops Q (o :: rest) a (wr.alloc (.cells #[.int .u32 bv] 43)) := by
  subst hb
  obtain ⟨i0, hi, hz0, hz1, hz2⟩ := info_parts Tryd.infoU32
  have hsz : (wr.alloc (.cells #[.int .u32 (b : Int)] 43)).heap.size = wr.heap.size + 1 := by show (wr.heap.push _).size = _; simp
  refine wpList_append_own _ hgd s x 49 ho base 43 i0 (.int .u32 0) 1 4 Tryd.underlying49 hi hz0 hz1 hz2 rfl (by decide) v l.length (u32s l) hs (World.ownsRow.alloc hown _) ⟨wr.heap.size, 0, none⟩ 1 1 [.int .u32 (b : Int)] hx rfl ?_ ?_ (by unfold maxLen; omega) (by omega) (by omega) ?_
  · intro j u hj
    match j, hj with
    | 0, hj => simp at hj; subst hj; simp [Addr.add]
  · intro u hu; simp at hu; subst hu; rfl
  · intro v' w' h1 h2 _
    refine h v' w' ?_ ?_
    · have e : u32s (l ++ [b]) = u32s l ++ [.int .u32 (b : Int)] := by simp [u32s]
      unfold Ow
      rw [e, List.length_append]; exact h1
    · refine Below.grown ((Below.refl _ _).alloc hbase _) h2 (by omega) ?_
      intro k hk
      rcases hown.2 with ⟨rfl, _⟩ | ⟨g, cap, cur, rfl, hb, _⟩
      · simp [Value.ownBlock] at hk
      · simp [Value.ownBlock] at hk; omega

/-- 'append(w, x)' as one step of a region that draws its order. -/
theorem step_pushw {ops : Array Oper} {o : Oper} {a : Act} (wr W : World) {K : Act → World → Prop} {Q : Exit → Act → World → Prop} {E : Prop} {bv : Int}
    (hg : o.guard = none) (s x : Operand) (ho : o.op = .call { callee := .builtin .append, args := #[s, x], argTypes := #[49, 49] })
    (base : Nat) (v : Value) (l : List Nat) (hs : a.eval s = v) (hx : a.eval x = .slice (some ⟨wr.heap.size, 0, none⟩) 1 1) (hown : Ow wr base v l) (b : Nat) (hb : bv = (b : Int))
    (hW : W.heap = (wr.alloc (.cells #[.int .u32 bv] 43)).heap)
    (hlen : l.length ≤ 1099511627776) (hbase : base ≤ wr.heap.size)
    (h : ∀ v' w', Ow w' base v' (l ++ [b]) → Below base W w' → K (a.put o.dst v') w') :
    if Region.wanted o (yielded ops a.tmps) = true then Oper.wp Tryd.prog o a W K Q else E := by
  have hw : Region.wanted o (yielded ops a.tmps) = true := by simp [Region.wanted, hg]
  rw [if_pos hw]
  subst hb
  obtain ⟨i0, hi, hz0, hz1, hz2⟩ := info_parts Tryd.infoU32
  have hsz : W.heap.size = wr.heap.size + 1 := by rw [hW]; show (wr.heap.push _).size = _; simp
  have hcell : ∀ ad, W.cell? ad = (wr.alloc (.cells #[.int .u32 (b : Int)] 43)).cell? ad := fun ad => by unfold World.cell?; rw [hW]
  have hownW : W.ownsRow base 43 1 v l.length (u32s l) := by
    have := World.ownsRow.alloc hown (.cells #[.int .u32 (b : Int)] 43)
    unfold World.ownsRow at this ⊢
    rw [hW]; exact this
  refine wp_append_own _ s x 49 ho base 43 i0 (.int .u32 0) 1 4 Tryd.underlying49 hi hz0 hz1 hz2 rfl (by decide) v l.length (u32s l) hs hownW ⟨wr.heap.size, 0, none⟩ 1 1 [.int .u32 (b : Int)] hx rfl ?_ ?_ (by unfold maxLen; omega) (by omega) (by omega) ?_
  · intro j u hj
    match j, hj with
    | 0, hj => simp at hj; subst hj; rw [hcell]; simp [Addr.add]
  · intro u hu; simp at hu; subst hu; rfl
  · intro v' w' h1 h2 _
    refine h v' w' ?_ ?_
    · have e : u32s (l ++ [b]) = u32s l ++ [.int .u32 (b : Int)] := by simp [u32s]
      unfold Ow
      rw [e, List.length_append]; exact h1
    · refine Below.grown (Below.refl _ _) h2 (by omega) ?_
      intro k hk
      rcases hown.2 with ⟨rfl, _⟩ | ⟨g, cap, cur, rfl, hb, _⟩
      · simp [Value.ownBlock] at hk
      · simp [Value.ownBlock] at hk; omega

/-- What Mix's memory is while the rounds go on. -/
def RelR (ty : TypeId) (s : S8) (W : List Nat) (w : World) (g0 gt gw : Nat) (wr : World) : Prop :=
  Arr wr g0 s.cells ty ∧ (∀ j, j < 64 → wr.cell? ⟨gw, j, none⟩ = some (.int .u32 ((W.getD j 0 : Nat) : Int))) ∧ Arr wr gt (u32s tabL).toArray 43 ∧ Below w.heap.size w wr
theorem RelR.drewN {ty : TypeId} {s : S8} {W : List Nat} {w : World} {g0 gt gw : Nat} {wr : World} (h : RelR ty s W w g0 gt gw wr) (n : Nat) : RelR ty s W w g0 gt gw (wr.drewN n) :=
  ⟨h.1.drewN n, h.2.1, h.2.2.1.drewN n, Below_drewN h.2.2.2 n⟩
theorem same_quiet {f : FuncId} {args : Array Value} {w : World} {n : Nat} {v : Value} (h : Calls Tryd.prog f args (w.drewN n) fun e w' => e = .returned v ∧ w.drewN n = w') :
    Calls Tryd.prog f args (w.drewN n) fun e w'' => e = .returned v ∧ ∃ m, w'' = w.drewN m :=
  Calls.quiet_of_same (h.mono fun _ _ ⟨h, k⟩ => ⟨h, k.symm⟩)

set_option maxHeartbeats 4000000 in
set_option maxRecDepth 100000 in
theorem rmix_any {ty : TypeId} (s : S8) (hs : s.ok) (g0 : Nat) (blk : ByteArray) (hblk : blk.size = 64) (w : World) (hA : Arr w g0 s.cells ty) :
    Calls Tryd.prog 28 #[.slice (some ⟨g0, 0, none⟩) 8 8, .string blk] w fun e w' => (∃ g, e = .returned (.tuple #[.slice (some ⟨g, 0, none⟩) 8 8, .int .i64 0]) ∧ w.heap.size ≤ g ∧ Arr w' g (mixS s blk.data.toList).cells 43) ∧ Below w.heap.size w w' := by
  have hst := Ow.start w w.heap.size (Nat.le_refl _)
  have hbe := (Below.refl w.heap.size w).alloc (Nat.le_refl _) (.cells #[] 43)
  have HA := Lib.hid (hA.alloc (.cells #[] 43))
  have hg0 := hA.lt
  clear hA
  go_enter Tryd.func28, Tryd.ntmps28
  go_wp2_with fail
  go_loopw [6, 7] (fun v i wr => ∃ k : Nat, k ≤ 64 ∧ i = .int .i64 (k : Int) ∧ Ow wr w.heap.size v (wL blk.data.toList k) ∧ Arr wr g0 s.cells ty ∧ Below w.heap.size w wr) (fun _ i _ => 64 - (intOf i).toNat)
  case atStart => exact ⟨0, by omega, rfl, hst, HA.out, hbe⟩
  case round =>
    clear hst hbe HA
    obtain ⟨k, hk, rfl, hown, hA, hbel⟩ := hrel
    by_cases hlt : k < 16
    · have hj : IntKind.i64.wrap (4 * (k : Int)) = ((4 * k : Nat) : Int) := by rw [IntWalk.i64_in _ (by omega)]; omega
      have hj4 : IntKind.i64.wrap (4 * (k : Int) + 4) = ((4 * k + 4 : Nat) : Int) := by rw [IntWalk.i64_in _ (by omega)]; omega
      have hsl := fun w => slice_str blk (4 * (k : Int)) (4 * (k : Int) + 4) (4 * k) (4 * k + 4) (by omega) (by omega) (by omega) (by omega) w
      obtain ⟨B, hB⟩ : ∃ B, B = blk.extract (4 * k) (4 * k + 4) := ⟨_, rfl⟩
      have hBs : B.size = 4 := by rw [hB, ext_size _ _ _ (by omega)]; omega
      have hBn : numHigh B.data.toList = wFirst blk.data.toList k := by rw [hB, ext_toList, wFirst]; congr 2; omega
      rw [← hB] at hsl
      have hfh : ∀ w : World, Calls Tryd.prog 48 #[.string B] w fun e w' => e = .returned (.tuple #[.int .u64 ((wFirst blk.data.toList k : Nat) : Int), .int .i64 0]) ∧ w = w' := fun w =>
        (rfromHigh_any B (by omega) w).mono fun _ _ ⟨h, k⟩ => ⟨h.trans (by rw [hBs, hBn]; rfl), k⟩
      have HF := Lib.hid hfh
      have HN := Lib.hid (show IntKind.u32.wrap ((wFirst blk.data.toList k : Nat) : Int) = ((wFirst blk.data.toList k : Nat) : Int) by have := wFirst_lt blk.data.toList k; rw [IntKind.wrap_u32]; omega)
      have HS := Lib.hid (show wStep blk.data.toList (wL blk.data.toList k) k = wL blk.data.toList k ++ [wFirst blk.data.toList k] by rw [wStep, if_pos hlt])
      have hWk := wL_succ blk.data.toList k
      have HW := Lib.hid hWk
      have hlen := wL_len blk.data.toList k
      have HL := Lib.hid hlen
      clear hfh hWk hlen hB hBn
      generalize wFirst blk.data.toList k = N at *
      go_wp2_with (first
        | (go_at_call 48; (with_reducible refine (HF.out _).mono ?_); rintro e w' ⟨rfl, rfl⟩)
        | (at_builtin; refine wpList_pushw wr rfl _ _ rfl w.heap.size _ (wL blk.data.toList k) rfl rfl hown N HN.out (by rw [HL.out]; omega) hbel.size ?_; intro v' w1 hown' hb1))
      go_roundw
      case rel => exact ⟨k + 1, by omega, by go_num, by rw [HW.out, HS.out]; exact hown', hA.below hb1 hg0, hbel.trans hb1⟩
      case measure => simp [intOf]; omega
    · by_cases hlt2 : k < 64
      · have hl := wL_len blk.data.toList k
        obtain ⟨g, cap, rfl, hgb, hcells⟩ := hown.form (by omega)
        have hb15 : (wL blk.data.toList k).getD (k - 15) 0 < 4294967296 := wL_getD_lt _ _ _
        have hb2 : (wL blk.data.toList k).getD (k - 2) 0 < 4294967296 := wL_getD_lt _ _ _
        have cell : ∀ j, j < k → wr.cell? ⟨g, j, none⟩ = some (.int .u32 (((wL blk.data.toList k).getD j 0 : Nat) : Int)) := fun j hj => by
          rw [hcells j (by omega), List.getD_eq_getElem?_getD, List.getElem?_eq_getElem (by omega)]; rfl
        have g15 := cell (k - 15) (by omega)
        have g2 := cell (k - 2) (by omega)
        have g16 := cell (k - 16) (by omega)
        have g7 := cell (k - 7) (by omega)
        have hn : wStep blk.data.toList (wL blk.data.toList k) k = wL blk.data.toList k ++ [((wL blk.data.toList k).getD (k - 16) 0 + sg0 ((wL blk.data.toList k).getD (k - 15) 0) + (wL blk.data.toList k).getD (k - 7) 0 + sg1 ((wL blk.data.toList k).getD (k - 2) 0)) % 4294967296] := by rw [wStep, if_neg hlt]; rfl
        have HW := Lib.hid (wL_succ blk.data.toList k)
        have HS := Lib.hid hn
        have HL := Lib.hid hl
        rw [hl] at hown
        have HO := Lib.hid hown
        clear hn hcells cell hown
        generalize (wL blk.data.toList k).getD (k - 15) 0 = X15 at *
        generalize (wL blk.data.toList k).getD (k - 2) 0 = X2 at *
        generalize (wL blk.data.toList k).getD (k - 16) 0 = X16 at *
        generalize (wL blk.data.toList k).getD (k - 7) 0 = X7 at *
        have q1 := xor32 _ _ (rotr_lt hb15 7) (rotr_lt hb15 18)
        have q3 := xor32 _ _ (rotr_lt hb2 17) (rotr_lt hb2 19)
        have q2 : bits .xor .u32 ((rotr X15 7 ^^^ rotr X15 18 : Nat) : Int) ((X15 : Int) / 8) = ((sg0 X15 : Nat) : Int) := xor32 _ (X15 / 8) (Nat.xor_lt_two_pow (n := 32) (rotr_lt hb15 7) (rotr_lt hb15 18)) (Nat.lt_of_le_of_lt (Nat.div_le_self _ _) hb15)
        have q4 : bits .xor .u32 ((rotr X2 17 ^^^ rotr X2 19 : Nat) : Int) ((X2 : Int) / 1024) = ((sg1 X2 : Nat) : Int) := xor32 _ (X2 / 1024) (Nat.xor_lt_two_pow (n := 32) (rotr_lt hb2 17) (rotr_lt hb2 19)) (Nat.lt_of_le_of_lt (Nat.div_le_self _ _) hb2)
        have m1 : (X15 : Int) / 8 % 4294967296 = (X15 : Int) / 8 := by omega
        have m2 : (X2 : Int) / 1024 % 4294967296 = (X2 : Int) / 1024 := by omega
        rw [← m1] at q2
        rw [← m2] at q4
        clear m1 m2
        have HN := Lib.hid (show IntKind.u32.wrap (IntKind.u32.wrap (IntKind.u32.wrap ((X16 : Int) + (sg0 X15 : Int)) + (X7 : Int)) + (sg1 X2 : Int)) = (((X16 + sg0 X15 + X7 + sg1 X2) % 4294967296 : Nat) : Int) by rw [IntKind.wrap_u32, IntKind.wrap_u32, IntKind.wrap_u32]; omega)
        have HB15 := Lib.hid hb15
        have HB2 := Lib.hid hb2
        have e1 : IntKind.i64.wrap ((k : Int) - 15) = ((k - 15 : Nat) : Int) := by rw [IntWalk.i64_in _ (by omega)]; omega
        have e2 : IntKind.i64.wrap ((k : Int) - 2) = ((k - 2 : Nat) : Int) := by rw [IntWalk.i64_in _ (by omega)]; omega
        have e3 : IntKind.i64.wrap ((k : Int) - 16) = ((k - 16 : Nat) : Int) := by rw [IntWalk.i64_in _ (by omega)]; omega
        have e4 : IntKind.i64.wrap ((k : Int) - 7) = ((k - 7 : Nat) : Int) := by rw [IntWalk.i64_in _ (by omega)]; omega
        have l16 : k - 16 < k := by omega
        have l7 : k - 7 < k := by omega
        clear hb15 hb2
        rw [hl]
        clear hl
        go_wp2_with (go_at_call 49; (first | (with_reducible refine (rright_c 7 7 rfl (by decide) (by decide) _ HB15 _).mono ?_) | (with_reducible refine (rright_c 18 18 rfl (by decide) (by decide) _ HB15 _).mono ?_) | (with_reducible refine (rright_c 17 17 rfl (by decide) (by decide) _ HB2 _).mono ?_) | (with_reducible refine (rright_c 19 19 rfl (by decide) (by decide) _ HB2 _).mono ?_)); rintro e w' ⟨rfl, rfl⟩)
        go_region_law (refine step_pushw wr _ rfl _ _ rfl w.heap.size _ (wL blk.data.toList k) rfl rfl HO.out _ HN.out rfl (by rw [HL.out]; omega) hbel.size ?_; intro v' w1 hown' hb1)
        all_goals
          go_wp2
          go_roundw
          case rel => exact ⟨k + 1, by omega, by go_num, by rw [HW.out, HS.out]; exact hown', ((hA.alloc _).drew).below hb1 hg0, (hbel.alloc hbel.size _).drew.trans hb1⟩
          case measure => simp [intOf]; omega
      · obtain rfl : k = 64 := by omega
        have hl := wL_len blk.data.toList 64
        obtain ⟨g, cap, rfl, hgb, hcells⟩ := hown.form (by omega)
        have c0 : wr.cell? ⟨g0, 0, none⟩ = some (.int .u32 (s.a : Int)) := hA.cell (j := 0) rfl
        have c1 : wr.cell? ⟨g0, 1, none⟩ = some (.int .u32 (s.b : Int)) := hA.cell (j := 1) rfl
        have c2 : wr.cell? ⟨g0, 2, none⟩ = some (.int .u32 (s.c : Int)) := hA.cell (j := 2) rfl
        have c3 : wr.cell? ⟨g0, 3, none⟩ = some (.int .u32 (s.d : Int)) := hA.cell (j := 3) rfl
        have c4 : wr.cell? ⟨g0, 4, none⟩ = some (.int .u32 (s.e : Int)) := hA.cell (j := 4) rfl
        have c5 : wr.cell? ⟨g0, 5, none⟩ = some (.int .u32 (s.f : Int)) := hA.cell (j := 5) rfl
        have c6 : wr.cell? ⟨g0, 6, none⟩ = some (.int .u32 (s.g : Int)) := hA.cell (j := 6) rfl
        have c7 : wr.cell? ⟨g0, 7, none⟩ = some (.int .u32 (s.h : Int)) := hA.cell (j := 7) rfl
        have HT := Lib.hid rtable_any
        rw [hl]
        go_wp2_with fail
        refine (HT.out _).mono ?_
        rintro e w2 ⟨⟨gt, rfl, hgt, hT⟩, hb⟩
        have hA2 := hA.next hb
        have hgl : g < wr.heap.size := block_lt_of_cell (hcells 0 (by omega))
        have HR0 : Hid (RelR ty s (wL blk.data.toList 64) w g0 gt g w2) := ⟨hA2, fun j hj => by
          rw [hb.cell (p := ⟨g, j, none⟩) hgl, hcells j (by omega), List.getD_eq_getElem?_getD, List.getElem?_eq_getElem (by omega)]; rfl, hT, hbel.trans (hb.mono hbel.size)⟩
        clear c0 c1 c2 c3 c4 c5 c6 c7 hcells hA hT hbel hb hown hgt hgl hgb
        have HA2 := Lib.hid hA2
        clear hA2
        have c0 : w2.cell? ⟨g0, 0, none⟩ = some (.int .u32 (s.a : Int)) := HA2.out.cell (j := 0) rfl
        have c1 : w2.cell? ⟨g0, 1, none⟩ = some (.int .u32 (s.b : Int)) := HA2.out.cell (j := 1) rfl
        have c2 : w2.cell? ⟨g0, 2, none⟩ = some (.int .u32 (s.c : Int)) := HA2.out.cell (j := 2) rfl
        have c3 : w2.cell? ⟨g0, 3, none⟩ = some (.int .u32 (s.d : Int)) := HA2.out.cell (j := 3) rfl
        have c4 : w2.cell? ⟨g0, 4, none⟩ = some (.int .u32 (s.e : Int)) := HA2.out.cell (j := 4) rfl
        have c5 : w2.cell? ⟨g0, 5, none⟩ = some (.int .u32 (s.f : Int)) := HA2.out.cell (j := 5) rfl
        have c6 : w2.cell? ⟨g0, 6, none⟩ = some (.int .u32 (s.g : Int)) := HA2.out.cell (j := 6) rfl
        have c7 : w2.cell? ⟨g0, 7, none⟩ = some (.int .u32 (s.h : Int)) := HA2.out.cell (j := 7) rfl
        go_wp2_with fail
        go_quiet (fail)
        have HR1 := Lib.hid (HR0.out.drewN nq)
        clear c0 c1 c2 c3 c4 c5 c6 c7 HA2 HR0 HT
        generalize w2.drewN nq = w3 at *
        clear nq w2
        have hA2 := HR1.out.1
        have c4 : w3.cell? ⟨g0, 4, none⟩ = some (.int .u32 (s.e : Int)) := hA2.cell (j := 4) rfl
        have c5 : w3.cell? ⟨g0, 5, none⟩ = some (.int .u32 (s.f : Int)) := hA2.cell (j := 5) rfl
        have c6 : w3.cell? ⟨g0, 6, none⟩ = some (.int .u32 (s.g : Int)) := hA2.cell (j := 6) rfl
        have c7 : w3.cell? ⟨g0, 7, none⟩ = some (.int .u32 (s.h : Int)) := hA2.cell (j := 7) rfl
        clear hA2
        go_wp2_with fail
        obtain ⟨W, hW⟩ : ∃ W, W = wL blk.data.toList 64 := ⟨_, rfl⟩
        rw [← hW] at HR1
        have HWd := Lib.hid hW
        clear hW hlt hlt2 hk hl
        go_cut [19, 20, 21, 22] (fun e f g' h wx => e = .int .u32 (s.e : Int) ∧ f = .int .u32 (s.f : Int) ∧ g' = .int .u32 (s.g : Int) ∧ h = .int .u32 (s.h : Int) ∧ RelR ty s W w g0 gt g wx)
        case first =>
          go_quiet (fail)
          go_wp2_with fail
          go_meet
          exact ⟨rfl, rfl, rfl, rfl, HR1.out.drewN nq⟩
        case rest =>
          obtain ⟨rfl, rfl, rfl, rfl, HR2⟩ := hcut
          clear c4 c5 c6 c7 HR1
          go_wp2_with fail
          go_loopw [15, 16, 17, 18, 19, 20, 21, 22, 23] (fun a b c d e f g' h i wr => ∃ k : Nat, k ≤ 64 ∧ i = .int .i64 (k : Int) ∧ AtS (rndsN s W k) a b c d e f g' h ∧ RelR ty s W w g0 gt g wr) (fun _ _ _ _ _ _ _ _ i _ => 64 - (intOf i).toNat)
          case atStart => exact ⟨0, by omega, rfl, ⟨rfl, rfl, rfl, rfl, rfl, rfl, rfl, rfl⟩, HR2⟩
          case round =>
            clear HR2
            obtain ⟨k, hk, rfl, ⟨rfl, rfl, rfl, rfl, rfl, rfl, rfl, rfl⟩, hrel⟩ := hrel
            by_cases hlt : k < 64
            · have hok := rndsN_ok hs W k
              have HS := Lib.hid (rndsN_succ s W k)
              have ct : wr.cell? ⟨gt, k, none⟩ = some (.int .u32 ((tabN k : Nat) : Int)) := hrel.2.2.1.cell (by rw [List.getElem?_toArray, u32s_get _ k (by rw [tabL_len]; exact hlt), tabN, List.getD_eq_getElem?_getD, List.getElem?_eq_getElem (by rw [tabL_len]; exact hlt)]; rfl)
              have cw := hrel.2.1 k hlt
              have HR := Lib.hid hrel
              clear hrel
              generalize rndsN s W k = S at *
              obtain ⟨A, B, C, D, E, F, G, H⟩ := S
              obtain ⟨hA, hB, hC, hD, hE, hF, hG', hH⟩ := hok
              simp only at hA hB hC hD hE hF hG' hH ⊢
              generalize W.getD k 0 = wk at *
              generalize tabN k = tk at *
              have HA := Lib.hid hA
              have HE := Lib.hid hE
              have HCh := Lib.hid (rchoice_any E F G hE hF hG')
              have HMo := Lib.hid (rmost_any A B C hA hB hC)
              have q1 := xor32 _ _ (rotr_lt hE 6) (rotr_lt hE 11)
              have q2 : bits .xor .u32 ((rotr E 6 ^^^ rotr E 11 : Nat) : Int) ((rotr E 25 : Nat) : Int) = ((sh1 E : Nat) : Int) := xor32 _ _ (Nat.xor_lt_two_pow (n := 32) (rotr_lt hE 6) (rotr_lt hE 11)) (rotr_lt hE 25)
              have q3 := xor32 _ _ (rotr_lt hA 2) (rotr_lt hA 13)
              have q4 : bits .xor .u32 ((rotr A 2 ^^^ rotr A 13 : Nat) : Int) ((rotr A 22 : Nat) : Int) = ((sh0 A : Nat) : Int) := xor32 _ _ (Nat.xor_lt_two_pow (n := 32) (rotr_lt hA 2) (rotr_lt hA 13)) (rotr_lt hA 22)
              obtain ⟨P, hP⟩ : ∃ P, P = (H + sh1 E + cho E F G + tk + wk) % 4294967296 := ⟨_, rfl⟩
              obtain ⟨Q, hQ⟩ : ∃ Q, Q = (sh0 A + mst A B C) % 4294967296 := ⟨_, rfl⟩
              obtain ⟨PQ, hPQ⟩ : ∃ PQ, PQ = (P + Q) % 4294967296 := ⟨_, rfl⟩
              obtain ⟨DP, hDP⟩ : ∃ DP, DP = (D + P) % 4294967296 := ⟨_, rfl⟩
              have hrnd : rnd ⟨A, B, C, D, E, F, G, H⟩ tk wk = ⟨PQ, A, B, C, DP, E, F, G⟩ := by rw [hPQ, hDP, hP, hQ]; rfl
              have q14 : (((H : Int) + ((sh1 E : Nat) : Int) + ((cho E F G : Nat) : Int) + (tk : Int)) % 4294967296 + (wk : Int)) % 4294967296 = (P : Int) := by rw [hP]; omega
              have q14' : ((H : Int) + ((sh1 E : Nat) : Int) + ((cho E F G : Nat) : Int) + (tk : Int) + (wk : Int)) % 4294967296 = (P : Int) := by rw [hP]; omega
              have q15 : (((sh0 A : Nat) : Int) + ((mst A B C : Nat) : Int)) % 4294967296 = (Q : Int) := by rw [hQ]; omega
              have q16 : ((P : Int) + (Q : Int)) % 4294967296 = (PQ : Int) := by rw [hPQ]; omega
              have q17 : ((D : Int) + (P : Int)) % 4294967296 = (DP : Int) := by rw [hDP]; omega
              rw [hrnd] at HS
              clear hP hQ hPQ hDP hrnd
              clear hA hB hC hD hE hF hG' hH
              go_wp2_with fail
              go_quiet (first
                | (go_at_call 49; (first | with_reducible exact same_quiet (rright_c 6 6 rfl (by decide) (by decide) _ HE _) | with_reducible exact same_quiet (rright_c 11 11 rfl (by decide) (by decide) _ HE _) | with_reducible exact same_quiet (rright_c 25 25 rfl (by decide) (by decide) _ HE _)))
                | (go_at_call 51; with_reducible exact same_quiet (HCh.out _)))
              have HR2 := Lib.hid (HR.out.drewN nq)
              clear ct cw HR
              generalize wr.drewN nq = w5 at *
              go_wp2_with (first
                | (go_at_call 49; (first | (with_reducible refine (rright_c 2 2 rfl (by decide) (by decide) _ HA _).mono ?_) | (with_reducible refine (rright_c 13 13 rfl (by decide) (by decide) _ HA _).mono ?_) | (with_reducible refine (rright_c 22 22 rfl (by decide) (by decide) _ HA _).mono ?_)); rintro e w' ⟨rfl, rfl⟩)
                | (go_at_call 52; (with_reducible refine (HMo.out _).mono ?_); rintro e w' ⟨rfl, rfl⟩))
              go_roundw
              case rel => exact ⟨k + 1, by omega, by go_num, by rw [HS.out]; first | (rw [q16, q17]; exact ⟨rfl, rfl, rfl, rfl, rfl, rfl, rfl, rfl⟩) | (rw [q17]; exact ⟨rfl, rfl, rfl, rfl, rfl, rfl, rfl, rfl⟩), HR2.out⟩
              case measure => simp [intOf]; omega
            · obtain rfl : k = 64 := by omega
              have HR := Lib.hid hrel
              have hA := hrel.1
              clear hrel
              have c0 : wr.cell? ⟨g0, 0, none⟩ = some (.int .u32 (s.a : Int)) := hA.cell (j := 0) rfl
              have c1 : wr.cell? ⟨g0, 1, none⟩ = some (.int .u32 (s.b : Int)) := hA.cell (j := 1) rfl
              have c2 : wr.cell? ⟨g0, 2, none⟩ = some (.int .u32 (s.c : Int)) := hA.cell (j := 2) rfl
              have c3 : wr.cell? ⟨g0, 3, none⟩ = some (.int .u32 (s.d : Int)) := hA.cell (j := 3) rfl
              have c4 : wr.cell? ⟨g0, 4, none⟩ = some (.int .u32 (s.e : Int)) := hA.cell (j := 4) rfl
              have c5 : wr.cell? ⟨g0, 5, none⟩ = some (.int .u32 (s.f : Int)) := hA.cell (j := 5) rfl
              have c6 : wr.cell? ⟨g0, 6, none⟩ = some (.int .u32 (s.g : Int)) := hA.cell (j := 6) rfl
              have c7 : wr.cell? ⟨g0, 7, none⟩ = some (.int .u32 (s.h : Int)) := hA.cell (j := 7) rfl
              clear hA hk
              have HM : Hid (mixS s blk.data.toList = addS s (rndsN s W 64)) := by show mixS s blk.data.toList = addS s (rndsN s W 64); rw [HWd.out]; rfl
              generalize rndsN s W 64 = S at *
              have HV := Lib.hid (val_addS s S)
              go_wp2_with fail
              go_still_tail 40, (by kernel_rfl)
              change wpList _ _ _ _ _ wr.drew
              have HR2 := Lib.hid (show RelR ty s W w g0 gt g wr.drew from ⟨HR.out.1.drew, HR.out.2.1, HR.out.2.2.1.drew, HR.out.2.2.2.drew⟩)
              clear c0 c1 c2 c3 c4 c5 c6 c7 HR
              generalize wr.drew = w6 at *
              go_wp2
              go_ret2
              refine ⟨⟨w6.heap.size, rfl, HR2.out.2.2.2.size, ?_⟩, HR2.out.2.2.2.alloc HR2.out.2.2.2.size _⟩
              rw [HM.out]
              have hv := HV.out
              injection hv with hv
              rw [hv]
              exact Arr.new w6 _ _
end Go.Proofs.YtmedlgnllgldiaaDoor
