/- The iterator ranges of package taste. -/
import Derived.Test.YtmedkmbfggphdaaDoorM00
import Derived.Test.YtmedkmbfggphdaaDoorK4
import Derived.Test.YtmedkmbfggphdaaDoorM01
import Derived.Shelf.Abstract
import Derived.Shelf.RegionOpen
import Derived.OwnWalkIn
import Derived.TacticsInMore
import Derived.LoopNIn
import Derived.LoopIn
set_option linter.unusedSimpArgs false
set_option linter.unusedVariables false
set_option linter.constructorNameAsVariable false
namespace Go.Proofs.YtmedkmbfggphdaaDoor
open Go.RowKit Go.Shelf
attribute [local go_sem] Oper.semAt_some

/-- What holds between two rounds: i pairs have been yielded; O are the iterator's own blocks, among them its box. -/
def RC (B : Nat) (W : World) (b : BK) (p : Option Addr) (cap L : Nat) (J : Nat → (Nat → Prop) → World → Prop) (i : Nat) (O : Nat → Prop) (wr : World) : Prop :=
  J i O wr ∧ O W.heap.size ∧ (∀ x, O x → W.heap.size ≤ x ∧ x < wr.heap.size) ∧
    wr.heap[W.heap.size]? = some (.cells #[.int .i64 b.lo, .int .i64 b.hi, .int .i64 L, .slice p b.n cap] 82 (0, 0)) ∧ Diff (fun x => B ≤ x) W wr

/-- A round has said no. -/
def RX (B : Nat) (W : World) (Jx : (Nat → Prop) → World → Prop) (O : Nat → Prop) (wr : World) : Prop :=
  Jx O wr ∧ (∀ x, O x → W.heap.size ≤ x ∧ x < wr.heap.size) ∧ Diff (fun x => B ≤ x) W wr

theorem RC.pure {B : Nat} {W : World} {b : BK} {p : Option Addr} {cap L : Nat} {J : Nat → (Nat → Prop) → World → Prop} {i : Nat} {O : Nat → Prop} {w w' : World} (h : RC B W b p cap L J i O w)
    (hJ : ∀ i, Stable (J i)) (hp : Pure w w') (hB : B ≤ W.heap.size) : RC B W b p cap L J i O w' := by
  obtain ⟨h1, h2, h3, h4, h5⟩ := h
  refine ⟨hJ i _ _ _ _ h1 (hp.mono (fun _ _ h => h.elim)) (fun _ h => .inl h), h2, fun x hx => ⟨(h3 x hx).1, Nat.lt_of_lt_of_le (h3 x hx).2 hp.size⟩, (hp.block _ ((h3 _ h2).2) id).trans h4, h5.trans (hp.mono (fun _ _ h => h.elim))⟩
theorem RC.drew {B : Nat} {W : World} {b : BK} {p : Option Addr} {cap L : Nat} {J : Nat → (Nat → Prop) → World → Prop} {i : Nat} {O : Nat → Prop} {w : World} (h : RC B W b p cap L J i O w)
    (hJ : ∀ i, Stable (J i)) (hB : B ≤ W.heap.size) : RC B W b p cap L J i O w.drew := h.pure hJ (Diff.refl w).drew hB

theorem box_cells {w : World} {B T : Nat} {v0 v1 v2 v3 : Value} {fr : Nat × Nat} (h : w.heap[B]? = some (.cells #[v0, v1, v2, v3] T fr)) :
    w.cell? ⟨B, 0, none⟩ = some v0 ∧ w.cell? ⟨B, 1, none⟩ = some v1 ∧ w.cell? ⟨B, 2, none⟩ = some v2 ∧ w.cell? ⟨B, 3, none⟩ = some v3 :=
  ⟨cell_of_row w B 0 _ T fr h, cell_of_row w B 1 _ T fr h, cell_of_row w B 2 _ T fr h, cell_of_row w B 3 _ T fr h⟩
theorem RC.gl {B : Nat} {W : World} {b : BK} {p : Option Addr} {cap L : Nat} {J : Nat → (Nat → Prop) → World → Prop} {i : Nat} {O : Nat → Prop} {w : World} (h : RC B W b p cap L J i O w)
    (hg : Gl W) (h4 : 4 ≤ B) : Gl w := hg.diff h.2.2.2.2 (fun k hk h => by omega)
theorem RC.round {B : Nat} {W : World} {b : BK} {p : Option Addr} {cap L : Nat} {J : Nat → (Nat → Prop) → World → Prop} {i : Nat} {O : Nat → Prop} {w w' : World} (h : RC B W b p cap L J i O w)
    (hd : Diff (fun k => ¬ k < B ∧ ¬ O k) w w') (hj : J (i + 1) O w') : RC B W b p cap L J (i + 1) O w' := by
  obtain ⟨h1, h2, h3, h4, h5⟩ := h
  exact ⟨hj, h2, fun x hx => ⟨(h3 x hx).1, Nat.lt_of_lt_of_le (h3 x hx).2 hd.size⟩, (hd.block _ ((h3 _ h2).2) (fun h => h.2 h2)).trans h4, h5.trans (hd.mono (fun k _ h => by have := h.1; omega))⟩
theorem RC.roundX {B : Nat} {W : World} {b : BK} {p : Option Addr} {cap L : Nat} {J : Nat → (Nat → Prop) → World → Prop} {Jx : (Nat → Prop) → World → Prop} {i : Nat} {O : Nat → Prop} {w w' : World} (h : RC B W b p cap L J i O w)
    (hd : Diff (fun k => ¬ k < B ∧ ¬ O k) w w') (hj : Jx O w') : RX B W Jx O w' := by
  obtain ⟨h1, h2, h3, h4, h5⟩ := h
  exact ⟨hj, fun x hx => ⟨(h3 x hx).1, Nat.lt_of_lt_of_le (h3 x hx).2 hd.size⟩, h5.trans (hd.mono (fun k _ h => by have := h.1; omega))⟩

/-- A block of the iterator's own, and what it holds. -/
def Own (O : Nat → Prop) (x : Nat) (cs : Array Value) (T : Nat) (w : World) : Prop := O x ∧ w.heap[x]? = some (.cells cs T (0, 0))
theorem Own.lt {O : Nat → Prop} {x : Nat} {cs : Array Value} {T : Nat} {w : World} (h : Own O x cs T w) : x < w.heap.size := (Array.getElem?_eq_some_iff.1 h.2).1
theorem Own.pure {O : Nat → Prop} {x : Nat} {cs : Array Value} {T : Nat} {w w' : World} (h : Own O x cs T w) (hp : Pure w w') : Own O x cs T w' := ⟨h.1, (hp.block x h.lt id).trans h.2⟩
theorem Own.round {O : Nat → Prop} {B x : Nat} {cs : Array Value} {T : Nat} {w w' : World} (h : Own O x cs T w) (hd : Diff (fun k => ¬ k < B ∧ ¬ O k) w w') : Own O x cs T w' :=
  ⟨h.1, (hd.block x h.lt (fun hh => hh.2 h.1)).trans h.2⟩
theorem Own.new (O : Nat → Prop) (w : World) (cs : Array Value) (T : Nat) : Own (fun x => O x ∨ x = w.heap.size) w.heap.size cs T (w.alloc (.cells cs T)) := ⟨.inr rfl, World.alloc_heap_new _ _⟩
theorem Own.old {O : Nat → Prop} {x : Nat} {cs : Array Value} {T : Nat} {w : World} (h : Own O x cs T w) (o : Obj) : Own (fun x => O x ∨ x = w.heap.size) x cs T (w.alloc o) :=
  ⟨.inl h.1, (Below.heap_alloc w o x h.lt).trans h.2⟩
theorem Own.cells2 {O : Nat → Prop} {x T : Nat} {v0 v1 : Value} {w : World} (h : Own O x #[v0, v1] T w) : w.cell? ⟨x, 0, none⟩ = some v0 ∧ w.cell? ⟨x, 1, none⟩ = some v1 :=
  ⟨cell_of_row w x 0 _ T _ h.2, cell_of_row w x 1 _ T _ h.2⟩
theorem Own.cells3 {O : Nat → Prop} {x T : Nat} {v0 v1 v2 : Value} {w : World} (h : Own O x #[v0, v1, v2] T w) : w.cell? ⟨x, 0, none⟩ = some v0 ∧ w.cell? ⟨x, 1, none⟩ = some v1 ∧ w.cell? ⟨x, 2, none⟩ = some v2 :=
  ⟨cell_of_row w x 0 _ T _ h.2, cell_of_row w x 1 _ T _ h.2, cell_of_row w x 2 _ T _ h.2⟩

section
variable {B : Nat} {W : World} {b : BK} {p : Option Addr} {cap L : Nat} {J : Nat → (Nat → Prop) → World → Prop} {Jx : (Nat → Prop) → World → Prop} {i : Nat} {O : Nat → Prop} {w w' : World}
theorem RC.own (h : RC B W b p cap L J i O w) (hJ : ∀ i, Stable (J i)) (o : Obj) : RC B W b p cap L J i (fun x => O x ∨ x = w.heap.size) (w.alloc o) := by
  obtain ⟨h1, h2, h3, h4, h5⟩ := h
  refine ⟨hJ i _ _ _ _ h1 ((Diff.refl w).alloc o) (fun k hk => hk.imp id (fun e => by omega)), .inl h2, ?_, (Below.heap_alloc w o _ ((h3 _ h2).2)).trans h4, h5.alloc o⟩
  rintro x (hx | hx)
  · exact ⟨(h3 x hx).1, by have := (h3 x hx).2; simp; omega⟩
  · subst hx; exact ⟨by have := h3 _ h2; omega, by simp⟩
theorem RC.setCell (h : RC B W b p cap L J i O w) (hJ : ∀ i, Stable (J i)) {x : Nat} (hx : O x) (hne : x ≠ W.heap.size) (o : Nat) (v : Value) : RC B W b p cap L J i O (w.setCell ⟨x, o, none⟩ v) := by
  obtain ⟨h1, h2, h3, h4, h5⟩ := h
  exact ⟨hJ i _ _ _ _ h1 ((Diff.refl w).setCell (fun _ => hx) v) (fun _ h => .inl h), h2, fun y hy => ⟨(h3 y hy).1, by have := (h3 y hy).2; simpa [World.setCell] using this⟩, (heap_setCell_other _ _ _ _ (Ne.symm hne)).trans h4,
    h5.setCell (fun hl => by have := (h3 x hx).1; simp at hl; omega) v⟩
theorem Own.set2 {x T : Nat} {v0 v1 : Value} (h : Own O x #[v0, v1] T w) (u0 u1 : Value) : Own O x #[u0, u1] T ((w.setCell ⟨x, 0, none⟩ u0).setCell ⟨x, 1, none⟩ u1) :=
  ⟨h.1, heap_setCell_same _ _ _ _ _ _ (heap_setCell_same _ _ _ _ _ _ h.2)⟩
/-- Both boxes beside. -/
def RT (B : Nat) (W : World) (b : BK) (p : Option Addr) (cap L : Nat) (J : Nat → (Nat → Prop) → World → Prop) (Bt : Nat) (ct : Array Value) (Bx : Nat) (cx : Array Value) (i : Nat) (O : Nat → Prop) (w : World) : Prop :=
  RC B W b p cap L J i O w ∧ Own O Bt ct 23 w ∧ Own O Bx cx 70 w
theorem RT.pure {Bt Bx : Nat} {ct cx : Array Value} (h : RT B W b p cap L J Bt ct Bx cx i O w) (hJ : ∀ i, Stable (J i)) (hp : Pure w w') (hB : B ≤ W.heap.size) : RT B W b p cap L J Bt ct Bx cx i O w' :=
  ⟨h.1.pure hJ hp hB, h.2.1.pure hp, h.2.2.pure hp⟩
theorem RT.round {Bt Bx : Nat} {ct cx : Array Value} (h : RT B W b p cap L J Bt ct Bx cx i O w) (hd : Diff (fun k => ¬ k < B ∧ ¬ O k) w w') (hj : J (i + 1) O w') : RT B W b p cap L J Bt ct Bx cx (i + 1) O w' :=
  ⟨h.1.round hd hj, h.2.1.round hd, h.2.2.round hd⟩
end

/-- What holds within the test of the two calls of yield. -/
def G14 (A0 A1 A2 AX : World → Prop) (c1 c2 r1 r2 : Bool) (w : World) : Prop :=
  match c1, r1, c2, r2 with
  | false, _, _, _ => A0 w
  | true, false, _, _ => AX w
  | true, true, false, _ => A1 w
  | true, true, true, true => A2 w
  | true, true, true, false => AX w

set_option maxHeartbeats 4000000 in
theorem ranges_iter (W0 : World) (b : BK) (p : Option Addr) (cap B : Nat) (hv : b.Valid) (hb : BookAt B W0 p b) (hB : B ≤ W0.heap.size) (hg : Gl W0) (h4 : 4 ≤ B) :
    Iter Tryd.prog 92 (fun y => #[.agg #[.int .i64 b.lo, .int .i64 b.hi, .int .i64 b.lots, .slice p b.n cap], y]) b.rgN (fun i => (b.rg i).e) (fun k => k < B) W0 := by
  intro l J Jx W hR hD hJ hJx hY h0
  have hro : Fence.wide.round = none := rfl
  have hmx : Tryd.prog.follows .mixedOrders = true := by kernel_rfl
  obtain ⟨L, hL⟩ : ∃ L : Nat, b.lots = L := ⟨b.lots.toNat, by have := hv.lots1; omega⟩
  have hL0 : 1 ≤ L := by have := hv.lots1; omega
  have hL6 : L ≤ 6 := by have := hv.lots6; omega
  have HL : Hid (b.lots = L) := hL
  refine callsIn_of_wp Tryd.func92 rfl trivial ?_ hro
  simp only [Tryd.ntmps92, List.size_toArray, List.length_cons, List.length_nil, Nat.reduceAdd, Nat.reduceSub, Array.replicate_succ, Array.replicate_zero, List.push_toArray, List.append_toArray, List.nil_append, List.cons_append]
  rw [hL]
  clear hL
  have hBW : B ≤ W.heap.size := Nat.le_trans hB hD.size
  have hBW0 : BookAt B W p b := hb.diff hD hB (fun k hk h => h hk)
  gi_wp2
  obtain ⟨X, hX⟩ : ∃ X, W.alloc (.cells #[.int .i64 b.lo, .int .i64 b.hi, .int .i64 L, .slice p b.n cap] 82) = X := ⟨_, rfl⟩
  have hRC : RC B W b p cap L J 0 (fun k => k = W.heap.size) X := by
    rw [← hX]
    refine ⟨hJ 0 _ _ _ _ h0 ((Diff.refl W).alloc _) (fun x hx => .inr (by omega)), rfl, fun x hx => by subst hx; exact ⟨Nat.le_refl _, by simp⟩, World.alloc_heap_new _ _, (Diff.refl W).alloc _⟩
  rw [hX]
  clear hX
  gi_loopw [4, 15] (fun _ i wr => ∃ (k : Nat) (O : Nat → Prop), k ≤ L ∧ i = .int .i64 k ∧ RC B W b p cap L J k O wr) (fun _ i _ => L - (intOf i).toNat)
  case atStart => exact ⟨0, _, Nat.zero_le _, rfl, hRC⟩
  case round =>
    obtain ⟨k, O, hk, rfl, hrc⟩ := hrel
    by_cases hlt : k < L
    · gi_wp2
      refine reg_inv (fun d a w => ∃ r : Bool, a = { tmps := #[Value.agg #[Value.int IntKind.i64 b.lo, Value.int IntKind.i64 b.hi, Value.int IntKind.i64 ↑L, Value.slice p b.n cap], Value.func (Fn.yield l) #[] #[], Value.pointer (some { block := W.heap.size, off := 0 }), undef, Value.int IntKind.i64 ↑k, undef, undef, undef, undef, undef, undef, undef, Value.pointer (some { block := W.heap.size, off := 0 }), Value.pointer (some { block := W.heap.size, off := 2 }), Value.int IntKind.i64 ↑L, Value.int IntKind.i64 ↑k, Value.bool true, Value.int IntKind.i64 ↑k, (bif d 0 then Value.func (Fn.yield l) #[] #[] else u18), (bif d 1 then Value.agg #[Value.int IntKind.i64 b.lo, Value.int IntKind.i64 b.hi, Value.int IntKind.i64 ↑L, Value.slice p b.n cap] else u19), (bif d 2 then Value.int IntKind.i64 ↑k else u20), (bif d 3 then Value.int IntKind.i64 (1 + ↑k) else u21), (bif d 4 then Value.agg #[Value.int IntKind.i64 0, Value.int IntKind.i64 (1 + ↑k)] else u22), (bif d 5 then Value.agg #[Value.int IntKind.i64 0, Value.int IntKind.i64 1000] else u23), (bif d 6 then Value.bool r else u24), (bif d 7 then Value.bool !r else u25), u26, undef, undef, undef, undef, undef, undef, undef, undef, undef, undef, undef, undef, undef, undef, undef, undef, undef, undef, undef, undef, undef, undef, undef, undef, undef, undef, undef, undef, undef, undef, undef, undef, undef, undef, undef, undef, undef, undef, undef, undef, undef, undef, undef, undef, undef], defers := [] } ∧
        (d 6 = false → RC B W b p cap L J k O w) ∧ (d 6 = true → if r = true then RC B W b p cap L J (k + 1) O w else RX B W Jx O w)) hmx (by kernel_rfl) ?_ ?_ ?_
      · exact ⟨true, rfl, fun _ => hrc.drew hJ hBW, fun h => by cases h⟩
      · have hrg : b.rg k = ⟨0, 1 + k, 0, 1000⟩ := b.rg_lot L k HL.out hlt
        have hkN : k < b.rgN := by unfold BK.rgN; rw [HL.out]; simp; omega
        have HRG := Lib.hid hrg
        clear hrg
        refine ⟨?_, ?_, ?_, ?_, ?_, ?_, ?_, ?_, trivial⟩
        all_goals rintro d a w hdi hdep hcl ⟨r, rfl, h1, h2⟩ K hK
        all_goals have c6 := hcl 6 _ rfl
        all_goals have c4 := hcl 4 _ rfl
        all_goals have c3 := hcl 3 _ rfl
        all_goals have c7 := hcl 7 _ rfl
        all_goals simp only [depsOf, Region.binds, List.filterMap, List.all, Bool.and_true, Bool.and_eq_true, ↓reduceIte] at hdep c6 c4 c3 c7
        · have h6 : d 6 = false := by cases h : d 6 <;> simp_all
          go_simp
          exact hK _ _ ⟨r, by simp [upd, h6], fun _ => h1 h6, by simp [upd, h6]⟩
        · have h6 : d 6 = false := by cases h : d 6 <;> simp_all
          have hrc' := h1 h6
          obtain ⟨q0, q1, q2, q3⟩ := box_cells hrc'.2.2.2.1
          go_simp
          exact hK _ _ ⟨r, by simp [upd, h6], fun _ => hrc', by simp [upd, h6]⟩
        · have h6 : d 6 = false := by cases h : d 6 <;> simp_all
          go_simp
          exact hK _ _ ⟨r, by simp [upd, h6], fun _ => h1 h6, by simp [upd, h6]⟩
        · have h6 : d 6 = false := by cases h : d 6 <;> simp_all
          have hrc' := h1 h6
          obtain ⟨hd1, hd2⟩ := hdep
          go_simp
          refine ⟨trivial, rfl, CallsIn.mono (callsIn_wide.2 (lotName_any _ _ _ _ _ _ (by omega) (by omega))) ?_⟩
          rintro e w' ⟨rfl, hp⟩
          exact hK _ _ ⟨r, by simp [upd, hd1, hd2, h6], fun _ => hrc'.pure hJ hp hBW, by simp [upd, h6]⟩
        · have h6 : d 6 = false := by cases h : d 6 <;> simp_all
          have e3 := c3 hdep
          go_simp
          exact hK _ _ ⟨r, by simp [upd, h6, hdep, e3], fun _ => h1 h6, by simp [upd, h6]⟩
        · have h6 : d 6 = false := by cases h : d 6 <;> simp_all
          have hg' := (h1 h6).gl (hg.diff hD (fun k hk h => h (by omega))) h4
          have q0 := hg'.h0
          have q1 := hg'.h1
          go_simp
          exact hK _ _ ⟨r, by simp [upd, h6], fun _ => h1 h6, by simp [upd, h6]⟩
        · have hrc' := h1 hdi
          obtain ⟨hd0, hd4, hd5, hd3⟩ := hdep
          have e3 := c3 hd3
          have h7 : d 7 = false := by cases h : d 7 <;> simp_all
          obtain ⟨fn, tmps, assign, body, hy, hR⟩ := hY k O w hkN hrc'.1 hrc'.2.2.1 hrc'.2.2.2.2.size
          rw [HRG.out] at hy
          go_simp
          refine ⟨rfl, RoundIn.mono hR ?_⟩
          rintro e W' ⟨hdf, (⟨rfl, hj⟩ | ⟨rfl, hj⟩)⟩
          · exact hK _ _ ⟨true, by simp [upd, hd0, hd4, hd5, hd3, e3, h7], by simp [upd], fun _ => hrc'.round hdf hj⟩
          · exact hK _ _ ⟨false, by simp [upd, hd0, hd4, hd5, hd3, e3, h7], by simp [upd], fun _ => hrc'.roundX hdf hj⟩
        · have e6 := c6 hdep
          have e3 := c3 e6.2.2.2
          go_simp
          exact hK _ _ ⟨r, by simp [upd, hdep, e6, e3], by simp [upd, hdep], fun _ => h2 hdep⟩
      · rintro d a w hall ⟨r, rfl, h1, h2⟩
        simp [List.range_succ] at hall
        obtain ⟨e0, e1, e2, e3, e4, e5, e6, e7⟩ := hall
        have h2' := h2 e6
        simp only [e0, e1, e2, e3, e4, e5, e6, e7, cond_true]
        clear h1 h2 e0 e1 e2 e3 e4 e5 e6 e7 hY
        cases r
        · gi_wp2
          refine bodyPost_ret (results_none rfl _ _ _) rfl ?_
          exact ⟨⟨_, rfl⟩, O, fun x hx => (h2'.2.1 x hx).1, .inr h2'.1⟩
        · gi_wp2
          go_roundw
          case rel => exact ⟨k + 1, O, by omega, by go_num, h2'⟩
          case measure => simp [intOf]; omega
    · obtain rfl : k = L := by omega
      obtain ⟨q0, q1, q2, q3⟩ := box_cells hrc.2.2.2.1
      have HT : Hid (0 ≤ b.lots ∧ b.lots ≤ 6 ∧ b.n ≤ 4 ∧ b.total ≤ 12) := ⟨by have := hv.lots1; omega, hv.lots6, hv.n4, hv.tot⟩
      gi_wp2_with fail
      refine ⟨trivial, rfl, CallsIn.mono (callsIn_wide.2 (tasteName_any _ _ _ _ _ _ (by omega) (by omega) (by omega) (by omega))) ?_⟩
      rintro e w1 ⟨rfl, hp⟩
      have hrc1 := hrc.pure hJ hp hBW
      clear hrc hp q0 q1 q2 q3
      obtain ⟨q0, q1, q2, q3⟩ := box_cells hrc1.2.2.2.1
      gi_wp2
      gi_loopw [5, 7, 8, 9, 11, 33] (fun nm _ _ _ _ i wr => ∃ (s : Nat) (O : Nat → Prop), s ≤ b.n ∧ i = .int .i64 s ∧ nm = .int .i64 (1 + k + b.upto s) ∧ RC B W b p cap k J (k + 2 * b.upto s) O wr) (fun _ _ _ _ _ i _ => b.n - (intOf i).toNat)
      case atStart => exact ⟨0, O, Nat.zero_le _, rfl, by simp [BK.upto], hrc1⟩
      case round =>
        obtain ⟨s, O, hs, rfl, rfl, hrc⟩ := hrel
        clear hrc1 q0 q1 q2 q3
        obtain ⟨q0, q1, q2, q3⟩ := box_cells hrc.2.2.2.1
        by_cases hls : s < b.n
        · obtain ⟨blk, o, q, c, rfl, hblk, hcell, hsit⟩ := hBW0 s hls
          have hcell' := (hrc.2.2.2.2.cell (p := ⟨blk, o + s, none⟩) (by show blk < _; omega) (by show ¬ B ≤ blk; omega)).trans hcell
          have hm := hv.pos s hls
          have hn4 := hv.n4
          gi_wp2
          obtain ⟨Bt, hBt⟩ : ∃ Bt, wr.heap.size = Bt := ⟨_, rfl⟩
          have hrc2 := hrc.own hJ (.cells #[.int .i64 0, .int .i64 0] 23)
          have hot : Own (fun x => O x ∨ x = wr.heap.size) wr.heap.size #[.int .i64 0, .int .i64 0] 23 (wr.alloc (.cells #[.int .i64 0, .int .i64 0] 23)) := Own.new O wr _ _
          have hBtW : Bt ≠ W.heap.size := by rw [← hBt]; have := (hrc.2.2.1 _ hrc.2.1).2; omega
          obtain ⟨w2, hw2⟩ : ∃ w2, wr.alloc (.cells #[.int .i64 0, .int .i64 0] 23) = w2 := ⟨_, rfl⟩
          rw [hw2] at hrc2 hot ⊢
          rw [hBt] at hrc2 hot ⊢
          clear hw2 hBt
          gi_loopw [5, 8, 11, 40] (fun nm ls _ i wq => ∃ (j : Nat) (O : Nat → Prop), j ≤ b.m s ∧ i = .int .i64 j ∧ nm = .int .i64 (1 + k + b.upto s + j) ∧ ls = .int .i64 (lstN k (b.upto s) j) ∧ RC B W b (some ⟨blk, o, none⟩) cap k J (k + 2 * (b.upto s + j)) O wq ∧ Own O Bt #[.int .i64 (tlo b j), .int .i64 (thi b j)] 23 wq) (fun _ _ _ i _ => b.m s - (intOf i).toNat)
          case atStart => exact ⟨0, _, Nat.zero_le _, rfl, by simp, rfl, hrc2, hot⟩
          case round =>
            obtain ⟨j, O, hj, rfl, rfl, rfl, hrc, hot⟩ := hrel
            by_cases hlj : j < b.m s
            · obtain ⟨bs, os, rfl, hbs, ht0, ht1, ht2⟩ := hsit j hlj
              have hbsW : bs < W.heap.size := by omega
              have ht0' := (hrc.2.2.2.2.cell (p := ⟨bs, os + j * 3, none⟩) hbsW (by show ¬ B ≤ bs; omega)).trans ht0
              have ht1' := (hrc.2.2.2.2.cell (p := ⟨bs, os + j * 3 + 1, none⟩) hbsW (by show ¬ B ≤ bs; omega)).trans ht1
              have ht2' := (hrc.2.2.2.2.cell (p := ⟨bs, os + j * 3 + 2, none⟩) hbsW (by show ¬ B ≤ bs; omega)).trans ht2
              gi_wp2
              have HR1 : Hid (b.rg (k + 2 * (b.upto s + j)) = ⟨lstN k (b.upto s) j, 1 + k + b.upto s + j, tlo b j, thi b j⟩) := b.rg_one k s j HL.out hls hlj
              have HR2 : Hid (b.rg (k + 2 * (b.upto s + j) + 1) = ⟨1 + k + b.upto s + j, 1 + (b.t s j).lot, (b.t s j).lo, (b.t s j).hi⟩) := b.rg_two k s j HL.out hls hlj
              have hN : k + 2 * (b.upto s + j) + 1 < b.rgN := by have := b.upto_lt s j hls hlj; unfold BK.rgN; rw [HL.out]; simp; omega
              have hU12 : b.upto s + j < 12 := by have := b.upto_lt s j hls hlj; have := hv.tot; omega
              have hne : Bt ≠ W.heap.size := hBtW
              have hN1 : k + 2 * (b.upto s + j) < b.rgN := by omega
              have hN2 : k + 2 * (b.upto s + j) + 1 < b.rgN := hN
              have hx0 := hv.lot0 s j hls hlj
              have hx1 : (b.t s j).lot < 6 := by have := hv.lot1 s j hls hlj; have := hv.lots6; omega
              obtain ⟨Bx, hBx⟩ : ∃ Bx, wr.heap.size = Bx := ⟨_, rfl⟩
              have hrt : RT B W b (some ⟨blk, o, none⟩) cap k J Bt #[.int .i64 (tlo b j), .int .i64 (thi b j)] wr.heap.size #[.int .i64 (b.t s j).lot, .int .i64 (b.t s j).lo, .int .i64 (b.t s j).hi] (k + 2 * (b.upto s + j)) (fun x => O x ∨ x = wr.heap.size) (wr.alloc (.cells #[.int .i64 (b.t s j).lot, .int .i64 (b.t s j).lo, .int .i64 (b.t s j).hi] 70)) :=
                ⟨hrc.own hJ _, hot.old _, Own.new O wr _ _⟩
              obtain ⟨w3, hw3⟩ : ∃ w3, wr.alloc (.cells #[.int .i64 (b.t s j).lot, .int .i64 (b.t s j).lo, .int .i64 (b.t s j).hi] 70) = w3 := ⟨_, rfl⟩
              rw [hw3] at hrt ⊢
              rw [hBx] at hrt ⊢
              clear hw3 hBx hrc hot ht0' ht1' ht2'
              obtain ⟨O2, hO2⟩ : ∃ O2, (fun x => O x ∨ x = Bx) = O2 := ⟨_, rfl⟩
              rw [hO2] at hrt
              clear hO2 O
              obtain ⟨O, rfl⟩ : ∃ O, O = O2 := ⟨_, rfl⟩
              refine reg_inv (fun d a w => ∃ r1 r2 : Bool, a = { tmps := #[Value.agg #[Value.int IntKind.i64 b.lo, Value.int IntKind.i64 b.hi, Value.int IntKind.i64 ↑k, Value.slice (some { block := blk, off := o }) b.n cap], Value.func (Fn.yield l) #[] #[], Value.pointer (some { block := W.heap.size, off := 0 }), undef, u4, Value.int IntKind.i64 (1 + ↑k + ↑(b.upto s) + ↑j), undef, Value.slice (some { block := bs, off := os }) (b.m s) c, Value.int IntKind.i64 (lstN k (b.upto s) j), Value.pointer (some { block := Bt, off := 0 }), undef, Value.pointer (some { block := Bx, off := 0 }), Value.pointer (some { block := W.heap.size, off := 0 }), Value.pointer (some { block := W.heap.size, off := 2 }), Value.int IntKind.i64 ↑k, Value.int IntKind.i64 ↑k, Value.bool false, u17, u18, u19, u20, u21, u22, u23, u24, u25, u26, Value.agg #[Value.int IntKind.i64 b.lo, Value.int IntKind.i64 b.hi, Value.int IntKind.i64 ↑k, Value.slice (some { block := blk, off := o }) b.n cap], Value.int IntKind.i64 (1 + ↑k), Value.pointer (some { block := W.heap.size, off := 0 }), Value.pointer (some { block := W.heap.size, off := 3 }), Value.slice (some { block := blk, off := o }) b.n cap, Value.int IntKind.i64 ↑b.n, Value.int IntKind.i64 ↑s, Value.bool true, Value.pointer (some { block := blk, off := (o + s) }), Value.slice (some { block := bs, off := os }) (b.m s) c, Value.agg #[Value.int IntKind.i64 0, Value.int IntKind.i64 0], Value.slice (some { block := bs, off := os }) (b.m s) c, Value.int IntKind.i64 ↑(b.m s), Value.int IntKind.i64 ↑j, Value.bool true, Value.pointer (some { block := bs, off := (os + j * 3) }), Value.agg #[Value.int IntKind.i64 (b.t s j).lot, Value.int IntKind.i64 (b.t s j).lo, Value.int IntKind.i64 (b.t s j).hi], (bif d 0 then Value.func (Fn.yield l) #[] #[] else u44), (bif d 1 then Value.int IntKind.i64 (lstN k (b.upto s) j) else u45), (bif d 2 then Value.int IntKind.i64 (1 + ↑k + ↑(b.upto s) + ↑j) else u46), (bif d 3 then Value.agg #[Value.int IntKind.i64 (lstN k (b.upto s) j), Value.int IntKind.i64 (1 + ↑k + ↑(b.upto s) + ↑j)] else u47), (bif d 4 then Value.agg #[Value.int IntKind.i64 (tlo b j), Value.int IntKind.i64 (thi b j)] else u48), (bif d 5 then Value.bool r1 else u49), (bif d 6 then Value.bool !r1 else u50), (bif d 7 then Value.bool !r1 else u51), (bif d 8 then (bif r1 then Value.func (Fn.yield l) #[] #[] else undef) else u52), (bif d 9 then (bif r1 then Value.int IntKind.i64 (1 + ↑k + ↑(b.upto s) + ↑j) else undef) else u53), (bif d 10 then (bif r1 then Value.agg #[Value.int IntKind.i64 b.lo, Value.int IntKind.i64 b.hi, Value.int IntKind.i64 ↑k, Value.slice (some { block := blk, off := o }) b.n cap] else undef) else u54), (bif d 11 then (bif r1 then Value.pointer (some { block := Bx, off := 0 }) else undef) else u55), (bif d 12 then (bif r1 then Value.int IntKind.i64 (b.t s j).lot else undef) else u56), (bif d 13 then (bif r1 then Value.int IntKind.i64 (1 + (b.t s j).lot) else undef) else u57), (bif d 14 then (bif r1 then Value.agg #[Value.int IntKind.i64 (1 + ↑k + ↑(b.upto s) + ↑j), Value.int IntKind.i64 (1 + (b.t s j).lot)] else undef) else u58), (bif d 15 then (bif r1 then Value.pointer (some { block := Bx, off := 1 }) else undef) else u59), (bif d 16 then (bif r1 then Value.agg #[Value.int IntKind.i64 (b.t s j).lo, Value.int IntKind.i64 (b.t s j).hi] else undef) else u60), (bif d 17 then (bif r1 then Value.bool r2 else undef) else u61), (bif d 18 then (bif r1 then Value.bool !r2 else undef) else u62), (bif d 19 then (bif r1 then Value.bool !r2 else Value.bool true) else u63), u64, u65, u66, u67, u68, u69, u70, u71], defers := [] } ∧ G14 (RT B W b (some ⟨blk, o, none⟩) cap k J Bt #[.int .i64 (tlo b j), .int .i64 (thi b j)] Bx #[.int .i64 (b.t s j).lot, .int .i64 (b.t s j).lo, .int .i64 (b.t s j).hi] (k + 2 * (b.upto s + j)) O) (RT B W b (some ⟨blk, o, none⟩) cap k J Bt #[.int .i64 (tlo b j), .int .i64 (thi b j)] Bx #[.int .i64 (b.t s j).lot, .int .i64 (b.t s j).lo, .int .i64 (b.t s j).hi] (k + 2 * (b.upto s + j) + 1) O) (RT B W b (some ⟨blk, o, none⟩) cap k J Bt #[.int .i64 (tlo b j), .int .i64 (thi b j)] Bx #[.int .i64 (b.t s j).lot, .int .i64 (b.t s j).lo, .int .i64 (b.t s j).hi] (k + 2 * (b.upto s + j) + 2) O) (RX B W Jx O) (d 5) (d 17) r1 r2 w) hmx (by kernel_rfl) ?_ ?_ ?_
              · exact ⟨true, true, rfl, hrt.pure hJ (Diff.refl _).drew hBW⟩
              · refine ⟨?_, ?_, ?_, ?_, ?_, ?_, ?_, ?_, ?_, ?_, ?_, ?_, ?_, ?_, ?_, ?_, ?_, ?_, ?_, ?_, trivial⟩
                · rintro d a w hdi hdep hcl ⟨r1, r2, rfl, hw⟩ K hK
                  replace hdi : d 0 = false := hdi
                  obtain ⟨-, -, f5, f6, f7, f8, f9, f10, f11, f12, f13, f14, f15, f16, f17, f18, f19, -⟩ := hcl.facts 0 hdi rfl hdep [] [5, 6, 7, 8, 9, 10, 11, 12, 13, 14, 15, 16, 17, 18, 19] (by kernel_rfl) (by kernel_rfl)
                  clear hdep hcl
                  go_simp
                  exact hK _ _ ⟨r1, r2, by simp [upd, hdi, f5, f6, f7, f8, f9, f10, f11, f12, f13, f14, f15, f16, f17, f18, f19], hw⟩
                · rintro d a w hdi hdep hcl ⟨r1, r2, rfl, hw⟩ K hK
                  replace hdi : d 1 = false := hdi
                  obtain ⟨-, -, f3, f5, f6, f7, f8, f9, f10, f11, f12, f13, f14, f15, f16, f17, f18, f19, -⟩ := hcl.facts 1 hdi rfl hdep [] [3, 5, 6, 7, 8, 9, 10, 11, 12, 13, 14, 15, 16, 17, 18, 19] (by kernel_rfl) (by kernel_rfl)
                  clear hdep hcl
                  go_simp
                  exact hK _ _ ⟨r1, r2, by simp [upd, hdi, f3, f5, f6, f7, f8, f9, f10, f11, f12, f13, f14, f15, f16, f17, f18, f19], hw⟩
                · rintro d a w hdi hdep hcl ⟨r1, r2, rfl, hw⟩ K hK
                  replace hdi : d 2 = false := hdi
                  obtain ⟨-, -, f3, f5, f6, f7, f8, f9, f10, f11, f12, f13, f14, f15, f16, f17, f18, f19, -⟩ := hcl.facts 2 hdi rfl hdep [] [3, 5, 6, 7, 8, 9, 10, 11, 12, 13, 14, 15, 16, 17, 18, 19] (by kernel_rfl) (by kernel_rfl)
                  clear hdep hcl
                  go_simp
                  exact hK _ _ ⟨r1, r2, by simp [upd, hdi, f3, f5, f6, f7, f8, f9, f10, f11, f12, f13, f14, f15, f16, f17, f18, f19], hw⟩
                · rintro d a w hdi hdep hcl ⟨r1, r2, rfl, hw⟩ K hK
                  replace hdi : d 3 = false := hdi
                  obtain ⟨-, ⟨e1, e2, -⟩, f5, f6, f7, f8, f9, f10, f11, f12, f13, f14, f15, f16, f17, f18, f19, -⟩ := hcl.facts 3 hdi rfl hdep [1, 2] [5, 6, 7, 8, 9, 10, 11, 12, 13, 14, 15, 16, 17, 18, 19] (by kernel_rfl) (by kernel_rfl)
                  clear hdep hcl
                  go_simp
                  exact hK _ _ ⟨r1, r2, by simp [upd, hdi, e1, e2, f5, f6, f7, f8, f9, f10, f11, f12, f13, f14, f15, f16, f17, f18, f19], hw⟩
                · rintro d a w hdi hdep hcl ⟨r1, r2, rfl, hw⟩ K hK
                  replace hdi : d 4 = false := hdi
                  obtain ⟨-, -, f5, f6, f7, f8, f9, f10, f11, f12, f13, f14, f15, f16, f17, f18, f19, -⟩ := hcl.facts 4 hdi rfl hdep [] [5, 6, 7, 8, 9, 10, 11, 12, 13, 14, 15, 16, 17, 18, 19] (by kernel_rfl) (by kernel_rfl)
                  clear hdep hcl
                  have hr : RT B W b (some ⟨blk, o, none⟩) cap k J Bt #[.int .i64 (tlo b j), .int .i64 (thi b j)] Bx #[.int .i64 (b.t s j).lot, .int .i64 (b.t s j).lo, .int .i64 (b.t s j).hi] (k + 2 * (b.upto s + j)) O w := by rw [f5] at hw; exact hw
                  obtain ⟨z0, z1⟩ := hr.2.1.cells2
                  go_simp
                  exact hK _ _ ⟨r1, r2, by simp [upd, hdi, f5, f6, f7, f8, f9, f10, f11, f12, f13, f14, f15, f16, f17, f18, f19], hw⟩
                · rintro d a w hdi hdep hcl ⟨r1, r2, rfl, hw⟩ K hK
                  replace hdi : d 5 = false := hdi
                  obtain ⟨-, ⟨e0, e1, e2, e3, e4, -⟩, f6, f7, f8, f9, f10, f11, f12, f13, f14, f15, f16, f17, f18, f19, -⟩ := hcl.facts 5 hdi rfl hdep [0, 1, 2, 3, 4] [6, 7, 8, 9, 10, 11, 12, 13, 14, 15, 16, 17, 18, 19] (by kernel_rfl) (by kernel_rfl)
                  clear hdep hcl
                  have hr : RT B W b (some ⟨blk, o, none⟩) cap k J Bt #[.int .i64 (tlo b j), .int .i64 (thi b j)] Bx #[.int .i64 (b.t s j).lot, .int .i64 (b.t s j).lo, .int .i64 (b.t s j).hi] (k + 2 * (b.upto s + j)) O w := by rw [hdi] at hw; exact hw
                  obtain ⟨fn, tmps, assign, body, hy, hRd⟩ := hY (k + 2 * (b.upto s + j)) O w hN1 hr.1.1 hr.1.2.2.1 hr.1.2.2.2.2.size
                  rw [HR1.out] at hy
                  go_simp
                  refine ⟨rfl, RoundIn.mono hRd ?_⟩
                  rintro e W' ⟨hdf, (⟨rfl, hj'⟩ | ⟨rfl, hj'⟩)⟩
                  · exact hK _ _ ⟨true, true, by simp [upd, hdi, e0, e1, e2, e3, e4, f6, f7, f8, f9, f10, f11, f12, f13, f14, f15, f16, f17, f18, f19], by rw [show upd d 5 5 = true from rfl, show upd d 5 17 = false from f17]; exact hr.round hdf hj'⟩
                  · exact hK _ _ ⟨false, true, by simp [upd, hdi, e0, e1, e2, e3, e4, f6, f7, f8, f9, f10, f11, f12, f13, f14, f15, f16, f17, f18, f19], by rw [show upd d 5 5 = true from rfl, show upd d 5 17 = false from f17]; exact hr.1.roundX hdf hj'⟩
                · rintro d a w hdi hdep hcl ⟨r1, r2, rfl, hw⟩ K hK
                  replace hdi : d 6 = false := hdi
                  obtain ⟨-, ⟨e0, e1, e2, e3, e4, e5, -⟩, f7, f8, f9, f10, f11, f12, f13, f14, f15, f16, f17, f18, f19, -⟩ := hcl.facts 6 hdi rfl hdep [0, 1, 2, 3, 4, 5] [7, 8, 9, 10, 11, 12, 13, 14, 15, 16, 17, 18, 19] (by kernel_rfl) (by kernel_rfl)
                  clear hdep hcl
                  go_simp
                  exact hK _ _ ⟨r1, r2, by simp [upd, hdi, e0, e1, e2, e3, e4, e5, f7, f8, f9, f10, f11, f12, f13, f14, f15, f16, f17, f18, f19], hw⟩
                · rintro d a w hdi hdep hcl ⟨r1, r2, rfl, hw⟩ K hK
                  replace hdi : d 7 = false := hdi
                  obtain ⟨-, ⟨e0, e1, e2, e3, e4, e5, e6, -⟩, f8, f9, f10, f11, f12, f13, f14, f15, f16, f17, f18, f19, -⟩ := hcl.facts 7 hdi rfl hdep [0, 1, 2, 3, 4, 5, 6] [8, 9, 10, 11, 12, 13, 14, 15, 16, 17, 18, 19] (by kernel_rfl) (by kernel_rfl)
                  clear hdep hcl
                  go_simp
                  exact hK _ _ ⟨r1, r2, by simp [upd, hdi, e0, e1, e2, e3, e4, e5, e6, f8, f9, f10, f11, f12, f13, f14, f15, f16, f17, f18, f19], hw⟩
                · rintro d a w hdi hdep hcl ⟨r1, r2, rfl, hw⟩ K hK
                  replace hdi : d 8 = false := hdi
                  obtain ⟨-, ⟨e0, e1, e2, e3, e4, e5, e6, e7, -⟩, f17, f18, f19, -⟩ := hcl.facts 8 hdi rfl hdep [0, 1, 2, 3, 4, 5, 6, 7] [17, 18, 19] (by kernel_rfl) (by kernel_rfl)
                  clear hdep hcl
                  cases r1
                  · go_simp
                    first | exact hK _ _ ⟨false, r2, by simp [upd, hdi, e0, e1, e2, e3, e4, e5, e6, e7, f17, f18, f19], hw⟩ | exact ⟨fun _ _ => trivial, hK _ _ ⟨false, r2, by simp [upd, hdi, e0, e1, e2, e3, e4, e5, e6, e7, f17, f18, f19], hw⟩⟩ | exact ⟨trivial, hK _ _ ⟨false, r2, by simp [upd, hdi, e0, e1, e2, e3, e4, e5, e6, e7, f17, f18, f19], hw⟩⟩ | exact hK _ _ ⟨false, r2, by simp [upd, hdi, e0, e1, e2, e3, e4, e5, e6, e7, f17, f18, f19], (by rw [e5] at hw; rw [show upd d 17 5 = true from e5]; exact hw)⟩ | exact ⟨fun _ _ => trivial, hK _ _ ⟨false, r2, by simp [upd, hdi, e0, e1, e2, e3, e4, e5, e6, e7, f17, f18, f19], (by rw [e5] at hw; rw [show upd d 17 5 = true from e5]; exact hw)⟩⟩
                  · go_simp
                    exact hK _ _ ⟨true, r2, by simp [upd, hdi, e0, e1, e2, e3, e4, e5, e6, e7, f17, f18, f19], hw⟩
                · rintro d a w hdi hdep hcl ⟨r1, r2, rfl, hw⟩ K hK
                  replace hdi : d 9 = false := hdi
                  obtain ⟨-, ⟨e0, e1, e2, e3, e4, e5, e6, e7, -⟩, f14, f17, f18, f19, -⟩ := hcl.facts 9 hdi rfl hdep [0, 1, 2, 3, 4, 5, 6, 7] [14, 17, 18, 19] (by kernel_rfl) (by kernel_rfl)
                  clear hdep hcl
                  cases r1
                  · go_simp
                    first | exact hK _ _ ⟨false, r2, by simp [upd, hdi, e0, e1, e2, e3, e4, e5, e6, e7, f14, f17, f18, f19], hw⟩ | exact ⟨fun _ _ => trivial, hK _ _ ⟨false, r2, by simp [upd, hdi, e0, e1, e2, e3, e4, e5, e6, e7, f14, f17, f18, f19], hw⟩⟩ | exact ⟨trivial, hK _ _ ⟨false, r2, by simp [upd, hdi, e0, e1, e2, e3, e4, e5, e6, e7, f14, f17, f18, f19], hw⟩⟩ | exact hK _ _ ⟨false, r2, by simp [upd, hdi, e0, e1, e2, e3, e4, e5, e6, e7, f14, f17, f18, f19], (by rw [e5] at hw; rw [show upd d 17 5 = true from e5]; exact hw)⟩ | exact ⟨fun _ _ => trivial, hK _ _ ⟨false, r2, by simp [upd, hdi, e0, e1, e2, e3, e4, e5, e6, e7, f14, f17, f18, f19], (by rw [e5] at hw; rw [show upd d 17 5 = true from e5]; exact hw)⟩⟩
                  · go_simp
                    exact hK _ _ ⟨true, r2, by simp [upd, hdi, e0, e1, e2, e3, e4, e5, e6, e7, f14, f17, f18, f19], hw⟩
                · rintro d a w hdi hdep hcl ⟨r1, r2, rfl, hw⟩ K hK
                  replace hdi : d 10 = false := hdi
                  obtain ⟨-, ⟨e0, e1, e2, e3, e4, e5, e6, e7, -⟩, f13, f14, f17, f18, f19, -⟩ := hcl.facts 10 hdi rfl hdep [0, 1, 2, 3, 4, 5, 6, 7] [13, 14, 17, 18, 19] (by kernel_rfl) (by kernel_rfl)
                  clear hdep hcl
                  cases r1
                  · go_simp
                    first | exact hK _ _ ⟨false, r2, by simp [upd, hdi, e0, e1, e2, e3, e4, e5, e6, e7, f13, f14, f17, f18, f19], hw⟩ | exact ⟨fun _ _ => trivial, hK _ _ ⟨false, r2, by simp [upd, hdi, e0, e1, e2, e3, e4, e5, e6, e7, f13, f14, f17, f18, f19], hw⟩⟩ | exact ⟨trivial, hK _ _ ⟨false, r2, by simp [upd, hdi, e0, e1, e2, e3, e4, e5, e6, e7, f13, f14, f17, f18, f19], hw⟩⟩ | exact hK _ _ ⟨false, r2, by simp [upd, hdi, e0, e1, e2, e3, e4, e5, e6, e7, f13, f14, f17, f18, f19], (by rw [e5] at hw; rw [show upd d 17 5 = true from e5]; exact hw)⟩ | exact ⟨fun _ _ => trivial, hK _ _ ⟨false, r2, by simp [upd, hdi, e0, e1, e2, e3, e4, e5, e6, e7, f13, f14, f17, f18, f19], (by rw [e5] at hw; rw [show upd d 17 5 = true from e5]; exact hw)⟩⟩
                  · have hr : RT B W b (some ⟨blk, o, none⟩) cap k J Bt #[.int .i64 (tlo b j), .int .i64 (thi b j)] Bx #[.int .i64 (b.t s j).lot, .int .i64 (b.t s j).lo, .int .i64 (b.t s j).hi] (k + 2 * (b.upto s + j) + 1) O w := by rw [e5, f17] at hw; exact hw
                    obtain ⟨z0, z1, z2, z3⟩ := box_cells hr.1.2.2.2.1
                    go_simp
                    exact hK _ _ ⟨true, r2, by simp [upd, hdi, e0, e1, e2, e3, e4, e5, e6, e7, f13, f14, f17, f18, f19], hw⟩
                · rintro d a w hdi hdep hcl ⟨r1, r2, rfl, hw⟩ K hK
                  replace hdi : d 11 = false := hdi
                  obtain ⟨-, ⟨e0, e1, e2, e3, e4, e5, e6, e7, -⟩, f12, f13, f14, f17, f18, f19, -⟩ := hcl.facts 11 hdi rfl hdep [0, 1, 2, 3, 4, 5, 6, 7] [12, 13, 14, 17, 18, 19] (by kernel_rfl) (by kernel_rfl)
                  clear hdep hcl
                  cases r1
                  · go_simp
                    first | exact hK _ _ ⟨false, r2, by simp [upd, hdi, e0, e1, e2, e3, e4, e5, e6, e7, f12, f13, f14, f17, f18, f19], hw⟩ | exact ⟨fun _ _ => trivial, hK _ _ ⟨false, r2, by simp [upd, hdi, e0, e1, e2, e3, e4, e5, e6, e7, f12, f13, f14, f17, f18, f19], hw⟩⟩ | exact ⟨trivial, hK _ _ ⟨false, r2, by simp [upd, hdi, e0, e1, e2, e3, e4, e5, e6, e7, f12, f13, f14, f17, f18, f19], hw⟩⟩ | exact hK _ _ ⟨false, r2, by simp [upd, hdi, e0, e1, e2, e3, e4, e5, e6, e7, f12, f13, f14, f17, f18, f19], (by rw [e5] at hw; rw [show upd d 17 5 = true from e5]; exact hw)⟩ | exact ⟨fun _ _ => trivial, hK _ _ ⟨false, r2, by simp [upd, hdi, e0, e1, e2, e3, e4, e5, e6, e7, f12, f13, f14, f17, f18, f19], (by rw [e5] at hw; rw [show upd d 17 5 = true from e5]; exact hw)⟩⟩
                  · go_simp
                    exact hK _ _ ⟨true, r2, by simp [upd, hdi, e0, e1, e2, e3, e4, e5, e6, e7, f12, f13, f14, f17, f18, f19], hw⟩
                · rintro d a w hdi hdep hcl ⟨r1, r2, rfl, hw⟩ K hK
                  replace hdi : d 12 = false := hdi
                  obtain ⟨-, ⟨e0, e1, e2, e3, e4, e5, e6, e7, e11, -⟩, f13, f14, f17, f18, f19, -⟩ := hcl.facts 12 hdi rfl hdep [0, 1, 2, 3, 4, 5, 6, 7, 11] [13, 14, 17, 18, 19] (by kernel_rfl) (by kernel_rfl)
                  clear hdep hcl
                  cases r1
                  · go_simp
                    first | exact hK _ _ ⟨false, r2, by simp [upd, hdi, e0, e1, e2, e3, e4, e5, e6, e7, e11, f13, f14, f17, f18, f19], hw⟩ | exact ⟨fun _ _ => trivial, hK _ _ ⟨false, r2, by simp [upd, hdi, e0, e1, e2, e3, e4, e5, e6, e7, e11, f13, f14, f17, f18, f19], hw⟩⟩ | exact ⟨trivial, hK _ _ ⟨false, r2, by simp [upd, hdi, e0, e1, e2, e3, e4, e5, e6, e7, e11, f13, f14, f17, f18, f19], hw⟩⟩ | exact hK _ _ ⟨false, r2, by simp [upd, hdi, e0, e1, e2, e3, e4, e5, e6, e7, e11, f13, f14, f17, f18, f19], (by rw [e5] at hw; rw [show upd d 17 5 = true from e5]; exact hw)⟩ | exact ⟨fun _ _ => trivial, hK _ _ ⟨false, r2, by simp [upd, hdi, e0, e1, e2, e3, e4, e5, e6, e7, e11, f13, f14, f17, f18, f19], (by rw [e5] at hw; rw [show upd d 17 5 = true from e5]; exact hw)⟩⟩
                  · have hr : RT B W b (some ⟨blk, o, none⟩) cap k J Bt #[.int .i64 (tlo b j), .int .i64 (thi b j)] Bx #[.int .i64 (b.t s j).lot, .int .i64 (b.t s j).lo, .int .i64 (b.t s j).hi] (k + 2 * (b.upto s + j) + 1) O w := by rw [e5, f17] at hw; exact hw
                    obtain ⟨z0, z1, z2⟩ := hr.2.2.cells3
                    go_simp
                    exact hK _ _ ⟨true, r2, by simp [upd, hdi, e0, e1, e2, e3, e4, e5, e6, e7, e11, f13, f14, f17, f18, f19], hw⟩
                · rintro d a w hdi hdep hcl ⟨r1, r2, rfl, hw⟩ K hK
                  replace hdi : d 13 = false := hdi
                  obtain ⟨-, ⟨e0, e1, e2, e3, e4, e5, e6, e7, e10, e11, e12, -⟩, f14, f17, f18, f19, -⟩ := hcl.facts 13 hdi rfl hdep [0, 1, 2, 3, 4, 5, 6, 7, 10, 11, 12] [14, 17, 18, 19] (by kernel_rfl) (by kernel_rfl)
                  clear hdep hcl
                  cases r1
                  · go_simp
                    first | exact hK _ _ ⟨false, r2, by simp [upd, hdi, e0, e1, e2, e3, e4, e5, e6, e7, e10, e11, e12, f14, f17, f18, f19], hw⟩ | exact ⟨fun _ _ => trivial, hK _ _ ⟨false, r2, by simp [upd, hdi, e0, e1, e2, e3, e4, e5, e6, e7, e10, e11, e12, f14, f17, f18, f19], hw⟩⟩ | exact ⟨trivial, hK _ _ ⟨false, r2, by simp [upd, hdi, e0, e1, e2, e3, e4, e5, e6, e7, e10, e11, e12, f14, f17, f18, f19], hw⟩⟩ | exact hK _ _ ⟨false, r2, by simp [upd, hdi, e0, e1, e2, e3, e4, e5, e6, e7, e10, e11, e12, f14, f17, f18, f19], (by rw [e5] at hw; rw [show upd d 17 5 = true from e5]; exact hw)⟩ | exact ⟨fun _ _ => trivial, hK _ _ ⟨false, r2, by simp [upd, hdi, e0, e1, e2, e3, e4, e5, e6, e7, e10, e11, e12, f14, f17, f18, f19], (by rw [e5] at hw; rw [show upd d 17 5 = true from e5]; exact hw)⟩⟩
                  · have hr : RT B W b (some ⟨blk, o, none⟩) cap k J Bt #[.int .i64 (tlo b j), .int .i64 (thi b j)] Bx #[.int .i64 (b.t s j).lot, .int .i64 (b.t s j).lo, .int .i64 (b.t s j).hi] (k + 2 * (b.upto s + j) + 1) O w := by rw [e5, f17] at hw; exact hw
                    go_simp
                    refine ⟨trivial, rfl, CallsIn.mono (callsIn_wide.2 (lotName_any _ _ _ _ _ _ (by omega) (by omega))) ?_⟩
                    rintro e w' ⟨rfl, hp⟩
                    exact hK _ _ ⟨true, r2, by simp [upd, hdi, e0, e1, e2, e3, e4, e5, e6, e7, e10, e11, e12, f14, f17, f18, f19], by rw [show upd d 13 5 = true from e5, show upd d 13 17 = false from f17]; exact hr.pure hJ hp hBW⟩
                · rintro d a w hdi hdep hcl ⟨r1, r2, rfl, hw⟩ K hK
                  replace hdi : d 14 = false := hdi
                  obtain ⟨-, ⟨e0, e1, e2, e3, e4, e5, e6, e7, e9, e10, e11, e12, e13, -⟩, f17, f18, f19, -⟩ := hcl.facts 14 hdi rfl hdep [0, 1, 2, 3, 4, 5, 6, 7, 9, 10, 11, 12, 13] [17, 18, 19] (by kernel_rfl) (by kernel_rfl)
                  clear hdep hcl
                  cases r1
                  · go_simp
                    first | exact hK _ _ ⟨false, r2, by simp [upd, hdi, e0, e1, e2, e3, e4, e5, e6, e7, e9, e10, e11, e12, e13, f17, f18, f19], hw⟩ | exact ⟨fun _ _ => trivial, hK _ _ ⟨false, r2, by simp [upd, hdi, e0, e1, e2, e3, e4, e5, e6, e7, e9, e10, e11, e12, e13, f17, f18, f19], hw⟩⟩ | exact ⟨trivial, hK _ _ ⟨false, r2, by simp [upd, hdi, e0, e1, e2, e3, e4, e5, e6, e7, e9, e10, e11, e12, e13, f17, f18, f19], hw⟩⟩ | exact hK _ _ ⟨false, r2, by simp [upd, hdi, e0, e1, e2, e3, e4, e5, e6, e7, e9, e10, e11, e12, e13, f17, f18, f19], (by rw [e5] at hw; rw [show upd d 17 5 = true from e5]; exact hw)⟩ | exact ⟨fun _ _ => trivial, hK _ _ ⟨false, r2, by simp [upd, hdi, e0, e1, e2, e3, e4, e5, e6, e7, e9, e10, e11, e12, e13, f17, f18, f19], (by rw [e5] at hw; rw [show upd d 17 5 = true from e5]; exact hw)⟩⟩
                  · go_simp
                    exact hK _ _ ⟨true, r2, by simp [upd, hdi, e0, e1, e2, e3, e4, e5, e6, e7, e9, e10, e11, e12, e13, f17, f18, f19], hw⟩
                · rintro d a w hdi hdep hcl ⟨r1, r2, rfl, hw⟩ K hK
                  replace hdi : d 15 = false := hdi
                  obtain ⟨-, ⟨e0, e1, e2, e3, e4, e5, e6, e7, -⟩, f16, f17, f18, f19, -⟩ := hcl.facts 15 hdi rfl hdep [0, 1, 2, 3, 4, 5, 6, 7] [16, 17, 18, 19] (by kernel_rfl) (by kernel_rfl)
                  clear hdep hcl
                  cases r1
                  · go_simp
                    first | exact hK _ _ ⟨false, r2, by simp [upd, hdi, e0, e1, e2, e3, e4, e5, e6, e7, f16, f17, f18, f19], hw⟩ | exact ⟨fun _ _ => trivial, hK _ _ ⟨false, r2, by simp [upd, hdi, e0, e1, e2, e3, e4, e5, e6, e7, f16, f17, f18, f19], hw⟩⟩ | exact ⟨trivial, hK _ _ ⟨false, r2, by simp [upd, hdi, e0, e1, e2, e3, e4, e5, e6, e7, f16, f17, f18, f19], hw⟩⟩ | exact hK _ _ ⟨false, r2, by simp [upd, hdi, e0, e1, e2, e3, e4, e5, e6, e7, f16, f17, f18, f19], (by rw [e5] at hw; rw [show upd d 17 5 = true from e5]; exact hw)⟩ | exact ⟨fun _ _ => trivial, hK _ _ ⟨false, r2, by simp [upd, hdi, e0, e1, e2, e3, e4, e5, e6, e7, f16, f17, f18, f19], (by rw [e5] at hw; rw [show upd d 17 5 = true from e5]; exact hw)⟩⟩
                  · go_simp
                    exact hK _ _ ⟨true, r2, by simp [upd, hdi, e0, e1, e2, e3, e4, e5, e6, e7, f16, f17, f18, f19], hw⟩
                · rintro d a w hdi hdep hcl ⟨r1, r2, rfl, hw⟩ K hK
                  replace hdi : d 16 = false := hdi
                  obtain ⟨-, ⟨e0, e1, e2, e3, e4, e5, e6, e7, e15, -⟩, f17, f18, f19, -⟩ := hcl.facts 16 hdi rfl hdep [0, 1, 2, 3, 4, 5, 6, 7, 15] [17, 18, 19] (by kernel_rfl) (by kernel_rfl)
                  clear hdep hcl
                  cases r1
                  · go_simp
                    first | exact hK _ _ ⟨false, r2, by simp [upd, hdi, e0, e1, e2, e3, e4, e5, e6, e7, e15, f17, f18, f19], hw⟩ | exact ⟨fun _ _ => trivial, hK _ _ ⟨false, r2, by simp [upd, hdi, e0, e1, e2, e3, e4, e5, e6, e7, e15, f17, f18, f19], hw⟩⟩ | exact ⟨trivial, hK _ _ ⟨false, r2, by simp [upd, hdi, e0, e1, e2, e3, e4, e5, e6, e7, e15, f17, f18, f19], hw⟩⟩ | exact hK _ _ ⟨false, r2, by simp [upd, hdi, e0, e1, e2, e3, e4, e5, e6, e7, e15, f17, f18, f19], (by rw [e5] at hw; rw [show upd d 17 5 = true from e5]; exact hw)⟩ | exact ⟨fun _ _ => trivial, hK _ _ ⟨false, r2, by simp [upd, hdi, e0, e1, e2, e3, e4, e5, e6, e7, e15, f17, f18, f19], (by rw [e5] at hw; rw [show upd d 17 5 = true from e5]; exact hw)⟩⟩
                  · have hr : RT B W b (some ⟨blk, o, none⟩) cap k J Bt #[.int .i64 (tlo b j), .int .i64 (thi b j)] Bx #[.int .i64 (b.t s j).lot, .int .i64 (b.t s j).lo, .int .i64 (b.t s j).hi] (k + 2 * (b.upto s + j) + 1) O w := by rw [e5, f17] at hw; exact hw
                    obtain ⟨z0, z1, z2⟩ := hr.2.2.cells3
                    go_simp
                    exact hK _ _ ⟨true, r2, by simp [upd, hdi, e0, e1, e2, e3, e4, e5, e6, e7, e15, f17, f18, f19], hw⟩
                · rintro d a w hdi hdep hcl ⟨r1, r2, rfl, hw⟩ K hK
                  replace hdi : d 17 = false := hdi
                  obtain ⟨-, ⟨e0, e1, e2, e3, e4, e5, e6, e7, e8, e9, e10, e11, e12, e13, e14, e15, e16, -⟩, f18, f19, -⟩ := hcl.facts 17 hdi rfl hdep [0, 1, 2, 3, 4, 5, 6, 7, 8, 9, 10, 11, 12, 13, 14, 15, 16] [18, 19] (by kernel_rfl) (by kernel_rfl)
                  clear hdep hcl
                  cases r1
                  · go_simp
                    first | exact hK _ _ ⟨false, r2, by simp [upd, hdi, e0, e1, e2, e3, e4, e5, e6, e7, e8, e9, e10, e11, e12, e13, e14, e15, e16, f18, f19], hw⟩ | exact ⟨fun _ _ => trivial, hK _ _ ⟨false, r2, by simp [upd, hdi, e0, e1, e2, e3, e4, e5, e6, e7, e8, e9, e10, e11, e12, e13, e14, e15, e16, f18, f19], hw⟩⟩ | exact ⟨trivial, hK _ _ ⟨false, r2, by simp [upd, hdi, e0, e1, e2, e3, e4, e5, e6, e7, e8, e9, e10, e11, e12, e13, e14, e15, e16, f18, f19], hw⟩⟩ | exact hK _ _ ⟨false, r2, by simp [upd, hdi, e0, e1, e2, e3, e4, e5, e6, e7, e8, e9, e10, e11, e12, e13, e14, e15, e16, f18, f19], (by rw [e5] at hw; rw [show upd d 17 5 = true from e5]; exact hw)⟩ | exact ⟨fun _ _ => trivial, hK _ _ ⟨false, r2, by simp [upd, hdi, e0, e1, e2, e3, e4, e5, e6, e7, e8, e9, e10, e11, e12, e13, e14, e15, e16, f18, f19], (by rw [e5] at hw; rw [show upd d 17 5 = true from e5]; exact hw)⟩⟩
                  · have hr : RT B W b (some ⟨blk, o, none⟩) cap k J Bt #[.int .i64 (tlo b j), .int .i64 (thi b j)] Bx #[.int .i64 (b.t s j).lot, .int .i64 (b.t s j).lo, .int .i64 (b.t s j).hi] (k + 2 * (b.upto s + j) + 1) O w := by rw [e5, hdi] at hw; exact hw
                    obtain ⟨fn, tmps, assign, body, hy, hRd⟩ := hY (k + 2 * (b.upto s + j) + 1) O w hN2 hr.1.1 hr.1.2.2.1 hr.1.2.2.2.2.size
                    rw [HR2.out] at hy
                    go_simp
                    refine ⟨rfl, RoundIn.mono hRd ?_⟩
                    rintro e W' ⟨hdf, (⟨rfl, hj'⟩ | ⟨rfl, hj'⟩)⟩
                    · exact hK _ _ ⟨true, true, by simp [upd, hdi, e0, e1, e2, e3, e4, e5, e6, e7, e8, e9, e10, e11, e12, e13, e14, e15, e16, f18, f19], by rw [show upd d 17 5 = true from e5, show upd d 17 17 = true from rfl]; exact hr.round hdf hj'⟩
                    · exact hK _ _ ⟨true, false, by simp [upd, hdi, e0, e1, e2, e3, e4, e5, e6, e7, e8, e9, e10, e11, e12, e13, e14, e15, e16, f18, f19], by rw [show upd d 17 5 = true from e5, show upd d 17 17 = true from rfl]; exact hr.1.roundX hdf hj'⟩
                · rintro d a w hdi hdep hcl ⟨r1, r2, rfl, hw⟩ K hK
                  replace hdi : d 18 = false := hdi
                  obtain ⟨-, ⟨e0, e1, e2, e3, e4, e5, e6, e7, e8, e9, e10, e11, e12, e13, e14, e15, e16, e17, -⟩, f19, -⟩ := hcl.facts 18 hdi rfl hdep [0, 1, 2, 3, 4, 5, 6, 7, 8, 9, 10, 11, 12, 13, 14, 15, 16, 17] [19] (by kernel_rfl) (by kernel_rfl)
                  clear hdep hcl
                  cases r1
                  · go_simp
                    first | exact hK _ _ ⟨false, r2, by simp [upd, hdi, e0, e1, e2, e3, e4, e5, e6, e7, e8, e9, e10, e11, e12, e13, e14, e15, e16, e17, f19], hw⟩ | exact ⟨fun _ _ => trivial, hK _ _ ⟨false, r2, by simp [upd, hdi, e0, e1, e2, e3, e4, e5, e6, e7, e8, e9, e10, e11, e12, e13, e14, e15, e16, e17, f19], hw⟩⟩ | exact ⟨trivial, hK _ _ ⟨false, r2, by simp [upd, hdi, e0, e1, e2, e3, e4, e5, e6, e7, e8, e9, e10, e11, e12, e13, e14, e15, e16, e17, f19], hw⟩⟩ | exact hK _ _ ⟨false, r2, by simp [upd, hdi, e0, e1, e2, e3, e4, e5, e6, e7, e8, e9, e10, e11, e12, e13, e14, e15, e16, e17, f19], (by rw [e5] at hw; rw [show upd d 17 5 = true from e5]; exact hw)⟩ | exact ⟨fun _ _ => trivial, hK _ _ ⟨false, r2, by simp [upd, hdi, e0, e1, e2, e3, e4, e5, e6, e7, e8, e9, e10, e11, e12, e13, e14, e15, e16, e17, f19], (by rw [e5] at hw; rw [show upd d 17 5 = true from e5]; exact hw)⟩⟩
                  · go_simp
                    exact hK _ _ ⟨true, r2, by simp [upd, hdi, e0, e1, e2, e3, e4, e5, e6, e7, e8, e9, e10, e11, e12, e13, e14, e15, e16, e17, f19], hw⟩
                · rintro d a w hdi hdep hcl ⟨r1, r2, rfl, hw⟩ K hK
                  replace hdi : d 19 = false := hdi
                  obtain ⟨-, ⟨e0, e1, e2, e3, e4, e5, e6, e7, e8, e9, e10, e11, e12, e13, e14, e15, e16, e17, e18, -⟩, -⟩ := hcl.facts 19 hdi rfl hdep [0, 1, 2, 3, 4, 5, 6, 7, 8, 9, 10, 11, 12, 13, 14, 15, 16, 17, 18] [] (by kernel_rfl) (by kernel_rfl)
                  clear hdep hcl
                  cases r1
                  · go_simp
                    exact hK _ _ ⟨false, r2, by simp [upd, hdi, e0, e1, e2, e3, e4, e5, e6, e7, e8, e9, e10, e11, e12, e13, e14, e15, e16, e17, e18], hw⟩
                  · go_simp
                    exact hK _ _ ⟨true, r2, by simp [upd, hdi, e0, e1, e2, e3, e4, e5, e6, e7, e8, e9, e10, e11, e12, e13, e14, e15, e16, e17, e18], hw⟩
              · rintro d a w hall ⟨r1, r2, rfl, hw⟩
                simp [List.range_succ] at hall
                obtain ⟨e0, e1, e2, e3, e4, e5, e6, e7, e8, e9, e10, e11, e12, e13, e14, e15, e16, e17, e18, e19⟩ := hall
                simp only [e0, e1, e2, e3, e4, e5, e6, e7, e8, e9, e10, e11, e12, e13, e14, e15, e16, e17, e18, e19, cond_true] at hw ⊢
                clear e0 e1 e2 e3 e4 e5 e6 e7 e8 e9 e10 e11 e12 e13 e14 e15 e16 e17 e18 e19
                clear hY
                cases r1
                · have hx : RX B W Jx O w := hw
                  gi_wp2
                  refine bodyPost_ret (results_none rfl _ _ _) rfl ?_
                  exact ⟨⟨_, rfl⟩, O, fun x hx' => (hx.2.1 x hx').1, .inr hx.1⟩
                · cases r2
                  · have hx : RX B W Jx O w := hw
                    gi_wp2
                    refine bodyPost_ret (results_none rfl _ _ _) rfl ?_
                    exact ⟨⟨_, rfl⟩, O, fun x hx' => (hx.2.1 x hx').1, .inr hx.1⟩
                  · have hr : RT B W b (some ⟨blk, o, none⟩) cap k J Bt #[.int .i64 (tlo b j), .int .i64 (thi b j)] Bx #[.int .i64 (b.t s j).lot, .int .i64 (b.t s j).lo, .int .i64 (b.t s j).hi] (k + 2 * (b.upto s + j) + 2) O w := hw
                    obtain ⟨z0, z1, z2, z3⟩ := box_cells hr.1.2.2.2.1
                    obtain ⟨y0, y1⟩ := hr.2.1.cells2
                    gi_wp2
                    have hfz : w.frozen? ⟨Bt, 0, none⟩ = false := frozen_of_row w Bt 0 _ _ hr.2.1.2
                    have hfz1 : w.frozen? ⟨Bt, 1, none⟩ = false := frozen_of_row w Bt 1 _ _ hr.2.1.2
                    gi_region
                    all_goals gi_wp2
                    have hset : Own O Bt #[.int .i64 (tlo b (j + 1)), .int .i64 (thi b (j + 1))] 23 ((w.setCell ⟨Bt, 0, none⟩ (.int .i64 b.lo)).setCell ⟨Bt, 1, none⟩ (.int .i64 b.hi)) := hr.2.1.set2 _ _
                    have hrc3 := (hr.1.setCell hJ hr.2.1.1 hne 0 (.int .i64 b.lo)).setCell hJ hr.2.1.1 hne 1 (.int .i64 b.hi)
                    go_roundw
                    case rel => exact ⟨j + 1, O, by omega, by go_num, by go_num, by simp [lstN]; omega, hrc3.drew hJ hBW, hset.pure (Diff.refl _).drew⟩
                    case measure => simp [intOf]; omega
            · obtain rfl : j = b.m s := by omega
              have hu : b.upto (s + 1) = b.upto s + b.m s := rfl
              have HU := Lib.hid hu
              clear hu
              gi_wp2
              go_roundw
              case rel => exact ⟨s + 1, O, by omega, by go_num, by rw [HU.out]; go_num, by rw [HU.out]; exact hrc⟩
              case measure => simp [intOf]; omega
        · obtain rfl : s = b.n := by omega
          have HN : Hid (b.rgN = k + 2 * b.upto b.n) := by show _ = _; unfold BK.rgN BK.total; rw [HL.out]; simp
          gi_wp2
          refine bodyPost_end (results_none rfl _ _ _) rfl ?_
          exact ⟨⟨_, rfl⟩, O, fun x hx => (hrc.2.2.1 x hx).1, .inl (by rw [HN.out]; exact hrc.1)⟩
end Go.Proofs.YtmedkmbfggphdaaDoor
