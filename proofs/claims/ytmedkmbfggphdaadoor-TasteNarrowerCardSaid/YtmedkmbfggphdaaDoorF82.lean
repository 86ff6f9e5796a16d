/- The walk of rounds. -/
import Derived.Test.YtmedkmbfggphdaaDoorM15
import Derived.Test.YtmedkmbfggphdaaDoorK4
import Derived.Test.YtmedkmbfggphdaaDoorM05
import Derived.Scope
import Derived.OwnWalkIn
import Derived.Maps.AppendAt
import Derived.Lib.SliceRun
set_option linter.unusedSimpArgs false
set_option linter.unusedVariables false
set_option linter.constructorNameAsVariable false
namespace Go.Proofs.YtmedkmbfggphdaaDoor
open Go.RowKit Go.Shelf
attribute [local go_sem] Oper.semAt_some

theorem wpIn_scope {n : Nat} {P : Program} {c : Code} {Q : Exit → Act → World → Prop} {a : Act} {w : World} (h : c.wpIn Fence.wide n P (Exit.noGoto Q) a w) : (Code.scope c).wpIn Fence.wide n P Q a w :=
  wpIn_wide.2 (wp_scope_straight (wpIn_wide.1 h))

/-- While the ways are filled: k of them stand. -/
structure PI (w : World) (tv : Array Value) (s1 N k : Nat) (W : World) : Prop where
  pw : Pure w W
  bt : W.heap[w.heap.size]? = some (.cells tv 82 (0, 0))
  bS : W.heap[s1 + 1]? = some (.cells #[.slice (some ⟨s1, 0, none⟩) N N] 27 (0, 0))
  rS : W.rowIs s1 2 N (fun _ => .int .i64 0)
  bW : W.heap[s1 + 3]? = some (.cells #[.slice (some ⟨s1 + 2, 0, none⟩) N N] 101 (0, 0))
  rW : ∃ wv : Nat → Value, W.rowIs (s1 + 2) 44 N wv ∧ ∀ j, j < k → OwnO (fun _ => False) W s1 (wv j) [(j : Int)]
  size : W.heap.size = s1 + 4 + k
  base : w.heap.size < s1
theorem PI.big {w : World} {tv : Array Value} {s1 N k : Nat} {W : World} (h : PI w tv s1 N k W) : s1 + 4 + k ≤ W.heap.size := by have := h.size; omega
theorem PI.start {w w1 : World} {tv : Array Value} {s1 N : Nat} (hb : w1.heap[w.heap.size]? = some (.cells tv 82 (0, 0))) (hp : Pure w w1) (hs : w1.heap.size = s1) :
    PI w tv s1 N 0 ((((w1.alloc (Obj.cells (madeCells #[Value.int IntKind.i64 0] N) 2)).alloc (Obj.cells #[Value.slice (some { block := s1, off := 0 }) N N] 27)).alloc (Obj.cells (madeCells #[Value.slice none 0 0] N) 44)).alloc (Obj.cells #[Value.slice (some { block := s1 + 1 + 1, off := 0 }) N N] 101)) := by
  subst hs
  have hbl := (Array.getElem?_eq_some_iff.1 hb).1
  have ol : ∀ (W : World) (o : Obj) (k : Nat), k < W.heap.size → (W.alloc o).heap[k]? = W.heap[k]? := fun W o k hk => Below.heap_alloc _ _ _ hk
  have h1 := World.rowIs_made w1 (.int .i64 0) N 2
  have h3 := World.rowIs_made ((w1.alloc (Obj.cells (madeCells #[Value.int IntKind.i64 0] N) 2)).alloc (Obj.cells #[Value.slice (some { block := w1.heap.size, off := 0 }) N N] 27)) (.slice none 0 0) N 44
  have h2 := World.alloc_heap_new (w1.alloc (Obj.cells (madeCells #[Value.int IntKind.i64 0] N) 2)) (Obj.cells #[Value.slice (some { block := w1.heap.size, off := 0 }) N N] 27)
  have h4 := World.alloc_heap_new (((w1.alloc (Obj.cells (madeCells #[Value.int IntKind.i64 0] N) 2)).alloc (Obj.cells #[Value.slice (some { block := w1.heap.size, off := 0 }) N N] 27)).alloc (Obj.cells (madeCells #[Value.slice none 0 0] N) 44)) (Obj.cells #[Value.slice (some { block := w1.heap.size + 1 + 1, off := 0 }) N N] 101)
  simp only [World.size_alloc] at h2 h3 h4
  refine ⟨(((hp.alloc _).alloc _).alloc _).alloc _, ?_, ?_, ((h1.alloc _).alloc _).alloc _, h4, ⟨_, h3.alloc _, fun j hj => by omega⟩, by simp, hbl⟩
  · rw [ol _ _ _ (by simp; omega), ol _ _ _ (by simp; omega), ol _ _ _ (by simp; omega), ol _ _ _ (by omega)]; exact hb
  · rw [ol _ _ _ (by simp), ol _ _ _ (by simp)]; exact h2

theorem PI.step {w W : World} {tv : Array Value} {s1 N k : Nat} (h : PI w tv s1 N k W) (hk : k < N) :
    PI w tv s1 N (k + 1) ((W.setCell ⟨s1 + 2, k, none⟩ (.slice (some ⟨W.heap.size, 0, none⟩) 1 1)).alloc (.cells #[.int .i64 k] 3)) := by
  have hs := h.size
  have hb := h.base
  obtain ⟨wv, hw, hv⟩ := h.rW
  have hsz : (W.setCell ⟨s1 + 2, k, none⟩ (.slice (some ⟨W.heap.size, 0, none⟩) 1 1)).heap.size = W.heap.size := by simp [World.setCell]
  obtain ⟨W1, hW1⟩ : ∃ W1, W.setCell ⟨s1 + 2, k, none⟩ (.slice (some ⟨W.heap.size, 0, none⟩) 1 1) = W1 := ⟨_, rfl⟩
  have hw1 := hw.set k (.slice (some ⟨W.heap.size, 0, none⟩) 1 1)
  have ho : ∀ g, g ≠ s1 + 2 → W1.heap[g]? = W.heap[g]? := fun g hg => by rw [← hW1]; exact heap_setCell_other _ _ _ _ hg
  have hpw : Pure w W1 := by rw [← hW1]; exact h.pw.setCell (fun hl => absurd hl (by simp; omega)) _
  rw [hW1] at hw1 hsz ⊢
  have oa : ∀ g, g < W1.heap.size → (W1.alloc (.cells #[.int .i64 k] 3)).heap[g]? = W1.heap[g]? := fun g hg => Below.heap_alloc _ _ _ hg
  refine ⟨hpw.alloc _, ?_, ?_, ?_, ?_, ⟨_, hw1.alloc _, fun j hj => ?_⟩, by simp; omega, hb⟩
  · rw [oa _ (by omega), ho _ (by omega)]; exact h.bt
  · rw [oa _ (by omega), ho _ (by omega)]; exact h.bS
  · exact (h.rS.of_block (ho _ (by omega))).alloc _
  · rw [oa _ (by omega), ho _ (by omega)]; exact h.bW
  · show OwnO _ _ s1 (if j = k then _ else wv j) _
    by_cases e : j = k
    · subst e
      rw [if_pos rfl]
      refine ⟨⟨rfl, .inr ⟨W.heap.size, 1, #[.int .i64 j], rfl, by omega, ?_, Nat.le_refl _, by decide, rfl, rfl⟩⟩, fun _ _ h => h⟩
      have := World.alloc_heap_new W1 (.cells #[.int .i64 j] 3)
      rwa [hsz] at this
    · rw [if_neg e]
      obtain ⟨cs, hcs, -⟩ := hw
      exact ((hv j (by omega)).put (t := 44) (W' := W1) hcs (by omega) (fun g _ hg => ho g hg)).diff ((Diff.refl W1).alloc (O := fun _ => False) _) (fun _ h _ => h) (fun _ h => h.elim)

theorem RI.start {w W : World} {tv : Array Value} {s1 N : Nat} (h : PI w tv s1 N N W) :
    RI w tv s1 N RS.start (fun _ => False) (((W.alloc (.cells (madeCells #[.bool false] N) 4)).alloc (.cells #[.slice (some ⟨W.heap.size, 0, none⟩) N N] 124)).alloc (.cells #[.slice none 0 0] 101)) := by
  have hs := h.size
  have hb := h.base
  have h1 := World.rowIs_made W (.bool false) N 4
  have h2 := World.alloc_heap_new (W.alloc (.cells (madeCells #[.bool false] N) 4)) (.cells #[.slice (some ⟨W.heap.size, 0, none⟩) N N] 124)
  have h3 := World.alloc_heap_new ((W.alloc (.cells (madeCells #[.bool false] N) 4)).alloc (.cells #[.slice (some ⟨W.heap.size, 0, none⟩) N N] 124)) (.cells #[.slice none 0 0] 101)
  have hd : Diff (fun _ => False) W (((W.alloc (.cells (madeCells #[.bool false] N) 4)).alloc (.cells #[.slice (some ⟨W.heap.size, 0, none⟩) N N] 124)).alloc (.cells #[.slice none 0 0] 101)) := (((Diff.refl W).alloc _).alloc _).alloc _
  have ol : ∀ {k o}, W.heap[k]? = some o → (((W.alloc (.cells (madeCells #[.bool false] N) 4)).alloc (.cells #[.slice (some ⟨W.heap.size, 0, none⟩) N N] 124)).alloc (.cells #[.slice none 0 0] 101)).heap[k]? = some o := fun {k o} hk => (hd.block k (Array.getElem?_eq_some_iff.1 hk).1 id).trans hk
  simp only [World.size_alloc] at h2 h3
  rw [show W.heap.size + 1 + 1 = s1 + N + 6 by omega] at h3
  obtain ⟨wv, hw, hv⟩ := h.rW
  refine ⟨h.pw.trans hd, ol h.bt, ol h.bS, h.rS.of_block (hd.block _ h.rS.lt id), ol h.bW, ⟨wv, hw.of_block (hd.block _ hw.lt id), fun k hk => (hv k hk).diff hd (fun _ h _ => h) (fun _ h => h.elim)⟩, ?_, ?_,
    ⟨.slice none 0 0, [], h3, World.ownsRow_nil _ _ _ _, (fun g hg => by cases hg), (fun i v hv => by simp at hv)⟩, fun g hg => hg.elim, hb⟩
  · rw [Below.heap_alloc _ _ _ (by simp; omega), show s1 + N + 4 = W.heap.size by omega, show s1 + N + 5 = W.heap.size + 1 by omega]
    exact h2
  · rw [show s1 + N + 4 = W.heap.size by omega]
    exact (h1.alloc _).alloc _

/-- The marks that loops over functions leave. -/
def marksD (Ds : List Nat) : List Deferred := Ds.map fun D => { target := .collected D, args := #[] }
def RD (Ds : List Nat) (O : Nat → Prop) (W : World) : Prop := ∀ D ∈ Ds, ¬ O D ∧ W.heap[D]? = some (.deferred (some []))
theorem RD.to {Ds : List Nat} {O O' M : Nat → Prop} {W W' : World} (h : RD Ds O W) (hd : Diff M W W') (hM : ∀ k, M k → O k) (hO : ∀ k, O' k → O k ∨ W.heap.size ≤ k) : RD Ds O' W' := by
  intro D hD
  obtain ⟨h1, h2⟩ := h D hD
  have hl := (Array.getElem?_eq_some_iff.1 h2).1
  refine ⟨fun ho => ?_, (hd.block D hl (fun hm => h1 (hM D hm))).trans h2⟩
  rcases hO D ho with h3 | h3
  · exact h1 h3
  · omega
theorem RD.pure {Ds : List Nat} {O : Nat → Prop} {W W' : World} (h : RD Ds O W) (hp : Pure W W') : RD Ds O W' := h.to hp (fun _ h => h.elim) (fun _ h => .inl h)
/-- A turn of a block of cells. -/
theorem RD.put {Ds : List Nat} {O : Nat → Prop} {W W' : World} {g t : Nat} {cs : Array Value} {fr : Nat × Nat} (h : RD Ds O W) (hg : W.heap[g]? = some (.cells cs t fr)) (hd : ∀ k, k < W.heap.size → k ≠ g → W'.heap[k]? = W.heap[k]?) : RD Ds O W' := by
  intro D hD
  obtain ⟨h1, h2⟩ := h D hD
  refine ⟨h1, (hd D (Array.getElem?_eq_some_iff.1 h2).1 (fun e => ?_)).trans h2⟩
  rw [e, hg] at h2
  cases h2
/-- How great sums can be. -/
def SmR (c : Int) (s : RS) : Prop := ∀ k, -c ≤ s.sums k ∧ s.sums k ≤ c
theorem SmR.step {E : Nat → Bn} {M N : Nat} {es : List ME} (hE : NetOf E M N es) {c : Int} {s : RS} (h : SmR c s) (q : Nat) (hq : q < M) (hc : 0 ≤ c) : SmR (c + 1000) (s.step (E q)) := by
  have hs := hE.sm q hq
  intro k
  have h1 := h k
  have h2 := h (E q).f.toNat
  unfold RS.step
  split
  · omega
  · split
    · show -(c + 1000) ≤ s.sums k ∧ s.sums k ≤ c + 1000
      omega
    · show -(c + 1000) ≤ (if k = (E q).t.toNat then _ else s.sums k) ∧ (if k = (E q).t.toNat then _ else s.sums k) ≤ c + 1000
      split <;> omega
theorem sums_to {E : Nat → Bn} {M N : Nat} {es : List ME} (hE : NetOf E M N es) {c : Int} {s : RS} (h : SmR c s) (hc : 0 ≤ c) : ∀ q, q ≤ M → SmR (c + 1000 * q) (s.to E q)
  | 0, _ => fun k => by have := h k; show -(c + 1000 * (0 : Nat)) ≤ s.sums k ∧ s.sums k ≤ c + 1000 * (0 : Nat); omega
  | q + 1, hq => fun k => by
    have := ((sums_to hE h hc q (by omega)).step hE q (by omega) (by omega)) k
    show -(c + 1000 * ((q + 1 : Nat) : Int)) ≤ ((s.to E q).step (E q)).sums k ∧ ((s.to E q).step (E q)).sums k ≤ _
    omega
theorem sums_pass {E : Nat → Bn} {M N : Nat} {es : List ME} (hE : NetOf E M N es) : ∀ k : Nat, SmR (1000 * ((k : Int) * M)) (passR E M N k).1
  | 0 => fun k => by simp [passR, RS.start]
  | k + 1 => by
    have h := sums_pass (N := N) hE k
    have h0 : (0 : Int) ≤ (k : Int) * M := Int.mul_nonneg (by omega) (by omega)
    have h1 : ((k + 1 : Nat) : Int) * M = (k : Int) * M + M := by rw [Int.natCast_add, Int.add_mul]; simp
    rw [h1, passR_succ]
    split
    · intro q; have := h q; omega
    · intro q
      have := sums_to hE (s := (passR E M N k).1.clr) (c := 1000 * ((k : Int) * M)) h (by omega) M (Nat.le_refl _) q
      show -(1000 * ((k : Int) * M + M)) ≤ ((passR E M N k).1.clr.to E M).sums q ∧ ((passR E M N k).1.clr.to E M).sums q ≤ 1000 * ((k : Int) * M + M)
      omega
theorem SmR.to {E : Nat → Bn} {M N k : Nat} {es : List ME} (hE : NetOf E M N es) (h : SmR (1000 * ((k : Int) * M)) (passR E M N k).1) (q : Nat) (hq : q ≤ M) : SmR (1000 * ((k : Int) * M + q)) ((passR E M N k).1.clr.to E q) := by
  intro j
  have h0 : (0 : Int) ≤ (k : Int) * M := Int.mul_nonneg (by omega) (by omega)
  have := sums_to hE (s := (passR E M N k).1.clr) h (by omega) q hq j
  omega
theorem step_cases (s : RS) (x : Bn) (F T : Nat) (v : Int) (hF : x.f.toNat = F) (hT : x.t.toNat = T) (ht : x.t = T) (hv : x.by' = v) :
    s.step x = if s.sums T ≤ s.sums F + v then s else match idxTo (nthI (s.ways F)) T (s.ways F).length with
      | some i => { s with found := s.found ++ [(s.ways F).drop i] }
      | none => { sums := fun k => if k = T then s.sums F + v else s.sums k, ways := fun k => if k = T then s.ways F ++ [(T : Int)] else s.ways k, marks := fun k => if k = T then true else s.marks k, found := s.found } := by
  unfold RS.step
  rw [hF, hT, ht, hv]
  split
  · rfl
  · cases idxTo (nthI (s.ways F)) (T : Int) (s.ways F).length <;> rfl
def DsOk (s1 : Nat) (Ds : List Nat) : Prop := Ds.Pairwise (· > ·) ∧ ∀ D ∈ Ds, s1 ≤ D
theorem leaves_marks {F : Fence} {n : Nat} {P : Program} {fn : Func} {tmps : Array Value} {R : Ending → World → Prop} : ∀ (Ds : List Nat) (W : World), RD Ds (fun _ => False) W → Ds.Pairwise (· > ·) →
    (∀ W', Diff (fun k => k ∈ Ds) W W' → LeavesIn F n P fn tmps R [] .returning W') → LeavesInM F n P fn tmps R (marksD Ds) .returning W
  | [], W, _, _, hfin => hfin W (Diff.refl W)
  | D :: Ds, W, h, hp, hfin => by
    refine ⟨by simp, .inl ⟨D, _, rfl, run_takeDeferred (h D (by simp)).2, leaves_marks Ds _ (fun D' hD' => ?_) (List.pairwise_cons.1 hp).2 (fun W' hd => hfin W' ?_)⟩⟩
    · have h1 := (List.pairwise_cons.1 hp).1 D' hD'
      exact ⟨id, (World.putObj_heap_other (by omega)).trans (h D' (by simp [hD'])).2⟩
    · exact ((Diff.refl W).putObj (O := fun k => k ∈ D :: Ds) (fun _ => by simp) _).trans (hd.mono (fun k _ hk => by simp [hk]))
theorem RI.leave {w W W' : World} {tv : Array Value} {s1 N : Nat} {s : RS} {Ds : List Nat} (h : RI w tv s1 N s (fun _ => False) W) (hr : RD Ds (fun _ => False) W) (hD : DsOk s1 Ds) (hd : Diff (fun k => k ∈ Ds) W W') :
    Pure w W' ∧ ∀ u n e vs, W.ownsRow s1 e 1 u n vs → W'.ownsRow w.heap.size e 1 u n vs := by
  have hb := h.base
  refine ⟨h.pw.trans' hd (fun k hk hm => by have := hD.2 k hm; omega), fun u n e vs hu => own_mono (own_block hu (fun k hk => hd.block k (hu.lt k hk).2 (fun hm => ?_))) (by omega)⟩
  have h1 := (hr k hm).2
  rcases hu.2 with ⟨rfl, -⟩ | ⟨g', c, cur, rfl, -, h2, -⟩
  · cases hk
  · simp only [Value.ownBlock, Option.some.injEq] at hk
    subst hk
    rw [h1] at h2
    cases h2
theorem heap_setCells_other (b g : Nat) (hg : g ≠ b) : ∀ (vs : List Value) (o : Nat) (w : World), (w.setCells b o vs).heap[g]? = w.heap[g]?
  | [], _, _ => rfl
  | v :: vs, o, w => by
    show ((w.setCell ⟨b, o, none⟩ v).setCells b (o + 1) vs).heap[g]? = _
    rw [heap_setCells_other b g hg vs (o + 1)]
    exact heap_setCell_other _ _ _ _ hg
theorem rowIs_clear (b t n : Nat) (v : Value) : ∀ (m o : Nat) (w : World) (f : Nat → Value), w.rowIs b t n f → (w.setCells b o (List.replicate m v)).rowIs b t n (fun j => if o ≤ j ∧ j < o + m then v else f j)
  | 0, o, w, f, h => h.congr (fun j _ => by rw [if_neg (by omega)])
  | m + 1, o, w, f, h => by
    have h1 := rowIs_clear b t n v m (o + 1) _ _ (h.set o v)
    refine World.rowIs.congr (show ((w.setCell ⟨b, o, none⟩ v).setCells b (o + 1) (List.replicate m v)).rowIs b t n _ from h1) (fun j _ => ?_)
    show (if o + 1 ≤ j ∧ j < o + 1 + m then v else if j = o then v else f j) = if o ≤ j ∧ j < o + (m + 1) then v else f j
    split
    · rw [if_pos (by omega)]
    · split
      · rw [if_pos (by omega)]
      · rw [if_neg (by omega)]
theorem size_setCells (b : Nat) : ∀ (vs : List Value) (o : Nat) (w : World), (w.setCells b o vs).heap.size = w.heap.size
  | [], _, _ => rfl
  | v :: vs, o, w => by
    show ((w.setCell ⟨b, o, none⟩ v).setCells b (o + 1) vs).heap.size = _
    rw [size_setCells b vs (o + 1)]; simp [World.setCell]
theorem Diff.setCells {O : Nat → Prop} {a : World} {b : Nat} (hb : b < a.heap.size → O b) : ∀ (vs : List Value) (o : Nat) (w : World), Diff O a w → Diff O a (w.setCells b o vs)
  | [], _, _, h => h
  | v :: vs, o, w, h => by
    show Diff O a ((w.setCell ⟨b, o, none⟩ v).setCells b (o + 1) vs)
    exact Diff.setCells hb vs (o + 1) _ (h.setCell (p := ⟨b, o, none⟩) hb _)
/-- A turn of one of the function's own blocks, of cells and of another kind than ways. -/
theorem RI.part {w W W' : World} {tv : Array Value} {s1 N g t : Nat} {s : RS} {O : Nat → Prop} {cs : Array Value} {fr : Nat × Nat} (h : RI w tv s1 N s O W) (hg : W.heap[g]? = some (.cells cs t fr)) (ht : t ≠ 3) (hg1 : s1 ≤ g) (hg2 : g < s1 + N + 7)
    (hd : Diff (fun k => k = g) W W') : (∀ (k : Nat) (v : Value) (l : List Int), OwnO O W s1 v l → OwnO O W' s1 v l) ∧ Pure w W' ∧ (∀ {k : Nat} {o : Obj}, k ≠ g → W.heap[k]? = some o → W'.heap[k]? = some o) ∧ (∀ u n vs, W.ownsRow (s1 + N + 7) 44 1 u n vs → W'.ownsRow (s1 + N + 7) 44 1 u n vs) := by
  have hb := h.base
  refine ⟨fun _ v l hv => hv.put hg ht (fun k hk hkg => hd.block k hk hkg), h.pw.trans' hd (fun k hk e => by omega), fun {k o} hk ho => (hd.block k (Array.getElem?_eq_some_iff.1 ho).1 hk).trans ho, fun u n vs hu => own_block hu (fun k hk => hd.block k (hu.lt k hk).2 (by have := (hu.lt k hk).1; omega))⟩
theorem RI.clear {w W : World} {tv : Array Value} {s1 N : Nat} {s : RS} {O : Nat → Prop} (h : RI w tv s1 N s O W) : RI w tv s1 N s.clr O (W.setCells (s1 + N + 4) 0 (List.replicate N (.bool false))) := by
  obtain ⟨cs, hcs, hcz, hcc⟩ := h.rM
  have hd : Diff (fun k => k = s1 + N + 4) W (W.setCells (s1 + N + 4) 0 (List.replicate N (.bool false))) := Diff.setCells (O := fun k => k = s1 + N + 4) (fun _ => rfl) _ _ _ (Diff.refl W)
  obtain ⟨p1, p2, p3, p4⟩ := h.part hcs (by omega) (by omega) (by omega) hd
  have hb := h.base
  obtain ⟨wv, hw, hv⟩ := h.rW
  obtain ⟨u, vs, f1, f2, f3, f4⟩ := h.rF
  refine ⟨p2, p3 (by omega) h.bt, p3 (by omega) h.bS, h.rS.of_block (hd.block _ h.rS.lt (by omega)), p3 (by omega) h.bW, ⟨wv, hw.of_block (hd.block _ hw.lt (by omega)), fun k hk => p1 k _ _ (hv k hk)⟩, p3 (by omega) h.bM, ?_,
    ⟨u, vs, p3 (by omega) f1, p4 _ _ _ f2, f3, fun i v hv => by obtain ⟨r, r1, r2⟩ := f4 i v hv; exact ⟨r, r1, p1 0 _ _ r2⟩⟩, h.off, hb⟩
  refine (rowIs_clear (s1 + N + 4) 4 N (.bool false) N 0 W _ h.rM).congr (fun j hj => ?_)
  rw [if_pos (by omega)]; rfl
theorem RI.found_step {w W3 Wx Wy : World} {tv : Array Value} {s1 N tb : Nat} {s : RS} {O : Nat → Prop} {u v2 : Value} {vs : List Value} {r : List Int} (h : RI w tv s1 N s O W3)
    (f1 : W3.heap[s1 + N + 6]? = some (.cells #[u] 101 (0, 0))) (f2 : W3.ownsRow (s1 + N + 7) 44 1 u s.found.length vs) (f3 : ∀ g, u.ownBlock = some g → ¬ O g) (f4 : ∀ (i : Nat) (v : Value), vs[i]? = some v → ∃ r, s.found[i]? = some r ∧ OwnO O W3 s1 v r)
    (hp : Pure W3 Wx) (ht : Wx.heap[tb]? = some (.cells (vals r).toArray 3 (0, 0))) (htb : W3.heap.size ≤ tb) (hrl : r.length ≤ 1000) (hgr : Wx.grownBy Wy u.ownBlock)
    (hown : Wy.ownsRow (s1 + N + 7) 44 1 v2 (s.found.length + 1) (vs ++ [.slice (some ⟨tb, 0, none⟩) r.length r.length])) (hat : v2.ownBlock = u.ownBlock ∨ v2.ownBlock = some Wx.heap.size) (hO : ∀ g, O g → g < W3.heap.size) :
    RI w tv s1 N { s with found := s.found ++ [r] } O (Wy.setCell ⟨s1 + N + 6, 0, none⟩ v2) ∧ Diff (fun k => ¬ k < w.heap.size ∧ ¬ O k) W3 (Wy.setCell ⟨s1 + N + 6, 0, none⟩ v2) ∧
    (∀ Ds, RD Ds O W3 → RD Ds O (Wy.setCell ⟨s1 + N + 6, 0, none⟩ v2)) := by
  have hb := h.base
  have hbig := h.big
  have hu0 : ∀ k, u.ownBlock = some k → s1 + N + 7 ≤ k ∧ k < W3.heap.size := f2.lt
  have hut : ∀ k, u.ownBlock = some k → ∃ cs, W3.heap[k]? = some (.cells cs 44 (0, 0)) := fun k hk => by
    rcases f2.2 with ⟨rfl, -⟩ | ⟨g', c, cur, rfl, -, h2, -⟩
    · cases hk
    · simp only [Value.ownBlock, Option.some.injEq] at hk
      subst hk
      exact ⟨cur, h2⟩
  have hsz1 := hp.size
  have hsz2 := hgr.size
  -- the blocks of W3 but for u's row and the box stand
  have hkeep : ∀ k, k < W3.heap.size → u.ownBlock ≠ some k → k ≠ s1 + N + 6 → (Wy.setCell ⟨s1 + N + 6, 0, none⟩ v2).heap[k]? = W3.heap[k]? := fun k hk h1 h2 => by
    rw [heap_setCell_other _ _ _ _ h2, hgr.block k (by omega) (fun e => h1 e.symm), hp.block k hk id]
  have hobj : ∀ {k o}, k < s1 + N + 6 → W3.heap[k]? = some o → (Wy.setCell ⟨s1 + N + 6, 0, none⟩ v2).heap[k]? = some o := fun {k o} hk ho => by
    rw [hkeep k (Array.getElem?_eq_some_iff.1 ho).1 (fun e => by have := (hu0 k e).1; omega) (by omega)]; exact ho
  have hrow : ∀ {k t n f}, k < s1 + N + 6 → W3.rowIs k t n f → (Wy.setCell ⟨s1 + N + 6, 0, none⟩ v2).rowIs k t n f := fun {k t n f} hk hr => hr.of_block (hkeep k hr.lt (fun e => by have := (hu0 k e).1; omega) (by omega))
  have how : ∀ {v l}, OwnO O W3 s1 v l → OwnO O (Wy.setCell ⟨s1 + N + 6, 0, none⟩ v2) s1 v l := fun {v l} hv => by
    refine ⟨own_block hv.1 (fun k hk => hkeep k (hv.1.lt k hk).2 (fun e => ?_) (fun e => ?_)), hv.2⟩
    · obtain ⟨c1, h1⟩ := hut k e
      obtain ⟨c2, h2⟩ := hv.block hk
      rw [h1] at h2
      simp only [Option.some.injEq, Obj.cells.injEq] at h2
      exact absurd h2.2.1 (by decide)
    · obtain ⟨c2, h2⟩ := hv.block hk
      rw [e, f1] at h2
      simp only [Option.some.injEq, Obj.cells.injEq] at h2
      exact absurd h2.2.1 (by decide)
  have hdiff : Diff (fun k => ¬ k < w.heap.size ∧ ¬ O k) W3 (Wy.setCell ⟨s1 + N + 6, 0, none⟩ v2) := by
    refine ⟨hgr.os.trans hp.os, hgr.tape.trans hp.tape, hgr.output.trans hp.output, by simp [World.setCell]; omega, fun k hk hM => hkeep k hk (fun e => hM ⟨by have := (hu0 k e).1; omega, f3 k e⟩) (fun e => hM ⟨by omega, fun ho => by have := h.off k ho; omega⟩)⟩
  obtain ⟨wv, hw, hv⟩ := h.rW
  have hbox : Wy.heap[s1 + N + 6]? = some (.cells #[u] 101 (0, 0)) := by
    rw [hgr.block _ (by omega) (fun e => by have := (hu0 _ e.symm).1; omega), hp.block _ (by omega) id]; exact f1
  have htbN : tb < Wx.heap.size := (Array.getElem?_eq_some_iff.1 ht).1
  refine ⟨⟨h.pw.trans' hdiff (fun k hk hM => absurd hk hM.1), hobj (by omega) h.bt, hobj (by omega) h.bS, hrow (by omega) h.rS, hobj (by omega) h.bW, ⟨wv, hrow (by omega) hw, fun k hk => how (hv k hk)⟩, hobj (by omega) h.bM, hrow (by omega) h.rM,
    ⟨v2, vs ++ [.slice (some ⟨tb, 0, none⟩) r.length r.length], heap_setCell_same Wy (s1 + N + 6) 0 #[u] 101 v2 hbox, ?_, fun g hg ho => ?_, fun i v hv => ?_⟩, h.off, hb⟩, hdiff, fun Ds hD D hDm => ?_⟩
  · have hne : ∀ k, v2.ownBlock = some k → k ≠ s1 + N + 6 := fun k hk e => by have := (hown.lt k hk).1; omega
    have := own_block hown (w' := Wy.setCell ⟨s1 + N + 6, 0, none⟩ v2) (fun k hk => heap_setCell_other _ _ _ _ (hne k hk))
    show World.ownsRow _ _ _ _ _ (s.found ++ [r]).length _
    rw [List.length_append]
    exact this
  · rcases hat with h1 | h1
    · exact f3 g (h1 ▸ hg) ho
    · rw [h1] at hg
      cases hg
      have := hO _ ho
      omega
  · by_cases hi : i < vs.length
    · rw [List.getElem?_append_left hi] at hv
      obtain ⟨r', h1, h2⟩ := f4 i v hv
      exact ⟨r', by rw [List.getElem?_append_left (List.getElem?_eq_some_iff.1 h1).1]; exact h1, how h2⟩
    · rw [List.getElem?_append_right (by omega)] at hv
      have hvl : vs.length = s.found.length := by have := f2.1; omega
      have hi0 : i - vs.length = 0 := by
        have := (List.getElem?_eq_some_iff.1 hv).1
        simp at this; omega
      rw [hi0] at hv
      simp only [List.getElem?_cons_zero, Option.some.injEq] at hv
      subst hv
      refine ⟨r, by rw [List.getElem?_append_right (by omega), ← hvl, hi0]; rfl, ⟨by simp [vals], .inr ⟨tb, r.length, (vals r).toArray, rfl, by omega, ?_, Nat.le_refl _, by simp only [maxLen]; omega, by simp [vals], ?_⟩⟩, fun g hg ho => ?_⟩
      · rw [heap_setCell_other _ _ _ _ (show tb ≠ s1 + N + 6 by omega), hgr.block tb htbN (fun e => by have := (hu0 tb e.symm).2; omega)]
        exact ht
      · show (vals r).toArray.toList.take (r.length * 1) = vals r
        rw [Nat.mul_one]
        exact List.take_of_length_le (by simp [vals])
      · simp only [Value.ownBlock, Option.some.injEq] at hg
        subst hg
        have := hO _ ho
        omega
  · obtain ⟨h1, h2⟩ := hD D hDm
    refine ⟨h1, ?_⟩
    rw [hkeep D (Array.getElem?_eq_some_iff.1 h2).1 (fun e => ?_) (fun e => ?_)]
    · exact h2
    · obtain ⟨c1, h3⟩ := hut D e
      rw [h2] at h3; cases h3
    · rw [e, f1] at h2; cases h2
theorem RI.way_step {w W3 Wx : World} {tv : Array Value} {s1 N T : Nat} {s : RS} {O : Nat → Prop} {v2 : Value} {l : List Int} (h : RI w tv s1 N s O W3) (hp : Pure W3 Wx) (hv2 : OwnO O Wx s1 v2 l) :
    RI w tv s1 N { s with ways := fun k => if k = T then l else s.ways k } O (Wx.setCell ⟨s1 + 2, T, none⟩ v2) ∧ Diff (fun k => ¬ k < w.heap.size ∧ ¬ O k) W3 (Wx.setCell ⟨s1 + 2, T, none⟩ v2) ∧
    (∀ Ds, RD Ds O W3 → RD Ds O (Wx.setCell ⟨s1 + 2, T, none⟩ v2)) := by
  have hx := h.pure hp
  have hb := h.base
  obtain ⟨wv, hw, hv⟩ := hx.rW
  obtain ⟨cs, hcs, hcz⟩ := hw
  have hd : Diff (fun k => k = s1 + 2) Wx (Wx.setCell ⟨s1 + 2, T, none⟩ v2) := (Diff.refl Wx).setCell (O := fun k => k = s1 + 2) (p := ⟨s1 + 2, T, none⟩) (fun _ => rfl) _
  obtain ⟨p1, p2, p3, p4⟩ := hx.part hcs (by omega) (by omega) (by omega) hd
  obtain ⟨u, vs, f1, f2, f3, f4⟩ := hx.rF
  have hO2 : ¬ O (s1 + 2) := fun ho => by have := h.off _ ho; omega
  refine ⟨⟨p2, p3 (by omega) hx.bt, p3 (by omega) hx.bS, hx.rS.of_block (hd.block _ hx.rS.lt (by omega)), p3 (by omega) hx.bW, ⟨fun j => if j = T then v2 else wv j, World.rowIs.set ⟨cs, hcs, hcz⟩ T v2, fun k hk => ?_⟩, p3 (by omega) hx.bM, hx.rM.of_block (hd.block _ hx.rM.lt (by omega)),
    ⟨u, vs, p3 (by omega) f1, p4 _ _ _ f2, f3, fun i v hv => by obtain ⟨r, r1, r2⟩ := f4 i v hv; exact ⟨r, r1, p1 0 _ _ r2⟩⟩, hx.off, hb⟩, ?_, fun Ds hD => (hD.pure hp).put hcs (fun k hk hkg => hd.block k hk hkg)⟩
  · show OwnO O _ s1 (if k = T then v2 else wv k) (if k = T then l else s.ways k)
    by_cases e : k = T
    · rw [if_pos e, if_pos e]; exact p1 0 _ _ hv2
    · rw [if_neg e, if_neg e]; exact p1 0 _ _ (hv k hk)
  · exact (hp.mono (fun _ _ h => h.elim)).trans' hd (fun k hk e => ⟨by omega, by rw [e]; exact hO2⟩)
theorem RI.sum_step {w W : World} {tv : Array Value} {s1 N T : Nat} {s : RS} {O : Nat → Prop} {x : Int} (h : RI w tv s1 N s O W) :
    RI w tv s1 N { s with sums := fun k => if k = T then x else s.sums k, marks := fun k => if k = T then true else s.marks k } O ((W.setCell ⟨s1, T, none⟩ (.int .i64 x)).setCell ⟨s1 + N + 4, T, none⟩ (.bool true)) ∧
    Diff (fun k => ¬ k < w.heap.size ∧ ¬ O k) W ((W.setCell ⟨s1, T, none⟩ (.int .i64 x)).setCell ⟨s1 + N + 4, T, none⟩ (.bool true)) ∧
    (∀ Ds, RD Ds O W → RD Ds O ((W.setCell ⟨s1, T, none⟩ (.int .i64 x)).setCell ⟨s1 + N + 4, T, none⟩ (.bool true))) := by
  have hb := h.base
  have hO : ∀ k, k < s1 + N + 7 → ¬ O k := fun k hk ho => by have := h.off _ ho; omega
  have one : RI w tv s1 N { s with sums := fun k => if k = T then x else s.sums k } O (W.setCell ⟨s1, T, none⟩ (.int .i64 x)) ∧ (∀ Ds, RD Ds O W → RD Ds O (W.setCell ⟨s1, T, none⟩ (.int .i64 x))) := by
    obtain ⟨cs, hcs, hcz⟩ := h.rS
    have hd : Diff (fun k => k = s1) W (W.setCell ⟨s1, T, none⟩ (.int .i64 x)) := (Diff.refl W).setCell (O := fun k => k = s1) (p := ⟨s1, T, none⟩) (fun _ => rfl) _
    obtain ⟨p1, p2, p3, p4⟩ := h.part hcs (by omega) (by omega) (by omega) hd
    obtain ⟨u, vs, f1, f2, f3, f4⟩ := h.rF
    obtain ⟨wv, hw, hv⟩ := h.rW
    refine ⟨⟨p2, p3 (by omega) h.bt, p3 (by omega) h.bS, ?_, p3 (by omega) h.bW, ⟨wv, hw.of_block (hd.block _ hw.lt (by omega)), fun k hk => p1 0 _ _ (hv k hk)⟩, p3 (by omega) h.bM, h.rM.of_block (hd.block _ h.rM.lt (by omega)),
      ⟨u, vs, p3 (by omega) f1, p4 _ _ _ f2, f3, fun i v hv => by obtain ⟨r, r1, r2⟩ := f4 i v hv; exact ⟨r, r1, p1 0 _ _ r2⟩⟩, h.off, hb⟩, fun Ds hD => hD.put hcs (fun k hk hkg => hd.block k hk hkg)⟩
    refine (World.rowIs.set h.rS T (.int .i64 x)).congr (fun j _ => ?_)
    show _ = Value.int .i64 (if j = T then x else s.sums j)
    split <;> rfl
  obtain ⟨h1, hr1⟩ := one
  obtain ⟨W1, hW1⟩ : ∃ W1, W.setCell ⟨s1, T, none⟩ (.int .i64 x) = W1 := ⟨_, rfl⟩
  have hd1 : Diff (fun k => ¬ k < w.heap.size ∧ ¬ O k) W W1 := by rw [← hW1]; exact (Diff.refl W).setCell (p := ⟨s1, T, none⟩) (fun _ => ⟨by show ¬ s1 < _; omega, hO s1 (by omega)⟩) _
  rw [hW1] at h1 hr1 ⊢
  obtain ⟨cs, hcs, hcz⟩ := h1.rM
  have hd : Diff (fun k => k = s1 + N + 4) W1 (W1.setCell ⟨s1 + N + 4, T, none⟩ (.bool true)) := (Diff.refl W1).setCell (O := fun k => k = s1 + N + 4) (p := ⟨s1 + N + 4, T, none⟩) (fun _ => rfl) _
  obtain ⟨p1, p2, p3, p4⟩ := h1.part hcs (by omega) (by omega) (by omega) hd
  obtain ⟨u, vs, f1, f2, f3, f4⟩ := h1.rF
  obtain ⟨wv, hw, hv⟩ := h1.rW
  refine ⟨⟨p2, p3 (by omega) h1.bt, p3 (by omega) h1.bS, h1.rS.of_block (hd.block _ h1.rS.lt (by omega)), p3 (by omega) h1.bW, ⟨wv, hw.of_block (hd.block _ hw.lt (by omega)), fun k hk => p1 0 _ _ (hv k hk)⟩, p3 (by omega) h1.bM, ?_,
      ⟨u, vs, p3 (by omega) f1, p4 _ _ _ f2, f3, fun i v hv => by obtain ⟨r, r1, r2⟩ := f4 i v hv; exact ⟨r, r1, p1 0 _ _ r2⟩⟩, h1.off, hb⟩, ?_, fun Ds hD => (hr1 Ds hD).put hcs (fun k hk hkg => hd.block k hk hkg)⟩
  · refine (World.rowIs.set h1.rM T (.bool true)).congr (fun j _ => ?_)
    show _ = Value.bool (if j = T then true else s.marks j)
    split <;> rfl
  · exact hd1.setCell (p := ⟨s1 + N + 4, T, none⟩) (fun _ => ⟨by show ¬ s1 + N + 4 < _; omega, hO (s1 + N + 4) (by omega)⟩) _
/-- Behind the append onto what was found. -/
def PApp (W3 : World) (s1 N : Nat) (u : Value) (vs : List Value) (m tb : Nat) (r : List Int) (v2 : Value) (Wy : World) : Prop :=
  ∃ Wx, Pure W3 Wx ∧ Wx.heap[tb]? = some (.cells (vals r).toArray 3 (0, 0)) ∧ W3.heap.size ≤ tb ∧ Wx.grownBy Wy u.ownBlock ∧ Wy.ownsRow (s1 + N + 7) 44 1 v2 (m + 1) (vs ++ [.slice (some ⟨tb, 0, none⟩) r.length r.length]) ∧ (v2.ownBlock = u.ownBlock ∨ v2.ownBlock = some Wx.heap.size)
theorem PApp.box {w W3 Wy : World} {tv : Array Value} {s1 N tb : Nat} {s : RS} {O : Nat → Prop} {u v2 : Value} {vs : List Value} {r : List Int} (hpa : PApp W3 s1 N u vs s.found.length tb r v2 Wy) (h : RI w tv s1 N s O W3)
    (f1 : W3.heap[s1 + N + 6]? = some (.cells #[u] 101 (0, 0))) (f2 : W3.ownsRow (s1 + N + 7) 44 1 u s.found.length vs) : Wy.cell? ⟨s1 + N + 6, 0, none⟩ = some u ∧ Wy.frozen? ⟨s1 + N + 6, 0, none⟩ = false := by
  obtain ⟨Wx, hp, -, -, hgr, -, -⟩ := hpa
  have hb := h.big
  have hbox : Wy.heap[s1 + N + 6]? = some (.cells #[u] 101 (0, 0)) := by
    rw [hgr.block _ (by have := hp.size; omega) (fun e => by have := (f2.lt _ e.symm).1; omega), hp.block _ (by omega) id]; exact f1
  exact ⟨by rw [cell_of_row Wy _ _ _ _ _ hbox]; rfl, frozen_of_row Wy _ _ _ _ hbox⟩
theorem PApp.fin {w W3 Wy : World} {tv : Array Value} {s1 N tb : Nat} {s : RS} {O : Nat → Prop} {u v2 : Value} {vs : List Value} {r : List Int} (hpa : PApp W3 s1 N u vs s.found.length tb r v2 Wy) (h : RI w tv s1 N s O W3)
    (f1 : W3.heap[s1 + N + 6]? = some (.cells #[u] 101 (0, 0))) (f2 : W3.ownsRow (s1 + N + 7) 44 1 u s.found.length vs) (f3 : ∀ g, u.ownBlock = some g → ¬ O g) (f4 : ∀ (i : Nat) (v : Value), vs[i]? = some v → ∃ r, s.found[i]? = some r ∧ OwnO O W3 s1 v r) (hrl : r.length ≤ 1000) (hO : ∀ g, O g → g < W3.heap.size) :
    RI w tv s1 N { s with found := s.found ++ [r] } O (Wy.setCell ⟨s1 + N + 6, 0, none⟩ v2) ∧ Diff (fun k => ¬ k < w.heap.size ∧ ¬ O k) W3 (Wy.setCell ⟨s1 + N + 6, 0, none⟩ v2) ∧ (∀ Ds, RD Ds O W3 → RD Ds O (Wy.setCell ⟨s1 + N + 6, 0, none⟩ v2)) := by
  obtain ⟨Wx, hp, ht, htb, hgr, hown, hat⟩ := hpa
  exact h.found_step f1 f2 f3 f4 hp ht htb hrl hgr hown hat hO
theorem info44' : ∃ i, Tryd.prog.info? 44 = some i ∧ i.zero = some (.slice none 0 0) ∧ i.size = 1 ∧ i.bytes = 24 := by
  have h : (Tryd.prog.info? 44).map (fun i => (i.zero, i.size, i.bytes)) = some (some (.slice none 0 0), 1, 24) := by kernel_rfl
  obtain ⟨i, hi, hzz⟩ := Option.map_eq_some_iff.1 h
  simp only [Prod.mk.injEq] at hzz
  exact ⟨i, hi, hzz.1, hzz.2.1, hzz.2.2⟩
theorem PApp.form {W3 Wy : World} {s1 N tb m : Nat} {u v2 : Value} {vs : List Value} {r : List Int} (h : PApp W3 s1 N u vs m tb r v2 Wy) : ∃ q k c, v2 = .slice q k c := by
  obtain ⟨Wx, -, -, -, -, hown, -⟩ := h
  rcases hown.2 with ⟨rfl, -⟩ | ⟨g', c, cur, rfl, -⟩
  · exact ⟨_, _, _, rfl⟩
  · exact ⟨_, _, _, rfl⟩
theorem operIn_append {F : Fence} {n : Nat} {P : Program} {o : Oper} {a : Act} {w : World} {K : Act → World → Prop} {Q : Exit → Act → World → Prop} (s x : Operand) (t : TypeId)
    (hop : o.op = Op.call { callee := Callee.builtin Builtin.append, args := #[s, x], argTypes := #[t, t] }) (vs vx : Value) (hs : a.eval s = vs) (hx : a.eval x = vx) (v' : Value) (w' : World)
    (hrun : (Builtin.append_ #[t, t] o.type #[vs, vx]).run P w = .ok v' w') (h : K (a.put o.dst v') w') : Oper.wpIn F n P o a w K Q := by
  unfold Oper.wpIn
  refine ⟨?_, ?_⟩
  · simp [Oper.about, hop, resolve, Target.leads, Sem.run_pure]
  · rw [Oper.semAt_plain F _ _ (by rw [hop]; intro c hc'; cases hc')]
    simp [execOp, hop, resolve, invoke, builtin, hs, hx, hrun, Result.andThen]
    exact h
theorem found_len_step (s : RS) (x : Bn) : (s.step x).found.length ≤ s.found.length + 1 := by
  unfold RS.step
  split
  · omega
  · split
    · simp
    · show s.found.length ≤ _; omega
theorem found_len_to (E : Nat → Bn) (s : RS) : ∀ q, (s.to E q).found.length ≤ s.found.length + q
  | 0 => Nat.le_refl _
  | q + 1 => by
    have h1 := found_len_to E s q
    have h2 := found_len_step (s.to E q) (E q)
    show ((s.to E q).step (E q)).found.length ≤ _
    omega
theorem found_len_pass (E : Nat → Bn) (M N : Nat) : ∀ k, (passR E M N k).1.found.length ≤ k * M
  | 0 => by simp [passR, RS.start]
  | k + 1 => by
    have h := found_len_pass E M N k
    have h1 : (k + 1) * M = k * M + M := by rw [Nat.add_mul]; simp
    rw [h1, passR_succ]
    split
    · omega
    · have := found_len_to E (passR E M N k).1.clr M
      show ((passR E M N k).1.clr.to E M).found.length ≤ _
      have h2 : (passR E M N k).1.clr.found = (passR E M N k).1.found := rfl
      rw [h2] at this
      omega
/-- Behind the append onto a way. -/
theorem way_append {O : Nat → Prop} {W W' : World} {s1 : Nat} {v2 : Value} {l : List Int} (hown : W'.ownsRow W.heap.size 3 1 v2 l.length (vals l)) (hgr : W.grownBy W' none) (hs : s1 ≤ W.heap.size) (hO : ∀ k, O k → k < W.heap.size) : OwnO O W' s1 v2 l ∧ Pure W W' :=
  ⟨⟨own_mono hown hs, fun g hg ho => by have := (hown.lt g hg).1; have := hO g ho; omega⟩, ⟨hgr.os, hgr.tape, hgr.output, hgr.size, fun k hk _ => hgr.block k hk (by simp)⟩⟩
theorem OwnO.shape {O : Nat → Prop} {W : World} {B : Nat} {v : Value} {l : List Int} (h : OwnO O W B v l) : ∃ q k c, v = .slice q k c := by
  rcases h.1.2 with ⟨rfl, -⟩ | ⟨g', c, cur, rfl, -⟩
  · exact ⟨_, _, _, rfl⟩
  · exact ⟨_, _, _, rfl⟩

theorem zero4 (w : World) : (zeroValue 4).run Tryd.prog w = .ok (.bool false) w := by kernel_rfl
theorem info44 : (Tryd.prog.info? 44).map (fun i => (i.zero, i.size, i.bytes)) = some (some (.slice none 0 0), 1, 24) := by kernel_rfl
theorem info4 : (Tryd.prog.info? 4).map (fun i => (i.zero, i.size, i.bytes)) = some (some (.bool false), 1, 1) := by kernel_rfl

set_option maxRecDepth 20000 in
set_option maxHeartbeats 4000000 in
theorem rounds_any (w : World) (b : BK) (p : Option Addr) (cap : Nat) (hv : b.Valid) (hb : BookAt w.heap.size w p b) (hg : Gl w) (N : Nat) (hN : (N : Int) = 1 + b.lots + b.total) :
    Calls Tryd.prog 82 #[.agg #[.int .i64 b.lo, .int .i64 b.hi, .int .i64 b.lots, .slice p b.n cap]] w fun e w' => ∃ (u : Value) (vs : List Value), e = .returned u ∧ Pure w w' ∧ w'.ownsRow w.heap.size 44 1 u (foundR b.bn b.bnN N).length vs ∧ ∀ (i : Nat) (v : Value), vs[i]? = some v → ∃ r, (foundR b.bn b.bnN N)[i]? = some r ∧ w'.ownsRow w.heap.size 3 1 v r.length (vals r) := by
  refine (callsIn_wide (n := 0)).1 ?_
  have hro : Fence.wide.round = none := rfl
  refine callsIn_of_wp_marks (n := 0) Tryd.func82 rfl trivial ?_ hro
  simp only [Tryd.ntmps82, List.size_toArray, List.length_cons, List.length_nil, Nat.reduceAdd, Nat.reduceSub, Array.replicate_succ, Array.replicate_zero, List.push_toArray, List.append_toArray, List.nil_append, List.cons_append]
  gi_wp2_with fail
  obtain ⟨X, hX⟩ : ∃ X, w.alloc (.cells (bookC b p cap) 82) = X := ⟨_, rfl⟩
  have hPX : Pure w X := by rw [← hX]; exact (Diff.refl w).alloc _
  have hX1 : X.heap[w.heap.size]? = some (.cells (bookC b p cap) 82 (0, 0)) := by rw [← hX]; exact World.alloc_heap_new _ _
  have hBl : w.heap.size < X.heap.size := (Array.getElem?_eq_some_iff.1 hX1).1
  have hC0 : X.cell? ⟨w.heap.size, 0, none⟩ = some (.int .i64 b.lo) := by rw [cell_of_row X _ _ _ _ _ hX1]; rfl
  have hC1 : X.cell? ⟨w.heap.size, 1, none⟩ = some (.int .i64 b.hi) := by rw [cell_of_row X _ _ _ _ _ hX1]; rfl
  have hC2 : X.cell? ⟨w.heap.size, 2, none⟩ = some (.int .i64 b.lots) := by rw [cell_of_row X _ _ _ _ _ hX1]; rfl
  have hC3 : X.cell? ⟨w.heap.size, 3, none⟩ = some (.slice p b.n cap) := by rw [cell_of_row X _ _ _ _ _ hX1]; rfl
  rw [hX]
  clear hX
  refine wpIn_scope ?_
  gi_wp2_with fail
  have hl1 := hv.lots1
  have hl6 := hv.lots6
  have h12 := hv.tot
  refine ⟨trivial, rfl, callsIn_wide.2 ((names_any X b p cap hv.small ((hb.diff hPX (Nat.le_refl _) (fun _ _ => id)).mono hPX.size) (by omega) (by omega)).mono ?_)⟩
  rintro e w1 ⟨rfl, hp1⟩
  rw [← hN]
  have hP1 : Hid (Pure w w1) := hPX.trans hp1
  have hB1 : w1.heap[w.heap.size]? = some (.cells (bookC b p cap) 82 (0, 0)) := (hp1.block _ hBl id).trans hX1
  have hBl1 : w.heap.size < w1.heap.size := (Array.getElem?_eq_some_iff.1 hB1).1
  have hN19 : N ≤ 19 := by omega
  have hN1 : 1 ≤ N := by omega
  clear hX1 hPX hp1 hC0 hC1 hC2 hC3 hBl
  have HB1 := Lib.hid hB1
  clear hB1
  have HN := Lib.hid hN
  clear hN
  have HHB := Lib.hid hb
  have HG := Lib.hid hg
  clear hb hg
  have hmk1 := run_make_row' (P := Tryd.prog) 27 2 (.int .i64 0) 8 Tryd.underlying27 info2 rfl .i64 .i64 N (by omega) (by omega)
  have hmk2 := run_make_row' (P := Tryd.prog) 101 44 (.slice none 0 0) 24 Tryd.underlying101 info44 rfl .i64 .i64 N (by omega) (by omega)
  have hmk3 := run_make_row' (P := Tryd.prog) 124 4 (.bool false) 1 Tryd.underlying124 info4 rfl .i64 .i64 N (by omega) (by omega)
  gi_wp2_with fail
  obtain ⟨s1, hs1⟩ : ∃ s1, w1.heap.size = s1 := ⟨_, rfl⟩
  rw [hs1] at hBl1 ⊢
  obtain ⟨Y, hY⟩ : ∃ Y, ((((w1.alloc (Obj.cells (madeCells #[Value.int IntKind.i64 0] N) 2)).alloc (Obj.cells #[Value.slice (some { block := s1, off := 0 }) N N] 27)).alloc (Obj.cells (madeCells #[Value.slice none 0 0] N) 44)).alloc (Obj.cells #[Value.slice (some { block := s1 + 1 + 1, off := 0 }) N N] 101)) = Y := ⟨_, rfl⟩
  have hYI : PI w (bookC b p cap) s1 N 0 Y := by rw [← hY]; exact PI.start HB1.out hP1.out hs1
  rw [hY]
  clear hY hmk1 hmk2 hP1 HB1 hs1
  have HBL := Lib.hid hBl1
  gi_loopw [6, 24] (fun _ i wr => ∃ k : Nat, k ≤ N ∧ i = .int .i64 k ∧ PI w (bookC b p cap) s1 N k wr) (fun _ i _ => N - (intOf i).toNat)
  case atStart => exact ⟨0, Nat.zero_le _, rfl, hYI⟩
  case round =>
    obtain ⟨k, hk, rfl, hI⟩ := hrel
    clear hYI hBl1
    by_cases hlt : k < N
    · have hki : (k : Int) < N := by omega
      have hk0 : (0 : Int) ≤ k := by omega
      have hbig := hI.big
      have z0 : wr.cell? ⟨s1 + 1 + 1 + 1, 0, none⟩ = some (.slice (some ⟨s1 + 1 + 1, 0, none⟩) N N) := by rw [cell_of_row wr _ _ _ _ _ hI.bW]; rfl
      have zl : ∃ v0, wr.cell? ⟨s1 + 1 + 1, k, none⟩ = some v0 := by obtain ⟨wv, hw, -⟩ := hI.rW; exact ⟨_, hw.cell hlt⟩
      have zf : wr.frozen? ⟨s1 + 1 + 1, k, none⟩ = false := by obtain ⟨wv, hw, -⟩ := hI.rW; exact hw.frozen k
      obtain ⟨v0, zl⟩ := zl
      have hsz : s1 + 1 + 1 < wr.heap.size := by omega
      have HI := Lib.hid hI
      clear hI
      gi_wp2_with fail
      exact ⟨⟨k + 1, by omega, rfl, HI.out.step hlt⟩, by simp [intOf]; omega⟩
    · obtain rfl : N = k := by omega
      have hbig := hI.big
      have HI := Lib.hid hI
      clear hI
      gi_wp2_with fail
      refine wpIn_label ?_
      obtain ⟨gM, hgM⟩ : ∃ gM, wr.heap.size = gM := ⟨_, rfl⟩
      obtain ⟨Z, hZ⟩ : ∃ Z, (((wr.alloc (Obj.cells (madeCells #[Value.bool false] N) 4)).alloc (Obj.cells #[Value.slice (some { block := wr.heap.size, off := 0 }) N N] 124)).alloc (Obj.cells #[Value.slice none 0 0] 101)) = Z := ⟨_, rfl⟩
      have hRI : RI w (bookC b p cap) s1 N RS.start (fun _ => False) Z := by rw [← hZ]; exact RI.start HI.out
      have HGM : Hid (gM = s1 + N + 4) := by show _ = _; have := HI.out.size; omega
      rw [hZ, hgM]
      clear hgM hbig hmk3 hZ HI hlt hk
      obtain ⟨gW, hgW⟩ : ∃ gW, s1 + 1 + 1 = gW := ⟨_, rfl⟩
      have HGW : Hid (gW = s1 + 2) := hgW.symm
      rw [hgW]
      clear hgW
      gi_wp2_with fail
      refine wpIn_loop (fun a W => ∃ (k : Nat) (Ds : List Nat) (u15 u37 u38 u39 u40 u98 u99 u100 u101 u102 u103 u104 u105 u106 : Value), a = { tmps := #[Value.agg #[Value.int IntKind.i64 b.lo, Value.int IntKind.i64 b.hi, Value.int IntKind.i64 b.lots, Value.slice p b.n cap], Value.pointer (some { block := w.heap.size, off := 0 }), Value.slice none 0 0, Value.int IntKind.i64 ↑N, Value.pointer (some { block := s1 + 1, off := 0 }), Value.pointer (some { block := gW + 1, off := 0 }), u6, Value.pointer (some { block := gM + 1, off := 0 }), Value.pointer (some { block := gM + 1 + 1, off := 0 }), undef, undef, undef, undef, undef, undef, u15, Value.agg #[Value.int IntKind.i64 b.lo, Value.int IntKind.i64 b.hi, Value.int IntKind.i64 b.lots, Value.slice p b.n cap], Value.int IntKind.i64 ↑N, Value.int IntKind.i64 ↑N, Value.slice (some { block := s1, off := 0 }) N N, Value.int IntKind.i64 ↑N, Value.slice (some { block := gW, off := 0 }) N N, Value.slice (some { block := gW, off := 0 }) N N, Value.int IntKind.i64 ↑N, Value.int IntKind.i64 ↑N, Value.bool false, u26, u27, u28, u29, u30, u31, u32, Value.int IntKind.i64 ↑N, Value.slice (some { block := gM, off := 0 }) N N, Value.int IntKind.i64 ↑N, Value.int IntKind.i64 ↑k, u37, u38, u39, u40, undef, undef, undef, undef, undef, undef, undef, undef, undef, undef, undef, undef, undef, undef, undef, undef, undef, undef, undef, undef, undef, undef, undef, undef, undef, undef, undef, undef, undef, undef, undef, undef, undef, undef, undef, undef, undef, undef, undef, undef, undef, undef, undef, undef, undef, undef, undef, undef, undef, undef, undef, undef, undef, undef, undef, undef, undef, u98, u99, u100, u101, u102, u103, u104, u105, u106, undef], defers := marksD Ds } ∧ k ≤ N ∧ (passR b.bn b.bnN N k).2 = false ∧ RI w (bookC b p cap) s1 N (passR b.bn b.bnN N k).1 (fun _ => False) W ∧ RD Ds (fun _ => False) W ∧ DsOk s1 Ds) (fun a W => N - (intOf (a.tmps.getD 36 undef)).toNat) ?start ?round
      case start => exact ⟨0, [], _, _, _, _, _, _, _, _, _, _, _, _, _, _, rfl, Nat.zero_le _, rfl, hRI, (fun D hD => by cases hD), List.Pairwise.nil, (fun D hD => by cases hD)⟩
      case round =>
        clear hRI
        rintro a W ⟨k, Ds, u15, u37, u38, u39, u40, u98, u99, u100, u101, u102, u103, u104, u105, u106, rfl, hk, hst, hRI, hRD, hDs⟩
        by_cases hlt : k < N
        · have hki : (k : Int) < N := by omega
          have zM : W.cell? ⟨gM + 1, 0, none⟩ = some (.slice (some ⟨gM, 0, none⟩) N N) := by
            have h := hRI.bM
            rw [show s1 + N + 5 = gM + 1 by have := HGM.out; omega, show s1 + N + 4 = gM from HGM.out.symm] at h
            rw [cell_of_row W _ _ _ _ _ h]; rfl
          have hrM := hRI.rM
          rw [show s1 + N + 4 = gM from HGM.out.symm] at hrM
          have hcl : ∀ ty, (Builtin.clear_ #[124] ty #[.slice (some ⟨gM, 0, none⟩) N N]).run Tryd.prog W = .ok (.tuple #[]) (W.setCells gM 0 (List.replicate N (.bool false))) :=
            fun ty => Lib.run_clear_slice W 124 4 ty (.bool false) Tryd.underlying124 zero4 rfl rfl gM 0 N N (by omega) (fun j hj => by rw [show 0 + j = j by omega, hrM.cell hj]; rfl) (fun j hj => hrM.frozen _)
          have hRIc := hRI.clear
          rw [show s1 + N + 4 = gM from HGM.out.symm] at hRIc
          have hRDc : RD Ds (fun _ => False) (W.setCells gM 0 (List.replicate N (.bool false))) := by
            obtain ⟨cs, hcs, -⟩ := hrM
            exact hRD.put hcs (fun k _ hk => heap_setCells_other _ _ hk _ _ _)
          obtain ⟨Wc, hWc⟩ : ∃ Wc, W.setCells gM 0 (List.replicate N (.bool false)) = Wc := ⟨_, rfl⟩
          rw [hWc] at hRIc hRDc hcl
          have hl0 := (Array.getElem?_eq_some_iff.1 hRIc.bt).1
          have c0 : Wc.cell? ⟨w.heap.size, 0, none⟩ = some (.int .i64 b.lo) := by rw [cell_of_row Wc _ _ _ _ _ hRIc.bt]; rfl
          have c1 : Wc.cell? ⟨w.heap.size, 1, none⟩ = some (.int .i64 b.hi) := by rw [cell_of_row Wc _ _ _ _ _ hRIc.bt]; rfl
          have c2 : Wc.cell? ⟨w.heap.size, 2, none⟩ = some (.int .i64 b.lots) := by rw [cell_of_row Wc _ _ _ _ _ hRIc.bt]; rfl
          have c3 : Wc.cell? ⟨w.heap.size, 3, none⟩ = some (.slice p b.n cap) := by rw [cell_of_row Wc _ _ _ _ _ hRIc.bt]; rfl
          have HRI := Lib.hid hRIc
          have HRD := Lib.hid hRDc
          have HDS := Lib.hid hDs
          have HST := Lib.hid hst
          clear hRI hRD hDs hst hrM hRIc hRDc hWc
          gi_wp2_with (simp only [hcl])
          have hmx : Tryd.prog.follows .mixedOrders = true := by kernel_rfl
          have hE := b.netOf hv N HN.out
          have hWpw := HRI.out.pw
          have hsz0 := HRI.out.base
          have hbigc := HRI.out.big
          refine range_law (f := 95) (A := fun y => #[.agg #[.int .i64 b.lo, .int .i64 b.hi, .int .i64 b.lots, .slice p b.n cap], y]) (n := b.bnN) (es := fun i => (b.bn i).e) (R := fun k => k < w.heap.size) (W0 := Wc)
            ?call (bounds_iter Wc b p cap w.heap.size hv (HHB.out.diff hWpw (Nat.le_refl _) (fun _ _ => id)) hWpw.size (HG.out.diff hWpw (fun _ _ => id)) HG.out.sz) (fun k hk => by omega) (Diff.refl _) (fun _ _ => rfl)
            (fun i O W => RI w (bookC b p cap) s1 N ((passR b.bn b.bnN N k).1.clr.to b.bn i) O W ∧ RD Ds O W ∧ Wc.heap.size ≤ W.heap.size) (fun _ _ => False) (fun i => ?stab) (fun _ _ _ _ h _ _ => h.elim) ?start
            (fun i W1 a' W' => a' = { tmps := #[Value.agg #[Value.int IntKind.i64 b.lo, Value.int IntKind.i64 b.hi, Value.int IntKind.i64 b.lots, Value.slice p b.n cap], Value.pointer (some { block := w.heap.size, off := 0 }), Value.slice none 0 0, Value.int IntKind.i64 ↑N, Value.pointer (some { block := s1 + 1, off := 0 }), Value.pointer (some { block := gW + 1, off := 0 }), u6, Value.pointer (some { block := gM + 1, off := 0 }), Value.pointer (some { block := gM + 1 + 1, off := 0 }), Value.pointer (some { block := W1.heap.size, off := 0 }), Value.int IntKind.i64 (b.bn i).by', undef, undef, undef, undef, u15, Value.agg #[Value.int IntKind.i64 b.lo, Value.int IntKind.i64 b.hi, Value.int IntKind.i64 b.lots, Value.slice p b.n cap], Value.int IntKind.i64 ↑N, Value.int IntKind.i64 ↑N, Value.slice (some { block := s1, off := 0 }) N N, Value.int IntKind.i64 ↑N, Value.slice (some { block := gW, off := 0 }) N N, Value.slice (some { block := gW, off := 0 }) N N, Value.int IntKind.i64 ↑N, Value.int IntKind.i64 ↑N, Value.bool false, u26, u27, u28, u29, u30, u31, u32, Value.int IntKind.i64 ↑N, Value.slice (some { block := gM, off := 0 }) N N, Value.int IntKind.i64 ↑N, Value.int IntKind.i64 ↑k, Value.bool true, Value.slice (some { block := gM, off := 0 }) N N, Value.agg #[Value.int IntKind.i64 b.lo, Value.int IntKind.i64 b.hi, Value.int IntKind.i64 b.lots, Value.slice p b.n cap], Value.func (Fn.func 95) #[Value.agg #[Value.int IntKind.i64 b.lo, Value.int IntKind.i64 b.hi, Value.int IntKind.i64 b.lots, Value.slice p b.n cap]] #[], Value.agg #[Value.int IntKind.i64 (b.bn i).f, Value.int IntKind.i64 (b.bn i).t], Value.int IntKind.i64 (b.bn i).by', undef, undef, undef, undef, undef, undef, undef, undef, undef, undef, undef, undef, undef, undef, undef, undef, undef, undef, undef, undef, undef, undef, undef, undef, undef, undef, undef, undef, undef, undef, undef, undef, undef, undef, undef, undef, undef, undef, undef, undef, undef, undef, undef, undef, undef, undef, undef, undef, undef, undef, undef, undef, undef, undef, undef, u98, u99, u100, u101, u102, u103, u104, u105, u106, undef], defers := [] } ∧ W'.heap[W1.heap.size]? = some (.cells #[.int .i64 (b.bn i).f, .int .i64 (b.bn i).t] 106 (0, 0)))
            ?bx ?assign ?body ?done (fun _ _ _ h => h.elim)
          case call =>
            intro l' W'
            exact ⟨{ target := .fn (.func 95) #[], args := #[.agg #[.int .i64 b.lo, .int .i64 b.hi, .int .i64 b.lots, .slice p b.n cap], .func (.yield l') #[] #[]] }, by simp only [resolve, rangeCall]; simp [go_sem], by simp [invoke, go_sem, enters_of Tryd.func95 (by kernel_rfl) rfl]⟩
          case stab =>
            rintro O O' x y ⟨h1, h2, h3⟩ hd hO
            exact ⟨h1.to hd (fun _ h => h) hO, h2.to hd (fun _ h => h) hO, Nat.le_trans h3 hd.size⟩
          case start => exact ⟨HRI.out, HRD.out, Nat.le_refl _⟩
          case bx =>
            rintro i W1 a' W' L o ⟨h1, h2⟩ hL
            exact ⟨h1, (World.putObj_heap_other (by omega)).trans h2⟩
          case assign =>
            intro l' i O W1 hi hI
            gi_wp2
            exact ⟨(Diff.refl _).alloc _, by first | rfl | trivial, World.alloc_heap_new _ _⟩
          case body =>
            rintro l' i O W1 a' W' hi ⟨hI, hRDi, hsz1⟩ hdo hOb hs1' hs2' ⟨rfl, hcp⟩
            have hR := hI.to hdo (fun _ h => h) (fun _ h => .inl h)
            have hD := hRDi.to hdo (fun _ h => h) (fun _ h => .inl h)
            obtain ⟨Bp, hBp⟩ : ∃ Bp, W1.heap.size = Bp := ⟨_, rfl⟩
            rw [hBp] at hcp ⊢
            have hBO : ¬ O Bp := fun h => by have := (hOb _ h).2; omega
            have hBb : s1 + N + 7 ≤ Bp := by omega
            have hlp : Bp < W'.heap.size := (Array.getElem?_eq_some_iff.1 hcp).1
            have HSZ : Hid (Wc.heap.size ≤ W'.heap.size) := Nat.le_trans hsz1 hdo.size
            have hInv := (RInv.pass (N := N) hE k).clr.to hE i (by omega)
            have hSm := (sums_pass hE k).to hE i (by omega)
            have hstep : Hid ((passR b.bn b.bnN N k).1.clr.to b.bn (i + 1) = ((passR b.bn b.bnN N k).1.clr.to b.bn i).step (b.bn i)) := rfl
            obtain ⟨s, hs⟩ : ∃ s, (passR b.bn b.bnN N k).1.clr.to b.bn i = s := ⟨_, rfl⟩
            rw [hs] at hR hInv hSm hstep
            obtain ⟨F, hF⟩ := Int.eq_ofNat_of_zero_le (hE.f0 i hi).1
            obtain ⟨T, hT⟩ := Int.eq_ofNat_of_zero_le (hE.t0 i hi).1
            obtain ⟨v, hV⟩ : ∃ v, (b.bn i).by' = v := ⟨_, rfl⟩
            have hFN : F < N := by have := (hE.f0 i hi).2; omega
            have hTN : T < N := by have := (hE.t0 i hi).2; omega
            have hv1 := (hE.sm i hi).1
            have hv2 := (hE.sm i hi).2
            rw [hV] at hv1 hv2
            have HF := Lib.hid hF
            have HT := Lib.hid hT
            have HV := Lib.hid hV
            rw [hF, hT, hV]
            rw [hF, hT] at hcp
            have hSt := Lib.hid (step_cases s (b.bn i) F T v (by rw [hF]; rfl) (by rw [hT]; rfl) hT hV)
            have hsF := hSm F
            have hM60 : b.bnN ≤ 60 := by
              obtain ⟨L, hL⟩ := Int.eq_ofNat_of_zero_le (show 0 ≤ b.lots by omega)
              unfold BK.bnN; rw [b.rgN_eq L hL]; omega
            have hcap : 1000 * ((k : Int) * b.bnN + i) ≤ 2000000 := by
              have h1 : (k : Int) * b.bnN ≤ 19 * 60 := by
                have : k * b.bnN ≤ 19 * 60 := Nat.mul_le_mul (by omega) hM60
                exact_mod_cast this
              omega
            have hfl : s.found.length ≤ 10000000 := by
              have h1 := found_len_to b.bn (passR b.bn b.bnN N k).1.clr i
              have h2 := found_len_pass b.bn b.bnN N k
              have h3 : (passR b.bn b.bnN N k).1.clr.found = (passR b.bn b.bnN N k).1.found := rfl
              have h4 : k * b.bnN ≤ 19 * 60 := Nat.mul_le_mul (by omega) hM60
              rw [hs, h3] at h1
              omega
            have hsF1 : -2000000 ≤ s.sums F := by omega
            have hsF2 : s.sums F ≤ 2000000 := by omega
            clear hsF hSm hM60 hcap hF hT hV hs hI hRDi hdo hsz1
            obtain ⟨wv, hw, hwv⟩ := hR.rW
            have hway := hInv.way F hFN
            obtain ⟨g, c, hwF, hg1, hg2, hnc, hgO, hgc⟩ := (hwv F hFN).form hway.pos
            obtain ⟨l, hl⟩ : ∃ l, s.ways F = l := ⟨_, rfl⟩
            rw [hl] at hwF hnc hgc hway hSt
            obtain ⟨n, hn⟩ : ∃ n, l.length = n := ⟨_, rfl⟩
            rw [hn] at hwF hnc
            have hn1 : 1 ≤ n := by rw [← hn]; exact hway.pos
            have hn19 : n ≤ 19 := by have := hway.len; omega
            obtain ⟨sf, hsf⟩ : ∃ sf, s.sums F = sf := ⟨_, rfl⟩
            rw [hsf] at hsF1 hsF2 hSt
            have zW : W'.drew.cell? ⟨gW + 1, 0, none⟩ = some (.slice (some ⟨gW, 0, none⟩) N N) := by
              have h := hR.bW
              rw [show s1 + 3 = gW + 1 by have := HGW.out; omega, show s1 + 2 = gW from HGW.out.symm] at h
              show W'.cell? _ = _
              rw [cell_of_row W' _ _ _ _ _ h]; rfl
            have zw : W'.drew.cell? ⟨gW, F, none⟩ = some (.slice (some ⟨g, 0, none⟩) n c) := by
              rw [← hwF]
              have := hw.cell hFN
              rw [show s1 + 2 = gW from HGW.out.symm] at this
              exact this
            have zS : W'.drew.cell? ⟨s1 + 1, 0, none⟩ = some (.slice (some ⟨s1, 0, none⟩) N N) := by
              show W'.cell? _ = _
              rw [cell_of_row W' _ _ _ _ _ hR.bS]; rfl
            have zs : W'.drew.cell? ⟨s1, F, none⟩ = some (.int .i64 sf) := by
              rw [← hsf]
              exact hR.rS.cell hFN
            have zt : W'.drew.cell? ⟨s1, T, none⟩ = some (.int .i64 (s.sums T)) := hR.rS.cell hTN
            have zp0 : W'.drew.cell? ⟨Bp, 0, none⟩ = some (.int .i64 F) := by show W'.cell? _ = _; rw [cell_of_row W' _ _ _ _ _ hcp]; rfl
            have zp1 : W'.drew.cell? ⟨Bp, 1, none⟩ = some (.int .i64 T) := by show W'.cell? _ = _; rw [cell_of_row W' _ _ _ _ _ hcp]; rfl
            have hFi : (F : Int) < N := by omega
            have hTi : (T : Int) < N := by omega
            obtain ⟨Wd, hWd⟩ : ∃ Wd, W'.drew = Wd := ⟨_, rfl⟩
            have HPd : Hid (Pure W' Wd) := by rw [← hWd]; exact (Diff.refl W').drew
            rw [hWd] at zW zw zS zs zt zp0 zp1
            have HR := Lib.hid hR
            have HD := Lib.hid hD
            have HCP := Lib.hid hcp
            have HW := Lib.hid hw
            have HWV := Lib.hid hwv
            have HINV := Lib.hid hInv
            have HWAY := Lib.hid hway
            have HN' := Lib.hid hn
            have HL := Lib.hid hl
            have HGC := Lib.hid hgc
            have HSF := Lib.hid hsf
            clear hR hD hcp hw hwv hInv hway hn hl hgc hsf hwF
            gi_wp2
            refine reg_inv (fun d a W2 => a = { tmps := #[Value.agg #[Value.int IntKind.i64 b.lo, Value.int IntKind.i64 b.hi, Value.int IntKind.i64 b.lots, Value.slice p b.n cap], Value.pointer (some { block := w.heap.size, off := 0 }), Value.slice none 0 0, Value.int IntKind.i64 ↑N, Value.pointer (some { block := s1 + 1, off := 0 }), Value.pointer (some { block := gW + 1, off := 0 }), u6, Value.pointer (some { block := gM + 1, off := 0 }), Value.pointer (some { block := gM + 1 + 1, off := 0 }), Value.pointer (some { block := Bp, off := 0 }), Value.int IntKind.i64 v, (bif d 12 then Value.slice (some { block := g, off := 0 }) n c else undef), (bif d 13 then Value.int IntKind.i64 (sf + v) else undef), undef, undef, u15, Value.agg #[Value.int IntKind.i64 b.lo, Value.int IntKind.i64 b.hi, Value.int IntKind.i64 b.lots, Value.slice p b.n cap], Value.int IntKind.i64 ↑N, Value.int IntKind.i64 ↑N, Value.slice (some { block := s1, off := 0 }) N N, Value.int IntKind.i64 ↑N, Value.slice (some { block := gW, off := 0 }) N N, Value.slice (some { block := gW, off := 0 }) N N, Value.int IntKind.i64 ↑N, Value.int IntKind.i64 ↑N, Value.bool false, u26, u27, u28, u29, u30, u31, u32, Value.int IntKind.i64 ↑N, Value.slice (some { block := gM, off := 0 }) N N, Value.int IntKind.i64 ↑N, Value.int IntKind.i64 ↑k, Value.bool true, Value.slice (some { block := gM, off := 0 }) N N, Value.agg #[Value.int IntKind.i64 b.lo, Value.int IntKind.i64 b.hi, Value.int IntKind.i64 b.lots, Value.slice p b.n cap], Value.func (Fn.func 95) #[Value.agg #[Value.int IntKind.i64 b.lo, Value.int IntKind.i64 b.hi, Value.int IntKind.i64 b.lots, Value.slice p b.n cap]] #[], Value.agg #[Value.int IntKind.i64 ↑F, Value.int IntKind.i64 ↑T], Value.int IntKind.i64 v, (bif d 0 then Value.slice (some { block := gW, off := 0 }) N N else undef), (bif d 1 then Value.pointer (some { block := Bp, off := 0 }) else undef), (bif d 2 then Value.int IntKind.i64 ↑F else undef), (bif d 3 then Value.pointer (some { block := gW, off := F }) else undef), (bif d 4 then Value.slice (some { block := g, off := 0 }) n c else undef), (bif d 5 then Value.slice (some { block := s1, off := 0 }) N N else undef), (bif d 6 then Value.pointer (some { block := Bp, off := 0 }) else undef), (bif d 7 then Value.int IntKind.i64 ↑F else undef), (bif d 8 then Value.pointer (some { block := s1, off := F }) else undef), (bif d 9 then Value.int IntKind.i64 sf else undef), (bif d 10 then Value.int IntKind.i64 v else undef), (bif d 11 then Value.int IntKind.i64 (sf + v) else undef), undef, undef, undef, undef, undef, undef, undef, undef, undef, undef, undef, undef, undef, undef, undef, undef, undef, undef, undef, undef, undef, undef, undef, undef, undef, undef, undef, undef, undef, undef, undef, undef, undef, undef, undef, undef, undef, undef, undef, undef, undef, undef, undef, u98, u99, u100, u101, u102, u103, u104, u105, u106, undef], defers := [] } ∧ W2 = Wd) hmx (by kernel_rfl) ?_ ?_ ?_
            · exact ⟨rfl, hWd⟩
            · refine ⟨?_, ?_, ?_, ?_, ?_, ?_, ?_, ?_, ?_, ?_, ?_, ?_, ?_, ?_, trivial⟩
              · rintro d a W2 hdi hdep hcl ⟨rfl, hw⟩ K hK
                replace hdi : d 0 = false := hdi
                obtain ⟨-, -, f3, f4, f12, f13, -⟩ := hcl.facts 0 hdi rfl hdep [] [3, 4, 12, 13] (by kernel_rfl) (by kernel_rfl)
                clear hdep hcl
                subst hw
                go_simp
                exact hK _ _ ⟨by simp [upd, hdi, f3, f4, f12, f13], rfl⟩
              · rintro d a W2 hdi hdep hcl ⟨rfl, hw⟩ K hK
                replace hdi : d 1 = false := hdi
                obtain ⟨-, -, f2, f3, f4, f12, f13, -⟩ := hcl.facts 1 hdi rfl hdep [] [2, 3, 4, 12, 13] (by kernel_rfl) (by kernel_rfl)
                clear hdep hcl
                subst hw
                go_simp
                exact hK _ _ ⟨by simp [upd, hdi, f2, f3, f4, f12, f13], rfl⟩
              · rintro d a W2 hdi hdep hcl ⟨rfl, hw⟩ K hK
                replace hdi : d 2 = false := hdi
                obtain ⟨-, ⟨e1, -⟩, f3, f4, f12, f13, -⟩ := hcl.facts 2 hdi rfl hdep [1] [3, 4, 12, 13] (by kernel_rfl) (by kernel_rfl)
                clear hdep hcl
                subst hw
                go_simp
                exact hK _ _ ⟨by simp [upd, hdi, e1, f3, f4, f12, f13], rfl⟩
              · rintro d a W2 hdi hdep hcl ⟨rfl, hw⟩ K hK
                replace hdi : d 3 = false := hdi
                obtain ⟨-, ⟨e0, e1, e2, -⟩, f4, f12, f13, -⟩ := hcl.facts 3 hdi rfl hdep [0, 1, 2] [4, 12, 13] (by kernel_rfl) (by kernel_rfl)
                clear hdep hcl
                subst hw
                go_simp
                exact hK _ _ ⟨by simp [upd, hdi, e0, e1, e2, f4, f12, f13], rfl⟩
              · rintro d a W2 hdi hdep hcl ⟨rfl, hw⟩ K hK
                replace hdi : d 4 = false := hdi
                obtain ⟨-, ⟨e0, e1, e2, e3, -⟩, f12, f13, -⟩ := hcl.facts 4 hdi rfl hdep [0, 1, 2, 3] [12, 13] (by kernel_rfl) (by kernel_rfl)
                clear hdep hcl
                subst hw
                go_simp
                exact hK _ _ ⟨by simp [upd, hdi, e0, e1, e2, e3, f12, f13], rfl⟩
              · rintro d a W2 hdi hdep hcl ⟨rfl, hw⟩ K hK
                replace hdi : d 5 = false := hdi
                obtain ⟨-, -, f8, f9, f11, f13, -⟩ := hcl.facts 5 hdi rfl hdep [] [8, 9, 11, 13] (by kernel_rfl) (by kernel_rfl)
                clear hdep hcl
                subst hw
                go_simp
                exact hK _ _ ⟨by simp [upd, hdi, f8, f9, f11, f13], rfl⟩
              · rintro d a W2 hdi hdep hcl ⟨rfl, hw⟩ K hK
                replace hdi : d 6 = false := hdi
                obtain ⟨-, -, f7, f8, f9, f11, f13, -⟩ := hcl.facts 6 hdi rfl hdep [] [7, 8, 9, 11, 13] (by kernel_rfl) (by kernel_rfl)
                clear hdep hcl
                subst hw
                go_simp
                exact hK _ _ ⟨by simp [upd, hdi, f7, f8, f9, f11, f13], rfl⟩
              · rintro d a W2 hdi hdep hcl ⟨rfl, hw⟩ K hK
                replace hdi : d 7 = false := hdi
                obtain ⟨-, ⟨e6, -⟩, f8, f9, f11, f13, -⟩ := hcl.facts 7 hdi rfl hdep [6] [8, 9, 11, 13] (by kernel_rfl) (by kernel_rfl)
                clear hdep hcl
                subst hw
                go_simp
                exact hK _ _ ⟨by simp [upd, hdi, e6, f8, f9, f11, f13], rfl⟩
              · rintro d a W2 hdi hdep hcl ⟨rfl, hw⟩ K hK
                replace hdi : d 8 = false := hdi
                obtain ⟨-, ⟨e5, e6, e7, -⟩, f9, f11, f13, -⟩ := hcl.facts 8 hdi rfl hdep [5, 6, 7] [9, 11, 13] (by kernel_rfl) (by kernel_rfl)
                clear hdep hcl
                subst hw
                go_simp
                exact hK _ _ ⟨by simp [upd, hdi, e5, e6, e7, f9, f11, f13], rfl⟩
              · rintro d a W2 hdi hdep hcl ⟨rfl, hw⟩ K hK
                replace hdi : d 9 = false := hdi
                obtain ⟨-, ⟨e5, e6, e7, e8, -⟩, f11, f13, -⟩ := hcl.facts 9 hdi rfl hdep [5, 6, 7, 8] [11, 13] (by kernel_rfl) (by kernel_rfl)
                clear hdep hcl
                subst hw
                go_simp
                exact hK _ _ ⟨by simp [upd, hdi, e5, e6, e7, e8, f11, f13], rfl⟩
              · rintro d a W2 hdi hdep hcl ⟨rfl, hw⟩ K hK
                replace hdi : d 10 = false := hdi
                obtain ⟨-, -, f11, f13, -⟩ := hcl.facts 10 hdi rfl hdep [] [11, 13] (by kernel_rfl) (by kernel_rfl)
                clear hdep hcl
                subst hw
                go_simp
                exact hK _ _ ⟨by simp [upd, hdi, f11, f13], rfl⟩
              · rintro d a W2 hdi hdep hcl ⟨rfl, hw⟩ K hK
                replace hdi : d 11 = false := hdi
                obtain ⟨-, ⟨e5, e6, e7, e8, e9, e10, -⟩, f13, -⟩ := hcl.facts 11 hdi rfl hdep [5, 6, 7, 8, 9, 10] [13] (by kernel_rfl) (by kernel_rfl)
                clear hdep hcl
                subst hw
                have HWR := Lib.hid (IntWalk.i64_in (sf + v) (by omega))
                go_simp
                exact hK _ _ ⟨by simp [upd, hdi, e5, e6, e7, e8, e9, e10, f13, HWR.out], rfl⟩
              · rintro d a W2 hdi hdep hcl ⟨rfl, hw⟩ K hK
                replace hdi : d 12 = false := hdi
                obtain ⟨-, ⟨e0, e1, e2, e3, e4, -⟩, f13, -⟩ := hcl.facts 12 hdi rfl hdep [0, 1, 2, 3, 4] [13] (by kernel_rfl) (by kernel_rfl)
                clear hdep hcl
                subst hw
                go_simp
                exact hK _ _ ⟨by simp [upd, hdi, e0, e1, e2, e3, e4, f13], rfl⟩
              · rintro d a W2 hdi hdep hcl ⟨rfl, hw⟩ K hK
                replace hdi : d 13 = false := hdi
                obtain ⟨-, ⟨e0, e1, e2, e3, e4, e5, e6, e7, e8, e9, e10, e11, e12, -⟩, -⟩ := hcl.facts 13 hdi rfl hdep [0, 1, 2, 3, 4, 5, 6, 7, 8, 9, 10, 11, 12] [] (by kernel_rfl) (by kernel_rfl)
                clear hdep hcl
                subst hw
                go_simp
                exact hK _ _ ⟨by simp [upd, hdi, e0, e1, e2, e3, e4, e5, e6, e7, e8, e9, e10, e11, e12], rfl⟩
            · rintro d a W2 hall ⟨rfl, hw⟩
              simp [List.range_succ] at hall
              obtain ⟨e0, e1, e2, e3, e4, e5, e6, e7, e8, e9, e10, e11, e12, e13⟩ := hall
              simp only [e0, e1, e2, e3, e4, e5, e6, e7, e8, e9, e10, e11, e12, e13, cond_true] at hw ⊢
              clear e0 e1 e2 e3 e4 e5 e6 e7 e8 e9 e10 e11 e12 e13
              obtain rfl := hw
              by_cases hle : s.sums T ≤ sf + v
              · gi_wp2_with fail
                exact ⟨HPd.out.mono (fun _ _ h => h.elim), by rw [hstep.out, hSt.out, if_pos hle]; exact HR.out.pure HPd.out, HD.out.pure HPd.out, Nat.le_trans HSZ.out HPd.out.size⟩
              · have hST2 : Hid (s.step (b.bn i) = match idxTo (nthI l) (T : Int) l.length with
                    | some i => { s with found := s.found ++ [l.drop i] }
                    | none => { sums := fun k => if k = T then sf + v else s.sums k, ways := fun k => if k = T then l ++ [(T : Int)] else s.ways k, marks := fun k => if k = T then true else s.marks k, found := s.found }) := by
                  show _ = _
                  rw [hSt.out, if_neg hle]
                have hrowG : Row W2.heap.size W2 (some ⟨g, 0, none⟩) n (fun k => .int .i64 (nthI l k)) := fun j hj => by
                  refine ⟨g, 0, rfl, Nat.lt_of_lt_of_le hg2 HPd.out.size, ?_⟩
                  rw [Nat.zero_add]
                  refine ((pcell HPd.out).1 g j hg2).trans (HGC.out j _ ?_)
                  have hjl : j < l.length := by have := HN'.out; omega
                  simp [nthI, List.getD_eq_getElem?_getD, hjl]
                have hix := Index_any W2 (some ⟨g, 0, none⟩) n c (nthI l) (T : Int) (by omega) hrowG
                have HROW := Lib.hid hrowG
                clear hSt hrowG
                have hle' : sf + v < s.sums T := by omega
                gi_wp2_with fail
                refine ⟨trivial, rfl, CallsIn.mono (CallsIn.inRound l' (callsIn_wide.2 hix)) ?_⟩
                rintro e W3 ⟨rfl, hp3⟩
                clear hix
                have HP3 : Hid (Pure W' W3) := HPd.out.trans hp3
                have hlB2 : Bp < W2.heap.size := Nat.lt_of_lt_of_le hlp HPd.out.size
                have hlW : gW + 1 < W2.heap.size := by have := HR.out.big; have := HGW.out; have := HPd.out.size; omega
                clear zs zt zw
                have HR3 := Lib.hid (HR.out.pure HP3.out)
                have hg3 : g < W3.heap.size := Nat.lt_of_lt_of_le hg2 HP3.out.size
                have HGF : Hid (s1 + N + 6 = gM + 1 + 1) := by show _ = _; have := HGM.out; omega
                have HO3 : Hid (∀ k, O k → k < W3.heap.size) := fun k hk => by have := (hOb k hk).2; have := HP3.out.size; omega
                cases hx : idxTo (nthI l) (T : Int) n with
                | some j =>
                  have hII : idxI (nthI l) (T : Int) n = (j : Int) := by unfold idxI; rw [hx]
                  rw [hII]
                  obtain ⟨hjn, -⟩ := idxTo_some hx
                  have HX : Hid (idxTo (nthI l) (T : Int) l.length = some j) := by show _ = _; rw [HN'.out]; exact hx
                  obtain ⟨u, vs, hf1, hf2, hf3, hf4⟩ := HR3.out.rF
                  obtain ⟨i44, hi44, hz44, hsz44, hby44⟩ := info44'
                  have zF : W3.cell? ⟨gM + 1 + 1, 0, none⟩ = some u := by
                    rw [HGF.out] at hf1
                    rw [cell_of_row W3 _ _ _ _ _ hf1]; rfl
                  have hlF : gM + 1 + 1 < W3.heap.size := by have := HR3.out.big; have := HGM.out; omega
                  have HF1 := Lib.hid hf1
                  have HF2 := Lib.hid hf2
                  have HF3 := Lib.hid hf3
                  have HF4 := Lib.hid hf4
                  have hji : (j : Int) < n := by omega
                  have hj0 : (0 : Int) ≤ j := by omega
                  have hnci : n ≤ c := hnc
                  clear hx hII hf1 hf2 hf3 hf4
                  gi_wp2_with fail
                  refine reg_inv (fun d a W => ∃ (tb sb : Nat) (v2 : Value), a = { tmps := #[Value.agg #[Value.int IntKind.i64 b.lo, Value.int IntKind.i64 b.hi, Value.int IntKind.i64 b.lots, Value.slice p b.n cap], Value.pointer (some { block := w.heap.size, off := 0 }), Value.slice none 0 0, Value.int IntKind.i64 ↑N, Value.pointer (some { block := s1 + 1, off := 0 }), Value.pointer (some { block := gW + 1, off := 0 }), u6, Value.pointer (some { block := gM + 1, off := 0 }), Value.pointer (some { block := gM + 1 + 1, off := 0 }), Value.pointer (some { block := Bp, off := 0 }), Value.int IntKind.i64 v, Value.slice (some { block := g, off := 0 }) n c, Value.int IntKind.i64 (sf + v), Value.int IntKind.i64 ↑j, undef, u15, Value.agg #[Value.int IntKind.i64 b.lo, Value.int IntKind.i64 b.hi, Value.int IntKind.i64 b.lots, Value.slice p b.n cap], Value.int IntKind.i64 ↑N, Value.int IntKind.i64 ↑N, Value.slice (some { block := s1, off := 0 }) N N, Value.int IntKind.i64 ↑N, Value.slice (some { block := gW, off := 0 }) N N, Value.slice (some { block := gW, off := 0 }) N N, Value.int IntKind.i64 ↑N, Value.int IntKind.i64 ↑N, Value.bool false, u26, u27, u28, u29, u30, u31, u32, Value.int IntKind.i64 ↑N, Value.slice (some { block := gM, off := 0 }) N N, Value.int IntKind.i64 ↑N, Value.int IntKind.i64 ↑k, Value.bool true, Value.slice (some { block := gM, off := 0 }) N N, Value.agg #[Value.int IntKind.i64 b.lo, Value.int IntKind.i64 b.hi, Value.int IntKind.i64 b.lots, Value.slice p b.n cap], Value.func (Fn.func 95) #[Value.agg #[Value.int IntKind.i64 b.lo, Value.int IntKind.i64 b.hi, Value.int IntKind.i64 b.lots, Value.slice p b.n cap]] #[], Value.agg #[Value.int IntKind.i64 ↑F, Value.int IntKind.i64 ↑T], Value.int IntKind.i64 v, Value.slice (some { block := gW, off := 0 }) N N, Value.pointer (some { block := Bp, off := 0 }), Value.int IntKind.i64 ↑F, Value.pointer (some { block := gW, off := F }), Value.slice (some { block := g, off := 0 }) n c, Value.slice (some { block := s1, off := 0 }) N N, Value.pointer (some { block := Bp, off := 0 }), Value.int IntKind.i64 ↑F, Value.pointer (some { block := s1, off := F }), Value.int IntKind.i64 sf, Value.int IntKind.i64 v, Value.int IntKind.i64 (sf + v), Value.int IntKind.i64 (sf + v), Value.slice (some { block := s1, off := 0 }) N N, Value.pointer (some { block := Bp, off := 1 }), Value.int IntKind.i64 ↑T, Value.pointer (some { block := s1, off := T }), Value.int IntKind.i64 (s.sums T), Value.bool false, Value.slice (some { block := g, off := 0 }) n c, Value.pointer (some { block := Bp, off := 1 }), Value.int IntKind.i64 ↑T, Value.int IntKind.i64 ↑j, Value.int IntKind.i64 ↑j, Value.bool true, (bif d 0 then u else undef), (bif d 1 then Value.slice (some { block := g, off := 0 }) n c else undef), (bif d 2 then Value.int IntKind.i64 ↑j else undef), (bif d 3 then Value.slice (some { block := g, off := j }) (n - j) (c - j) else undef), (bif d 4 then Value.slice (some { block := tb, off := 0 }) (n - j) (n - j) else undef), (bif d 5 then Value.slice (some { block := sb, off := 0 }) 1 1 else undef), (bif d 6 then v2 else undef), undef, undef, undef, undef, undef, undef, undef, undef, undef, undef, undef, undef, undef, undef, undef, undef, undef, undef, undef, undef, undef, undef, undef, u98, u99, u100, u101, u102, u103, u104, u105, u106, undef], defers := [] } ∧ (d 6 = false → Pure W3 W) ∧ (d 4 = true → d 6 = false → W.heap[tb]? = some (.cells (vals (l.drop j)).toArray 3 (0, 0)) ∧ W3.heap.size ≤ tb) ∧ (d 5 = true → d 6 = false → W.heap[sb]? = some (.cells #[.slice (some { block := tb, off := 0 }) (n - j) (n - j)] 44 (0, 0)) ∧ W3.heap.size ≤ sb) ∧ (d 6 = true → d 7 = false → PApp W3 s1 N u vs s.found.length tb (l.drop j) v2 W) ∧ (d 7 = true → ∃ Wy, PApp W3 s1 N u vs s.found.length tb (l.drop j) v2 Wy ∧ W = Wy.setCell ⟨gM + 1 + 1, 0, none⟩ v2)) hmx (by kernel_rfl) ?_ ?_ ?_
                  · exact ⟨0, 0, undef, rfl, by simp; exact (Diff.refl W3).drew⟩
                  · refine ⟨?_, ?_, ?_, ?_, ?_, ?_, ?_, ?_, trivial⟩
                    · rintro d a W hdi hdep hcl ⟨tb, sb, v2, rfl, hw⟩ K hK
                      replace hdi : d 0 = false := hdi
                      obtain ⟨-, -, f6, f7, -⟩ := hcl.facts 0 hdi rfl hdep [] [6, 7] (by kernel_rfl) (by kernel_rfl)
                      clear hdep hcl
                      have z := ((pcell (hw.1 f6)).1 _ 0 hlF).trans zF
                      go_simp
                      exact hK _ _ ⟨tb, sb, v2, by simp [upd, hdi, f6, f7], by simpa [upd, hdi, f6, f7] using hw⟩
                    · rintro d a W hdi hdep hcl ⟨tb, sb, v2, rfl, hw⟩ K hK
                      replace hdi : d 1 = false := hdi
                      obtain ⟨-, -, f3, f4, f5, f6, f7, -⟩ := hcl.facts 1 hdi rfl hdep [] [3, 4, 5, 6, 7] (by kernel_rfl) (by kernel_rfl)
                      clear hdep hcl
                      go_simp
                      exact hK _ _ ⟨tb, sb, v2, by simp [upd, hdi, f3, f4, f5, f6, f7], by simpa [upd, hdi, f3, f4, f5, f6, f7] using hw⟩
                    · rintro d a W hdi hdep hcl ⟨tb, sb, v2, rfl, hw⟩ K hK
                      replace hdi : d 2 = false := hdi
                      obtain ⟨-, -, f3, f4, f5, f6, f7, -⟩ := hcl.facts 2 hdi rfl hdep [] [3, 4, 5, 6, 7] (by kernel_rfl) (by kernel_rfl)
                      clear hdep hcl
                      go_simp
                      exact hK _ _ ⟨tb, sb, v2, by simp [upd, hdi, f3, f4, f5, f6, f7], by simpa [upd, hdi, f3, f4, f5, f6, f7] using hw⟩
                    · rintro d a W hdi hdep hcl ⟨tb, sb, v2, rfl, hw⟩ K hK
                      replace hdi : d 3 = false := hdi
                      obtain ⟨-, ⟨e1, e2, -⟩, f4, f5, f6, f7, -⟩ := hcl.facts 3 hdi rfl hdep [1, 2] [4, 5, 6, 7] (by kernel_rfl) (by kernel_rfl)
                      clear hdep hcl
                      have hjle : j ≤ n := by omega
                      have hcj : ¬ c = j := by omega
                      go_simp
                      exact hK _ _ ⟨tb, sb, v2, by simp [upd, hdi, e1, e2, f4, f5, f6, f7], by simpa [upd, hdi, e1, e2, f4, f5, f6, f7] using hw⟩
                    · rintro d a W hdi hdep hcl ⟨tb, sb, v2, rfl, hw⟩ K hK
                      replace hdi : d 4 = false := hdi
                      obtain ⟨-, ⟨e1, e2, e3, -⟩, f5, f6, f7, -⟩ := hcl.facts 4 hdi rfl hdep [1, 2, 3] [5, 6, 7] (by kernel_rfl) (by kernel_rfl)
                      clear hdep hcl
                      have htk := taken_any W g j (n - j) (c - j) (l.drop j) (by omega) (by rw [List.length_drop, HN'.out]) (Nat.lt_of_lt_of_le hg3 (hw.1 f6).size) (fun q x hq => by rw [List.getElem?_drop] at hq; exact ((pcell (HP3.out.trans (hw.1 f6))).1 g (j + q) hg2).trans (HGC.out (j + q) x hq))
                      go_simp
                      refine ⟨trivial, rfl, CallsIn.mono (CallsIn.inRound l' (callsIn_wide.2 htk)) ?_⟩
                      rintro e Wt ⟨rfl, ht1, ht2⟩
                      have hWsz := (hw.1 f6).size
                      refine hK _ _ ⟨W.heap.size, sb, v2, by simp [upd, hdi, e1, e2, e3, f5, f6, f7], fun _ => (hw.1 f6).trans ht2, fun _ _ => ⟨ht1, hWsz⟩, fun h => absurd h (by simp [upd, hdi, e1, e2, e3, f5, f6, f7]), fun h => absurd h (by simp [upd, hdi, e1, e2, e3, f5, f6, f7]), fun h => absurd h (by simp [upd, hdi, e1, e2, e3, f5, f6, f7])⟩
                    · rintro d a W hdi hdep hcl ⟨tb, sb, v2, rfl, hw⟩ K hK
                      replace hdi : d 5 = false := hdi
                      obtain ⟨-, ⟨e1, e2, e3, e4, -⟩, f6, f7, -⟩ := hcl.facts 5 hdi rfl hdep [1, 2, 3, 4] [6, 7] (by kernel_rfl) (by kernel_rfl)
                      clear hdep hcl
                      have h4 := hw.2.1 e4 f6
                      have hWsz := (hw.1 f6).size
                      have htl := (Array.getElem?_eq_some_iff.1 h4.1).1
                      go_simp
                      refine hK _ _ ⟨tb, W.heap.size, v2, by simp [upd, hdi, e1, e2, e3, e4, f6, f7], fun _ => (hw.1 f6).trans ((Diff.refl W).alloc _), fun _ _ => ⟨(Below.heap_alloc _ _ _ htl).trans h4.1, h4.2⟩, fun _ _ => ⟨World.alloc_heap_new _ _, hWsz⟩, fun h => absurd h (by simp [upd, hdi, e1, e2, e3, e4, f6, f7]), fun h => absurd h (by simp [upd, hdi, e1, e2, e3, e4, f6, f7])⟩
                    · rintro d a W hdi hdep hcl ⟨tb, sb, v2, rfl, hw⟩ K hK
                      replace hdi : d 6 = false := hdi
                      obtain ⟨-, ⟨e0, e1, e2, e3, e4, e5, -⟩, f7, -⟩ := hcl.facts 6 hdi rfl hdep [0, 1, 2, 3, 4, 5] [7] (by kernel_rfl) (by kernel_rfl)
                      clear hdep hcl
                      have h4 := hw.2.1 e4 hdi
                      have h5 := hw.2.2.1 e5 hdi
                      have hp := hw.1 hdi
                      obtain ⟨v', w', hr, q2, q3, q4, q5⟩ := run_append_own_at (P := Tryd.prog) W (s1 + N + 7) 101 101 44 i44 (.slice none 0 0) 1 24 Tryd.underlying101 hi44 hz44 hsz44 hby44 rfl (by omega) u s.found.length vs (own_pure HF2.out hp) ⟨sb, 0, none⟩ 1 1 [.slice (some { block := tb, off := 0 }) (n - j) (n - j)] rfl (fun q x hq => by
                          match q with
                          | 0 =>
                            simp at hq
                            subst hq
                            show W.cell? ⟨sb, 0, none⟩ = _
                            rw [cell_of_row W _ _ _ _ _ h5.1]; rfl
                          | q + 1 => simp at hq) (by simp [Value.oneCell']) (by simp only [maxLen]; have := hfl; omega) (by have := hfl; omega) (by have := HR3.out.big; have := hp.size; omega)
                      refine Eq.mpr (if_pos rfl) ?_
                      have hpa : PApp W3 s1 N u vs s.found.length tb (l.drop j) v' w' := ⟨W, hp, h4.1, h4.2, q3, by rw [List.length_drop, HN'.out]; exact q2, q5⟩
                      refine operIn_append (.tmp 68) (.tmp 73) 101 rfl u (.slice (some ⟨sb, 0, none⟩) 1 1) (by simp [Act.eval, upd, hdi, e0, e1, e2, e3, e4, e5, f7]) (by simp [Act.eval, upd, hdi, e0, e1, e2, e3, e4, e5, f7]) v' w' hr ?_
                      refine hK _ _ ⟨tb, sb, v', by simp [Act.put, upd, hdi, e0, e1, e2, e3, e4, e5, f7], fun h => absurd h (by simp [upd, hdi, e0, e1, e2, e3, e4, e5, f7]), fun _ h => absurd h (by simp [upd, hdi, e0, e1, e2, e3, e4, e5, f7]), fun _ h => absurd h (by simp [upd, hdi, e0, e1, e2, e3, e4, e5, f7]), fun _ _ => hpa, fun h => absurd h (by simp [upd, hdi, e0, e1, e2, e3, e4, e5, f7])⟩
                    · rintro d a W hdi hdep hcl ⟨tb, sb, v2, rfl, hw⟩ K hK
                      replace hdi : d 7 = false := hdi
                      obtain ⟨-, ⟨e0, e1, e2, e3, e4, e5, e6, -⟩, -⟩ := hcl.facts 7 hdi rfl hdep [0, 1, 2, 3, 4, 5, 6] [] (by kernel_rfl) (by kernel_rfl)
                      clear hdep hcl
                      have hpa := hw.2.2.2.1 e6 hdi
                      have zc := hpa.box HR3.out HF1.out HF2.out
                      rw [HGF.out] at zc
                      obtain ⟨zc1, zc2⟩ := zc
                      obtain ⟨q1, q2, q3, rfl⟩ := hpa.form
                      go_simp
                      refine hK _ _ ⟨tb, sb, _, by simp [upd, hdi, e0, e1, e2, e3, e4, e5, e6], fun h => absurd h (by simp [upd, hdi, e0, e1, e2, e3, e4, e5, e6]), fun _ h => absurd h (by simp [upd, hdi, e0, e1, e2, e3, e4, e5, e6]), fun _ h => absurd h (by simp [upd, hdi, e0, e1, e2, e3, e4, e5, e6]), fun _ h => absurd h (by simp [upd, hdi, e0, e1, e2, e3, e4, e5, e6]), fun _ => ⟨W, hpa, rfl⟩⟩
                  · rintro d a W hall ⟨tb, sb, v2, rfl, hw⟩
                    simp [List.range_succ] at hall
                    obtain ⟨e0, e1, e2, e3, e4, e5, e6, e7⟩ := hall
                    simp only [e0, e1, e2, e3, e4, e5, e6, e7, cond_true] at hw ⊢
                    clear e0 e1 e2 e3 e4 e5 e6 e7
                    obtain ⟨Wy, hpa, rfl⟩ := hw.2.2.2.2 trivial
                    clear hw
                    gi_wp2_with fail
                    have hfin := hpa.fin HR3.out HF1.out HF2.out HF3.out HF4.out (by rw [List.length_drop, HN'.out]; omega) HO3.out
                    rw [HGF.out] at hfin
                    exact ⟨(HP3.out.mono (fun _ _ h => h.elim)).trans hfin.2.1, by rw [hstep.out, hST2.out, HX.out]; exact hfin.1, hfin.2.2 Ds (HD.out.pure HP3.out), Nat.le_trans HSZ.out (Nat.le_trans HP3.out.size hfin.2.1.size)⟩
                | none =>
                  have hII : idxI (nthI l) (T : Int) n = -1 := by unfold idxI; rw [hx]
                  rw [hII]
                  have HX : Hid (idxTo (nthI l) (T : Int) l.length = none) := by show _ = _; rw [HN'.out]; exact hx
                  obtain ⟨i3, hi3, hz3, hsz3, hby3⟩ := info3'
                  have HP23 : Hid (Pure W2 W3) := hp3
                  have HT := hTi
                  have zW3 := ((pcell hp3).1 _ 0 hlW).trans zW
                  have zp3 := ((pcell hp3).1 _ 1 hlB2).trans zp1
                  have zc3 : ∃ v0, W3.cell? ⟨gW, T, none⟩ = some v0 ∧ W3.frozen? ⟨gW, T, none⟩ = false := by
                    obtain ⟨wv3, hw3, -⟩ := HR3.out.rW
                    have h1 := hw3.cell hTN
                    have h2 := hw3.frozen T
                    rw [show s1 + 2 = gW from HGW.out.symm] at h1 h2
                    exact ⟨_, h1, h2⟩
                  obtain ⟨v0, zc3, zf3⟩ := zc3
                  have hlW3 : gW + 1 < W3.heap.size := Nat.lt_of_lt_of_le hlW hp3.size
                  have hlG3 : gW < W3.heap.size := by omega
                  have hlB3 : Bp < W3.heap.size := Nat.lt_of_lt_of_le hlB2 hp3.size
                  have hsl : s1 ≤ W3.heap.size := by have := HR3.out.big; omega
                  have hncn : n ≤ c := hnc
                  clear hx hII hp3
                  gi_wp2_with fail
                  refine reg_inv (fun d a W => ∃ (sb : Nat) (v2 : Value), a = { tmps := #[Value.agg #[Value.int IntKind.i64 b.lo, Value.int IntKind.i64 b.hi, Value.int IntKind.i64 b.lots, Value.slice p b.n cap], Value.pointer (some { block := w.heap.size, off := 0 }), Value.slice none 0 0, Value.int IntKind.i64 ↑N, Value.pointer (some { block := s1 + 1, off := 0 }), Value.pointer (some { block := gW + 1, off := 0 }), u6, Value.pointer (some { block := gM + 1, off := 0 }), Value.pointer (some { block := gM + 1 + 1, off := 0 }), Value.pointer (some { block := Bp, off := 0 }), Value.int IntKind.i64 v, Value.slice (some { block := g, off := 0 }) n c, Value.int IntKind.i64 (sf + v), Value.int IntKind.i64 (-1), undef, u15, Value.agg #[Value.int IntKind.i64 b.lo, Value.int IntKind.i64 b.hi, Value.int IntKind.i64 b.lots, Value.slice p b.n cap], Value.int IntKind.i64 ↑N, Value.int IntKind.i64 ↑N, Value.slice (some { block := s1, off := 0 }) N N, Value.int IntKind.i64 ↑N, Value.slice (some { block := gW, off := 0 }) N N, Value.slice (some { block := gW, off := 0 }) N N, Value.int IntKind.i64 ↑N, Value.int IntKind.i64 ↑N, Value.bool false, u26, u27, u28, u29, u30, u31, u32, Value.int IntKind.i64 ↑N, Value.slice (some { block := gM, off := 0 }) N N, Value.int IntKind.i64 ↑N, Value.int IntKind.i64 ↑k, Value.bool true, Value.slice (some { block := gM, off := 0 }) N N, Value.agg #[Value.int IntKind.i64 b.lo, Value.int IntKind.i64 b.hi, Value.int IntKind.i64 b.lots, Value.slice p b.n cap], Value.func (Fn.func 95) #[Value.agg #[Value.int IntKind.i64 b.lo, Value.int IntKind.i64 b.hi, Value.int IntKind.i64 b.lots, Value.slice p b.n cap]] #[], Value.agg #[Value.int IntKind.i64 ↑F, Value.int IntKind.i64 ↑T], Value.int IntKind.i64 v, Value.slice (some { block := gW, off := 0 }) N N, Value.pointer (some { block := Bp, off := 0 }), Value.int IntKind.i64 ↑F, Value.pointer (some { block := gW, off := F }), Value.slice (some { block := g, off := 0 }) n c, Value.slice (some { block := s1, off := 0 }) N N, Value.pointer (some { block := Bp, off := 0 }), Value.int IntKind.i64 ↑F, Value.pointer (some { block := s1, off := F }), Value.int IntKind.i64 sf, Value.int IntKind.i64 v, Value.int IntKind.i64 (sf + v), Value.int IntKind.i64 (sf + v), Value.slice (some { block := s1, off := 0 }) N N, Value.pointer (some { block := Bp, off := 1 }), Value.int IntKind.i64 ↑T, Value.pointer (some { block := s1, off := T }), Value.int IntKind.i64 (s.sums T), Value.bool false, Value.slice (some { block := g, off := 0 }) n c, Value.pointer (some { block := Bp, off := 1 }), Value.int IntKind.i64 ↑T, Value.int IntKind.i64 (-1), Value.int IntKind.i64 (-1), Value.bool false, undef, undef, undef, undef, undef, undef, undef, (bif d 0 then Value.slice (some { block := gW, off := 0 }) N N else undef), (bif d 1 then Value.pointer (some { block := Bp, off := 1 }) else undef), (bif d 2 then Value.int IntKind.i64 ↑T else undef), (bif d 3 then Value.slice (some { block := g, off := 0 }) n c else undef), (bif d 4 then Value.slice (some { block := g, off := 0 }) n c else undef), (bif d 5 then Value.int IntKind.i64 ↑n else undef), (bif d 6 then Value.slice (some { block := g, off := 0 }) n c else undef), (bif d 7 then Value.int IntKind.i64 ↑n else undef), (bif d 8 then Value.slice (some { block := g, off := 0 }) n n else undef), (bif d 9 then Value.pointer (some { block := Bp, off := 1 }) else undef), (bif d 10 then Value.int IntKind.i64 ↑T else undef), (bif d 11 then Value.slice (some { block := sb, off := 0 }) 1 1 else undef), (bif d 12 then v2 else undef), (bif d 13 then Value.pointer (some { block := gW, off := T }) else undef), undef, undef, undef, undef, undef, undef, undef, undef, undef, u98, u99, u100, u101, u102, u103, u104, u105, u106, undef], defers := [] } ∧ (d 12 = false → Pure W3 W) ∧ (d 11 = true → d 12 = false → W.heap[sb]? = some (.cells #[.int .i64 T] 3 (0, 0)) ∧ W3.heap.size ≤ sb) ∧ (d 12 = true → d 14 = false → Pure W3 W ∧ OwnO O W s1 v2 (l ++ [(T : Int)])) ∧ (d 14 = true → ∃ Wx, Pure W3 Wx ∧ OwnO O Wx s1 v2 (l ++ [(T : Int)]) ∧ W = Wx.setCell ⟨gW, T, none⟩ v2)) hmx (by kernel_rfl) ?_ ?_ ?_
                  · exact ⟨0, undef, rfl, (fun _ => (Diff.refl W3).drew), (fun h => by cases h), (fun h => by cases h), (fun h => by cases h)⟩
                  · refine ⟨?_, ?_, ?_, ?_, ?_, ?_, ?_, ?_, ?_, ?_, ?_, ?_, ?_, ?_, ?_, trivial⟩
                    · rintro d a W hdi hdep hcl ⟨sb, v2, rfl, hw⟩ K hK
                      replace hdi : d 0 = false := hdi
                      obtain ⟨-, -, f13, f14, -⟩ := hcl.facts 0 hdi rfl hdep [] [13, 14] (by kernel_rfl) (by kernel_rfl)
                      clear hdep hcl
                      have hpw : Pure W3 W := by
                        cases h12 : d 12 with
                        | false => exact hw.1 h12
                        | true => exact (hw.2.2.1 h12 f14).1
                      have z := ((pcell hpw).1 _ 0 hlW3).trans zW3
                      go_simp
                      exact hK _ _ ⟨sb, v2, by simp [upd, hdi, f13, f14], by simpa [upd, hdi, f13, f14] using hw⟩
                    · rintro d a W hdi hdep hcl ⟨sb, v2, rfl, hw⟩ K hK
                      replace hdi : d 1 = false := hdi
                      obtain ⟨-, -, f2, f13, f14, -⟩ := hcl.facts 1 hdi rfl hdep [] [2, 13, 14] (by kernel_rfl) (by kernel_rfl)
                      clear hdep hcl
                      go_simp
                      exact hK _ _ ⟨sb, v2, by simp [upd, hdi, f2, f13, f14], by simpa [upd, hdi, f2, f13, f14] using hw⟩
                    · rintro d a W hdi hdep hcl ⟨sb, v2, rfl, hw⟩ K hK
                      replace hdi : d 2 = false := hdi
                      obtain ⟨-, ⟨e1, -⟩, f13, f14, -⟩ := hcl.facts 2 hdi rfl hdep [1] [13, 14] (by kernel_rfl) (by kernel_rfl)
                      clear hdep hcl
                      have hpw : Pure W3 W := by
                        cases h12 : d 12 with
                        | false => exact hw.1 h12
                        | true => exact (hw.2.2.1 h12 f14).1
                      have z := ((pcell hpw).1 _ 1 hlB3).trans zp3
                      go_simp
                      exact hK _ _ ⟨sb, v2, by simp [upd, hdi, e1, f13, f14], by simpa [upd, hdi, e1, f13, f14] using hw⟩
                    · rintro d a W hdi hdep hcl ⟨sb, v2, rfl, hw⟩ K hK
                      replace hdi : d 3 = false := hdi
                      obtain ⟨-, -, f8, f12, f13, f14, -⟩ := hcl.facts 3 hdi rfl hdep [] [8, 12, 13, 14] (by kernel_rfl) (by kernel_rfl)
                      clear hdep hcl
                      go_simp
                      exact hK _ _ ⟨sb, v2, by simp [upd, hdi, f8, f12, f13, f14], by simpa [upd, hdi, f8, f12, f13, f14] using hw⟩
                    · rintro d a W hdi hdep hcl ⟨sb, v2, rfl, hw⟩ K hK
                      replace hdi : d 4 = false := hdi
                      obtain ⟨-, -, f5, f8, f12, f13, f14, -⟩ := hcl.facts 4 hdi rfl hdep [] [5, 8, 12, 13, 14] (by kernel_rfl) (by kernel_rfl)
                      clear hdep hcl
                      go_simp
                      exact hK _ _ ⟨sb, v2, by simp [upd, hdi, f5, f8, f12, f13, f14], by simpa [upd, hdi, f5, f8, f12, f13, f14] using hw⟩
                    · rintro d a W hdi hdep hcl ⟨sb, v2, rfl, hw⟩ K hK
                      replace hdi : d 5 = false := hdi
                      obtain ⟨-, ⟨e4, -⟩, f8, f12, f13, f14, -⟩ := hcl.facts 5 hdi rfl hdep [4] [8, 12, 13, 14] (by kernel_rfl) (by kernel_rfl)
                      clear hdep hcl
                      go_simp
                      exact hK _ _ ⟨sb, v2, by simp [upd, hdi, e4, f8, f12, f13, f14], by simpa [upd, hdi, e4, f8, f12, f13, f14] using hw⟩
                    · rintro d a W hdi hdep hcl ⟨sb, v2, rfl, hw⟩ K hK
                      replace hdi : d 6 = false := hdi
                      obtain ⟨-, -, f7, f8, f12, f13, f14, -⟩ := hcl.facts 6 hdi rfl hdep [] [7, 8, 12, 13, 14] (by kernel_rfl) (by kernel_rfl)
                      clear hdep hcl
                      go_simp
                      exact hK _ _ ⟨sb, v2, by simp [upd, hdi, f7, f8, f12, f13, f14], by simpa [upd, hdi, f7, f8, f12, f13, f14] using hw⟩
                    · rintro d a W hdi hdep hcl ⟨sb, v2, rfl, hw⟩ K hK
                      replace hdi : d 7 = false := hdi
                      obtain ⟨-, ⟨e6, -⟩, f8, f12, f13, f14, -⟩ := hcl.facts 7 hdi rfl hdep [6] [8, 12, 13, 14] (by kernel_rfl) (by kernel_rfl)
                      clear hdep hcl
                      go_simp
                      exact hK _ _ ⟨sb, v2, by simp [upd, hdi, e6, f8, f12, f13, f14], by simpa [upd, hdi, e6, f8, f12, f13, f14] using hw⟩
                    · rintro d a W hdi hdep hcl ⟨sb, v2, rfl, hw⟩ K hK
                      replace hdi : d 8 = false := hdi
                      obtain ⟨-, ⟨e3, e4, e5, e6, e7, -⟩, f12, f13, f14, -⟩ := hcl.facts 8 hdi rfl hdep [3, 4, 5, 6, 7] [12, 13, 14] (by kernel_rfl) (by kernel_rfl)
                      clear hdep hcl
                      have hnn : n ≤ n := Nat.le_refl _
                      go_simp
                      exact hK _ _ ⟨sb, v2, by simp [upd, hdi, e3, e4, e5, e6, e7, f12, f13, f14], by simpa [upd, hdi, e3, e4, e5, e6, e7, f12, f13, f14] using hw⟩
                    · rintro d a W hdi hdep hcl ⟨sb, v2, rfl, hw⟩ K hK
                      replace hdi : d 9 = false := hdi
                      obtain ⟨-, -, f10, f11, f12, f13, f14, -⟩ := hcl.facts 9 hdi rfl hdep [] [10, 11, 12, 13, 14] (by kernel_rfl) (by kernel_rfl)
                      clear hdep hcl
                      go_simp
                      exact hK _ _ ⟨sb, v2, by simp [upd, hdi, f10, f11, f12, f13, f14], by simpa [upd, hdi, f10, f11, f12, f13, f14] using hw⟩
                    · rintro d a W hdi hdep hcl ⟨sb, v2, rfl, hw⟩ K hK
                      replace hdi : d 10 = false := hdi
                      obtain ⟨-, ⟨e9, -⟩, f11, f12, f13, f14, -⟩ := hcl.facts 10 hdi rfl hdep [9] [11, 12, 13, 14] (by kernel_rfl) (by kernel_rfl)
                      clear hdep hcl
                      have z := ((pcell (hw.1 f12)).1 _ 1 hlB3).trans zp3
                      go_simp
                      exact hK _ _ ⟨sb, v2, by simp [upd, hdi, e9, f11, f12, f13, f14], by simpa [upd, hdi, e9, f11, f12, f13, f14] using hw⟩
                    · rintro d a W hdi hdep hcl ⟨sb, v2, rfl, hw⟩ K hK
                      replace hdi : d 11 = false := hdi
                      obtain ⟨-, ⟨e9, e10, -⟩, f12, f13, f14, -⟩ := hcl.facts 11 hdi rfl hdep [9, 10] [12, 13, 14] (by kernel_rfl) (by kernel_rfl)
                      clear hdep hcl
                      have hWsz := (hw.1 f12).size
                      go_simp
                      refine hK _ _ ⟨W.heap.size, v2, by simp [upd, hdi, e9, e10, f12, f13, f14], fun _ => (hw.1 f12).trans ((Diff.refl W).alloc _), fun _ _ => ⟨World.alloc_heap_new _ _, hWsz⟩, fun h => absurd h (by simp [upd, hdi, e9, e10, f12, f13, f14]), fun h => absurd h (by simp [upd, hdi, e9, e10, f12, f13, f14])⟩
                    · rintro d a W hdi hdep hcl ⟨sb, v2, rfl, hw⟩ K hK
                      replace hdi : d 12 = false := hdi
                      obtain ⟨-, ⟨e3, e4, e5, e6, e7, e8, e9, e10, e11, -⟩, f13, f14, -⟩ := hcl.facts 12 hdi rfl hdep [3, 4, 5, 6, 7, 8, 9, 10, 11] [13, 14] (by kernel_rfl) (by kernel_rfl)
                      clear hdep hcl
                      have h5 := hw.2.1 e11 hdi
                      have hp := hw.1 hdi
                      obtain ⟨v', w', hr, q2, q3⟩ := run_append_arg_grows (P := Tryd.prog) W 44 44 3 i3 (.int .i64 0) 1 8 Tryd.underlying44 hi3 hz3 hsz3 hby3 rfl (by omega) ⟨g, 0, none⟩ n n (vals l) (by simp [vals, HN'.out]) (fun q x hq => by
                          simp only [vals, List.getElem?_map, Option.map_eq_some_iff] at hq
                          obtain ⟨y, hy, rfl⟩ := hq
                          rw [Addr.add_lit, Nat.zero_add]
                          exact ((pcell (HP3.out.trans hp)).1 g q hg2).trans (HGC.out q y hy)) ⟨sb, 0, none⟩ 1 1 [.int .i64 T] rfl (fun q x hq => by
                          match q with
                          | 0 =>
                            simp at hq
                            subst hq
                            show W.cell? ⟨sb, 0, none⟩ = _
                            rw [cell_of_row W _ _ _ _ _ h5.1]; rfl
                          | q + 1 => simp at hq) (by omega) (by simp only [maxLen]; omega) (by omega)
                      have hq2 : w'.ownsRow W.heap.size 3 1 v' (l ++ [(T : Int)]).length (vals (l ++ [(T : Int)])) := by rw [vals_append, List.length_append, HN'.out]; exact q2
                      have hwa := way_append (O := O) hq2 q3 (Nat.le_trans hsl hp.size) (fun k hk => Nat.lt_of_lt_of_le (HO3.out k hk) hp.size)
                      refine Eq.mpr (if_pos rfl) ?_
                      refine operIn_append (.tmp 83) (.tmp 86) 44 rfl (.slice (some ⟨g, 0, none⟩) n n) (.slice (some ⟨sb, 0, none⟩) 1 1) (by simp [Act.eval, upd, hdi, e3, e4, e5, e6, e7, e8, e9, e10, e11, f13, f14]) (by simp [Act.eval, upd, hdi, e3, e4, e5, e6, e7, e8, e9, e10, e11, f13, f14]) v' w' hr ?_
                      refine hK _ _ ⟨sb, v', by simp [Act.put, upd, hdi, e3, e4, e5, e6, e7, e8, e9, e10, e11, f13, f14], fun h => absurd h (by simp [upd, hdi, e3, e4, e5, e6, e7, e8, e9, e10, e11, f13, f14]), fun _ h => absurd h (by simp [upd, hdi, e3, e4, e5, e6, e7, e8, e9, e10, e11, f13, f14]), fun _ _ => ⟨hp.trans hwa.2, hwa.1⟩, fun h => absurd h (by simp [upd, hdi, e3, e4, e5, e6, e7, e8, e9, e10, e11, f13, f14])⟩
                    · rintro d a W hdi hdep hcl ⟨sb, v2, rfl, hw⟩ K hK
                      replace hdi : d 13 = false := hdi
                      obtain ⟨-, ⟨e0, e1, e2, e3, e4, e5, e6, e7, e8, e9, e10, e11, e12, -⟩, f14, -⟩ := hcl.facts 13 hdi rfl hdep [0, 1, 2, 3, 4, 5, 6, 7, 8, 9, 10, 11, 12] [14] (by kernel_rfl) (by kernel_rfl)
                      clear hdep hcl
                      go_simp
                      exact hK _ _ ⟨sb, v2, by simp [upd, hdi, e0, e1, e2, e3, e4, e5, e6, e7, e8, e9, e10, e11, e12, f14], by simpa [upd, hdi, e0, e1, e2, e3, e4, e5, e6, e7, e8, e9, e10, e11, e12, f14] using hw⟩
                    · rintro d a W hdi hdep hcl ⟨sb, v2, rfl, hw⟩ K hK
                      replace hdi : d 14 = false := hdi
                      obtain ⟨-, ⟨e0, e1, e2, e3, e4, e5, e6, e7, e8, e9, e10, e11, e12, e13, -⟩, -⟩ := hcl.facts 14 hdi rfl hdep [0, 1, 2, 3, 4, 5, 6, 7, 8, 9, 10, 11, 12, 13] [] (by kernel_rfl) (by kernel_rfl)
                      clear hdep hcl
                      obtain ⟨hp, how⟩ := hw.2.2.1 e12 hdi
                      obtain ⟨q1, q2, q3, rfl⟩ := how.shape
                      have z1 := ((pcell hp).1 gW T hlG3).trans zc3
                      have z2 := ((pcell hp).2 gW T hlG3).trans zf3
                      go_simp
                      refine hK _ _ ⟨sb, _, by simp [upd, hdi, e0, e1, e2, e3, e4, e5, e6, e7, e8, e9, e10, e11, e12, e13], fun h => absurd h (by simp [upd, hdi, e0, e1, e2, e3, e4, e5, e6, e7, e8, e9, e10, e11, e12, e13]), fun _ h => absurd h (by simp [upd, hdi, e0, e1, e2, e3, e4, e5, e6, e7, e8, e9, e10, e11, e12, e13]), fun _ h => absurd h (by simp [upd, hdi, e0, e1, e2, e3, e4, e5, e6, e7, e8, e9, e10, e11, e12, e13]), fun _ => ⟨W, hp, how, rfl⟩⟩
                  · rintro d a W hall ⟨sb, v2, rfl, hw⟩
                    simp [List.range_succ] at hall
                    obtain ⟨e0, e1, e2, e3, e4, e5, e6, e7, e8, e9, e10, e11, e12, e13, e14⟩ := hall
                    simp only [e0, e1, e2, e3, e4, e5, e6, e7, e8, e9, e10, e11, e12, e13, e14, cond_true] at hw ⊢
                    clear e0 e1 e2 e3 e4 e5 e6 e7 e8 e9 e10 e11 e12 e13 e14
                    obtain ⟨Wx, hp, how, rfl⟩ := hw.2.2.2 trivial
                    clear hw
                    have hfin := HR3.out.way_step (T := T) hp how
                    rw [show s1 + 2 = gW from HGW.out.symm] at hfin
                    obtain ⟨W4, hW4⟩ : ∃ W4, Wx.setCell ⟨gW, T, none⟩ v2 = W4 := ⟨_, rfl⟩
                    rw [hW4] at hfin ⊢
                    obtain ⟨hr4, hd4, hD4⟩ := hfin
                    have hD4' := hD4 Ds (HD.out.pure HP3.out)
                    have yS : W4.drew.cell? ⟨s1 + 1, 0, none⟩ = some (.slice (some ⟨s1, 0, none⟩) N N) := by show W4.cell? _ = _; rw [cell_of_row W4 _ _ _ _ _ hr4.bS]; rfl
                    have ys : ∃ y, W4.drew.cell? ⟨s1, T, none⟩ = some y ∧ W4.drew.frozen? ⟨s1, T, none⟩ = false := ⟨_, hr4.rS.cell hTN, hr4.rS.frozen T⟩
                    have yM : W4.drew.cell? ⟨gM + 1, 0, none⟩ = some (.slice (some ⟨gM, 0, none⟩) N N) := by
                      have h := hr4.bM
                      rw [show s1 + N + 5 = gM + 1 by have := HGM.out; omega, show s1 + N + 4 = gM from HGM.out.symm] at h
                      show W4.cell? _ = _
                      rw [cell_of_row W4 _ _ _ _ _ h]; rfl
                    have hrM4 := hr4.rM
                    rw [show s1 + N + 4 = gM from HGM.out.symm] at hrM4
                    have ym : ∃ y, W4.drew.cell? ⟨gM, T, none⟩ = some y ∧ W4.drew.frozen? ⟨gM, T, none⟩ = false := ⟨_, hrM4.cell hTN, hrM4.frozen T⟩
                    have yp : W4.drew.cell? ⟨Bp, 1, none⟩ = some (.int .i64 T) := by
                      show W4.cell? _ = _
                      rw [← hW4, World.cell?_of_block (w := Wx) (heap_setCell_other _ _ _ _ (by show Bp ≠ gW; have := HGW.out; omega))]
                      exact ((pcell hp).1 _ 1 hlB3).trans zp3
                    obtain ⟨ys0, ys1, ys2⟩ := ys
                    obtain ⟨ym0, ym1, ym2⟩ := ym
                    have HW4 := Lib.hid hr4
                    have HDF4 : Hid (Diff (fun k => ¬ k < w.heap.size ∧ ¬ O k) W3 W4) := hd4
                    have HD4 := Lib.hid hD4'
                    obtain ⟨W5, hW5⟩ : ∃ W5, W4.drew = W5 := ⟨_, rfl⟩
                    have HP5 : Hid (Pure W4 W5) := by rw [← hW5]; exact (Diff.refl W4).drew
                    rw [hW5] at yS ys1 ys2 yM ym1 ym2 yp
                    have ofar : ∀ (b o : Nat) (y : Value), b ≠ s1 → (W5.setCell ⟨s1, T, none⟩ y).cell? ⟨b, o, none⟩ = W5.cell? ⟨b, o, none⟩ ∧ (W5.setCell ⟨s1, T, none⟩ y).frozen? ⟨b, o, none⟩ = W5.frozen? ⟨b, o, none⟩ := fun b o y hb => ⟨World.cell?_of_block (w := W5) (heap_setCell_other _ _ _ _ hb), World.frozen?_of_block (w := W5) (heap_setCell_other _ _ _ _ hb)⟩
                    have yM' := ((ofar (gM + 1) 0 (.int .i64 (sf + v)) (by have := HGM.out; omega)).1).trans yM
                    have ym1' := ((ofar gM T (.int .i64 (sf + v)) (by have := HGM.out; omega)).1).trans ym1
                    have ym2' := ((ofar gM T (.int .i64 (sf + v)) (by have := HGM.out; omega)).2).trans ym2
                    have yp' := ((ofar Bp 1 (.int .i64 (sf + v)) (by omega)).1).trans yp
                    clear hr4 hd4 hD4 hD4' hrM4 how hp hW4 ofar
                    gi_wp2
                    refine reg_inv (fun d a W => a = { tmps := #[Value.agg #[Value.int IntKind.i64 b.lo, Value.int IntKind.i64 b.hi, Value.int IntKind.i64 b.lots, Value.slice p b.n cap], Value.pointer (some { block := w.heap.size, off := 0 }), Value.slice none 0 0, Value.int IntKind.i64 ↑N, Value.pointer (some { block := s1 + 1, off := 0 }), Value.pointer (some { block := gW + 1, off := 0 }), u6, Value.pointer (some { block := gM + 1, off := 0 }), Value.pointer (some { block := gM + 1 + 1, off := 0 }), Value.pointer (some { block := Bp, off := 0 }), Value.int IntKind.i64 v, Value.slice (some { block := g, off := 0 }) n c, Value.int IntKind.i64 (sf + v), Value.int IntKind.i64 (-1), undef, u15, Value.agg #[Value.int IntKind.i64 b.lo, Value.int IntKind.i64 b.hi, Value.int IntKind.i64 b.lots, Value.slice p b.n cap], Value.int IntKind.i64 ↑N, Value.int IntKind.i64 ↑N, Value.slice (some { block := s1, off := 0 }) N N, Value.int IntKind.i64 ↑N, Value.slice (some { block := gW, off := 0 }) N N, Value.slice (some { block := gW, off := 0 }) N N, Value.int IntKind.i64 ↑N, Value.int IntKind.i64 ↑N, Value.bool false, u26, u27, u28, u29, u30, u31, u32, Value.int IntKind.i64 ↑N, Value.slice (some { block := gM, off := 0 }) N N, Value.int IntKind.i64 ↑N, Value.int IntKind.i64 ↑k, Value.bool true, Value.slice (some { block := gM, off := 0 }) N N, Value.agg #[Value.int IntKind.i64 b.lo, Value.int IntKind.i64 b.hi, Value.int IntKind.i64 b.lots, Value.slice p b.n cap], Value.func (Fn.func 95) #[Value.agg #[Value.int IntKind.i64 b.lo, Value.int IntKind.i64 b.hi, Value.int IntKind.i64 b.lots, Value.slice p b.n cap]] #[], Value.agg #[Value.int IntKind.i64 ↑F, Value.int IntKind.i64 ↑T], Value.int IntKind.i64 v, Value.slice (some { block := gW, off := 0 }) N N, Value.pointer (some { block := Bp, off := 0 }), Value.int IntKind.i64 ↑F, Value.pointer (some { block := gW, off := F }), Value.slice (some { block := g, off := 0 }) n c, Value.slice (some { block := s1, off := 0 }) N N, Value.pointer (some { block := Bp, off := 0 }), Value.int IntKind.i64 ↑F, Value.pointer (some { block := s1, off := F }), Value.int IntKind.i64 sf, Value.int IntKind.i64 v, Value.int IntKind.i64 (sf + v), Value.int IntKind.i64 (sf + v), Value.slice (some { block := s1, off := 0 }) N N, Value.pointer (some { block := Bp, off := 1 }), Value.int IntKind.i64 ↑T, Value.pointer (some { block := s1, off := T }), Value.int IntKind.i64 (s.sums T), Value.bool false, Value.slice (some { block := g, off := 0 }) n c, Value.pointer (some { block := Bp, off := 1 }), Value.int IntKind.i64 ↑T, Value.int IntKind.i64 (-1), Value.int IntKind.i64 (-1), Value.bool false, undef, undef, undef, undef, undef, undef, undef, Value.slice (some { block := gW, off := 0 }) N N, Value.pointer (some { block := Bp, off := 1 }), Value.int IntKind.i64 ↑T, Value.slice (some { block := g, off := 0 }) n c, Value.slice (some { block := g, off := 0 }) n c, Value.int IntKind.i64 ↑n, Value.slice (some { block := g, off := 0 }) n c, Value.int IntKind.i64 ↑n, Value.slice (some { block := g, off := 0 }) n n, Value.pointer (some { block := Bp, off := 1 }), Value.int IntKind.i64 ↑T, Value.slice (some { block := sb, off := 0 }) 1 1, v2, Value.pointer (some { block := gW, off := T }), (bif d 0 then Value.slice (some { block := s1, off := 0 }) N N else undef), (bif d 1 then Value.pointer (some { block := Bp, off := 1 }) else undef), (bif d 2 then Value.int IntKind.i64 ↑T else undef), (bif d 3 then Value.slice (some { block := gM, off := 0 }) N N else undef), (bif d 4 then Value.pointer (some { block := Bp, off := 1 }) else undef), (bif d 5 then Value.int IntKind.i64 ↑T else undef), (bif d 6 then Value.int IntKind.i64 (sf + v) else undef), (bif d 7 then Value.pointer (some { block := s1, off := T }) else undef), (bif d 9 then Value.pointer (some { block := gM, off := T }) else undef), u98, u99, u100, u101, u102, u103, u104, u105, u106, undef], defers := [] } ∧ W = (bif d 10 then (W5.setCell ⟨s1, T, none⟩ (.int .i64 (sf + v))).setCell ⟨gM, T, none⟩ (.bool true) else bif d 8 then W5.setCell ⟨s1, T, none⟩ (.int .i64 (sf + v)) else W5)) hmx (by kernel_rfl) ?_ ?_ ?_
                    · exact ⟨rfl, hW5⟩
                    · refine ⟨?_, ?_, ?_, ?_, ?_, ?_, ?_, ?_, ?_, ?_, ?_, trivial⟩
                      · rintro d a W hdi hdep hcl ⟨rfl, hw⟩ K hK
                        replace hdi : d 0 = false := hdi
                        obtain ⟨-, -, f7, f8, f9, f10, -⟩ := hcl.facts 0 hdi rfl hdep [] [7, 8, 9, 10] (by kernel_rfl) (by kernel_rfl)
                        clear hdep hcl
                        subst hw
                        simp only [upd, hdi, f7, f8, f9, f10, cond_true, cond_false]
                        go_simp
                        refine hK _ _ ⟨by simp [upd, hdi, f7, f8, f9, f10], by simp [upd, hdi, f7, f8, f9, f10]⟩
                      · rintro d a W hdi hdep hcl ⟨rfl, hw⟩ K hK
                        replace hdi : d 1 = false := hdi
                        obtain ⟨-, -, f2, f7, f8, f9, f10, -⟩ := hcl.facts 1 hdi rfl hdep [] [2, 7, 8, 9, 10] (by kernel_rfl) (by kernel_rfl)
                        clear hdep hcl
                        subst hw
                        simp only [upd, hdi, f2, f7, f8, f9, f10, cond_true, cond_false]
                        go_simp
                        refine hK _ _ ⟨by simp [upd, hdi, f2, f7, f8, f9, f10], by simp [upd, hdi, f2, f7, f8, f9, f10]⟩
                      · rintro d a W hdi hdep hcl ⟨rfl, hw⟩ K hK
                        replace hdi : d 2 = false := hdi
                        obtain ⟨-, ⟨e1, -⟩, f7, f8, f9, f10, -⟩ := hcl.facts 2 hdi rfl hdep [1] [7, 8, 9, 10] (by kernel_rfl) (by kernel_rfl)
                        clear hdep hcl
                        subst hw
                        simp only [upd, hdi, e1, f7, f8, f9, f10, cond_true, cond_false]
                        go_simp
                        refine hK _ _ ⟨by simp [upd, hdi, e1, f7, f8, f9, f10], by simp [upd, hdi, e1, f7, f8, f9, f10]⟩
                      · rintro d a W hdi hdep hcl ⟨rfl, hw⟩ K hK
                        replace hdi : d 3 = false := hdi
                        obtain ⟨-, -, f9, f10, -⟩ := hcl.facts 3 hdi rfl hdep [] [9, 10] (by kernel_rfl) (by kernel_rfl)
                        clear hdep hcl
                        subst hw
                        simp only [upd, hdi, f9, f10, cond_true, cond_false]
                        cases h8 : d 8 with
                        | false =>
                          simp only [h8, cond_true, cond_false]
                          go_simp
                          refine hK _ _ ⟨by simp [upd, hdi, f9, f10, h8], by simp [upd, hdi, f9, f10, h8]⟩
                        | true =>
                          simp only [h8, cond_true, cond_false]
                          go_simp
                          refine hK _ _ ⟨by simp [upd, hdi, f9, f10, h8], by simp [upd, hdi, f9, f10, h8]⟩
                      · rintro d a W hdi hdep hcl ⟨rfl, hw⟩ K hK
                        replace hdi : d 4 = false := hdi
                        obtain ⟨-, -, f5, f9, f10, -⟩ := hcl.facts 4 hdi rfl hdep [] [5, 9, 10] (by kernel_rfl) (by kernel_rfl)
                        clear hdep hcl
                        subst hw
                        simp only [upd, hdi, f5, f9, f10, cond_true, cond_false]
                        cases h8 : d 8 with
                        | false =>
                          simp only [h8, cond_true, cond_false]
                          go_simp
                          refine hK _ _ ⟨by simp [upd, hdi, f5, f9, f10, h8], by simp [upd, hdi, f5, f9, f10, h8]⟩
                        | true =>
                          simp only [h8, cond_true, cond_false]
                          go_simp
                          refine hK _ _ ⟨by simp [upd, hdi, f5, f9, f10, h8], by simp [upd, hdi, f5, f9, f10, h8]⟩
                      · rintro d a W hdi hdep hcl ⟨rfl, hw⟩ K hK
                        replace hdi : d 5 = false := hdi
                        obtain ⟨-, ⟨e4, -⟩, f9, f10, -⟩ := hcl.facts 5 hdi rfl hdep [4] [9, 10] (by kernel_rfl) (by kernel_rfl)
                        clear hdep hcl
                        subst hw
                        simp only [upd, hdi, e4, f9, f10, cond_true, cond_false]
                        cases h8 : d 8 with
                        | false =>
                          simp only [h8, cond_true, cond_false]
                          go_simp
                          refine hK _ _ ⟨by simp [upd, hdi, e4, f9, f10, h8], by simp [upd, hdi, e4, f9, f10, h8]⟩
                        | true =>
                          simp only [h8, cond_true, cond_false]
                          go_simp
                          refine hK _ _ ⟨by simp [upd, hdi, e4, f9, f10, h8], by simp [upd, hdi, e4, f9, f10, h8]⟩
                      · rintro d a W hdi hdep hcl ⟨rfl, hw⟩ K hK
                        replace hdi : d 6 = false := hdi
                        obtain ⟨-, -, f7, f8, f9, f10, -⟩ := hcl.facts 6 hdi rfl hdep [] [7, 8, 9, 10] (by kernel_rfl) (by kernel_rfl)
                        clear hdep hcl
                        subst hw
                        simp only [upd, hdi, f7, f8, f9, f10, cond_true, cond_false]
                        go_simp
                        refine hK _ _ ⟨by simp [upd, hdi, f7, f8, f9, f10], by simp [upd, hdi, f7, f8, f9, f10]⟩
                      · rintro d a W hdi hdep hcl ⟨rfl, hw⟩ K hK
                        replace hdi : d 7 = false := hdi
                        obtain ⟨-, ⟨e0, e1, e2, e6, -⟩, f8, f9, f10, -⟩ := hcl.facts 7 hdi rfl hdep [0, 1, 2, 6] [8, 9, 10] (by kernel_rfl) (by kernel_rfl)
                        clear hdep hcl
                        subst hw
                        simp only [upd, hdi, e0, e1, e2, e6, f8, f9, f10, cond_true, cond_false]
                        go_simp
                        refine hK _ _ ⟨by simp [upd, hdi, e0, e1, e2, e6, f8, f9, f10], by simp [upd, hdi, e0, e1, e2, e6, f8, f9, f10]⟩
                      · rintro d a W hdi hdep hcl ⟨rfl, hw⟩ K hK
                        replace hdi : d 8 = false := hdi
                        obtain ⟨-, ⟨e0, e1, e2, e6, e7, -⟩, f9, f10, -⟩ := hcl.facts 8 hdi rfl hdep [0, 1, 2, 6, 7] [9, 10] (by kernel_rfl) (by kernel_rfl)
                        clear hdep hcl
                        subst hw
                        simp only [upd, hdi, e0, e1, e2, e6, e7, f9, f10, cond_true, cond_false]
                        go_simp
                        refine hK _ _ ⟨by simp [upd, hdi, e0, e1, e2, e6, e7, f9, f10], by simp [upd, hdi, e0, e1, e2, e6, e7, f9, f10]⟩
                      · rintro d a W hdi hdep hcl ⟨rfl, hw⟩ K hK
                        replace hdi : d 9 = false := hdi
                        obtain ⟨-, ⟨e0, e1, e2, e3, e4, e5, e6, e7, e8, -⟩, f10, -⟩ := hcl.facts 9 hdi rfl hdep [0, 1, 2, 3, 4, 5, 6, 7, 8] [10] (by kernel_rfl) (by kernel_rfl)
                        clear hdep hcl
                        subst hw
                        simp only [upd, hdi, e0, e1, e2, e3, e4, e5, e6, e7, e8, f10, cond_true, cond_false]
                        go_simp
                        refine hK _ _ ⟨by simp [upd, hdi, e0, e1, e2, e3, e4, e5, e6, e7, e8, f10], by simp [upd, hdi, e0, e1, e2, e3, e4, e5, e6, e7, e8, f10]⟩
                      · rintro d a W hdi hdep hcl ⟨rfl, hw⟩ K hK
                        replace hdi : d 10 = false := hdi
                        obtain ⟨-, ⟨e0, e1, e2, e3, e4, e5, e6, e7, e8, e9, -⟩, -⟩ := hcl.facts 10 hdi rfl hdep [0, 1, 2, 3, 4, 5, 6, 7, 8, 9] [] (by kernel_rfl) (by kernel_rfl)
                        clear hdep hcl
                        subst hw
                        simp only [upd, hdi, e0, e1, e2, e3, e4, e5, e6, e7, e8, e9, cond_true, cond_false]
                        go_simp
                        refine hK _ _ ⟨by simp [upd, hdi, e0, e1, e2, e3, e4, e5, e6, e7, e8, e9], by simp [upd, hdi, e0, e1, e2, e3, e4, e5, e6, e7, e8, e9]⟩
                    · rintro d a W hall ⟨rfl, hw⟩
                      simp [List.range_succ] at hall
                      obtain ⟨e0, e1, e2, e3, e4, e5, e6, e7, e8, e9, e10⟩ := hall
                      simp only [e0, e1, e2, e3, e4, e5, e6, e7, e8, e9, e10, cond_true] at hw ⊢
                      clear e0 e1 e2 e3 e4 e5 e6 e7 e8 e9 e10
                      gi_wp2_with fail
                      subst hw
                      have hsum := (HW4.out.pure HP5.out).sum_step (T := T) (x := sf + v)
                      rw [show s1 + N + 4 = gM from HGM.out.symm] at hsum
                      have hall := ((HP3.out.mono (O' := fun k => ¬ k < w.heap.size ∧ ¬ O k) (fun _ _ h => h.elim)).trans HDF4.out).trans ((HP5.out.mono (O' := fun k => ¬ k < w.heap.size ∧ ¬ O k) (fun _ _ h => h.elim)).trans hsum.2.1)
                      exact ⟨hall, by rw [hstep.out, hST2.out, HX.out]; exact hsum.1, hsum.2.2 Ds (HD4.out.pure HP5.out), Nat.le_trans HSZ.out hall.size⟩

          case done =>
            rintro O D W2 ⟨hRI2, hRD2, hsz2⟩ hOD hDs2 hDd
            have hps : passR b.bn b.bnN N (k + 1) = ((passR b.bn b.bnN N k).1.clr.to b.bn b.bnN, !((passR b.bn b.bnN N k).1.clr.to b.bn b.bnN).any N) := by rw [passR_succ, HST.out]; rfl
            obtain ⟨s', hs'⟩ : ∃ s', (passR b.bn b.bnN N k).1.clr.to b.bn b.bnN = s' := ⟨_, rfl⟩
            rw [hs'] at hps hRI2
            have hRI3 : RI w (bookC b p cap) s1 N s' (fun _ => False) W2 := hRI2.to (M := fun _ => False) (Diff.refl W2) (fun _ h => h.elim) (fun _ h => h.elim)
            have hRD3 : RD (D :: Ds) (fun _ => False) W2 := by
              intro D' hD'
              rcases List.mem_cons.1 hD' with rfl | hD'
              · exact ⟨id, hDd⟩
              · exact ⟨id, (hRD2 D' hD').2⟩
            have hDs3 : DsOk s1 (D :: Ds) := by
              refine ⟨List.pairwise_cons.2 ⟨fun D' hD' => ?_, HDS.out.1⟩, fun D' hD' => ?_⟩
              rotate_left
              · rcases List.mem_cons.1 hD' with rfl | hD'
                · omega
                · exact HDS.out.2 D' hD'
              have := (Array.getElem?_eq_some_iff.1 (HRD.out D' hD').2).1
              show D' < D
              omega
            have zM2 : W2.cell? ⟨gM + 1, 0, none⟩ = some (.slice (some ⟨gM, 0, none⟩) N N) := by
              have h := hRI3.bM
              rw [show s1 + N + 5 = gM + 1 by have := HGM.out; omega, show s1 + N + 4 = gM from HGM.out.symm] at h
              rw [cell_of_row W2 _ _ _ _ _ h]; rfl
            have hrM2 := hRI3.rM
            rw [show s1 + N + 4 = gM from HGM.out.symm] at hrM2
            have HRM2 := Lib.hid hrM2
            have HR3 := Lib.hid hRI3
            have HD3 := Lib.hid hRD3
            have HS3 := Lib.hid hDs3
            have HPS := Lib.hid hps
            clear hRI2 hRD2 hRI3 hRD3 hDs3 hrM2 hps hs' hDd hOD hDs2 hsz2 zM hcl c0 c1 c2 c3
            have hdef : ({ target := .collected D, args := #[] } : Deferred) :: marksD Ds = marksD (D :: Ds) := rfl
            simp only [hdef]
            gi_wp2_with fail
            gi_loop [100] (fun i => ∃ j : Nat, j ≤ N ∧ i = .int .i64 j ∧ Hid (∀ j', j' < j → s'.marks j' = false)) (fun i => N - (intOf i).toNat)
            case atStart => exact ⟨0, Nat.zero_le _, rfl, fun j' hj' => by omega⟩
            case round =>
              obtain ⟨j, hj, rfl, hno⟩ := hrel
              by_cases hjl : j < N
              · have hji : (j : Int) < N := by omega
                have hj0 : (0 : Int) ≤ j := by omega
                have zj := HRM2.out.cell hjl
                cases hm : s'.marks j with
                | true =>
                  have hany : s'.any N = true := List.any_eq_true.2 ⟨j, by simpa using hjl, hm⟩
                  rw [hm] at zj
                  clear hm
                  have HANY := Lib.hid hany
                  clear hany
                  gi_wp2_with fail
                  exact ⟨⟨k + 1, D :: Ds, ⟨by omega, rfl⟩, by omega, by rw [HPS.out, HANY.out]; rfl, by rw [HPS.out]; exact HR3.out, HD3.out, HS3.out⟩, by simp [intOf]; omega⟩
                | false =>
                  rw [hm] at zj
                  have HM := Lib.hid hm
                  clear hm
                  gi_wp2_with fail
                  exact ⟨⟨j + 1, by omega, by go_num, fun j' hj' => by
                    by_cases e : j' = j
                    · rw [e]; exact HM.out
                    · exact hno.out j' (by omega)⟩, by simp [intOf]; omega⟩
              · obtain rfl : N = j := by omega
                have hany : s'.any N = false := List.any_eq_false.2 (fun j' hj' => by simp [hno.out j' (by simpa using hj')])
                have HFD : Hid (s'.found = foundR b.bn b.bnN N) := by
                  show _ = _
                  have h1 := HPS.out
                  rw [hany] at h1
                  unfold foundR
                  rw [passR_stop (k := k + 1) (by rw [h1]; rfl) N (by omega), h1]
                obtain ⟨u, vs, hf1, hf2, -, hf4⟩ := HR3.out.rF
                have zF : W2.cell? ⟨gM + 1 + 1, 0, none⟩ = some u := by
                  rw [show s1 + N + 6 = gM + 1 + 1 by have := HGM.out; omega] at hf1
                  rw [cell_of_row W2 _ _ _ _ _ hf1]; rfl
                have HF2 := Lib.hid hf2
                have HF4 := Lib.hid hf4
                clear hf1 hf2 hf4 hany hno
                gi_wp2_with fail
                refine leaves_marks _ _ HD3.out HS3.out.1 (fun W' hd => ?_)
                obtain ⟨r1, r2⟩ := HR3.out.leave HD3.out HS3.out hd
                refine ⟨u, by simp [results, Tryd.results82, go_sem], u, vs, rfl, r1, ?_, fun i v hv => ?_⟩
                · rw [← HFD.out]
                  exact r2 _ _ _ _ (own_mono HF2.out (by omega))
                · obtain ⟨r, h1, h2⟩ := HF4.out i v hv
                  exact ⟨r, by rw [← HFD.out]; exact h1, r2 _ _ _ _ h2.1⟩
        · obtain rfl : N = k := by omega
          have HFD : Hid ((passR b.bn b.bnN N N).1.found = foundR b.bn b.bnN N) := rfl
          obtain ⟨s', hs'⟩ : ∃ s', (passR b.bn b.bnN N N).1 = s' := ⟨_, rfl⟩
          rw [hs'] at hRI HFD
          clear hs' hst
          have HR3 := Lib.hid hRI
          have HD3 := Lib.hid hRD
          have HS3 := Lib.hid hDs
          obtain ⟨u, vs, hf1, hf2, -, hf4⟩ := hRI.rF
          have zF : W.cell? ⟨gM + 1 + 1, 0, none⟩ = some u := by
            rw [show s1 + N + 6 = gM + 1 + 1 by have := HGM.out; omega] at hf1
            rw [cell_of_row W _ _ _ _ _ hf1]; rfl
          have HF2 := Lib.hid hf2
          have HF4 := Lib.hid hf4
          clear hRI hRD hDs hf1 hf2 hf4
          gi_wp2_with fail
          refine leaves_marks _ _ HD3.out HS3.out.1 (fun W' hd => ?_)
          obtain ⟨r1, r2⟩ := HR3.out.leave HD3.out HS3.out hd
          refine ⟨u, by simp [results, Tryd.results82, go_sem], u, vs, rfl, r1, ?_, fun i v hv => ?_⟩
          · rw [← HFD.out]
            exact r2 _ _ _ _ (own_mono HF2.out (by omega))
          · obtain ⟨r, h1, h2⟩ := HF4.out i v hv
            exact ⟨r, by rw [← HFD.out]; exact h1, r2 _ _ _ _ h2.1⟩
end Go.Proofs.YtmedkmbfggphdaaDoor
