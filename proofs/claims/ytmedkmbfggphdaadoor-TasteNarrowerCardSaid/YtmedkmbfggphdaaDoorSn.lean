/- Three copies of a book that have no memory in common. No condition. -/
import Derived.Test.YtmedkmbfggphdaaDoorSb
set_option linter.unusedSimpArgs false
set_option linter.unusedVariables false
set_option linter.constructorNameAsVariable false
namespace Go.Proofs.YtmedkmbfggphdaaDoor
open Go.RowKit

/-- A copy whose memory lies between two bounds. -/
structure Cp (B H : Nat) (w : World) (q : Option Addr) (c : Nat) (b : BK) : Prop where
  s : SamI B w (.slice q b.n c) b b.n
  u : ∀ go, q = some ⟨go, 0, none⟩ → go < H ∧ ∀ j, j < b.n → ∀ g m ck, w.cell? ⟨go, j, none⟩ = some (.slice (some ⟨g, 0, none⟩) m ck) → g < H
theorem Cp.of {B : Nat} {w : World} {q : Option Addr} {c : Nat} {b : BK} (h : SamI B w (.slice q b.n c) b b.n) : Cp B w.heap.size w q c b := by
  refine ⟨h, fun go e => ⟨?_, fun j hj g m ck hc => ?_⟩⟩
  · subst e
    obtain ⟨ss, G, cc, F, h1, _⟩ := h
    rcases h1.2 with ⟨e, _⟩ | ⟨g', c', cur, e, _, h5, _⟩
    · cases e
    · cases e; exact (Array.getElem?_eq_some_iff.1 h5).1
  · obtain ⟨go', gk, ck', F, e1, _, _, e4, e5, _⟩ := h.sit hj
    rw [e] at e1
    cases e1
    rw [hc] at e4
    cases e4
    exact e5.row.lt
theorem Cp.mono {B B' H H' : Nat} {w : World} {q : Option Addr} {c : Nat} {b : BK} (h : Cp B H w q c b) (hB : B' ≤ B) (hH : H ≤ H') : Cp B' H' w q c b :=
  ⟨h.s.mono hB, fun go e => ⟨Nat.lt_of_lt_of_le (h.u go e).1 hH, fun j hj g m ck hc => Nat.lt_of_lt_of_le ((h.u go e).2 j hj g m ck hc) hH⟩⟩
/-- What is changed is none of the copy's memory. -/
theorem Cp.keep {B H : Nat} {w w' : World} {q : Option Addr} {c : Nat} {b : BK} (h : Cp B H w q c b) (hs : SamI B w' (.slice q b.n c) b b.n) (hc : ∀ go, q = some ⟨go, 0, none⟩ → w'.heap[go]? = w.heap[go]?) : Cp B H w' q c b :=
  ⟨hs, fun go e => ⟨(h.u go e).1, fun j hj g m ck hcell => (h.u go e).2 j hj g m ck (by rw [← hcell]; exact (World.cell?_of_block (w := w) (hc go e)).symm)⟩⟩
theorem Cp.out {B H : Nat} {w : World} {go c : Nat} {b : BK} (h : Cp B H w (some ⟨go, 0, none⟩) c b) : B ≤ go ∧ ∃ cur, w.heap[go]? = some (.cells cur 59 (0, 0)) := by
  obtain ⟨ss, G, cc, F, h1, _⟩ := h.s
  rcases h1.2 with ⟨e, _⟩ | ⟨g', c', cur, e, h4, h5, _⟩
  · cases e
  · cases e; exact ⟨h4, _, h5⟩
theorem Cp.to {B H : Nat} {w w' : World} {q : Option Addr} {c : Nat} {b : BK} (h : Cp B H w q c b) (hp : Pure w w') : Cp B H w' q c b :=
  h.keep (h.s.pure hp) (fun go e => by subst e; obtain ⟨_, cur, h5⟩ := h.out; exact hp.block go (Array.getElem?_eq_some_iff.1 h5).1 id)
theorem Cp.set {B H : Nat} {w : World} {q : Option Addr} {c : Nat} {b : BK} (h : Cp B H w q c b) {g : Nat} (hg : g < B) (o : Nat) (u : Value) : Cp B H (w.setCell ⟨g, o, none⟩ u) q c b :=
  h.keep (h.s.set hg o u) (fun go e => by subst e; exact Go.Deep.blk_setCell_other _ _ _ _ (show go ≠ g by have := h.out.1; omega))
theorem Cp.setBox {B H : Nat} {w : World} {q : Option Addr} {c : Nat} {b : BK} (h : Cp B H w q c b) {g : Nat} {cs : Array Value} (hg : w.heap[g]? = some (.cells cs 26 (0, 0))) (o : Nat) (u : Value) : Cp B H (w.setCell ⟨g, o, none⟩ u) q c b := by
  have key : ∀ go, q = some ⟨go, 0, none⟩ → go ≠ g := fun go e e2 => by
    subst e; subst e2
    obtain ⟨_, cur, h5⟩ := h.out
    rw [hg] at h5; simp at h5
  refine h.keep ?_ (fun go e => Go.Deep.blk_setCell_other _ _ _ _ (key go e))
  obtain ⟨ss, G, cc, F, h1, h2, h3⟩ := h.s
  refine ⟨ss, G, cc, F, ownsRow_setCell_other h1 (fun e => ?_) u, fun j hj => ⟨(h2 j hj).1, (h2 j hj).2.low, (h2 j hj).2.row.setOther (fun e => ?_) u, (h2 j hj).2.mc, (h2 j hj).2.cm, (h2 j hj).2.at0⟩, h3⟩
  · rcases h1.2 with ⟨e1, _⟩ | ⟨g', c', cur, e1, _, h5, _⟩
    · simp only [Value.slice.injEq] at e1
      rw [e1.1] at e; simp [Value.ownBlock] at e
    · simp only [Value.slice.injEq] at e1
      rw [e1.1] at e
      simp only [Value.ownBlock, Option.some.injEq] at e
      exact key g' e1.1 e
  · obtain ⟨cs', h4, -⟩ := (h2 j hj).2.row
    rw [e, hg] at h4
    simp at h4
/-- The book lies below the upper bound. -/
theorem Cp.book {B H : Nat} {w : World} {q : Option Addr} {c : Nat} {b : BK} (h : Cp B H w q c b) : BookAt H w q b := by
  intro k hk
  obtain ⟨go, gk, ck, F, e1, _, _, e4, e5, _⟩ := h.s.sit hk
  obtain ⟨h1, h2⟩ := h.u go e1
  refine ⟨go, 0, some ⟨gk, 0, none⟩, ck, e1, h1, by rw [Nat.zero_add]; exact e4, fun j hj => ⟨gk, 0, rfl, h2 k hk _ _ _ e4, ?_⟩⟩
  rw [Nat.zero_add]
  exact e5.cells hj
def box0 : Array Value := #[.int .i64 0, .int .i64 0, .int .i64 0, .slice none 0 0]
/-- What is known while three copies are made, by what is done. -/
structure N8 (b : BK) (wr : World) (q1 : Option Addr) (c1 : Nat) (q2 : Option Addr) (c2 : Nat) (q3 : Option Addr) (c3 B2 B3 gx gy gz : Nat) (x1 x3 x5 x6 x7 x8 s9 s10 s11 : Bool) (W : World) : Prop where
  p : Pure wr W
  a1 : x1 = true → Cp wr.heap.size W.heap.size W q1 c1 b
  a2 : x3 = true → Cp wr.heap.size B2 W q1 c1 b ∧ Cp B2 W.heap.size W q2 c2 b ∧ wr.heap.size ≤ B2 ∧ B2 ≤ W.heap.size
  a3 : x5 = true → Cp B2 B3 W q2 c2 b ∧ SamI B3 W (.slice q3 b.n c3) b b.n ∧ B2 ≤ B3
  bx : x6 = true → wr.heap.size ≤ gx ∧ W.heap[gx]? = some (.cells (bif s9 then bookC b q1 c1 else box0) 26 (0, 0))
  by' : x7 = true → wr.heap.size ≤ gy ∧ W.heap[gy]? = some (.cells (bif s10 then bookC b q2 c2 else box0) 26 (0, 0))
  bz : x8 = true → wr.heap.size ≤ gz ∧ W.heap[gz]? = some (.cells (bif s11 then bookC b q3 c3 else box0) 26 (0, 0))
  n1 : x6 = true → x7 = true → gx ≠ gy
  n2 : x6 = true → x8 = true → gx ≠ gz
  n3 : x7 = true → x8 = true → gy ≠ gz
section
variable {b : BK} {wr : World} {q1 q2 q3 : Option Addr} {c1 c2 c3 B2 B3 gx gy gz : Nat} {x1 x3 x5 x6 x7 x8 s9 s10 s11 : Bool} {W : World}
theorem N8.start (b : BK) (wr : World) (q1 : Option Addr) (c1 : Nat) (q2 : Option Addr) (c2 : Nat) (q3 : Option Addr) (c3 B2 B3 gx gy gz : Nat) : N8 b wr q1 c1 q2 c2 q3 c3 B2 B3 gx gy gz false false false false false false false false false wr.drew :=
  ⟨(Diff.refl wr).drew, fun h => Bool.noConfusion h, fun h => Bool.noConfusion h, fun h => Bool.noConfusion h, fun h => Bool.noConfusion h, fun h => Bool.noConfusion h, fun h => Bool.noConfusion h, fun h => Bool.noConfusion h, fun h => Bool.noConfusion h, fun h => Bool.noConfusion h⟩
theorem blkTo {w w' : World} {g : Nat} {O : Obj} (h : w.heap[g]? = some O) (hp : Pure w w') : w'.heap[g]? = some O := (hp.block g (Array.getElem?_eq_some_iff.1 h).1 id).trans h
/-- Any step that only makes memory. -/
theorem N8.pure (h : N8 b wr q1 c1 q2 c2 q3 c3 B2 B3 gx gy gz x1 x3 x5 x6 x7 x8 s9 s10 s11 W) {W' : World} (hp : Pure W W') : N8 b wr q1 c1 q2 c2 q3 c3 B2 B3 gx gy gz x1 x3 x5 x6 x7 x8 s9 s10 s11 W' :=
  ⟨h.p.trans hp, fun e => ((h.a1 e).to hp).mono (Nat.le_refl _) hp.size, fun e => ⟨(h.a2 e).1.to hp, ((h.a2 e).2.1.to hp).mono (Nat.le_refl _) hp.size, (h.a2 e).2.2.1, Nat.le_trans (h.a2 e).2.2.2 hp.size⟩, fun e => ⟨(h.a3 e).1.to hp, (h.a3 e).2.1.pure hp, (h.a3 e).2.2⟩,
   fun e => ⟨(h.bx e).1, blkTo (h.bx e).2 hp⟩, fun e => ⟨(h.by' e).1, blkTo (h.by' e).2 hp⟩, fun e => ⟨(h.bz e).1, blkTo (h.bz e).2 hp⟩, h.n1, h.n2, h.n3⟩
theorem N8.same1 (h : N8 b wr q1 c1 q2 c2 q3 c3 B2 B3 gx gy gz false false false x6 x7 x8 false s10 s11 W) {W' : World} (hp : Pure W W') {q : Option Addr} {c : Nat} (hs : SamI W.heap.size W' (.slice q b.n c) b b.n) :
    N8 b wr q c q2 c2 q3 c3 B2 B3 gx gy gz true false false x6 x7 x8 false s10 s11 W' := by
  have k := h.pure hp
  exact ⟨k.p, fun _ => (Cp.of hs).mono h.p.size (Nat.le_refl _), fun h => Bool.noConfusion h, fun h => Bool.noConfusion h, k.bx, k.by', k.bz, k.n1, k.n2, k.n3⟩
theorem N8.same2 (h : N8 b wr q1 c1 q2 c2 q3 c3 B2 B3 gx gy gz true false false x6 x7 x8 s9 false s11 W) {W' : World} (hp : Pure W W') {q : Option Addr} {c : Nat} (hs : SamI W.heap.size W' (.slice q b.n c) b b.n) :
    N8 b wr q1 c1 q c q3 c3 W.heap.size B3 gx gy gz true true false x6 x7 x8 s9 false s11 W' := by
  have k := h.pure hp
  exact ⟨k.p, k.a1, fun _ => ⟨(h.a1 rfl).to hp, Cp.of hs, h.p.size, hp.size⟩, fun h => Bool.noConfusion h, k.bx, k.by', k.bz, k.n1, k.n2, k.n3⟩
theorem N8.same3 (h : N8 b wr q1 c1 q2 c2 q3 c3 B2 B3 gx gy gz true true false x6 x7 x8 s9 s10 false W) {W' : World} (hp : Pure W W') {q : Option Addr} {c : Nat} (hs : SamI W.heap.size W' (.slice q b.n c) b b.n) :
    N8 b wr q1 c1 q2 c2 q c B2 W.heap.size gx gy gz true true true x6 x7 x8 s9 s10 false W' := by
  have k := h.pure hp
  have hB2 : B2 ≤ W.heap.size := (h.a2 rfl).2.2.2
  exact ⟨k.p, k.a1, k.a2, fun _ => ⟨(h.a2 rfl).2.1.to hp, hs, hB2⟩, k.bx, k.by', k.bz, k.n1, k.n2, k.n3⟩
theorem N8.alloc1 (h : N8 b wr q1 c1 q2 c2 q3 c3 B2 B3 gx gy gz x1 x3 x5 false x7 x8 false s10 s11 W) : N8 b wr q1 c1 q2 c2 q3 c3 B2 B3 W.heap.size gy gz x1 x3 x5 true x7 x8 false s10 s11 (W.alloc (.cells box0 26)) := by
  have k := h.pure ((Diff.refl (O := fun _ => False) W).alloc (.cells box0 26))
  exact ⟨k.p, k.a1, k.a2, k.a3, fun _ => ⟨h.p.size, World.alloc_heap_new _ _⟩, k.by', k.bz, fun _ e e2 => by have := (Array.getElem?_eq_some_iff.1 (h.by' e).2).1; omega, fun _ e e2 => by have := (Array.getElem?_eq_some_iff.1 (h.bz e).2).1; omega, k.n3⟩
theorem N8.alloc2 (h : N8 b wr q1 c1 q2 c2 q3 c3 B2 B3 gx gy gz x1 x3 x5 x6 false x8 s9 false s11 W) : N8 b wr q1 c1 q2 c2 q3 c3 B2 B3 gx W.heap.size gz x1 x3 x5 x6 true x8 s9 false s11 (W.alloc (.cells box0 26)) := by
  have k := h.pure ((Diff.refl (O := fun _ => False) W).alloc (.cells box0 26))
  exact ⟨k.p, k.a1, k.a2, k.a3, k.bx, fun _ => ⟨h.p.size, World.alloc_heap_new _ _⟩, k.bz, fun e _ e2 => by have := (Array.getElem?_eq_some_iff.1 (h.bx e).2).1; omega, k.n2, fun _ e e2 => by have := (Array.getElem?_eq_some_iff.1 (h.bz e).2).1; omega⟩
theorem N8.alloc3 (h : N8 b wr q1 c1 q2 c2 q3 c3 B2 B3 gx gy gz x1 x3 x5 x6 x7 false s9 s10 false W) : N8 b wr q1 c1 q2 c2 q3 c3 B2 B3 gx gy W.heap.size x1 x3 x5 x6 x7 true s9 s10 false (W.alloc (.cells box0 26)) := by
  have k := h.pure ((Diff.refl (O := fun _ => False) W).alloc (.cells box0 26))
  exact ⟨k.p, k.a1, k.a2, k.a3, k.bx, k.by', fun _ => ⟨h.p.size, World.alloc_heap_new _ _⟩, k.n1, fun e _ e2 => by have := (Array.getElem?_eq_some_iff.1 (h.bx e).2).1; omega, fun e _ e2 => by have := (Array.getElem?_eq_some_iff.1 (h.by' e).2).1; omega⟩
end
/-- A struct of four cells is stored. -/
def put4 (w : World) (g : Nat) (b : BK) (q : Option Addr) (c : Nat) : World := (((w.setCell ⟨g, 0, none⟩ (.int .i64 b.lo)).setCell ⟨g, 1, none⟩ (.int .i64 b.hi)).setCell ⟨g, 2, none⟩ (.int .i64 b.lots)).setCell ⟨g, 3, none⟩ (.slice q b.n c)
theorem setBlk {w : World} {g o : Nat} {cs : Array Value} {u : Value} (h : w.heap[g]? = some (.cells cs 26 (0, 0))) : (w.setCell ⟨g, o, none⟩ u).heap[g]? = some (.cells (cs.setIfInBounds o u) 26 (0, 0)) := by
  unfold World.setCell
  show (w.heap.modify g _)[g]? = _
  rw [Array.getElem?_modify, if_pos rfl, h]
  rfl
theorem setBlk59 {w : World} {g o : Nat} {cs : Array Value} {u : Value} (h : w.heap[g]? = some (.cells cs 59 (0, 0))) : (w.setCell ⟨g, o, none⟩ u).heap[g]? = some (.cells (cs.setIfInBounds o u) 59 (0, 0)) := by
  unfold World.setCell
  show (w.heap.modify g _)[g]? = _
  rw [Array.getElem?_modify, if_pos rfl, h]
  rfl
theorem put4_at {w : World} {g : Nat} {b : BK} {q : Option Addr} {c : Nat} (h : w.heap[g]? = some (.cells box0 26 (0, 0))) : (put4 w g b q c).heap[g]? = some (.cells (bookC b q c) 26 (0, 0)) := by
  unfold put4
  rw [setBlk (setBlk (setBlk (setBlk h)))]
  rfl
theorem put4_off {w : World} {g k : Nat} {b : BK} {q : Option Addr} {c : Nat} (h : k ≠ g) : (put4 w g b q c).heap[k]? = w.heap[k]? := by
  unfold put4
  rw [Go.Deep.blk_setCell_other _ _ _ _ h, Go.Deep.blk_setCell_other _ _ _ _ h, Go.Deep.blk_setCell_other _ _ _ _ h, Go.Deep.blk_setCell_other _ _ _ _ h]
theorem Cp.put4 {B H : Nat} {w : World} {q q' : Option Addr} {c c' : Nat} {b b' : BK} (h : Cp B H w q c b) {g : Nat} {cs : Array Value} (hg : w.heap[g]? = some (.cells cs 26 (0, 0))) : Cp B H (put4 w g b' q' c') q c b := by
  unfold Go.Proofs.YtmedkmbfggphdaaDoor.put4
  exact (((h.setBox hg 0 _).setBox (setBlk hg) 1 _).setBox (setBlk (setBlk hg)) 2 _).setBox (setBlk (setBlk (setBlk hg))) 3 _
theorem put4_size {w : World} {g : Nat} {b : BK} {q : Option Addr} {c : Nat} : (put4 w g b q c).heap.size = w.heap.size := by unfold put4; simp
section
variable {b : BK} {wr : World} {q1 q2 q3 : Option Addr} {c1 c2 c3 B2 B3 gx gy gz : Nat} {s9 s10 s11 : Bool} {W : World}
theorem N8.put (h : N8 b wr q1 c1 q2 c2 q3 c3 B2 B3 gx gy gz true true true true true true s9 s10 s11 W) {g : Nat} (hg : wr.heap.size ≤ g) {cs : Array Value} (hc : W.heap[g]? = some (.cells cs 26 (0, 0))) (q : Option Addr) (c : Nat) :
    Pure wr (put4 W g b q c) ∧ (Cp wr.heap.size (put4 W g b q c).heap.size (put4 W g b q c) q1 c1 b) ∧ (Cp wr.heap.size B2 (put4 W g b q c) q1 c1 b ∧ Cp B2 (put4 W g b q c).heap.size (put4 W g b q c) q2 c2 b ∧ wr.heap.size ≤ B2 ∧ B2 ≤ (put4 W g b q c).heap.size) ∧
      (Cp B2 B3 (put4 W g b q c) q2 c2 b ∧ SamI B3 (put4 W g b q c) (.slice q3 b.n c3) b b.n ∧ B2 ≤ B3) := by
  have a2 := h.a2 rfl
  have a3 := h.a3 rfl
  refine ⟨?_, ?_, ⟨a2.1.put4 hc, ?_, a2.2.2.1, ?_⟩, a3.1.put4 hc, ((Cp.of a3.2.1).put4 hc).s, a3.2.2⟩
  · unfold put4
    refine Diff.setCell (Diff.setCell (Diff.setCell (Diff.setCell h.p ?_ _) ?_ _) ?_ _) ?_ _ <;> exact fun e => by have e' : g < wr.heap.size := e; omega
  · rw [put4_size]; exact (h.a1 rfl).put4 hc
  · rw [put4_size]; exact a2.2.1.put4 hc
  · rw [put4_size]; exact a2.2.2.2
theorem N8.store1 (h : N8 b wr q1 c1 q2 c2 q3 c3 B2 B3 gx gy gz true true true true true true false false false W) : N8 b wr q1 c1 q2 c2 q3 c3 B2 B3 gx gy gz true true true true true true true false false (put4 W gx b q1 c1) := by
  obtain ⟨k1, k2, k3, k4⟩ := h.put (h.bx rfl).1 (h.bx rfl).2 q1 c1
  exact ⟨k1, fun _ => k2, fun _ => k3, fun _ => k4, fun _ => ⟨(h.bx rfl).1, put4_at (h.bx rfl).2⟩, fun _ => ⟨(h.by' rfl).1, (put4_off (h.n1 rfl rfl).symm).trans (h.by' rfl).2⟩, fun _ => ⟨(h.bz rfl).1, (put4_off (h.n2 rfl rfl).symm).trans (h.bz rfl).2⟩, h.n1, h.n2, h.n3⟩
theorem N8.store2 (h : N8 b wr q1 c1 q2 c2 q3 c3 B2 B3 gx gy gz true true true true true true true false false W) : N8 b wr q1 c1 q2 c2 q3 c3 B2 B3 gx gy gz true true true true true true true true false (put4 W gy b q2 c2) := by
  obtain ⟨k1, k2, k3, k4⟩ := h.put (h.by' rfl).1 (h.by' rfl).2 q2 c2
  exact ⟨k1, fun _ => k2, fun _ => k3, fun _ => k4, fun _ => ⟨(h.bx rfl).1, (put4_off (h.n1 rfl rfl)).trans (h.bx rfl).2⟩, fun _ => ⟨(h.by' rfl).1, put4_at (h.by' rfl).2⟩, fun _ => ⟨(h.bz rfl).1, (put4_off (h.n3 rfl rfl).symm).trans (h.bz rfl).2⟩, h.n1, h.n2, h.n3⟩
theorem N8.store3 (h : N8 b wr q1 c1 q2 c2 q3 c3 B2 B3 gx gy gz true true true true true true true true false W) : N8 b wr q1 c1 q2 c2 q3 c3 B2 B3 gx gy gz true true true true true true true true true (put4 W gz b q3 c3) := by
  obtain ⟨k1, k2, k3, k4⟩ := h.put (h.bz rfl).1 (h.bz rfl).2 q3 c3
  exact ⟨k1, fun _ => k2, fun _ => k3, fun _ => k4, fun _ => ⟨(h.bx rfl).1, (put4_off (h.n2 rfl rfl)).trans (h.bx rfl).2⟩, fun _ => ⟨(h.by' rfl).1, (put4_off (h.n3 rfl rfl)).trans (h.by' rfl).2⟩, fun _ => ⟨(h.bz rfl).1, put4_at (h.bz rfl).2⟩, h.n1, h.n2, h.n3⟩
end
end Go.Proofs.YtmedkmbfggphdaaDoor
