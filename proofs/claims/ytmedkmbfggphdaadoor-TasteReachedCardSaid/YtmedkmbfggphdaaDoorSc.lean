/- A copy of a book that has one sitting more. No condition. -/
import Derived.Test.YtmedkmbfggphdaaDoorSb
import Derived.Test.YtmedkmbfggphdaaDoorCe
set_option linter.unusedSimpArgs false
set_option linter.unusedVariables false
set_option linter.constructorNameAsVariable false
namespace Go.Proofs.YtmedkmbfggphdaaDoor
open Go.RowKit

theorem SamI.congr {B : Nat} {w : World} {v : Value} {b b' : BK} {k : Nat} (h : SamI B w v b k) (he : ∀ j, j < k → b'.m j = b.m j ∧ b'.t j = b.t j) : SamI B w v b' k := by
  obtain ⟨ss, G, c, F, h1, h2, h3⟩ := h
  exact ⟨ss, G, c, F, h1, fun j hj => by rw [(he j hj).1, (he j hj).2]; exact h2 j hj, h3⟩
/-- A sitting of one taste, as Sitting makes it. -/
theorem sitR_one {B : Nat} {w : World} {u : Value} {f : Nat → Int} {b : BK} {lot lo hi : Int} (h : w.ownsRow B 70 3 u 1 (sitC f 1)) (h0 : f 0 = lot) (h1 : f 1 = lo) (h2 : f 2 = hi) :
    ∃ g c, u = .slice (some ⟨g, 0, none⟩) 1 c ∧ ∃ F, SitR B w ((b.add lot lo hi).m b.n) ((b.add lot lo hi).t b.n) g c F := by
  have e : sitC f 1 = (b.add lot lo hi).rowC b.n 1 := by
    show [] ++ [Value.int .i64 (f (3 * 0)), Value.int .i64 (f (3 * 0 + 1)), Value.int .i64 (f (3 * 0 + 2))] = [] ++ [Value.int .i64 ((b.add lot lo hi).t b.n 0).lot, Value.int .i64 ((b.add lot lo hi).t b.n 0).lo, Value.int .i64 ((b.add lot lo hi).t b.n 0).hi]
    rw [add_tn]
    simp only [Nat.mul_zero, Nat.zero_add, h0, h1, h2]
  rw [e] at h
  rcases h.2 with ⟨_, hn⟩ | ⟨g, c, cur, rfl, _⟩
  · omega
  · refine ⟨g, c, rfl, ?_⟩
    rw [add_mn]
    exact sitR_of_own h
/-- What is known in a round that appends a sitting, by what is done. -/
structure SR2 (B : Nat) (b : BK) (k g2 : Nat) (v : Value) (wr : World) (C : Obj) (eb G2 c2 ib : Nat) (v' : Value) (x5 x6 x7 x8 x10 : Bool) (W : World) : Prop where
  p : x8 = false → Pure wr W
  e : x5 = true → x6 = false → wr.heap.size ≤ eb ∧ W.heap[eb]? = some C
  s : x6 = true → x8 = false → ∃ F, SitR wr.heap.size W (b.m k) (b.t k) G2 c2 F
  i : x7 = true → x8 = false → wr.heap.size ≤ ib ∧ W.heap[ib]? = some (.cells #[.slice (some ⟨G2, 0, none⟩) (b.m k) c2] 59 (0, 0))
  z : x8 = true → SamI B W v' b (k + 1) ∧ Diff (fun x => (x10 = true ∧ x = g2) ∨ some x = v.ownBlock) wr W
  y : x10 = true → W.heap[g2]? = some (.cells #[.int .i64 b.lo, .int .i64 b.hi, .int .i64 b.lots, v'] 26 (0, 0))
section
variable {B : Nat} {b : BK} {k g2 : Nat} {v : Value} {wr : World} {C : Obj} {eb G2 c2 ib : Nat} {v' : Value} {W : World}
theorem SR2.start (B : Nat) (b : BK) (k g2 : Nat) (v : Value) (wr : World) (C : Obj) (eb G2 c2 ib : Nat) (v' : Value) : SR2 B b k g2 v wr C eb G2 c2 ib v' false false false false false wr.drew :=
  ⟨fun _ => (Diff.refl wr).drew, fun h => Bool.noConfusion h, fun h => Bool.noConfusion h, fun h => Bool.noConfusion h, fun h => Bool.noConfusion h, fun h => Bool.noConfusion h⟩
theorem SR2.list (h : SR2 B b k g2 v wr C eb G2 c2 ib v' false false false false false W) : SR2 B b k g2 v wr C W.heap.size G2 c2 ib v' true false false false false (W.alloc C) :=
  ⟨fun _ => (h.p rfl).alloc _, fun _ _ => ⟨(h.p rfl).size, World.alloc_heap_new _ _⟩, fun h => Bool.noConfusion h, fun h => Bool.noConfusion h, fun h => Bool.noConfusion h, fun h => Bool.noConfusion h⟩
theorem SR2.made (h : SR2 B b k g2 v wr C eb G2 c2 ib v' true false false false false W) {W' : World} (hp : Pure W W') {G c : Nat} (hs : ∃ F, SitR W.heap.size W' (b.m k) (b.t k) G c F) : SR2 B b k g2 v wr C eb G c ib v' true true false false false W' := by
  obtain ⟨F, hF⟩ := hs
  exact ⟨fun _ => (h.p rfl).trans hp, fun _ h => Bool.noConfusion h, fun _ _ => ⟨F, hF.blk (h.p rfl).size rfl⟩, fun h => Bool.noConfusion h, fun h => Bool.noConfusion h, fun h => Bool.noConfusion h⟩
theorem SR2.box (h : SR2 B b k g2 v wr C eb G2 c2 ib v' true true false false false W) :
    SR2 B b k g2 v wr C eb G2 c2 W.heap.size v' true true true false false (W.alloc (.cells #[.slice (some ⟨G2, 0, none⟩) (b.m k) c2] 59)) := by
  refine ⟨fun _ => (h.p rfl).alloc _, fun _ h => Bool.noConfusion h, fun _ _ => ?_, fun _ _ => ⟨(h.p rfl).size, World.alloc_heap_new _ _⟩, fun h => Bool.noConfusion h, fun h => Bool.noConfusion h⟩
  obtain ⟨F, hF⟩ := h.s rfl rfl
  exact ⟨F, hF.blk (Nat.le_refl _) (Below.heap_alloc _ _ _ hF.row.lt)⟩
theorem SR2.push (h : SR2 B b k g2 v wr C eb G2 c2 ib v' true true true false false W) (hT : SamI B wr v b k) (hk : k ≤ 100) (hB : B ≤ wr.heap.size) :
    ∃ v1 w', (Builtin.append_ #[24, 24] 24 #[v, .slice (some ⟨ib, 0, none⟩) 1 1]).run Tryd.prog W = .ok v1 w' ∧ SR2 B b k g2 v wr C eb G2 c2 ib v1 true true true true false w' := by
  obtain ⟨v1, w', hr, hs, hd⟩ := sam_push hT (h.p rfl) hk hB (h.s rfl rfl) (h.i rfl rfl).2
  exact ⟨v1, w', hr, fun h => Bool.noConfusion h, fun _ h => Bool.noConfusion h, fun _ h => Bool.noConfusion h, fun _ h => Bool.noConfusion h, fun _ => ⟨hs, hd.mono fun x _ hx => .inr hx⟩, fun h => Bool.noConfusion h⟩
theorem SamI.far {b : BK} (hT : SamI B wr v b k) {x : Nat} (h : some x = v.ownBlock) : B ≤ x ∧ x < wr.heap.size := by
  obtain ⟨ss, G, c, F, h1, _⟩ := hT
  exact h1.lt x h.symm
/-- The block of the book lies above or below, but apart. -/
theorem SR2.blk (h : SR2 B b k g2 v wr C eb G2 c2 ib v' true true true true false W) (h2 : g2 < wr.heap.size) (hne : some g2 ≠ v.ownBlock) {O : Obj} (hC : wr.heap[g2]? = some O) : W.heap[g2]? = some O := by
  refine ((h.z rfl).2.block g2 h2 (fun e => ?_)).trans hC
  rcases e with ⟨e, _⟩ | e
  · cases e
  · exact hne e
/-- A store into a block of another kind. -/
theorem SamI.setBox {w : World} (h : SamI B w v b k) {g : Nat} {cs : Array Value} (hg : w.heap[g]? = some (.cells cs 26 (0, 0))) (o : Nat) (u : Value) : SamI B (w.setCell ⟨g, o, none⟩ u) v b k := by
  obtain ⟨ss, G, c, F, h1, h2, h3⟩ := h
  refine ⟨ss, G, c, F, ownsRow_setCell_other h1 (fun e => ?_) u, fun j hj => ⟨(h2 j hj).1, (h2 j hj).2.low, (h2 j hj).2.row.setOther (fun e => ?_) u, (h2 j hj).2.mc, (h2 j hj).2.cm, (h2 j hj).2.at0⟩, h3⟩
  · obtain ⟨cs', h4⟩ : ∃ cs', w.heap[g]? = some (.cells cs' 59 (0, 0)) := by
      rcases h1.2 with ⟨rfl, _⟩ | ⟨g', c', cur, rfl, _, h2, _⟩
      · simp [Value.ownBlock] at e
      · simp only [Value.ownBlock, Option.some.injEq] at e
        subst e; exact ⟨_, h2⟩
    rw [hg] at h4
    simp at h4
  · obtain ⟨cs', h4, -⟩ := (h2 j hj).2.row
    rw [e, hg] at h4
    simp at h4
theorem SR2.store (h : SR2 B b k g2 v wr C eb G2 c2 ib v' true true true true false W) (h2 : g2 < wr.heap.size) (hne : some g2 ≠ v.ownBlock)
    (hC : wr.heap[g2]? = some (.cells #[.int .i64 b.lo, .int .i64 b.hi, .int .i64 b.lots, v] 26 (0, 0))) : SR2 B b k g2 v wr C eb G2 c2 ib v' true true true true true (W.setCell ⟨g2, 3, none⟩ v') := by
  obtain ⟨hs, hd⟩ := h.z rfl
  have hblk := h.blk h2 hne hC
  refine ⟨fun h => Bool.noConfusion h, fun _ h => Bool.noConfusion h, fun _ h => Bool.noConfusion h, fun _ h => Bool.noConfusion h, fun _ => ⟨hs.setBox hblk 3 v', ?_⟩, fun _ => ?_⟩
  · exact (hd.mono (fun x _ hx => hx.elim (fun e => by cases e.1) .inr)).setCell (fun _ => .inl ⟨rfl, rfl⟩) _
  · unfold World.setCell
    show (W.heap.modify g2 _)[g2]? = _
    rw [Array.getElem?_modify, if_pos rfl, hblk]
    rfl
end
/-- The last sitting becomes another one. -/
theorem SamI.last {B : Nat} {b b' : BK} {n q0 c G2 c2 : Nat} {wr W : World} (h : SamI B wr (.slice (some ⟨q0, 0, none⟩) (n + 1) c) b (n + 1)) (hp : Pure wr W) (hB : B ≤ wr.heap.size) (hs : ∃ F, SitR wr.heap.size W (b'.m n) (b'.t n) G2 c2 F)
    (he : ∀ j, j < n → b'.m j = b.m j ∧ b'.t j = b.t j) : SamI B (W.setCell ⟨q0, n, none⟩ (.slice (some ⟨G2, 0, none⟩) (b'.m n) c2)) (.slice (some ⟨q0, 0, none⟩) (n + 1) c) b' (n + 1) := by
  obtain ⟨ss, G, cc, F, h1, h2, h3⟩ := h.pure hp
  have hold : ∀ j, j < n + 1 → G j < wr.heap.size := by
    obtain ⟨ss', G', cc', F', k1, k2, k3⟩ := h
    have hss : ss' = ss := by
      have e1 := own_pure k1 hp
      rcases e1.2 with ⟨e, _⟩ | ⟨g', c', cur, e, _, a2, _, _, _, a6⟩
      · cases e
      · rcases h1.2 with ⟨e', _⟩ | ⟨g'', c'', cur', e', _, b2, _, _, _, b6⟩
        · cases e'
        · cases e
          cases e'
          rw [a2] at b2
          simp at b2
          subst b2
          rw [← a6, ← b6]
    intro j hj
    have a1 := (k2 j hj).1
    rw [hss, (h2 j hj).1] at a1
    simp at a1
    rw [a1.1]
    exact (k2 j hj).2.row.lt
  obtain ⟨F2, hF⟩ := hs
  have hne : ∀ {g N : Nat} {f : Nat → Value}, W.rowIs g 70 N f → g ≠ q0 := fun {g N f} hr e => by
    obtain ⟨cs, h4, -⟩ := hr
    rcases h1.2 with ⟨e1, _⟩ | ⟨g', c', cur, e1, _, h5, _⟩
    · cases e1
    · cases e1
      rw [e, h5] at h4
      simp at h4
  have hout : (W.setCell ⟨q0, n, none⟩ (.slice (some ⟨G2, 0, none⟩) (b'.m n) c2)).ownsRow B 59 1 (.slice (some ⟨q0, 0, none⟩) (n + 1) c) (n + 1) (ss.set n (.slice (some ⟨G2, 0, none⟩) (b'.m n) c2)) := by
    refine ⟨by rw [List.length_set]; exact h1.1, .inr ?_⟩
    rcases h1.2 with ⟨e1, _⟩ | ⟨g', c', cur, e1, a1, a2, a3, a4, a5, a6⟩
    · cases e1
    · cases e1
      refine ⟨q0, c, cur.setIfInBounds n (.slice (some ⟨G2, 0, none⟩) (b'.m n) c2), rfl, a1, ?_, a3, a4, by rw [Array.size_setIfInBounds]; exact a5, ?_⟩
      · unfold World.setCell
        show (W.heap.modify q0 _)[q0]? = _
        rw [Array.getElem?_modify, if_pos rfl, a2]
        rfl
      · rw [Array.toList_setIfInBounds, ← a6, List.take_set]
  refine ⟨_, fun j => if j = n then G2 else G j, fun j => if j = n then c2 else cc j, fun j => if j = n then F2 else F j, hout, fun j hj => ?_, fun i j hi hj e => ?_⟩
  · by_cases hjn : j = n
    · subst hjn
      simp only [↓reduceIte]
      refine ⟨?_, hF.blk hB (Go.Deep.blk_setCell_other _ _ _ _ (hne hF.row))⟩
      rw [List.getElem?_set_self (by have := h1.1; omega)]
    · simp only [if_neg hjn]
      obtain ⟨a1, a2⟩ := h2 j hj
      rw [(he j (by omega)).1, (he j (by omega)).2]
      refine ⟨by rw [List.getElem?_set_ne (by omega)]; exact a1, a2.blk (Nat.le_refl _) (Go.Deep.blk_setCell_other _ _ _ _ (hne a2.row))⟩
  · have e : (if i = n then G2 else G i) = (if j = n then G2 else G j) := e
    by_cases h4 : i = n
    · by_cases h5 : j = n
      · omega
      · rw [if_pos h4, if_neg h5] at e
        have := hold j hj; have := hF.low; omega
    · by_cases h5 : j = n
      · rw [if_neg h4, if_pos h5] at e
        have := hold i hi; have := hF.low; omega
      · rw [if_neg h4, if_neg h5] at e
        exact h3 i j hi hj e
/-- Three numbers in a block. -/
def f3 (a b c : Int) (k : Nat) : Int := if k = 0 then a else if k = 1 then b else c
theorem row3 {W : World} {eb : Nat} {a b c : Int} (h : W.heap[eb]? = some (.cells #[.int .i64 a, .int .i64 b, .int .i64 c] 3 (0, 0))) : Row W.heap.size W (some ⟨eb, 0, none⟩) (3 * 1) fun k => .int .i64 (f3 a b c k) := fun k hk => by
  refine ⟨eb, 0, rfl, (Array.getElem?_eq_some_iff.1 h).1, ?_⟩
  rw [cell_of_row _ _ _ _ _ _ h]
  match k with
  | 0 => rfl
  | 1 => rfl
  | 2 => rfl
  | k + 3 => omega
/-- Sitting makes a sitting of one taste. -/
theorem sit_one (W : World) (eb : Nat) (b : BK) (lot lo hi : Int) (h : W.heap[eb]? = some (.cells #[.int .i64 lot, .int .i64 lo, .int .i64 hi] 3 (0, 0))) :
    Calls Tryd.prog 53 #[.slice (some ⟨eb, 0, none⟩) 3 3] W fun e w' => ∃ g c, e = .returned (.slice (some ⟨g, 0, none⟩) 1 c) ∧ (∃ F, SitR W.heap.size w' ((b.add lot lo hi).m b.n) ((b.add lot lo hi).t b.n) g c F) ∧ Pure W w' := by
  refine (Sitting_any W (some ⟨eb, 0, none⟩) 1 3 (f3 lot lo hi) (by omega) (row3 h)).mono fun e w' ⟨u, he, ho, hp⟩ => ?_
  obtain ⟨g, c, rfl, hF⟩ := sitR_one (b := b) (lot := lot) (lo := lo) (hi := hi) ho rfl rfl rfl
  exact ⟨g, c, he, hF, hp⟩
structure PureB (V w : World) : Prop where
  p : Pure V w
theorem PureB.to {V w w' : World} (h : PureB V w) (hp : Pure w w') : PureB V w' := ⟨h.p.trans hp⟩
theorem SamI.to {B : Nat} {w w' : World} {v : Value} {b : BK} {k : Nat} (h : SamI B w v b k) (hp : Pure w w') : SamI B w' v b k := h.pure hp
def BlkAt (g : Nat) (O : Obj) (w : World) : Prop := w.heap[g]? = some O
theorem BlkAt.to {g : Nat} {O : Obj} {w w' : World} (h : BlkAt g O w) (hp : Pure w w') : BlkAt g O w' := (hp.block g (Array.getElem?_eq_some_iff.1 h).1 id).trans h
theorem BlkAt.lt {g : Nat} {O : Obj} {w : World} (h : BlkAt g O w) : g < w.heap.size := (Array.getElem?_eq_some_iff.1 h).1
theorem SamI.notBox {B : Nat} {w : World} {q0 n c k g : Nat} {b : BK} {cs : Array Value} (h : SamI B w (.slice (some ⟨q0, 0, none⟩) n c) b k) (hg : w.heap[g]? = some (.cells cs 26 (0, 0))) : g ≠ q0 := fun e => by
  obtain ⟨ss, G, cc, F, h1, _⟩ := h
  rcases h1.2 with ⟨e1, _⟩ | ⟨g', c', cur, e1, _, h5, _⟩
  · cases e1
  · cases e1
    rw [e, h5] at hg
    simp at hg
theorem SamI.frz {B : Nat} {w : World} {q0 n c k : Nat} {b : BK} (h : SamI B w (.slice (some ⟨q0, 0, none⟩) n c) b k) (o : Nat) : w.frozen? ⟨q0, o, none⟩ = false := by
  obtain ⟨ss, G, cc, F, h1, _⟩ := h
  rcases h1.2 with ⟨e1, _⟩ | ⟨g', c', cur, e1, _, h5, _⟩
  · cases e1
  · cases e1
    exact frozen_of_row w _ o _ _ h5
/-- What is known in a round that puts another sitting in the last one's place, by what is done. -/
structure RQ (B go n c : Nat) (b1 b2 : BK) (wr : World) (C : Obj) (eb G2 c2 : Nat) (x13 x14 x16 : Bool) (W : World) : Prop where
  p : x16 = false → Pure wr W
  e : x13 = true → x14 = false → wr.heap.size ≤ eb ∧ W.heap[eb]? = some C
  s : x14 = true → x16 = false → ∃ F, SitR wr.heap.size W (b2.m n) (b2.t n) G2 c2 F
  y : x16 = true → SamI B W (.slice (some ⟨go, 0, none⟩) (n + 1) c) b2 (n + 1) ∧ Diff (fun x => x = go) wr W
section
variable {B go n c : Nat} {b1 b2 : BK} {wr : World} {C : Obj} {eb G2 c2 : Nat} {W : World}
theorem RQ.start (B go n c : Nat) (b1 b2 : BK) (wr : World) (C : Obj) (eb G2 c2 : Nat) : RQ B go n c b1 b2 wr C eb G2 c2 false false false wr.drew :=
  ⟨fun _ => (Diff.refl wr).drew, fun h => Bool.noConfusion h, fun h => Bool.noConfusion h, fun h => Bool.noConfusion h⟩
theorem RQ.list (h : RQ B go n c b1 b2 wr C eb G2 c2 false false false W) : RQ B go n c b1 b2 wr C W.heap.size G2 c2 true false false (W.alloc C) :=
  ⟨fun _ => (h.p rfl).alloc _, fun _ _ => ⟨(h.p rfl).size, World.alloc_heap_new _ _⟩, fun h => Bool.noConfusion h, fun h => Bool.noConfusion h⟩
theorem RQ.made (h : RQ B go n c b1 b2 wr C eb G2 c2 true false false W) {W' : World} (hp : Pure W W') {G k : Nat} (hs : ∃ F, SitR W.heap.size W' (b2.m n) (b2.t n) G k F) : RQ B go n c b1 b2 wr C eb G k true true false W' := by
  obtain ⟨F, hF⟩ := hs
  exact ⟨fun _ => (h.p rfl).trans hp, fun _ h => Bool.noConfusion h, fun _ _ => ⟨F, hF.blk (h.p rfl).size rfl⟩, fun h => Bool.noConfusion h⟩
theorem RQ.store (h : RQ B go n c b1 b2 wr C eb G2 c2 true true false W) (hT : SamI B wr (.slice (some ⟨go, 0, none⟩) (n + 1) c) b1 (n + 1)) (hB : B ≤ wr.heap.size) (he : ∀ j, j < n → b2.m j = b1.m j ∧ b2.t j = b1.t j) :
    RQ B go n c b1 b2 wr C eb G2 c2 true true true (W.setCell ⟨go, n, none⟩ (.slice (some ⟨G2, 0, none⟩) (b2.m n) c2)) :=
  ⟨fun h => Bool.noConfusion h, fun _ h => Bool.noConfusion h, fun _ h => Bool.noConfusion h, fun _ => ⟨hT.last (h.p rfl) hB (h.s rfl rfl) he, Diff.setCell (O := fun x => x = go) (p := ⟨go, n, none⟩) ((h.p rfl).mono (O' := fun x => x = go) fun _ _ h => h.elim) (fun _ => rfl) _⟩⟩
end
end Go.Proofs.YtmedkmbfggphdaaDoor
