/- The law's helpers: same. A copy of a book, each sitting in a row of its own. No condition. -/
import Derived.Test.YtmedkmbfggphdaaDoorH3
import Derived.Test.YtmedkmbfggphdaaDoorM14
set_option linter.unusedSimpArgs false
set_option linter.unusedVariables false
set_option linter.constructorNameAsVariable false
namespace Go.Proofs.YtmedkmbfggphdaaDoor
open Go.RowKit

/-- A sitting in a row of its own. -/
structure SitR (B : Nat) (w : World) (m : Nat) (t : Nat → TS) (g c : Nat) (F : Nat → Value) : Prop where
  low : B ≤ g
  row : w.rowIs g 70 (c * 3) F
  mc : m ≤ c
  cm : c ≤ maxLen
  at0 : ∀ i, i < m → F (i * 3) = .int .i64 (t i).lot ∧ F (i * 3 + 1) = .int .i64 (t i).lo ∧ F (i * 3 + 2) = .int .i64 (t i).hi
theorem SitR.blk {B B' : Nat} {w w' : World} {m : Nat} {t : Nat → TS} {g c : Nat} {F : Nat → Value} (h : SitR B w m t g c F) (hB : B' ≤ B) (hw : w'.heap[g]? = w.heap[g]?) : SitR B' w' m t g c F :=
  ⟨Nat.le_trans hB h.low, h.row.of_block hw, h.mc, h.cm, h.at0⟩
/-- The first sittings of a book, each in a row of its own. -/
def SamI (B : Nat) (w : World) (v : Value) (b : BK) (k : Nat) : Prop :=
  ∃ (ss : List Value) (G c : Nat → Nat) (F : Nat → Nat → Value), w.ownsRow B 59 1 v k ss ∧
    (∀ j, j < k → ss[j]? = some (.slice (some ⟨G j, 0, none⟩) (b.m j) (c j)) ∧ SitR B w (b.m j) (b.t j) (G j) (c j) (F j)) ∧ ∀ i j, i < k → j < k → G i = G j → i = j
/-- What is known in a round of same, by what is done. -/
structure SR (B : Nat) (b : BK) (k g2 : Nat) (v : Value) (wr : World) (eb G2 c2 ib : Nat) (v' : Value) (x2 x8 x9 x10 x12 : Bool) (W : World) : Prop where
  p : x10 = false → Pure wr W
  e : x2 = true → x8 = false → wr.heap.size ≤ eb ∧ W.heap[eb]? = some (.cells #[] 70 (0, 0))
  s : x8 = true → x10 = false → ∃ F, SitR wr.heap.size W (b.m k) (b.t k) G2 c2 F
  i : x9 = true → x10 = false → wr.heap.size ≤ ib ∧ W.heap[ib]? = some (.cells #[.slice (some ⟨G2, 0, none⟩) (b.m k) c2] 59 (0, 0))
  z : x10 = true → SamI B W v' b (k + 1) ∧ Diff (fun x => (x12 = true ∧ x = g2) ∨ some x = v.ownBlock) wr W
  y : x12 = true → W.heap[g2]? = some (.cells #[.int .i64 b.lo, .int .i64 b.hi, .int .i64 b.lots, v'] 26 (0, 0))
theorem sitR_of_own {B : Nat} {w : World} {m c g : Nat} {b : BK} {k : Nat} (h : w.ownsRow B 70 3 (.slice (some ⟨g, 0, none⟩) m c) m (b.rowC k m)) : ∃ F, SitR B w m (b.t k) g c F := by
  rcases h.2 with ⟨e, _⟩ | ⟨g', c', cur, e, h1, h2, h3, h4, h5, h6⟩
  · cases e
  · cases e
    refine ⟨fun i => cur.getD i undef, h1, ⟨cur, h2, h5, fun i hi => ?_⟩, h3, h4, fun i hi => ?_⟩
    · show cur[i]? = some (cur.getD i undef)
      rw [Array.getD_eq_getD_getElem?, Array.getElem?_eq_getElem (by omega)]; rfl
    · obtain ⟨a1, a2, a3⟩ := b.rowC_at k m i hi
      have hx : ∀ j, j < m * 3 → (b.rowC k m)[j]? = cur[j]? := fun j hj => by
        rw [← h6, List.getElem?_take, if_pos hj, Array.getElem?_toList]
      rw [hx _ (by omega)] at a1 a2 a3
      simp only [Array.getD_eq_getD_getElem?, a1, a2, a3]
      exact ⟨rfl, rfl, rfl⟩
/-- A sitting is copied behind an empty list. -/
theorem sam_sit (w : World) (b : BK) (k : Nat) (q : Option Addr) (c B eb : Nat) (hB : B ≤ w.heap.size) (heb : B ≤ eb) (he : w.heap[eb]? = some (.cells #[] 70 (0, 0))) (hm : b.m k ≤ 100) (hm0 : 0 < b.m k) (h : SitAt w.heap.size w q (b.m k) (b.t k)) :
    ∃ g2 c2 w2, (Builtin.append_ #[59, 59] 59 #[.slice (some ⟨eb, 0, none⟩) 0 0, .slice q (b.m k) c]).run Tryd.prog w = .ok (.slice (some ⟨g2, 0, none⟩) (b.m k) c2) w2 ∧ Diff (fun x => x = eb) w w2 ∧
      ∃ F, SitR B w2 (b.m k) (b.t k) g2 c2 F := by
  obtain ⟨i7, hi7, hz7, hsz7, hby7⟩ := info70'
  obtain ⟨b2, o2, rfl, hb2, -⟩ := h 0 (by omega)
  have hnews : ∀ (j : Nat) (u : Value), (b.rowC k (b.m k))[j]? = some u → w.cell? ((⟨b2, o2, none⟩ : Addr).add j) = some u := by
    intro j u hj
    have hadd : (⟨b2, o2, none⟩ : Addr).add j = ⟨b2, o2 + j, none⟩ := by unfold Addr.add; split <;> simp_all
    rw [hadd]
    refine b.rowC_get k w b2 o2 (b.m k) (fun j hj => ?_) j u hj
    obtain ⟨b3, o3, he, _, h1, h2, h3⟩ := h j hj
    cases he
    exact ⟨h1, h2, h3⟩
  have hown0 : w.ownsRow B 70 3 (.slice (some ⟨eb, 0, none⟩) 0 0) 0 [] := ⟨rfl, .inr ⟨eb, 0, #[], rfl, heb, he, Nat.le_refl _, Nat.zero_le _, rfl, rfl⟩⟩
  obtain ⟨v', w', hr, q2, q3, -⟩ := run_append_own (P := Tryd.prog) w B 59 59 70 i7 (.agg #[.int .i64 0, .int .i64 0, .int .i64 0]) 3 24 Tryd.underlying59 hi7 hz7 hsz7 hby7 rfl (by omega) (.slice (some ⟨eb, 0, none⟩) 0 0) 0 [] hown0
    ⟨b2, o2, none⟩ (b.m k) c (b.rowC k (b.m k)) (b.rowC_length k (b.m k)) hnews (b.rowC_one k (b.m k)) (by simp only [maxLen]; omega) (by omega) hB
  rw [Nat.zero_add, List.nil_append] at q2
  have hd : Diff (fun x => x = eb) w w' := ⟨q3.os, q3.tape, q3.output, q3.size, fun x hx ho => q3.block x hx (fun e => ho (Option.some.inj e))⟩
  rcases q2.2 with ⟨rfl, hn⟩ | ⟨g, c', cur, rfl, h1, h2, h3⟩
  · omega
  · exact ⟨g, c', w', hr, hd, sitR_of_own q2⟩
/-- The copy comes behind the others. -/
theorem sam_push {B : Nat} {b : BK} {k : Nat} {v : Value} {wr W : World} {G2 c2 ib : Nat} (h : SamI B wr v b k) (hp : Pure wr W) (hk : k ≤ 100) (hB : B ≤ wr.heap.size) (hs : ∃ F, SitR wr.heap.size W (b.m k) (b.t k) G2 c2 F)
    (hi : W.heap[ib]? = some (.cells #[.slice (some ⟨G2, 0, none⟩) (b.m k) c2] 59 (0, 0))) :
    ∃ v' w', (Builtin.append_ #[24, 24] 24 #[v, .slice (some ⟨ib, 0, none⟩) 1 1]).run Tryd.prog W = .ok v' w' ∧ SamI B w' v' b (k + 1) ∧ Diff (fun x => some x = v.ownBlock) wr w' := by
  obtain ⟨i9, hi9, hz9, hsz9, hby9⟩ := info59'
  obtain ⟨ss, G, c, F, hown, hall, hinj⟩ := h
  obtain ⟨F2, hs⟩ := hs
  have hown2 := own_pure hown hp
  obtain ⟨v', w', hr2, o2, g2, -, -⟩ := run_append_own_at (P := Tryd.prog) W B 24 24 59 i9 (.slice none 0 0) 1 24 Tryd.underlying24 hi9 hz9 hsz9 hby9 rfl (by omega) v k ss hown2
    ⟨ib, 0, none⟩ 1 1 [.slice (some ⟨G2, 0, none⟩) (b.m k) c2] rfl (fun j x hj => by
      have hadd : (⟨ib, 0, none⟩ : Addr).add j = ⟨ib, j, none⟩ := by unfold Addr.add; split <;> simp_all
      rw [hadd, cell_of_row _ _ _ _ _ _ hi]
      match j with
      | 0 => simpa using hj
      | j + 1 => simp at hj) (by simp [Value.oneCell']) (by simp only [maxLen]; omega) (by omega) (Nat.le_trans hB hp.size)
  have hl : ss.length = k := by have := hown.1; omega
  have hd : Diff (fun x => some x = v.ownBlock) wr w' :=
    ⟨g2.os.trans hp.os, g2.tape.trans hp.tape, g2.output.trans hp.output, Nat.le_trans hp.size g2.size, fun x hx ho => (g2.block x (Nat.lt_of_lt_of_le hx hp.size) ho).trans (hp.block x hx id)⟩
  have hne : ∀ {g N : Nat} {f : Nat → Value}, W.rowIs g 70 N f → ¬ some g = v.ownBlock := fun {g N f} hr e => by
    obtain ⟨cs, h1, -⟩ := hr
    rcases hown2.2 with ⟨rfl, _⟩ | ⟨g', c', cur, rfl, _, h2, _⟩
    · simp [Value.ownBlock] at e
    · simp only [Value.ownBlock, Option.some.injEq] at e
      subst e
      rw [h2] at h1
      simp at h1
  refine ⟨v', w', hr2, ⟨_, fun j => if j = k then G2 else G j, fun j => if j = k then c2 else c j, fun j => if j = k then F2 else F j, o2, fun j hj => ?_, fun i j hi hj he => ?_⟩, hd⟩
  · by_cases hjk : j = k
    · subst hjk
      simp only [↓reduceIte]
      refine ⟨?_, hs.blk hB (g2.block _ hs.row.lt (hne hs.row))⟩
      rw [List.getElem?_append_right (by omega), hl, Nat.sub_self]; rfl
    · simp only [if_neg hjk]
      obtain ⟨h1, h2⟩ := hall j (by omega)
      refine ⟨by rw [List.getElem?_append_left (by omega)]; exact h1, ?_⟩
      have h3 : SitR B W (b.m j) (b.t j) (G j) (c j) (F j) := h2.blk (Nat.le_refl _) (hp.block _ h2.row.lt id)
      exact h3.blk (Nat.le_refl _) (g2.block _ h3.row.lt (hne h3.row))
  · have hfar : ∀ j, j < k → G j < G2 := fun j hj => Nat.lt_of_lt_of_le (hall j hj).2.row.lt hs.low
    have he : (if i = k then G2 else G i) = (if j = k then G2 else G j) := he
    by_cases h1 : i = k
    · by_cases h2 : j = k
      · omega
      · rw [if_pos h1, if_neg h2] at he
        have := hfar j (by omega); omega
    · by_cases h2 : j = k
      · rw [if_neg h1, if_pos h2] at he
        have := hfar i (by omega); omega
      · rw [if_neg h1, if_neg h2] at he
        exact hinj i j (by omega) (by omega) he
theorem SamI.form {B : Nat} {w : World} {v : Value} {b : BK} {k : Nat} (h : SamI B w v b k) : ∃ q c, v = .slice q k c := by
  obtain ⟨ss, G, c, F, h1, -⟩ := h
  rcases h1.2 with ⟨rfl, rfl⟩ | ⟨g, c', cur, rfl, _⟩
  · exact ⟨none, 0, rfl⟩
  · exact ⟨_, c', rfl⟩
theorem SamI.mono {B B' : Nat} {w : World} {v : Value} {b : BK} {k : Nat} (h : SamI B w v b k) (hB : B' ≤ B) : SamI B' w v b k := by
  obtain ⟨ss, G, c, F, h1, h2, h3⟩ := h
  exact ⟨ss, G, c, F, own_mono h1 hB, fun j hj => ⟨(h2 j hj).1, Nat.le_trans hB (h2 j hj).2.low, (h2 j hj).2.row, (h2 j hj).2.mc, (h2 j hj).2.cm, (h2 j hj).2.at0⟩, h3⟩
theorem SR.start (B : Nat) (b : BK) (k g2 : Nat) (v : Value) (wr : World) (eb G2 c2 ib : Nat) (v' : Value) : SR B b k g2 v wr eb G2 c2 ib v' false false false false false wr.drew :=
  ⟨fun _ => (Diff.refl wr).drew, fun h => Bool.noConfusion h, fun h => Bool.noConfusion h, fun h => Bool.noConfusion h, fun h => Bool.noConfusion h, fun h => Bool.noConfusion h⟩
/-- An empty list is built. -/
theorem SR.empty {B : Nat} {b : BK} {k g2 : Nat} {v : Value} {wr : World} {eb G2 c2 ib : Nat} {v' : Value} {W : World} (h : SR B b k g2 v wr eb G2 c2 ib v' false false false false false W) : SR B b k g2 v wr W.heap.size G2 c2 ib v' true false false false false (W.alloc (.cells #[] 70)) :=
  ⟨fun _ => (h.p rfl).alloc _, fun _ _ => ⟨(h.p rfl).size, World.alloc_heap_new _ _⟩, fun h => Bool.noConfusion h, fun h => Bool.noConfusion h, fun h => Bool.noConfusion h, fun h => Bool.noConfusion h⟩
theorem SR.copy {B : Nat} {b : BK} {k g2 : Nat} {v : Value} {wr : World} {eb G2 c2 ib : Nat} {v' : Value} {W : World} {q : Option Addr} {c : Nat} (h : SR B b k g2 v wr eb G2 c2 ib v' true false false false false W) (hm : b.m k ≤ 100) (hm0 : 0 < b.m k) (hs : SitAt wr.heap.size wr q (b.m k) (b.t k)) :
    ∃ G' c' w', (Builtin.append_ #[59, 59] 59 #[.slice (some ⟨eb, 0, none⟩) 0 0, .slice q (b.m k) c]).run Tryd.prog W = .ok (.slice (some ⟨G', 0, none⟩) (b.m k) c') w' ∧ SR B b k g2 v wr eb G' c' ib v' true true false false false w' := by
  have hp := h.p rfl
  obtain ⟨e1, e2⟩ := h.e rfl rfl
  obtain ⟨G', c', w', hr, hd, hs'⟩ := sam_sit W b k q c wr.heap.size eb hp.size e1 e2 hm hm0 ((hs.diff hp (Nat.le_refl _) (fun _ _ => id)).mono hp.size)
  exact ⟨G', c', w', hr, fun _ => hp.trans' hd (fun x hx e => by have e' : x = eb := e; omega), fun _ h => Bool.noConfusion h, fun _ _ => hs', fun h => Bool.noConfusion h, fun h => Bool.noConfusion h, fun h => Bool.noConfusion h⟩
theorem SR.box {B : Nat} {b : BK} {k g2 : Nat} {v : Value} {wr : World} {eb G2 c2 ib : Nat} {v' : Value} {W : World} (h : SR B b k g2 v wr eb G2 c2 ib v' true true false false false W) :
    SR B b k g2 v wr eb G2 c2 W.heap.size v' true true true false false (W.alloc (.cells #[.slice (some ⟨G2, 0, none⟩) (b.m k) c2] 59)) := by
  refine ⟨fun _ => (h.p rfl).alloc _, fun _ h => Bool.noConfusion h, fun _ _ => ?_, fun _ _ => ⟨(h.p rfl).size, World.alloc_heap_new _ _⟩, fun h => Bool.noConfusion h, fun h => Bool.noConfusion h⟩
  obtain ⟨F, hF⟩ := h.s rfl rfl
  exact ⟨F, hF.blk (Nat.le_refl _) (Below.heap_alloc _ _ _ hF.row.lt)⟩
theorem SR.push {B : Nat} {b : BK} {k g2 : Nat} {v : Value} {wr : World} {eb G2 c2 ib : Nat} {v' : Value} {W : World} (h : SR B b k g2 v wr eb G2 c2 ib v' true true true false false W) (hT : SamI B wr v b k) (hk : k ≤ 100) (hB : B ≤ wr.heap.size) :
    ∃ v1 w', (Builtin.append_ #[24, 24] 24 #[v, .slice (some ⟨ib, 0, none⟩) 1 1]).run Tryd.prog W = .ok v1 w' ∧ SR B b k g2 v wr eb G2 c2 ib v1 true true true true false w' := by
  obtain ⟨v1, w', hr, hs, hd⟩ := sam_push hT (h.p rfl) hk hB (h.s rfl rfl) (h.i rfl rfl).2
  exact ⟨v1, w', hr, fun h => Bool.noConfusion h, fun _ h => Bool.noConfusion h, fun _ h => Bool.noConfusion h, fun _ h => Bool.noConfusion h, fun _ => ⟨hs, hd.mono fun x _ hx => .inr hx⟩, fun h => Bool.noConfusion h⟩
theorem SamI.set {B : Nat} {w : World} {v : Value} {b : BK} {k : Nat} (h : SamI B w v b k) {g : Nat} (hg : g < B) (o : Nat) (u : Value) : SamI B (w.setCell ⟨g, o, none⟩ u) v b k := by
  obtain ⟨ss, G, c, F, h1, h2, h3⟩ := h
  exact ⟨ss, G, c, F, ownsRow_setCell_below h1 hg u, fun j hj => ⟨(h2 j hj).1, (h2 j hj).2.low, (h2 j hj).2.row.setOther (by have := (h2 j hj).2.low; show G j ≠ g; omega) u, (h2 j hj).2.mc, (h2 j hj).2.cm, (h2 j hj).2.at0⟩, h3⟩
theorem SR.blk {B : Nat} {b : BK} {k g2 : Nat} {v : Value} {wr : World} {eb G2 c2 ib : Nat} {v' : Value} {W : World} (h : SR B b k g2 v wr eb G2 c2 ib v' true true true true false W) (h2 : g2 < wr.heap.size) (hg : g2 < B) (hT : SamI B wr v b k)
    (hC : wr.heap[g2]? = some (.cells #[.int .i64 b.lo, .int .i64 b.hi, .int .i64 b.lots, v] 26 (0, 0))) : W.heap[g2]? = some (.cells #[.int .i64 b.lo, .int .i64 b.hi, .int .i64 b.lots, v] 26 (0, 0)) := by
  refine ((h.z rfl).2.block g2 h2 (fun e => ?_)).trans hC
  rcases e with ⟨e, _⟩ | e
  · cases e
  · obtain ⟨ss, G, c, F, h1, _⟩ := hT
    have := (h1.lt g2 e.symm).1; omega
theorem SR.store {B : Nat} {b : BK} {k g2 : Nat} {v : Value} {wr : World} {eb G2 c2 ib : Nat} {v' : Value} {W : World} (h : SR B b k g2 v wr eb G2 c2 ib v' true true true true false W) (hg : g2 < B) (h2 : g2 < wr.heap.size) (hT : SamI B wr v b k)
    (hC : wr.heap[g2]? = some (.cells #[.int .i64 b.lo, .int .i64 b.hi, .int .i64 b.lots, v] 26 (0, 0))) : SR B b k g2 v wr eb G2 c2 ib v' true true true true true (W.setCell ⟨g2, 3, none⟩ v') := by
  obtain ⟨hs, hd⟩ := h.z rfl
  have hblk := h.blk h2 hg hT hC
  refine ⟨fun h => Bool.noConfusion h, fun _ h => Bool.noConfusion h, fun _ h => Bool.noConfusion h, fun _ h => Bool.noConfusion h, fun _ => ⟨hs.set hg 3 v', ?_⟩, fun _ => ?_⟩
  · exact (hd.mono (fun x _ hx => hx.elim (fun e => by cases e.1) .inr)).setCell (fun _ => .inl ⟨rfl, rfl⟩) _
  · unfold World.setCell
    show (W.heap.modify g2 _)[g2]? = _
    rw [Array.getElem?_modify, if_pos rfl, hblk]
    rfl

set_option maxRecDepth 20000 in
set_option maxHeartbeats 8000000 in
theorem same_any (w : World) (b : BK) (p : Option Addr) (cap : Nat) (hs : b.Small) (hv : b.Valid) (hb : BookAt w.heap.size w p b) :
    Calls Tryd.prog 52 #[bookV b p cap] w fun e w' => ∃ v, e = .returned (.agg #[.int .i64 b.lo, .int .i64 b.hi, .int .i64 b.lots, v]) ∧ SamI w.heap.size w' v b b.n ∧ Pure w w' := by
  have hmx : Tryd.prog.follows .mixedOrders = true := by kernel_rfl
  have hn := hs.1
  go_enter Tryd.func52, Tryd.ntmps52
  go_wp2_with fail
  obtain ⟨X, hX⟩ : ∃ X, ((w.alloc (.cells (bookC b p cap) 26)).alloc (.cells #[.int .i64 0, .int .i64 0, .int .i64 0, .slice none 0 0] 26)).alloc (.cells #[.int .i64 b.lo, .int .i64 b.hi, .int .i64 b.lots, .slice none 0 0] 26) = X := ⟨_, rfl⟩
  have HP : Hid (Pure w X) := by rw [← hX]; exact (((Diff.refl w).alloc _).alloc _).alloc _
  have hXs : X.heap.size = w.heap.size + 1 + 1 + 1 := by rw [← hX]; simp
  have hX0 : X.heap[w.heap.size]? = some (.cells (bookC b p cap) 26 (0, 0)) := by rw [← hX]; exact (Below.heap_alloc _ _ _ (by simp; omega)).trans ((Below.heap_alloc _ _ _ (by simp)).trans (World.alloc_heap_new _ _))
  have hX1 : X.heap[w.heap.size + 1]? = some (.cells #[.int .i64 0, .int .i64 0, .int .i64 0, .slice none 0 0] 26 (0, 0)) := by
    rw [← hX]
    have := World.alloc_heap_new (w.alloc (.cells (bookC b p cap) 26)) (.cells #[.int .i64 0, .int .i64 0, .int .i64 0, .slice none 0 0] 26)
    rw [World.size_alloc] at this
    exact (Below.heap_alloc _ _ _ (by simp)).trans this
  have hX2 : X.heap[w.heap.size + 1 + 1]? = some (.cells #[.int .i64 b.lo, .int .i64 b.hi, .int .i64 b.lots, .slice none 0 0] 26 (0, 0)) := by
    rw [← hX]
    have := World.alloc_heap_new ((w.alloc (.cells (bookC b p cap) 26)).alloc (.cells #[.int .i64 0, .int .i64 0, .int .i64 0, .slice none 0 0] 26)) (.cells #[.int .i64 b.lo, .int .i64 b.hi, .int .i64 b.lots, .slice none 0 0] 26)
    rwa [World.size_alloc, World.size_alloc] at this
  rw [hX]
  clear hX
  have HB : Hid (BookAt w.heap.size w p b) := hb
  have z3 : X.cell? ⟨w.heap.size, 3, none⟩ = some (.slice p b.n cap) := by rw [cell_of_row X _ _ _ _ _ hX0]; rfl
  obtain ⟨g0, hg0⟩ : ∃ g, w.heap.size = g := ⟨_, rfl⟩
  rw [hg0] at z3 hX0 hX1 hX2 hXs ⊢
  obtain ⟨g1, hg1⟩ : ∃ g, g0 + 1 = g := ⟨_, rfl⟩
  rw [hg1] at hX1 hX2 hXs ⊢
  obtain ⟨g2, hg2⟩ : ∃ g, g1 + 1 = g := ⟨_, rfl⟩
  rw [hg2] at hX2 hXs ⊢
  have h01 : g0 < g1 := by omega
  have h12 : g1 < g2 := by omega
  have h2X : g2 < X.heap.size := by omega
  have HG0 := Lib.hid hg0
  have H1 := Lib.hid hX1
  have HX2 := Lib.hid hX2
  have HXS := Lib.hid hXs
  clear hX0 hX1 hX2 hb hg0 hg1 hg2 hXs
  go_loopw [4] (fun i wr => ∃ (k : Nat) (v : Value), k ≤ b.n ∧ i = .int .i64 k ∧ Hid (SamI X.heap.size wr v b k) ∧ Hid (wr.heap[g2]? = some (.cells #[.int .i64 b.lo, .int .i64 b.hi, .int .i64 b.lots, v] 26 (0, 0))) ∧ Hid (Diff (fun x => x = g2) X wr)) (fun i _ => b.n - (intOf i).toNat)
  case atStart => exact ⟨0, _, Nat.zero_le _, rfl, ⟨[], fun _ => 0, fun _ => 0, fun _ _ => .int .i64 0, World.ownsRow_nil _ _ _ _, fun j hj => by omega, fun i j hi => by omega⟩, HX2.out, Diff.refl _⟩
  case round =>
    obtain ⟨k, v, hk, rfl, HT, HC, HD⟩ := hrel
    have hl0 : g0 < X.heap.size := by omega
    have z3r : wr.cell? ⟨g0, 3, none⟩ = some (.slice p b.n cap) := (HD.out.cell (p := ⟨g0, 3, none⟩) hl0 (by show ¬ g0 = g2; omega)).trans z3
    by_cases hkn : k < b.n
    · obtain ⟨sb, so, q, c, hq0, hsb, hc, hsit⟩ := HB.out k hkn
      subst hq0
      have hsb2 : sb < g0 := by have := HG0.out; omega
      have hcr : wr.cell? ⟨sb, so + k, none⟩ = some (.slice q (b.m k) c) := (HD.out.cell (p := ⟨sb, so + k, none⟩) (by show sb < _; omega) (by show ¬ sb = g2; omega)).trans (((pcell HP.out).1 _ _ hsb).trans hc)
      have hki : (k : Int) < b.n := by omega
      have hk0 : (0 : Int) ≤ k := by omega
      have hm := hs.2 k hkn
      have hm0 := hv.pos k hkn
      have hsz := HD.out.size
      have HSZ : Hid (sb < wr.heap.size ∧ g0 < wr.heap.size ∧ g2 < wr.heap.size ∧ X.heap.size ≤ wr.heap.size) := ⟨by omega, by omega, by omega, hsz⟩
      have HSIT : Hid (SitAt wr.heap.size wr q (b.m k) (b.t k)) := (hsit.diff (HP.out.trans' HD.out (fun x hx e => by have e' : x = g2 := e; have := HG0.out; omega)) (Nat.le_refl _) (fun _ _ => id)).mono (Nat.le_trans HP.out.size hsz)
      have HCR := Lib.hid hcr
      have HZ3 := Lib.hid z3r
      clear hc hsit hsz hcr
      go_wp2_with fail
      refine reg_invW (fun d a W => ∃ (eb G2 c2 ib : Nat) (v' : Value), a = { tmps := #[bookV b (some { block := sb, off := so }) cap, Value.pointer (some { block := g0, off := 0 }), Value.pointer (some { block := g1, off := 0 }), Value.pointer (some { block := g2, off := 0 }), Value.int IntKind.i64 (k : Int), Value.pointer (some { block := g0, off := 0 }), Value.agg #[Value.int IntKind.i64 b.lo, Value.int IntKind.i64 b.hi], Value.pointer (some { block := g0, off := 2 }), Value.int IntKind.i64 b.lots, Value.agg #[Value.int IntKind.i64 b.lo, Value.int IntKind.i64 b.hi, Value.int IntKind.i64 b.lots, Value.slice none 0 0], Value.int IntKind.i64 (k : Int), Value.pointer (some { block := g0, off := 3 }), Value.slice (some { block := sb, off := so }) b.n cap, Value.int IntKind.i64 (b.n : Int), Value.bool true, u15, u16, (bif d 0 then Value.pointer (some { block := g2, off := 3 }) else u17), (bif d 1 then v else u18), (bif d 2 then Value.slice (some { block := eb, off := 0 }) 0 0 else u19), (bif d 3 then Value.pointer (some { block := g0, off := 3 }) else u20), (bif d 4 then Value.slice (some { block := sb, off := so }) b.n cap else u21), (bif d 5 then Value.int IntKind.i64 (k : Int) else u22), (bif d 6 then Value.pointer (some { block := sb, off := so + k }) else u23), (bif d 7 then Value.slice q (b.m k) c else u24), (bif d 8 then Value.slice (some { block := G2, off := 0 }) (b.m k) c2 else u25), (bif d 9 then Value.slice (some { block := ib, off := 0 }) 1 1 else u26), (bif d 10 then v' else u27), (bif d 11 then Value.pointer (some { block := g2, off := 3 }) else u28), undef], defers := [] } ∧ Hid (SR X.heap.size b k g2 v wr eb G2 c2 ib v' (d 2) (d 8) (d 9) (d 10) (d 12) W)) hmx (by kernel_rfl) ?_ ?_ ?_
      · exact ⟨0, 0, 0, 0, undef, rfl, SR.start _ _ _ _ _ _ _ _ _ _ _⟩
      · refine ⟨?_, ?_, ?_, ?_, ?_, ?_, ?_, ?_, ?_, ?_, ?_, ?_, ?_, trivial⟩
        · rintro d a W hdi hdep hcl ⟨eb, G2, c2, ib, v', rfl, hw⟩ K hK
          have E := hcl.facts 0 hdi rfl hdep [] [1, 10, 11, 12] (by kernel_rfl) (by kernel_rfl)
          simp only [AllT, AllF] at E
          clear hdi hdep hcl
          go_simp
          refine hK _ _ ⟨eb, G2, c2, ib, v', by simp [upd, E], ?_⟩
          first | exact hw | simpa [upd, E] using hw
        · rintro d a W hdi hdep hcl ⟨eb, G2, c2, ib, v', rfl, hw⟩ K hK
          have E := hcl.facts 1 hdi rfl hdep [0] [10, 11, 12] (by kernel_rfl) (by kernel_rfl)
          simp only [AllT, AllF] at E
          clear hdi hdep hcl
          have hp := hw.out.p (by simp [E])
          have o3 : W.cell? ⟨g2, 3, none⟩ = some v := ((pcell hp).1 _ _ HSZ.out.2.2.1).trans (by rw [cell_of_row wr _ _ _ _ _ HC.out]; rfl)
          clear hp
          go_simp
          refine hK _ _ ⟨eb, G2, c2, ib, v', by simp [upd, E], ?_⟩
          first | exact hw | simpa [upd, E] using hw
        · rintro d a W hdi hdep hcl ⟨eb, G2, c2, ib, v', rfl, hw⟩ K hK
          have E := hcl.facts 2 hdi rfl hdep [] [8, 9, 10, 11, 12] (by kernel_rfl) (by kernel_rfl)
          simp only [AllT, AllF] at E
          clear hdi hdep hcl
          have h := hw.out
          rw [show d 2 = false by simp [E], show d 8 = false by simp [E], show d 9 = false by simp [E], show d 10 = false by simp [E], show d 12 = false by simp [E]] at h
          go_simp
          exact hK _ _ ⟨W.heap.size, G2, c2, ib, v', by simp [upd, E], by rw [show upd d 2 2 = true by simp [upd, E], show upd d 2 8 = false by simp [upd, E], show upd d 2 9 = false by simp [upd, E], show upd d 2 10 = false by simp [upd, E], show upd d 2 12 = false by simp [upd, E]]; exact h.empty⟩
        · rintro d a W hdi hdep hcl ⟨eb, G2, c2, ib, v', rfl, hw⟩ K hK
          have E := hcl.facts 3 hdi rfl hdep [] [4, 6, 7, 8, 9, 10, 11, 12] (by kernel_rfl) (by kernel_rfl)
          simp only [AllT, AllF] at E
          clear hdi hdep hcl
          go_simp
          refine hK _ _ ⟨eb, G2, c2, ib, v', by simp [upd, E], ?_⟩
          first | exact hw | simpa [upd, E] using hw
        · rintro d a W hdi hdep hcl ⟨eb, G2, c2, ib, v', rfl, hw⟩ K hK
          have E := hcl.facts 4 hdi rfl hdep [3] [6, 7, 8, 9, 10, 11, 12] (by kernel_rfl) (by kernel_rfl)
          simp only [AllT, AllF] at E
          clear hdi hdep hcl
          have hp := hw.out.p (by simp [E])
          have o3 := ((pcell hp).1 _ _ HSZ.out.2.1).trans HZ3.out
          clear hp
          go_simp
          refine hK _ _ ⟨eb, G2, c2, ib, v', by simp [upd, E], ?_⟩
          first | exact hw | simpa [upd, E] using hw
        · rintro d a W hdi hdep hcl ⟨eb, G2, c2, ib, v', rfl, hw⟩ K hK
          have E := hcl.facts 5 hdi rfl hdep [] [6, 7, 8, 9, 10, 11, 12] (by kernel_rfl) (by kernel_rfl)
          simp only [AllT, AllF] at E
          clear hdi hdep hcl
          go_simp
          refine hK _ _ ⟨eb, G2, c2, ib, v', by simp [upd, E], ?_⟩
          first | exact hw | simpa [upd, E] using hw
        · rintro d a W hdi hdep hcl ⟨eb, G2, c2, ib, v', rfl, hw⟩ K hK
          have E := hcl.facts 6 hdi rfl hdep [3, 4, 5] [7, 8, 9, 10, 11, 12] (by kernel_rfl) (by kernel_rfl)
          simp only [AllT, AllF] at E
          clear hdi hdep hcl
          go_simp
          refine hK _ _ ⟨eb, G2, c2, ib, v', by simp [upd, E], ?_⟩
          first | exact hw | simpa [upd, E] using hw
        · rintro d a W hdi hdep hcl ⟨eb, G2, c2, ib, v', rfl, hw⟩ K hK
          have E := hcl.facts 7 hdi rfl hdep [3, 4, 5, 6] [8, 9, 10, 11, 12] (by kernel_rfl) (by kernel_rfl)
          simp only [AllT, AllF] at E
          clear hdi hdep hcl
          have hp := hw.out.p (by simp [E])
          have o3 := ((pcell hp).1 _ _ HSZ.out.1).trans HCR.out
          clear hp
          go_simp
          refine hK _ _ ⟨eb, G2, c2, ib, v', by simp [upd, E], ?_⟩
          first | exact hw | simpa [upd, E] using hw
        · rintro d a W hdi hdep hcl ⟨eb, G2, c2, ib, v', rfl, hw⟩ K hK
          have E := hcl.facts 8 hdi rfl hdep [2, 3, 4, 5, 6, 7] [9, 10, 11, 12] (by kernel_rfl) (by kernel_rfl)
          simp only [AllT, AllF] at E
          clear hdi hdep hcl
          have h := hw.out
          rw [show d 2 = true by simp [E], show d 8 = false by simp [E], show d 9 = false by simp [E], show d 10 = false by simp [E], show d 12 = false by simp [E]] at h
          obtain ⟨G', c', w', hr, h'⟩ := h.copy (c := c) (by omega) hm0 HSIT.out
          refine Eq.mpr (if_pos rfl) ?_
          refine operW_append (.tmp 19) (.tmp 24) 59 rfl (.slice (some ⟨eb, 0, none⟩) 0 0) (.slice q (b.m k) c) (by simp [Act.eval, upd, E]) (by simp [Act.eval, upd, E]) (.slice (some ⟨G', 0, none⟩) (b.m k) c') w' hr ?_
          exact hK _ _ ⟨eb, G', c', ib, v', by simp [Act.put, upd, E], by rw [show upd d 8 2 = true by simp [upd, E], show upd d 8 8 = true by simp [upd, E], show upd d 8 9 = false by simp [upd, E], show upd d 8 10 = false by simp [upd, E], show upd d 8 12 = false by simp [upd, E]]; exact h'⟩
        · rintro d a W hdi hdep hcl ⟨eb, G2, c2, ib, v', rfl, hw⟩ K hK
          have E := hcl.facts 9 hdi rfl hdep [2, 3, 4, 5, 6, 7, 8] [10, 11, 12] (by kernel_rfl) (by kernel_rfl)
          simp only [AllT, AllF] at E
          clear hdi hdep hcl
          have h := hw.out
          rw [show d 2 = true by simp [E], show d 8 = true by simp [E], show d 9 = false by simp [E], show d 10 = false by simp [E], show d 12 = false by simp [E]] at h
          go_simp
          exact hK _ _ ⟨eb, G2, c2, W.heap.size, v', by simp [upd, E], by rw [show upd d 9 2 = true by simp [upd, E], show upd d 9 8 = true by simp [upd, E], show upd d 9 9 = true by simp [upd, E], show upd d 9 10 = false by simp [upd, E], show upd d 9 12 = false by simp [upd, E]]; exact h.box⟩
        · rintro d a W hdi hdep hcl ⟨eb, G2, c2, ib, v', rfl, hw⟩ K hK
          have E := hcl.facts 10 hdi rfl hdep [0, 1, 2, 3, 4, 5, 6, 7, 8, 9] [11, 12] (by kernel_rfl) (by kernel_rfl)
          simp only [AllT, AllF] at E
          clear hdi hdep hcl
          have h := hw.out
          rw [show d 2 = true by simp [E], show d 8 = true by simp [E], show d 9 = true by simp [E], show d 10 = false by simp [E], show d 12 = false by simp [E]] at h
          obtain ⟨v1, w', hr, h'⟩ := h.push HT.out (by omega) HSZ.out.2.2.2
          refine Eq.mpr (if_pos rfl) ?_
          refine operW_append (.tmp 18) (.tmp 26) 24 rfl v (.slice (some ⟨ib, 0, none⟩) 1 1) (by simp [Act.eval, upd, E]) (by simp [Act.eval, upd, E]) v1 w' hr ?_
          exact hK _ _ ⟨eb, G2, c2, ib, v1, by simp [Act.put, upd, E], by rw [show upd d 10 2 = true by simp [upd, E], show upd d 10 8 = true by simp [upd, E], show upd d 10 9 = true by simp [upd, E], show upd d 10 10 = true by simp [upd, E], show upd d 10 12 = false by simp [upd, E]]; exact h'⟩
        · rintro d a W hdi hdep hcl ⟨eb, G2, c2, ib, v', rfl, hw⟩ K hK
          have E := hcl.facts 11 hdi rfl hdep [0, 1, 2, 3, 4, 5, 6, 7, 8, 9, 10] [12] (by kernel_rfl) (by kernel_rfl)
          simp only [AllT, AllF] at E
          clear hdi hdep hcl
          go_simp
          refine hK _ _ ⟨eb, G2, c2, ib, v', by simp [upd, E], ?_⟩
          first | exact hw | simpa [upd, E] using hw
        · rintro d a W hdi hdep hcl ⟨eb, G2, c2, ib, v', rfl, hw⟩ K hK
          have E := hcl.facts 12 hdi rfl hdep [0, 1, 2, 3, 4, 5, 6, 7, 8, 9, 10, 11] [] (by kernel_rfl) (by kernel_rfl)
          simp only [AllT, AllF] at E
          clear hdi hdep hcl
          have h := hw.out
          rw [show d 2 = true by simp [E], show d 8 = true by simp [E], show d 9 = true by simp [E], show d 10 = true by simp [E], show d 12 = false by simp [E]] at h
          have hlt : g2 < W.heap.size := Nat.lt_of_lt_of_le HSZ.out.2.2.1 (h.z rfl).2.size
          have hblk : W.heap[g2]? = some (.cells #[.int .i64 b.lo, .int .i64 b.hi, .int .i64 b.lots, v] 26 (0, 0)) := h.blk HSZ.out.2.2.1 h2X HT.out HC.out
          have o3 : W.cell? ⟨g2, 3, none⟩ = some v := by rw [cell_of_row W _ _ _ _ _ hblk]; rfl
          have fo : ∀ o, W.frozen? ⟨g2, o, none⟩ = false := fun o => frozen_of_row W _ o _ _ hblk
          have h' := h.store h2X HSZ.out.2.2.1 HT.out HC.out
          have HH := Lib.hid h'
          clear h' hblk hlt
          obtain ⟨vq, vc, rfl⟩ := (h.z rfl).1.form
          clear h
          go_simp
          refine hK _ _ ⟨eb, G2, c2, ib, .slice vq (k + 1) vc, by simp [upd, E], ?_⟩
          rw [show upd d 12 2 = true by simp [upd, E], show upd d 12 8 = true by simp [upd, E], show upd d 12 9 = true by simp [upd, E], show upd d 12 10 = true by simp [upd, E], show upd d 12 12 = true by simp [upd, E]]
          exact HH.out
      · rintro d a W hall ⟨eb, G2, c2, ib, v', rfl, hw⟩
        have E := AllT.all hall [0, 1, 2, 3, 4, 5, 6, 7, 8, 9, 10, 11, 12] (by kernel_rfl)
        simp only [AllT] at E
        simp only [E, cond_true] at hw ⊢
        clear E hall
        have h := hw.out
        have HS1 := Lib.hid (h.z rfl).1
        have HC1 := Lib.hid (h.y rfl)
        have HD1 : Hid (Diff (fun x => x = g2) X W) := HD.out.trans' (h.z rfl).2 (fun x hx e => e.elim (fun e => e.2) (fun e => by obtain ⟨ss, G, c, F, h1, _⟩ := HT.out; have := (h1.lt x e.symm).1; omega))
        obtain ⟨vq, vc, rfl⟩ := (h.z rfl).1.form
        clear hw h
        go_wp2_with fail
        exact ⟨⟨k + 1, _, by omega, by push_cast; rfl, HS1.out, HC1.out, HD1.out⟩, by simp only [intOf]; omega⟩
    · obtain rfl : k = b.n := by omega
      obtain ⟨vq, vc, rfl⟩ := HT.out.form
      have hd := HD.out
      have hl1 : g1 < X.heap.size := by omega
      have o0 : wr.cell? ⟨g2, 0, none⟩ = some (.int .i64 b.lo) := by rw [cell_of_row wr _ _ _ _ _ HC.out]; rfl
      have o1 : wr.cell? ⟨g2, 1, none⟩ = some (.int .i64 b.hi) := by rw [cell_of_row wr _ _ _ _ _ HC.out]; rfl
      have o2 : wr.cell? ⟨g2, 2, none⟩ = some (.int .i64 b.lots) := by rw [cell_of_row wr _ _ _ _ _ HC.out]; rfl
      have o3 : wr.cell? ⟨g2, 3, none⟩ = some (.slice vq b.n vc) := by rw [cell_of_row wr _ _ _ _ _ HC.out]; rfl
      have hb1 : wr.heap[g1]? = some (.cells #[.int .i64 0, .int .i64 0, .int .i64 0, .slice none 0 0] 26 (0, 0)) := (hd.block g1 hl1 (by show ¬ g1 = g2; omega)).trans H1.out
      have r0 : wr.cell? ⟨g1, 0, none⟩ = some (.int .i64 0) := by rw [cell_of_row wr _ _ _ _ _ hb1]; rfl
      have r1 : wr.cell? ⟨g1, 1, none⟩ = some (.int .i64 0) := by rw [cell_of_row wr _ _ _ _ _ hb1]; rfl
      have r2 : wr.cell? ⟨g1, 2, none⟩ = some (.int .i64 0) := by rw [cell_of_row wr _ _ _ _ _ hb1]; rfl
      have r3 : wr.cell? ⟨g1, 3, none⟩ = some (.slice none 0 0) := by rw [cell_of_row wr _ _ _ _ _ hb1]; rfl
      have f1 : ∀ o, wr.frozen? ⟨g1, o, none⟩ = false := fun o => frozen_of_row wr _ o _ _ hb1
      have hg1w : g1 < wr.heap.size := Nat.lt_of_lt_of_le hl1 hd.size
      clear hd hb1
      go_wp2_with fail
      have hd : Diff (fun x => x = g1 ∨ x = g2) X ((((wr.setCell ⟨g1, 0, none⟩ (.int .i64 b.lo)).setCell ⟨g1, 1, none⟩ (.int .i64 b.hi)).setCell ⟨g1, 2, none⟩ (.int .i64 b.lots)).setCell ⟨g1, 3, none⟩ (.slice vq b.n vc)) := by
        refine Diff.setCell (Diff.setCell (Diff.setCell (Diff.setCell (HD.out.mono fun x _ e => .inr e) ?_ _) ?_ _) ?_ _) ?_ _ <;> exact fun _ => .inl rfl
      exact bodyPost_ret (v := .agg #[.int .i64 b.lo, .int .i64 b.hi, .int .i64 b.lots, .slice vq b.n vc]) (by simp [results, Tryd.results52, go_sem, r0, r1, r2, r3]) rfl
        ⟨_, rfl, ((((HT.out.set hl1 0 _).set hl1 1 _).set hl1 2 _).set hl1 3 _).mono HP.out.size, HP.out.trans' hd (fun x hx e => by have := HG0.out; rcases e with e | e <;> omega)⟩
end Go.Proofs.YtmedkmbfggphdaaDoor
