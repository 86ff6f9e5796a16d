/- What Held keeps in memory. No condition. -/
import Derived.Test.YtmedkmbfggphdaaDoorN2
import Derived.Test.YtmedkmbfggphdaaDoorJ3
import Derived.Test.YtmedkmbfggphdaaDoorJ4
set_option linter.unusedSimpArgs false
set_option linter.unusedVariables false
set_option linter.constructorNameAsVariable false
namespace Go.Proofs.YtmedkmbfggphdaaDoor
open Go.RowKit

theorem own_blk {W : World} {B : Nat} {e : TypeId} {s : Nat} {v : Value} {n : Nat} {xs : List Value} (h : W.ownsRow B e s v n xs) {x : Nat} (hx : v.ownBlock = some x) : ∃ cs, W.heap[x]? = some (.cells cs e (0, 0)) := by
  rcases h.2 with ⟨rfl, _⟩ | ⟨g, cap, cur, rfl, _, hg, _⟩
  · simp [Value.ownBlock] at hx
  · simp only [Value.ownBlock, Option.some.injEq] at hx
    subst hx
    exact ⟨cur, hg⟩
/-- Own rows of different kinds lie apart. -/
theorem own_apart {W : World} {B B' : Nat} {e e' : TypeId} {s s' : Nat} {v v' : Value} {n n' : Nat} {xs xs' : List Value} (h : W.ownsRow B e s v n xs) (h' : W.ownsRow B' e' s' v' n' xs') (he : e ≠ e') : ApartV v v' := fun k h1 h2 => by
  obtain ⟨c1, q1⟩ := own_blk h h1
  obtain ⟨c2, q2⟩ := own_blk h' h2
  rw [q1] at q2
  simp only [Option.some.injEq, Obj.cells.injEq] at q2
  exact he q2.2.1
theorem own_keep {W W' : World} {v : Value} {B : Nat} {e : TypeId} {s : Nat} {n : Nat} {xs : List Value} {v0 : Value} (h : W.ownsRow B e s v n xs) (hd : Diff (fun x => some x = v0.ownBlock) W W') (ha : ApartV v v0) : W'.ownsRow B e s v n xs :=
  own_diff h hd (fun x hx hh => ha x hx hh.symm)

/-- The sharpnesses, the book that is being made, its sittings. -/
structure HO2 (b : BK) (u : Nat → Int) (g2 L : Nat) (X : World) (shv : Value) (k : Nat) (sv : Value) (wr : World) : Prop where
  df : Diff (fun x => x = g2) X wr
  gl : g2 < X.heap.size
  sh : wr.ownsRow X.heap.size 2 1 shv L (vals ((List.range L).map (hS u)))
  ou : wr.heap[g2]? = some (.cells #[.int .i64 b.lo, .int .i64 b.hi, .int .i64 b.lots, sv] 26 (0, 0))
  si : ∃ ss : List Value, wr.ownsRow X.heap.size 59 1 sv k ss ∧ ∀ j, j < k → ∃ q c, ss[j]? = some (.slice q (b.m j) c) ∧ wr.ownsRow X.heap.size 70 3 (.slice q (b.m j) c) (b.m j) ((heldB b u).rowC j (b.m j))
structure HO1 (b : BK) (u : Nat → Int) (g2 L : Nat) (X : World) (shv : Value) (k : Nat) (tv sv : Value) (wr : World) : Prop where
  o2 : HO2 b u g2 L X shv k sv wr
  ti : wr.ownsRow X.heap.size 2 1 tv (b.upto k) (vals (hAll b u k))
  ap : ApartV shv tv
theorem HO2.keep {b : BK} {u : Nat → Int} {g2 L : Nat} {X : World} {shv : Value} {k : Nat} {sv : Value} {wr w' : World} (h : HO2 b u g2 L X shv k sv wr) {tv : Value} {n : Nat} {xs : List Value} (ht : wr.ownsRow X.heap.size 2 1 tv n xs) (ha : ApartV shv tv) (hd : Diff (fun x => some x = tv.ownBlock) wr w') : HO2 b u g2 L X shv k sv w' := by
  have hlt : ∀ x, tv.ownBlock = some x → X.heap.size ≤ x := fun x hx => (ht.lt x hx).1
  obtain ⟨ss, hs, hall⟩ := h.si
  refine ⟨h.df.trans' hd (fun x hx hh => by have := hlt x hh.symm; omega), h.gl, own_keep h.sh hd ha, ?_, ss, own_keep hs hd (own_apart hs ht (by decide)), fun j hj => ?_⟩
  · have hgw : g2 < wr.heap.size := (Array.getElem?_eq_some_iff.1 h.ou).1
    exact (hd.block g2 hgw (fun hh => by have := hlt g2 hh.symm; have := h.gl; omega)).trans h.ou
  · obtain ⟨q, c, h1, h2⟩ := hall j hj
    exact ⟨q, c, h1, own_keep h2 hd (own_apart h2 ht (by decide))⟩
theorem HO2.pure {b : BK} {u : Nat → Int} {g2 L : Nat} {X : World} {shv : Value} {k : Nat} {sv : Value} {wr w' : World} (h : HO2 b u g2 L X shv k sv wr) (hp : Pure wr w') : HO2 b u g2 L X shv k sv w' :=
  h.keep (tv := .slice none 0 0) (World.ownsRow_nil _ _ _ _) (fun x h1 h2 => by simp [Value.ownBlock] at h2) (hp.mono (fun _ _ h => h.elim))

/-- A round of the inner loop, as seen from the world in which it began. -/
structure HJ (b : BK) (u : Nat → Int) (X wo : World) (shv : Value) (k j : Nat) (lv tv0 tv : Value) (wr : World) : Prop where
  df : Diff (fun x => some x = tv0.ownBlock) wo wr
  ti : wr.ownsRow X.heap.size 2 1 tv (b.upto k + j) (vals (hAll b u k ++ hRow b u k j))
  ap : ApartV shv tv
  tb : tv.ownBlock = tv0.ownBlock ∨ ∀ x, tv.ownBlock = some x → wo.heap.size ≤ x
  ll : wr.ownsRow wo.heap.size 70 3 lv j ((heldB b u).rowC k j)
theorem HJ.pure {b : BK} {u : Nat → Int} {X wo : World} {shv : Value} {k j : Nat} {lv tv0 tv : Value} {wr w' : World} (h : HJ b u X wo shv k j lv tv0 tv wr) (hp : Pure wr w') : HJ b u X wo shv k j lv tv0 tv w' :=
  ⟨h.df.trans (hp.mono (fun _ _ hh => hh.elim)), own_pure h.ti hp, h.ap, h.tb, own_pure h.ll hp⟩
theorem hRow_succ (b : BK) (u : Nat → Int) (k j : Nat) : hRow b u k (j + 1) = hRow b u k j ++ [hT b u k j] := by simp [hRow, List.range_succ]
theorem hAll_nth2 (b : BK) (u : Nat → Int) (k j i : Nat) (hi : i < j) : nthI (hAll b u k ++ hRow b u k j) (b.upto k + i) = hT b u k i := by
  unfold nthI
  rw [List.getD_eq_getElem?_getD, List.getElem?_append_right (by rw [hAll_length]; omega), hAll_length, Nat.add_sub_cancel_left]
  simp [hRow, hi]

/-- Behind a round: one more taste in l, one more number in tired. -/
theorem HJ.next {b : BK} {u : Nat → Int} {X wo : World} {shv : Value} {k j : Nat} {lv lv' tv0 tv : Value} {wr w1 : World} (h : HJ b u X wo shv k j lv tv0 tv wr)
    (hl : w1.ownsRow wo.heap.size 70 3 lv' (j + 1) ((heldB b u).rowC k (j + 1))) (hd : Diff (fun x => some x = lv.ownBlock) wr w1) (hB : X.heap.size ≤ w1.heap.size) (hk : b.upto k + j ≤ 1000)
    {L : Nat} {xs : List Value} (hsh : w1.ownsRow X.heap.size 2 1 shv L xs) :
    ∃ tv' w', (Builtin.append_ #[27, 27] 27 #[tv, .slice (some ⟨w1.heap.size, 0, none⟩) 1 1]).run Tryd.prog (w1.alloc (.cells #[.int .i64 (hT b u k j)] 2)) = .ok tv' w' ∧ HJ b u X wo shv k (j + 1) lv' tv0 tv' w' := by
  have hlt := h.ll.lt
  have hapl : ApartV tv lv := own_apart h.ti h.ll (by decide)
  have hti1 : w1.ownsRow X.heap.size 2 1 tv (b.upto k + j) (vals (hAll b u k ++ hRow b u k j)) := own_keep h.ti hd hapl
  obtain ⟨tv', w', hr, hown, hd2, hob, hform⟩ := push_one 27 2 (.int .i64 0) 8 Tryd.underlying27 info2 rfl (by omega) hti1 hk hB (.int .i64 (hT b u k j)) rfl
  have hww : wo.heap.size ≤ w1.heap.size := Nat.le_trans h.df.size hd.size
  refine ⟨tv', w', hr, ?_, ?_, ?_, ?_, ?_⟩
  · have hdf1 : Diff (fun x => some x = tv0.ownBlock) wo w1 := h.df.trans' hd (fun x hx hh => by have := (hlt x hh.symm).1; omega)
    refine hdf1.trans' hd2 (fun x hx hh => ?_)
    rcases h.tb with e | e
    · exact hh.trans e
    · have := e x hh.symm; omega
  · rw [hRow_succ, ← List.append_assoc, vals_append]
    exact hown
  · exact (h.ap.symm.push hsh hob).symm
  · rcases hob with e | e
    · rcases h.tb with e2 | e2
      · exact .inl (e.trans e2)
      · exact .inr (fun x hx => e2 x (e ▸ hx))
    · exact .inr (fun x hx => by rw [e] at hx; have := Option.some.inj hx; omega)
  · exact own_keep hl hd2 (own_apart hl hti1 (by decide))

theorem info59h : (Tryd.prog.info? 59).map (fun i => (i.zero, i.size, i.bytes)) = some (some (.slice none 0 0), 1, 24) := by kernel_rfl
/-- Behind a sitting. -/
theorem HO1.next {b : BK} {u : Nat → Int} {g2 L : Nat} {X : World} {shv : Value} {k : Nat} {tv0 sv : Value} {wo : World} (h : HO1 b u g2 L X shv k tv0 sv wo) {lv tv : Value} {wr : World} (hj : HJ b u X wo shv k (b.m k) lv tv0 tv wr) (hk : k ≤ 100) :
    ∃ sv' w' q c, lv = .slice q (b.m k) c ∧ (Builtin.append_ #[24, 24] 24 #[sv, .slice (some ⟨wr.heap.size, 0, none⟩) 1 1]).run Tryd.prog (wr.alloc (.cells #[lv] 59)) = .ok sv' w' ∧ HO1 b u g2 L X shv (k + 1) tv sv' (w'.setCell ⟨g2, 3, none⟩ sv') ∧
      w'.heap[g2]? = some (.cells #[.int .i64 b.lo, .int .i64 b.hi, .int .i64 b.lots, sv] 26 (0, 0)) ∧ ∃ g d, sv' = .slice (some ⟨g, 0, none⟩) (k + 1) d := by
  have h2 : HO2 b u g2 L X shv k sv wr := h.o2.keep h.ti h.ap hj.df
  obtain ⟨ss, hs, hall⟩ := h2.si
  have hXw : X.heap.size ≤ wr.heap.size := h2.df.size
  have hXo : X.heap.size ≤ wo.heap.size := h.o2.df.size
  have hll := own_mono hj.ll hXo
  obtain ⟨q, c, hlv⟩ : ∃ q c, lv = .slice q (b.m k) c := by
    rcases hj.ll.2 with ⟨h1, h3⟩ | ⟨g, c, cur, h1, _⟩
    · exact ⟨none, 0, by rw [h1, h3]⟩
    · exact ⟨_, c, h1⟩
  obtain ⟨sv', w', hr, hown, hd, hob, hform⟩ := push_one 24 59 (.slice none 0 0) 24 Tryd.underlying24 info59h rfl (by omega) hs (by omega) hXw lv (by rw [hlv]; rfl)
  have hg2 := h.o2.gl
  have hne : ∀ x, sv.ownBlock = some x → X.heap.size ≤ x := fun x hx => (hs.lt x hx).1
  have hgw : w'.heap[g2]? = some (.cells #[.int .i64 b.lo, .int .i64 b.hi, .int .i64 b.lots, sv] 26 (0, 0)) :=
    (hd.block g2 (by omega) (fun hh => by have := hne g2 hh.symm; omega)).trans h2.ou
  have hset : ∀ x, x ≠ g2 → (w'.setCell ⟨g2, 3, none⟩ sv').heap[x]? = w'.heap[x]? := fun x hx => Below.heap_setCell _ _ _ _ hx
  have own2 : ∀ {e : TypeId} {s : Nat} {v : Value} {n : Nat} {xs : List Value}, w'.ownsRow X.heap.size e s v n xs → (w'.setCell ⟨g2, 3, none⟩ sv').ownsRow X.heap.size e s v n xs := fun {e s v n xs} hh =>
    own_block hh (fun x hx => hset x (by have := (hh.lt x hx).1; omega))
  have hti := own_keep hj.ti hd (own_apart hj.ti hs (by decide))
  have hll2 := own_keep hll hd (own_apart hll hs (by decide))
  refine ⟨sv', w', q, c, hlv, hr, ⟨⟨?_, hg2, own2 (own_keep h2.sh hd (own_apart h2.sh hs (by decide))), ?_, ss ++ [lv], own2 hown, fun j hj' => ?_⟩, ?_, hj.ap⟩, hgw, hform⟩
  · exact ((h2.df.trans' hd (fun x hx hh => by have := hne x hh.symm; omega)).setCell (fun _ => rfl) _)
  · simp [World.setCell, Array.getElem?_modify, hgw]
  · by_cases e : j = k
    · subst e
      refine ⟨q, c, ?_, ?_⟩
      · rw [List.getElem?_append_right (by have := hs.1; omega), show j - ss.length = 0 by have := hs.1; omega, hlv]; rfl
      · rw [← hlv]; exact own2 hll2
    · obtain ⟨q', c', a1, a2⟩ := hall j (by omega)
      refine ⟨q', c', ?_, own2 (own_keep a2 hd (own_apart a2 hs (by decide)))⟩
      rw [List.getElem?_append_left (by have := hs.1; omega)]; exact a1
  · exact own2 hti
/-- The sittings that are made. -/
def SiAt (b : BK) (u : Nat → Int) (B : Nat) (k : Nat) (sv : Value) (wr : World) : Prop :=
  ∃ ss : List Value, wr.ownsRow B 59 1 sv k ss ∧ ∀ j, j < k → ∃ q c, ss[j]? = some (.slice q (b.m j) c) ∧ wr.ownsRow B 70 3 (.slice q (b.m j) c) (b.m j) ((heldB b u).rowC j (b.m j))
theorem own_low {O : Nat → Prop} {W W' : World} {B : Nat} {e : TypeId} {s : Nat} {v : Value} {n : Nat} {xs : List Value} (h : W.ownsRow B e s v n xs) (hd : Diff O W W') (hO : ∀ x, O x → x < B) : W'.ownsRow B e s v n xs :=
  own_diff h hd (fun x hx hh => by have := hO x hh; have := (h.lt x hx).1; omega)
theorem SiAt.low {O : Nat → Prop} {b : BK} {u : Nat → Int} {B : Nat} {k : Nat} {sv : Value} {wr w' : World} (h : SiAt b u B k sv wr) (hd : Diff O wr w') (hO : ∀ x, O x → x < B) : SiAt b u B k sv w' := by
  obtain ⟨ss, hs, hall⟩ := h
  refine ⟨ss, own_low hs hd hO, fun j hj => ?_⟩
  obtain ⟨q, c, h1, h2⟩ := hall j hj
  exact ⟨q, c, h1, own_low h2 hd hO⟩
/-- The book that is made, in the end. -/
theorem SiAt.book {b : BK} {u : Nat → Int} {B : Nat} {sv : Value} {wr : World} (h : SiAt b u B b.n sv wr) : ∃ p' cap', sv = .slice p' b.n cap' ∧ BookAt wr.heap.size wr p' (heldB b u) := by
  obtain ⟨ss, hs, hall⟩ := h
  obtain ⟨q, c, rfl, hc⟩ := slice_of_own hs
  refine ⟨q, c, rfl, fun k hk => ?_⟩
  obtain ⟨g, rfl, hg, hx⟩ := hc k hk
  obtain ⟨q', c', h1, h2⟩ := hall k hk
  refine ⟨g, 0, q', c', rfl, hg, by rw [Nat.zero_add, hx]; exact h1, fun j hj => ?_⟩
  rcases h2.2 with ⟨e1, e2⟩ | ⟨g3, c3, cur, e1, _, h3, _⟩
  · have : j < b.m k := hj
    omega
  · cases e1
    have hcc := World.ownsRow.cellAt h2
    obtain ⟨a1, a2, a3⟩ := (heldB b u).rowC_at k (b.m k) j hj
    have hjm : j < b.m k := hj
    refine ⟨g3, 0, rfl, (Array.getElem?_eq_some_iff.1 h3).1, ?_, ?_, ?_⟩
    · rw [Nat.zero_add, hcc _ (by omega)]; exact a1
    · rw [Nat.zero_add, hcc _ (by omega)]; exact a2
    · rw [Nat.zero_add, hcc _ (by omega)]; exact a3
/-- What Held answers. -/
def HeldQ (b : BK) (u : Nat → Int) (e : Ending) (w' : World) : Prop :=
  ∃ p' cap' s t, e = .returned (.tuple #[bookV (heldB b u) p' cap', s, t]) ∧ BookAt w'.heap.size w' p' (heldB b u) ∧ SlI w'.heap.size w' s (hXs b u) ∧ SlI w'.heap.size w' t (hYs b u)
theorem SlI.of_own2 {w : World} {B : Nat} {T : TypeId} {v : Value} {xs : List Int} {n : Nat} (h : w.ownsRow B T 1 v n (vals xs)) (hn : n = xs.length) : SlI w.heap.size w v xs := by
  subst hn
  obtain ⟨h1, ⟨rfl, h0⟩ | ⟨g, c, cur, rfl, h2, h3, h4⟩⟩ := h
  · exact .inl ⟨rfl, List.length_eq_zero_iff.1 h0⟩
  · have h := World.ownsRow.cellAt (w := w) (base := B) (e := T) (size := 1) (g := g) (n := xs.length) (cap := c) (xs := vals xs) ⟨h1, .inr ⟨g, c, cur, rfl, h2, h3, h4⟩⟩
    refine .inr ⟨g, 0, c, rfl, (Array.getElem?_eq_some_iff.1 h3).1, fun k u hu => ?_⟩
    have hk : k < xs.length := (List.getElem?_eq_some_iff.1 hu).1
    rw [Nat.zero_add, h k (by omega)]
    simp [vals, hu]
theorem SlI.to {w w' : World} {v : Value} {xs : List Int} (h : SlI w.heap.size w v xs) (hp : Pure w w') : SlI w'.heap.size w' v xs := (h.pure (hp.mono (fun _ _ hh => hh.elim)) (Nat.le_refl _)).mono hp.size
theorem SlI.row {B : Nat} {w : World} {v : Value} {xs : List Int} (h : SlI B w v xs) : ∃ q c, v = .slice q xs.length c ∧ Row B w q xs.length fun k => .int .i64 (nthI xs k) := by
  rcases h with ⟨rfl, rfl⟩ | ⟨b, o, c, rfl, hb, hc⟩
  · exact ⟨none, 0, rfl, fun k hk => by simp at hk⟩
  · refine ⟨_, c, rfl, fun k hk => ⟨b, o, rfl, hb, ?_⟩⟩
    have hn : nthI xs k = xs[k] := by unfold nthI; rw [List.getD_eq_getElem?_getD]; simp [hk]
    simp only [hn]
    exact hc k _ (List.getElem?_eq_getElem hk)
end Go.Proofs.YtmedkmbfggphdaaDoor
