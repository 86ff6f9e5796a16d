/- One more taste at the end of a sitting; a narrower Said, a narrower Rate. No condition. -/
import Derived.Test.YtmedkmbfggphdaaDoorSn
import Derived.Test.YtmedkmbfggphdaaDoorCd
set_option linter.unusedSimpArgs false
set_option linter.unusedVariables false
set_option linter.constructorNameAsVariable false
namespace Go.Proofs.YtmedkmbfggphdaaDoor
open Go.RowKit

def BK.more (b : BK) (i : Nat) (ts : TS) : BK := ⟨b.lo, b.hi, b.lots, b.n, fun k => if k = i then b.m k + 1 else b.m k, fun k j => if k = i ∧ j = b.m i then ts else b.t k j⟩
def BK.rate (b : BK) (lo hi : Int) : BK := ⟨lo, hi, b.lots, b.n, b.m, b.t⟩
theorem can_more (b : BK) (i : Nat) (ts : TS) (L : Nat) (z : Nat → Int) (h : Can (b.more i ts) L z) : Can b L z := by
  refine ⟨h.1, fun s hs => ?_⟩
  obtain ⟨y, hy⟩ := h.2 s hs
  have hm : b.m s ≤ (b.more i ts).m s := by
    show b.m s ≤ if s = i then b.m s + 1 else b.m s
    split <;> omega
  refine ⟨y, hy.one, fun j hj => hy.nxt j (by omega), fun j hj => ?_⟩
  have := hy.say j (by omega)
  have e : (b.more i ts).t s j = b.t s j := if_neg (fun e => by rw [e.1] at hj; omega)
  rw [e] at this
  exact this
theorem can_say' (b : BK) (i k : Nat) (lo hi : Int) (h0 : (b.t i k).lo ≤ lo) (h1 : hi ≤ (b.t i k).hi) (L : Nat) (z : Nat → Int) (h : Can (b.say i k lo hi) L z) : Can b L z := by
  refine ⟨h.1, fun s hs => ?_⟩
  obtain ⟨y, hy⟩ := h.2 s hs
  refine ⟨y, hy.one, hy.nxt, fun j hj => ?_⟩
  have := hy.say j hj
  rw [say_lot] at this
  by_cases e : s = i ∧ j = k
  · obtain ⟨rfl, rfl⟩ := e
    rw [say_at] at this
    simp only at this
    omega
  · rw [say_off e] at this; exact this
theorem can_rate (b : BK) (lo hi : Int) (h0 : b.lo ≤ lo) (h1 : hi ≤ b.hi) (L : Nat) (z : Nat → Int) (h : Can (b.rate lo hi) L z) : Can b L z := by
  refine ⟨h.1, fun s hs => ?_⟩
  obtain ⟨y, hy⟩ := h.2 s hs
  exact ⟨y, hy.one, fun j hj => by have : lo ≤ y (j + 1) - y j ∧ y (j + 1) - y j ≤ hi := hy.nxt j hj; omega, hy.say⟩
theorem rate_valid {b : BK} (hv : b.Valid) {lo hi : Int} (h0 : b.lo ≤ lo) (h1 : lo ≤ hi) (h2 : hi ≤ b.hi) : (b.rate lo hi).Valid :=
  ⟨by have := hv.lo0; show 0 ≤ lo; omega, h1, by have := hv.hi50; show hi ≤ 50; omega, hv.lots1, hv.lots6, hv.n4, hv.pos, by have e : (b.rate lo hi).total = b.total := upto_of_m (b := b) (c := b.rate lo hi) rfl b.n; rw [e]; exact hv.tot, hv.lot0, hv.lot1, hv.said0, hv.said1, hv.said2⟩
/-- One taste is appended to a sitting of a copy. -/
theorem SamI.grow {B : Nat} {w : World} {go c i gi ci eb : Nat} {b : BK} {lot lo hi : Int} (h : SamI B w (.slice (some ⟨go, 0, none⟩) b.n c) b b.n) (hin : i < b.n) (hm : b.m i ≤ 100) (hB : B ≤ w.heap.size)
    (he : w.heap[eb]? = some (.cells #[.int .i64 lot, .int .i64 lo, .int .i64 hi] 70 (0, 0))) (hc : w.cell? ⟨go, i, none⟩ = some (.slice (some ⟨gi, 0, none⟩) (b.m i) ci)) :
    ∃ g' c' w', (Builtin.append_ #[59, 59] 59 #[.slice (some ⟨gi, 0, none⟩) (b.m i) ci, .slice (some ⟨eb, 0, none⟩) 1 1]).run Tryd.prog w = .ok (.slice (some ⟨g', 0, none⟩) (b.m i + 1) c') w' ∧
      w'.cell? ⟨go, i, none⟩ = some (.slice (some ⟨gi, 0, none⟩) (b.m i) ci) ∧ (∀ o, w'.frozen? ⟨go, o, none⟩ = false) ∧ go < w'.heap.size ∧
      BookAt (w'.setCell ⟨go, i, none⟩ (.slice (some ⟨g', 0, none⟩) (b.m i + 1) c')).heap.size (w'.setCell ⟨go, i, none⟩ (.slice (some ⟨g', 0, none⟩) (b.m i + 1) c')) (some ⟨go, 0, none⟩) (b.more i ⟨lot, lo, hi⟩) ∧
      Diff (fun x => x = gi ∨ x = go) w (w'.setCell ⟨go, i, none⟩ (.slice (some ⟨g', 0, none⟩) (b.m i + 1) c')) ∧ Diff (fun x => x = gi) w w' := by
  obtain ⟨i7, hi7, hz7, hsz7, hby7⟩ := info70'
  obtain ⟨ss, G, cc, F, h1, h2, h3⟩ := h
  have hgo : B ≤ go ∧ ∃ cur, w.heap[go]? = some (.cells cur 59 (0, 0)) := by
    rcases h1.2 with ⟨e, _⟩ | ⟨g', c', cur, e, h4, h5, _⟩
    · cases e
    · cases e; exact ⟨h4, _, h5⟩
  obtain ⟨hgB, cur, hcur⟩ := hgo
  have hgl : go < w.heap.size := (Array.getElem?_eq_some_iff.1 hcur).1
  have hne : ∀ {g N : Nat} {f : Nat → Value}, w.rowIs g 70 N f → g ≠ go := fun {g N f} hr e => by
    obtain ⟨cs, h4, -⟩ := hr
    rw [e, hcur] at h4
    simp at h4
  have hcell : ∀ k, k < b.n → w.cell? ⟨go, k, none⟩ = some (.slice (some ⟨G k, 0, none⟩) (b.m k) (cc k)) := fun k hk => by
    rw [World.ownsRow.cellAt h1 k (by omega)]; exact (h2 k hk).1
  have e1 := hcell i hin
  rw [hc] at e1
  simp only [Option.some.injEq, Value.slice.injEq, Addr.mk.injEq] at e1
  obtain ⟨⟨e2, -⟩, -, e3⟩ := e1
  have hsi := (h2 i hin).2
  -- the sitting as a row of its own
  have hown : w.ownsRow B 70 3 (.slice (some ⟨gi, 0, none⟩) (b.m i) ci) (b.m i) (b.rowC i (b.m i)) := by
    obtain ⟨cs, k1, k2, k3⟩ := hsi.row
    refine ⟨b.rowC_length i (b.m i), .inr ⟨gi, ci, cs, rfl, by rw [e2]; exact hsi.low, by rw [e2]; exact k1, by rw [e3]; exact hsi.mc, by rw [e3]; exact hsi.cm, by rw [e3]; exact k2, ?_⟩⟩
    apply List.ext_getElem?
    intro r
    rw [List.getElem?_take]
    have hmc := hsi.mc
    by_cases hr : r < b.m i * 3
    · rw [if_pos hr, Array.getElem?_toList, k3 r (by omega)]
      obtain ⟨a1, a2, a3⟩ := b.rowC_at i (b.m i) (r / 3) (by omega)
      obtain ⟨f1, f2, f3⟩ := hsi.at0 (r / 3) (by omega)
      have hcase : r = r / 3 * 3 ∨ r = r / 3 * 3 + 1 ∨ r = r / 3 * 3 + 2 := by omega
      rcases hcase with q | q | q
      · rw [← q] at a1 f1; rw [a1, f1]
      · rw [← q] at a2 f2; rw [a2, f2]
      · rw [← q] at a3 f3; rw [a3, f3]
    · rw [if_neg hr, List.getElem?_eq_none (by rw [b.rowC_length]; omega)]
  obtain ⟨v', w', hr, q2, q3, -, q5⟩ := run_append_own_at (P := Tryd.prog) w B 59 59 70 i7 (.agg #[.int .i64 0, .int .i64 0, .int .i64 0]) 3 24 Tryd.underlying59 hi7 hz7 hsz7 hby7 rfl (by omega) (.slice (some ⟨gi, 0, none⟩) (b.m i) ci) (b.m i) (b.rowC i (b.m i)) hown
    ⟨eb, 0, none⟩ 1 1 [.int .i64 lot, .int .i64 lo, .int .i64 hi] rfl (fun j x hj => by
      have hadd : (⟨eb, 0, none⟩ : Addr).add j = ⟨eb, j, none⟩ := by unfold Addr.add; split <;> simp_all
      rw [hadd, cell_of_row _ _ _ _ _ _ he]
      match j with
      | 0 => simpa using hj
      | 1 => simpa using hj
      | 2 => simpa using hj
      | j + 3 => simp at hj) (by simp [Value.oneCell']) (by simp only [maxLen]; omega) (by omega) hB
  have hgig : gi ≠ go := by rw [e2]; exact hne hsi.row
  have hsame : ∀ x, x < w.heap.size → x ≠ gi → w'.heap[x]? = w.heap[x]? := fun x hx hxn => q3.block x hx (fun e => hxn (by simpa [Value.ownBlock] using e))
  have hgo' : w'.heap[go]? = w.heap[go]? := hsame go hgl (fun e => hgig e.symm)
  have hcell' : ∀ k, w'.cell? ⟨go, k, none⟩ = w.cell? ⟨go, k, none⟩ := fun k => World.cell?_of_block (w := w) hgo'
  rcases q2.2 with ⟨_, hn⟩ | ⟨g', c', cur', rfl, k1, k2, k3, k4, k5, k6⟩
  · omega
  · have hg'go : g' ≠ go := fun e => by rw [e, hgo', hcur] at k2; simp at k2
    have hW : ∀ x, x ≠ go → (w'.setCell ⟨go, i, none⟩ (.slice (some ⟨g', 0, none⟩) (b.m i + 1) c')).heap[x]? = w'.heap[x]? := fun x hx => Go.Deep.blk_setCell_other _ _ _ _ hx
    refine ⟨g', c', w', hr, (hcell' i).trans hc, fun o => frozen_of_row w' _ o _ _ (hgo'.trans hcur), Nat.lt_of_lt_of_le hgl q3.size, ?_, ?_, ⟨q3.os, q3.tape, q3.output, q3.size, fun x hx ho => hsame x hx ho⟩⟩
    · intro k hk
      have hk' : k < b.n := hk
      have hsz : (w'.setCell ⟨go, i, none⟩ (.slice (some ⟨g', 0, none⟩) (b.m i + 1) c')).heap.size = w'.heap.size := by simp
      by_cases hki : k = i
      · subst hki
        refine ⟨go, 0, some ⟨g', 0, none⟩, c', rfl, by rw [hsz]; exact Nat.lt_of_lt_of_le hgl q3.size, ?_, ?_⟩
        · rw [Nat.zero_add, show (b.more k ⟨lot, lo, hi⟩).m k = b.m k + 1 from if_pos rfl]
          have hb := setBlk59 (o := k) (u := .slice (some ⟨g', 0, none⟩) (b.m k + 1) c') (hgo'.trans hcur)
          rw [cell_of_row _ _ _ _ _ _ hb]
          have hlen : k < cur.size := by
            rcases h1.2 with ⟨e, _⟩ | ⟨g'', c'', cur'', e, _, h5, h6, h7, h8, _⟩
            · cases e
            · cases e; rw [hcur] at h5; simp at h5; subst h5; omega
          rw [Array.getElem?_setIfInBounds_self_of_lt hlen]
        · intro j hj
          have hj' : j < b.m k + 1 := by rw [show (b.more k ⟨lot, lo, hi⟩).m k = b.m k + 1 from if_pos rfl] at hj; exact hj
          have hcx : ∀ r, r < (b.m k + 1) * 3 → (w'.setCell ⟨go, k, none⟩ (.slice (some ⟨g', 0, none⟩) (b.m k + 1) c')).cell? ⟨g', r, none⟩ = (b.rowC k (b.m k) ++ [.int .i64 lot, .int .i64 lo, .int .i64 hi])[r]? := fun r hr => by
            rw [World.cell?_of_block (w := w') (hW g' hg'go), World.ownsRow.cellAt q2 r hr]
          refine ⟨g', 0, rfl, by rw [hsz]; exact (Array.getElem?_eq_some_iff.1 k2).1, ?_⟩
          rw [Nat.zero_add, hcx _ (by omega), hcx _ (by omega), hcx _ (by omega)]
          have hl := b.rowC_length k (b.m k)
          by_cases hjm : j = b.m k
          · subst hjm
            rw [show (b.more k ⟨lot, lo, hi⟩).t k (b.m k) = ⟨lot, lo, hi⟩ from if_pos ⟨rfl, rfl⟩, List.getElem?_append_right (by omega), List.getElem?_append_right (by omega), List.getElem?_append_right (by omega), hl]
            simp
          · rw [show (b.more k ⟨lot, lo, hi⟩).t k j = b.t k j from if_neg (fun e => hjm e.2), List.getElem?_append_left (by omega), List.getElem?_append_left (by omega), List.getElem?_append_left (by omega)]
            exact b.rowC_at k (b.m k) j (by omega)
      · have hsk := (h2 k hk').2
        refine ⟨go, 0, some ⟨G k, 0, none⟩, cc k, rfl, by rw [hsz]; exact Nat.lt_of_lt_of_le hgl q3.size, ?_, ?_⟩
        · rw [Nat.zero_add, show (b.more i ⟨lot, lo, hi⟩).m k = b.m k from if_neg hki, World.cell?_setCell_other _ _ _ _ (by simp; try omega), hcell']
          exact hcell k hk'
        · rw [show (b.more i ⟨lot, lo, hi⟩).m k = b.m k from if_neg hki]
          intro j hj
          have hGg : G k ≠ gi := fun e => hki (h3 k i hk' hin (by rw [e, e2]))
          have hcx : ∀ r, (w'.setCell ⟨go, i, none⟩ (.slice (some ⟨g', 0, none⟩) (b.m i + 1) c')).cell? ⟨G k, r, none⟩ = w.cell? ⟨G k, r, none⟩ := fun r => by
            rw [World.cell?_of_block (w := w') (hW (G k) (hne hsk.row)), World.cell?_of_block (w := w) (hsame (G k) hsk.row.lt hGg)]
          refine ⟨G k, 0, rfl, by rw [hsz]; exact Nat.lt_of_lt_of_le hsk.row.lt q3.size, ?_⟩
          rw [Nat.zero_add, hcx, hcx, hcx, show (b.more i ⟨lot, lo, hi⟩).t k j = b.t k j from if_neg (fun e => hki e.1)]
          exact hsk.cells hj
    · exact Diff.setCell (O := fun x => x = gi ∨ x = go) (p := ⟨go, i, none⟩) ⟨q3.os, q3.tape, q3.output, q3.size, fun x hx ho => hsame x hx (fun e => ho (.inl e))⟩ (fun _ => .inr rfl) _
/-- What is known in a round that appends a taste, by what is done. -/
structure NR (b : BK) (A : Nat) (ts : TS) (go gk ck : Nat) (wr : World) (eb g' c' : Nat) (x9 x10 x12 : Bool) (W : World) : Prop where
  p : x10 = false → Pure wr W
  e : x9 = true → x10 = false → wr.heap.size ≤ eb ∧ W.heap[eb]? = some (.cells #[.int .i64 ts.lot, .int .i64 ts.lo, .int .i64 ts.hi] 70 (0, 0))
  r : x10 = true → x12 = false → W.cell? ⟨go, A, none⟩ = some (.slice (some ⟨gk, 0, none⟩) (b.m A) ck) ∧ (∀ o, W.frozen? ⟨go, o, none⟩ = false) ∧ go < W.heap.size ∧
    BookAt (W.setCell ⟨go, A, none⟩ (.slice (some ⟨g', 0, none⟩) (b.m A + 1) c')).heap.size (W.setCell ⟨go, A, none⟩ (.slice (some ⟨g', 0, none⟩) (b.m A + 1) c')) (some ⟨go, 0, none⟩) (b.more A ts) ∧
    Diff (fun x => x = gk ∨ x = go) wr (W.setCell ⟨go, A, none⟩ (.slice (some ⟨g', 0, none⟩) (b.m A + 1) c'))
  q : x12 = false → Diff (fun x => x = gk) wr W
  y : x12 = true → BookAt W.heap.size W (some ⟨go, 0, none⟩) (b.more A ts) ∧ Diff (fun x => x = gk ∨ x = go) wr W
section
variable {b : BK} {A : Nat} {ts : TS} {go gk ck : Nat} {wr : World} {eb g' c' : Nat} {W : World}
theorem NR.start (b : BK) (A : Nat) (ts : TS) (go gk ck : Nat) (wr : World) (eb g' c' : Nat) : NR b A ts go gk ck wr eb g' c' false false false wr.drew :=
  ⟨fun _ => (Diff.refl wr).drew, fun h => Bool.noConfusion h, fun h => Bool.noConfusion h, fun _ => (Diff.refl wr).drew, fun h => Bool.noConfusion h⟩
theorem NR.list (h : NR b A ts go gk ck wr eb g' c' false false false W) : NR b A ts go gk ck wr W.heap.size g' c' true false false (W.alloc (.cells #[.int .i64 ts.lot, .int .i64 ts.lo, .int .i64 ts.hi] 70)) :=
  ⟨fun _ => (h.p rfl).alloc _, fun _ _ => ⟨(h.p rfl).size, World.alloc_heap_new _ _⟩, fun h => Bool.noConfusion h, fun _ => (h.q rfl).alloc _, fun h => Bool.noConfusion h⟩
theorem NR.push {B c : Nat} (h : NR b A ts go gk ck wr eb g' c' true false false W) (hs : SamI B wr (.slice (some ⟨go, 0, none⟩) b.n c) b b.n) (hin : A < b.n) (hm : b.m A ≤ 100) (hB : B ≤ wr.heap.size) (hgo : go < wr.heap.size)
    (hc : wr.cell? ⟨go, A, none⟩ = some (.slice (some ⟨gk, 0, none⟩) (b.m A) ck)) :
    ∃ g2 c2 w', (Builtin.append_ #[59, 59] 59 #[.slice (some ⟨gk, 0, none⟩) (b.m A) ck, .slice (some ⟨eb, 0, none⟩) 1 1]).run Tryd.prog W = .ok (.slice (some ⟨g2, 0, none⟩) (b.m A + 1) c2) w' ∧ NR b A ts go gk ck wr eb g2 c2 true true false w' := by
  have hp := h.p rfl
  obtain ⟨g2, c2, w', hr, k1, k2, k3, k4, k5, k6⟩ := (hs.pure hp).grow hin hm (Nat.le_trans hB hp.size) (h.e rfl rfl).2 (((pcell hp).1 _ _ hgo).trans hc)
  exact ⟨g2, c2, w', hr, fun h => Bool.noConfusion h, fun _ h => Bool.noConfusion h, fun _ _ => ⟨k1, k2, k3, k4, (hp.mono (O' := fun x => x = gk ∨ x = go) fun _ _ h => h.elim).trans k5⟩, fun _ => (hp.mono (O' := fun x => x = gk) fun _ _ h => h.elim).trans k6, fun h => Bool.noConfusion h⟩
theorem NR.store (h : NR b A ts go gk ck wr eb g' c' true true false W) : NR b A ts go gk ck wr eb g' c' true true true (W.setCell ⟨go, A, none⟩ (.slice (some ⟨g', 0, none⟩) (b.m A + 1) c')) :=
  ⟨fun h => Bool.noConfusion h, fun _ h => Bool.noConfusion h, fun _ h => Bool.noConfusion h, fun h => Bool.noConfusion h, fun _ => ⟨(h.r rfl rfl).2.2.2.1, (h.r rfl rfl).2.2.2.2⟩⟩
end
end Go.Proofs.YtmedkmbfggphdaaDoor
