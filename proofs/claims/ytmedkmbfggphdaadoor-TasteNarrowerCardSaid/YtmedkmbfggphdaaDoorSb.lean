/- A copy of a book whose sittings are rows of its own: how it is read, and written. No condition. -/
import Derived.Test.YtmedkmbfggphdaaDoorSa
set_option linter.unusedSimpArgs false
set_option linter.unusedVariables false
set_option linter.constructorNameAsVariable false
namespace Go.Proofs.YtmedkmbfggphdaaDoor
open Go.RowKit

theorem SitR.pure {B : Nat} {w w' : World} {m : Nat} {t : Nat → TS} {g c : Nat} {F : Nat → Value} (h : SitR B w m t g c F) (hp : Pure w w') : SitR B w' m t g c F := h.blk (Nat.le_refl _) (hp.block _ h.row.lt id)
theorem SamI.pure {B : Nat} {w w' : World} {v : Value} {b : BK} {k : Nat} (h : SamI B w v b k) (hp : Pure w w') : SamI B w' v b k := by
  obtain ⟨ss, G, c, F, h1, h2, h3⟩ := h
  exact ⟨ss, G, c, F, own_pure h1 hp, fun j hj => ⟨(h2 j hj).1, (h2 j hj).2.pure hp⟩, h3⟩
theorem SitR.cells {B : Nat} {w : World} {m : Nat} {t : Nat → TS} {g c : Nat} {F : Nat → Value} (h : SitR B w m t g c F) {i : Nat} (hi : i < m) :
    w.cell? ⟨g, i * 3, none⟩ = some (.int .i64 (t i).lot) ∧ w.cell? ⟨g, i * 3 + 1, none⟩ = some (.int .i64 (t i).lo) ∧ w.cell? ⟨g, i * 3 + 2, none⟩ = some (.int .i64 (t i).hi) := by
  have hm := h.mc
  obtain ⟨a1, a2, a3⟩ := h.at0 i hi
  exact ⟨(h.row.cell (by omega)).trans (by rw [a1]), (h.row.cell (by omega)).trans (by rw [a2]), (h.row.cell (by omega)).trans (by rw [a3])⟩
theorem SamI.book {B : Nat} {w : World} {p : Option Addr} {c : Nat} {b : BK} (h : SamI B w (.slice p b.n c) b b.n) : BookAt w.heap.size w p b := by
  intro k hk
  obtain ⟨ss, G, cc, F, h1, h2, h3⟩ := h
  obtain ⟨h4, h5⟩ := h2 k hk
  rcases h1.2 with ⟨e1, e2⟩ | ⟨g, c1, cur, e1, h6, h7, -⟩
  · omega
  · cases e1
    refine ⟨g, 0, some ⟨G k, 0, none⟩, cc k, rfl, (Array.getElem?_eq_some_iff.1 h7).1, ?_, fun j hj => ⟨G k, 0, rfl, h5.row.lt, ?_⟩⟩
    · rw [Nat.zero_add, World.ownsRow.cellAt h1 k (by omega)]; exact h4
    · rw [Nat.zero_add]; exact h5.cells hj
/-- One sitting: where it lies, what stands there, and what becomes of the book if one of its tastes says other bounds. -/
theorem SamI.sit {B : Nat} {w : World} {q : Option Addr} {n c : Nat} {b : BK} {k : Nat} (h : SamI B w (.slice q n c) b k) {j : Nat} (hj : j < k) :
    ∃ go gk ck F, q = some ⟨go, 0, none⟩ ∧ B ≤ go ∧ go < w.heap.size ∧ w.cell? ⟨go, j, none⟩ = some (.slice (some ⟨gk, 0, none⟩) (b.m j) ck) ∧ SitR B w (b.m j) (b.t j) gk ck F ∧
      ∀ i, i < b.m j → ∀ lo hi : Int, SamI B ((w.setCell ⟨gk, i * 3 + 1, none⟩ (.int .i64 lo)).setCell ⟨gk, i * 3 + 2, none⟩ (.int .i64 hi)) (.slice q n c)
        ⟨b.lo, b.hi, b.lots, b.n, b.m, fun s r => if s = j ∧ r = i then ⟨(b.t s r).lot, lo, hi⟩ else b.t s r⟩ k := by
  obtain ⟨ss, G, cc, F, h1, h2, h3⟩ := h
  obtain ⟨h4, h5⟩ := h2 j hj
  have hne' : ∀ s, s < k → ∀ g cur, w.heap[g]? = some (.cells cur 59 (0, 0)) → G s ≠ g := fun s hs g cur h7 e => by
    obtain ⟨cs, h8, -⟩ := (h2 s hs).2.row
    rw [e, h7] at h8
    simp at h8
  rcases h1.2 with ⟨e1, e2⟩ | ⟨g, c1, cur, e1, h6, h7, -⟩
  · omega
  · cases e1
    have hne := fun s hs => hne' s hs g cur h7
    refine ⟨g, G j, cc j, F j, rfl, h6, (Array.getElem?_eq_some_iff.1 h7).1, ?_, h5, fun i hi lo hi' => ⟨ss, G, cc, fun s r => if s = j ∧ r = i * 3 + 1 then .int .i64 lo else if s = j ∧ r = i * 3 + 2 then .int .i64 hi' else F s r, ?_, fun s hs => ⟨(h2 s hs).1, ?_⟩, h3⟩⟩
    · rw [World.ownsRow.cellAt h1 j (by have := h1.1; omega)]; exact h4
    · refine ownsRow_setCell_other (ownsRow_setCell_other h1 ?_ _) ?_ _ <;> (show (some g : Option Nat) ≠ some (G j)); all_goals exact fun e => hne j hj (Option.some.inj e).symm
    · by_cases e : s = j
      · subst e
        have hr := (h5.row.set (i * 3 + 1) (.int .i64 lo)).set (i * 3 + 2) (.int .i64 hi')
        refine ⟨h5.low, hr.congr fun r _ => ?_, h5.mc, h5.cm, fun r hr => ?_⟩
        · show (if r = i * 3 + 2 then Value.int .i64 hi' else if r = i * 3 + 1 then Value.int .i64 lo else F s r) = if s = s ∧ r = i * 3 + 1 then Value.int .i64 lo else if s = s ∧ r = i * 3 + 2 then Value.int .i64 hi' else F s r
          by_cases e1 : r = i * 3 + 2
          · rw [if_pos e1, if_neg (by omega), if_pos ⟨rfl, e1⟩]
          · rw [if_neg e1, if_neg (show ¬(s = s ∧ r = i * 3 + 2) from fun h => e1 h.2)]
            by_cases e2 : r = i * 3 + 1
            · rw [if_pos e2, if_pos ⟨rfl, e2⟩]
            · rw [if_neg e2, if_neg (fun h => e2 h.2)]
        · obtain ⟨a1, a2, a3⟩ := h5.at0 r hr
          show (if s = s ∧ r * 3 = i * 3 + 1 then Value.int .i64 lo else if s = s ∧ r * 3 = i * 3 + 2 then Value.int .i64 hi' else F s (r * 3)) = .int .i64 (if s = s ∧ r = i then (⟨(b.t s r).lot, lo, hi'⟩ : TS) else b.t s r).lot ∧
            (if s = s ∧ r * 3 + 1 = i * 3 + 1 then Value.int .i64 lo else if s = s ∧ r * 3 + 1 = i * 3 + 2 then Value.int .i64 hi' else F s (r * 3 + 1)) = .int .i64 (if s = s ∧ r = i then (⟨(b.t s r).lot, lo, hi'⟩ : TS) else b.t s r).lo ∧
            (if s = s ∧ r * 3 + 2 = i * 3 + 1 then Value.int .i64 lo else if s = s ∧ r * 3 + 2 = i * 3 + 2 then Value.int .i64 hi' else F s (r * 3 + 2)) = .int .i64 (if s = s ∧ r = i then (⟨(b.t s r).lot, lo, hi'⟩ : TS) else b.t s r).hi
          by_cases e : r = i
          · subst e
            rw [if_pos (show s = s ∧ r = r from ⟨rfl, rfl⟩), if_neg (by omega), if_neg (by omega), if_pos ⟨rfl, rfl⟩, if_neg (by omega), if_pos ⟨rfl, rfl⟩]
            exact ⟨a1, rfl, rfl⟩
          · rw [if_neg (show ¬(s = s ∧ r = i) from fun h => e h.2), if_neg (by omega), if_neg (by omega), if_neg (by omega), if_neg (by omega), if_neg (by omega), if_neg (by omega)]
            exact ⟨a1, a2, a3⟩
      · have hg : G s ≠ G j := fun h => e (h3 s j hs hj h)
        have h8 := (h2 s hs).2
        refine ⟨h8.low, ((h8.row.setOther (show G s ≠ G j from hg) _).setOther (show G s ≠ G j from hg) _).congr fun r _ => ?_, h8.mc, h8.cm, fun r hr => ?_⟩
        · show F s r = if s = j ∧ r = i * 3 + 1 then Value.int .i64 lo else if s = j ∧ r = i * 3 + 2 then Value.int .i64 hi' else F s r
          rw [if_neg (fun h => e h.1), if_neg (fun h => e h.1)]
        · show (if s = j ∧ r * 3 = i * 3 + 1 then Value.int .i64 lo else if s = j ∧ r * 3 = i * 3 + 2 then Value.int .i64 hi' else F s (r * 3)) = .int .i64 (if s = j ∧ r = i then (⟨(b.t s r).lot, lo, hi'⟩ : TS) else b.t s r).lot ∧
            (if s = j ∧ r * 3 + 1 = i * 3 + 1 then Value.int .i64 lo else if s = j ∧ r * 3 + 1 = i * 3 + 2 then Value.int .i64 hi' else F s (r * 3 + 1)) = .int .i64 (if s = j ∧ r = i then (⟨(b.t s r).lot, lo, hi'⟩ : TS) else b.t s r).lo ∧
            (if s = j ∧ r * 3 + 2 = i * 3 + 1 then Value.int .i64 lo else if s = j ∧ r * 3 + 2 = i * 3 + 2 then Value.int .i64 hi' else F s (r * 3 + 2)) = .int .i64 (if s = j ∧ r = i then (⟨(b.t s r).lot, lo, hi'⟩ : TS) else b.t s r).hi
          simp only [if_neg (show ¬(s = j ∧ r = i) from fun h => e h.1), if_neg (show ¬(s = j ∧ r * 3 = i * 3 + 1) from fun h => e h.1), if_neg (show ¬(s = j ∧ r * 3 = i * 3 + 2) from fun h => e h.1), if_neg (show ¬(s = j ∧ r * 3 + 1 = i * 3 + 1) from fun h => e h.1), if_neg (show ¬(s = j ∧ r * 3 + 1 = i * 3 + 2) from fun h => e h.1), if_neg (show ¬(s = j ∧ r * 3 + 2 = i * 3 + 1) from fun h => e h.1), if_neg (show ¬(s = j ∧ r * 3 + 2 = i * 3 + 2) from fun h => e h.1)]
          exact h8.at0 r hr
end Go.Proofs.YtmedkmbfggphdaaDoor
