/- What TasteApart says of how far two lots are apart. No condition. -/
import Derived.Test.YtmedkmbfggphdaaDoorU1
set_option linter.unusedSimpArgs false
set_option linter.unusedVariables false
set_option linter.constructorNameAsVariable false
namespace Go.Proofs.YtmedkmbfggphdaaDoor
open Go.RowKit

theorem apart_facts (b : BK) (hc : checkB b = 0) (hn : noneB b.es = false) {N I Z : Nat} (hL : b.lots = N) (hI : I < N) (hZ : Z < N) :
    ∃ xl xh : Int, apQ b 0 (1 + I) (1 + Z) = .tuple #[.agg #[.int .i64 xl, .int .i64 xh], .int .i64 0] ∧ apQ b 0 (1 + Z) (1 + I) = .tuple #[.agg #[.int .i64 (-xh), .int .i64 (-xl)], .int .i64 0] ∧
      apQ b 0 (1 + I) (1 + I) = .tuple #[.agg #[.int .i64 0, .int .i64 0], .int .i64 0] ∧ -1000 ≤ xl ∧ xh ≤ 1000 ∧ xl ≤ xh ∧
      endV b false (1 + I) - xh ≤ endV b false (1 + Z) ∧ endV b true (1 + Z) ≤ endV b true (1 + I) - xl ∧ endV b false (1 + I) - endV b true (1 + Z) ≤ xl ∧ xh ≤ endV b true (1 + I) - endV b false (1 + Z) := by
  have hv := checkB_valid hc
  have ht := b.tight hv hn
  have h6 := hv.lots6
  have h12 := hv.tot
  have z1 := b.zero hv N hL hn (1 + I) (by omega)
  have z2 := b.zero hv N hL hn (1 + Z) (by omega)
  have lt := b.least_truth hv N hL hn
  have b1 := b.between hv N hL hn lt (1 + I) (1 + Z) (by omega) (by omega)
  have b2 := b.between hv N hL hn lt (1 + Z) (1 + I) (by omega) (by omega)
  have s1 := span_in b hv hn N hL I hI
  have s2 := span_in b hv hn N hL Z hZ
  have d0 := ht.d0 (1 + I) (by omega)
  -- paths
  have p1 := (ht.path (i := 1 + I) (a := 1 + Z) (c := 0) (by omega) (by omega) (by omega) ⟨b2.1, Int.le_refl _⟩ ⟨z1.2, Int.le_refl _⟩).2
  have p2 := (ht.path (i := 1 + I) (a := 0) (c := 1 + Z) (by omega) (by omega) (by omega) ⟨z1.1, Int.le_refl _⟩ ⟨b1.1, Int.le_refl _⟩).2
  have p3 := (ht.path (i := 0) (a := 1 + I) (c := 1 + Z) (by omega) (by omega) (by omega) ⟨z1.2, Int.le_refl _⟩ ⟨z2.1, Int.le_refl _⟩).2
  have p4 := (ht.path (i := 0) (a := 1 + Z) (c := 1 + I) (by omega) (by omega) (by omega) ⟨z2.2, Int.le_refl _⟩ ⟨z1.1, Int.le_refl _⟩).2
  unfold endV at s1 s2 ⊢
  simp only [cond_false, cond_true] at s1 s2 ⊢
  refine ⟨_, _, apQ_eO b hn (1 + I) (1 + Z) rfl rfl, ?_, ?_, ?_⟩
  · rw [apQ_eO b hn (1 + Z) (1 + I) rfl rfl, Int.neg_neg]
  · rw [apQ_eO b hn (1 + I) (1 + I) rfl rfl, d0.2]; rfl
  · omega
theorem lotsC_in2 {b : BK} {N I Z : Nat} (hc : checkB b = 0) (hL : b.lots = N) (hI : I < N) (hZ : Z < N) : lotsC b (fun i => if i = 0 then (I : Int) else (Z : Int)) 2 = 0 := by
  unfold lotsC
  rw [if_neg (by omega), if_pos]
  rw [hL]; unfold wAll wIn; simp; omega
theorem apQ_none (b : BK) (h : noneB b.es = true) (x y : Nat) : apQ b 0 x y = .tuple #[.agg #[.int .i64 0, .int .i64 0], .int .i64 17] := apQ_eN b h x y
theorem SpQ.one {b : BK} {w w' : World} {e : Ending} (h : SpQ b w e w') (hn : noneB b.es = true) : e = .returned (.tuple #[.slice none 0 0, .bool false, .bool true]) := by
  unfold SpQ at h; rwa [if_pos hn] at h
/-- A row of ranges lies in memory. -/
def SpAt (b : BK) (N : Nat) (q : Option Addr) (w : World) : Prop :=
  ∀ i, i < N → ∃ g, q = some ⟨g, 0, none⟩ ∧ g < w.heap.size ∧ w.cell? ⟨g, i * 2, none⟩ = some (.int .i64 (endV b false (1 + i))) ∧ w.cell? ⟨g, i * 2 + 1, none⟩ = some (.int .i64 (endV b true (1 + i)))
theorem SpAt.to {b : BK} {N : Nat} {q : Option Addr} {w w' : World} (h : SpAt b N q w) (hp : Pure w w') : SpAt b N q w' := fun i hi => by
  obtain ⟨g, h1, h2, h3, h4⟩ := h i hi
  exact ⟨g, h1, Nat.lt_of_lt_of_le h2 hp.size, ((pcell hp).1 _ _ h2).trans h3, ((pcell hp).1 _ _ h2).trans h4⟩
theorem spl_length (b : BK) (N : Nat) : (spl b N).length = N * 2 := by
  induction N with
  | zero => rfl
  | succ n ih => rw [← spl_succ, List.length_append, ih]; simp; omega
theorem spl_get (b : BK) (i : Nat) : ∀ N, i < N → (spl b N)[i * 2]? = some (.int .i64 (endV b false (1 + i))) ∧ (spl b N)[i * 2 + 1]? = some (.int .i64 (endV b true (1 + i)))
  | 0, h => by omega
  | n + 1, h => by
    rw [← spl_succ]
    have hl := spl_length b n
    by_cases hi : i < n
    · have ih := spl_get b i n hi
      rw [List.getElem?_append_left (by omega), List.getElem?_append_left (by omega)]
      exact ih
    · obtain rfl : i = n := by omega
      rw [List.getElem?_append_right (by omega), List.getElem?_append_right (by omega), hl]
      simp
theorem SpQ.two {b : BK} {w w' : World} {e : Ending} (h : SpQ b w e w') (hn : noneB b.es = false) {N : Nat} (hN : b.lots = N) : ∃ q c, e = .returned (.tuple #[.slice q N c, .bool true, .bool true]) ∧ SpAt b N q w' := by
  unfold SpQ at h
  rw [if_neg (by rw [hn]; simp)] at h
  obtain ⟨N', v, hL, rfl, ho⟩ := h
  obtain rfl : N' = N := by omega
  rcases ho.2 with ⟨rfl, h0⟩ | ⟨g, c, cur, rfl, h1, h2, h3⟩
  · exact ⟨none, 0, by rw [h0], fun i hi => by omega⟩
  · refine ⟨_, c, rfl, fun i hi => ⟨g, rfl, (Array.getElem?_eq_some_iff.1 h2).1, ?_, ?_⟩⟩
    · rw [World.ownsRow.cellAt ho (i * 2) (by omega)]; exact (spl_get b i _ hi).1
    · rw [World.ownsRow.cellAt ho (i * 2 + 1) (by omega)]; exact (spl_get b i _ hi).2
end Go.Proofs.YtmedkmbfggphdaaDoor
