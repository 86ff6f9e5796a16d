/- What the Spans of a book are, by the sharpnesses that can be. No condition. -/
import Derived.Test.YtmedkmbfggphdaaDoorCa
import Derived.Test.YtmedkmbfggphdaaDoorU1
set_option linter.unusedSimpArgs false
set_option linter.unusedVariables false
set_option linter.constructorNameAsVariable false
namespace Go.Proofs.YtmedkmbfggphdaaDoor
open Go.RowKit

theorem can_in (b : BK) (hv : b.Valid) (L : Nat) (hL : b.lots = L) (hn : noneB b.es = false) {z : Nat → Int} (hz : Can b L z) (i : Nat) (hi : i < L) : endV b false (1 + i) ≤ z i ∧ z i ≤ endV b true (1 + i) := by
  obtain ⟨x, hx, h0, hi'⟩ := truth_of_can b hv L hL hz
  have := (b.between hv L hL hn ((b.truth_iff hv L hL x).2 hx) 0 (1 + i) (by omega) (by omega)).2
  unfold endV
  rw [cond_false, cond_true, ← hi' i hi]
  omega
theorem can_low (b : BK) (hv : b.Valid) (L : Nat) (hL : b.lots = L) (hn : noneB b.es = false) : Can b L fun i => endV b false (1 + i) := by
  have h := can_of_truth b hv L hL ((b.truth_iff hv L hL _).1 (b.least_truth hv L hL hn))
  have d0 := ((b.tight hv hn).d0 0 (by omega)).2
  have e0 : (b.T (ix 0 0)).by' = 0 := d0
  have e : (fun i => -(b.T (ix (1 + i) 0)).by' - -(b.T (ix 0 0)).by') = fun i => endV b false (1 + i) := by
    funext i; rw [e0]; unfold endV; rw [cond_false]; omega
  rw [← e]; exact h
theorem can_high (b : BK) (hv : b.Valid) (L : Nat) (hL : b.lots = L) (hn : noneB b.es = false) : Can b L fun i => endV b true (1 + i) := by
  have h := can_of_truth b hv L hL ((b.truth_iff hv L hL _).1 (b.great_truth hv L hL hn))
  have e0 : (b.T (ix 0 0)).by' = 0 := ((b.tight hv hn).d0 0 (by omega)).2
  have e : (fun i => (b.T (ix 0 (1 + i))).by' - (b.T (ix 0 0)).by') = fun i => endV b true (1 + i) := by
    funext i; rw [e0]; unfold endV; rw [cond_true]; omega
  rw [← e]; exact h
/-- Each number of a Span is had by some truth. -/
theorem can_mid (b : BK) (hv : b.Valid) (L : Nat) (hL : b.lots = L) (hn : noneB b.es = false) (i : Nat) (hi : i < L) (v : Int) (h1 : endV b false (1 + i) ≤ v) (h2 : v ≤ endV b true (1 + i)) : ∃ z, Can b L z ∧ z i = v := by
  have l := b.least_truth hv L hL hn
  have g := b.great_truth hv L hL hn
  have e0 : (b.T (ix 0 0)).by' = 0 := ((b.tight hv hn).d0 0 (by omega)).2
  unfold endV at h1 h2
  rw [cond_false] at h1
  rw [cond_true] at h2
  have g' : Keep b.es fun k => (b.T (ix 0 k)).by' - ((b.T (ix 0 (1 + i))).by' - v) := fun e he => by
    have h : (b.T (ix 0 e.t.toNat)).by' - (b.T (ix 0 e.f.toNat)).by' ≤ e.v := g e he
    show (b.T (ix 0 e.t.toNat)).by' - ((b.T (ix 0 (1 + i))).by' - v) - ((b.T (ix 0 e.f.toNat)).by' - ((b.T (ix 0 (1 + i))).by' - v)) ≤ e.v
    omega
  have m := keep_max g' l
  refine ⟨_, can_of_truth b hv L hL ((b.truth_iff hv L hL _).1 m), ?_⟩
  show max ((b.T (ix 0 (1 + i))).by' - ((b.T (ix 0 (1 + i))).by' - v)) (-(b.T (ix (1 + i) 0)).by') - max ((b.T (ix 0 0)).by' - ((b.T (ix 0 (1 + i))).by' - v)) (-(b.T (ix 0 0)).by') = v
  rw [e0]
  omega
/-- What can be in the one can be in the other one: then no Span is wider, and no truth comes in. -/
theorem can_sub {b c : BK} (hv : b.Valid) (hvc : c.Valid) (L : Nat) (hL : b.lots = L) (hLc : c.lots = L) (h : ∀ z, Can c L z → Can b L z) (hn : noneB c.es = false) :
    noneB b.es = false ∧ ∀ i, i < L → endV b false (1 + i) ≤ endV c false (1 + i) ∧ endV c true (1 + i) ≤ endV b true (1 + i) := by
  have hb : noneB b.es = false := (none_can b hv L hL).2 ⟨_, h _ (can_low c hvc L hLc hn)⟩
  exact ⟨hb, fun i hi => ⟨(can_in b hv L hL hb (h _ (can_low c hvc L hLc hn)) i hi).1, (can_in b hv L hL hb (h _ (can_high c hvc L hLc hn)) i hi).2⟩⟩
theorem can_same {b c : BK} (hv : b.Valid) (hvc : c.Valid) (L : Nat) (hL : b.lots = L) (hLc : c.lots = L) (h : ∀ z, Can c L z ↔ Can b L z) :
    noneB c.es = noneB b.es ∧ (noneB b.es = false → ∀ i, i < L → endV c false (1 + i) = endV b false (1 + i) ∧ endV c true (1 + i) = endV b true (1 + i)) := by
  have e : noneB c.es = noneB b.es := by
    have h1 := none_can b hv L hL
    have h2 := none_can c hvc L hLc
    have h3 : (∃ z, Can c L z) ↔ ∃ z, Can b L z := ⟨fun ⟨z, hz⟩ => ⟨z, (h z).1 hz⟩, fun ⟨z, hz⟩ => ⟨z, (h z).2 hz⟩⟩
    have h4 := h2.trans (h3.trans h1.symm)
    cases hc : noneB c.es <;> cases hb : noneB b.es <;> simp_all
  refine ⟨e, fun hb i hi => ?_⟩
  have s1 := (can_sub hv hvc L hL hLc (fun z => (h z).1) (by rw [e]; exact hb)).2 i hi
  have s2 := (can_sub hvc hv L hLc hL (fun z => (h z).2) hb).2 i hi
  omega
end Go.Proofs.YtmedkmbfggphdaaDoor
