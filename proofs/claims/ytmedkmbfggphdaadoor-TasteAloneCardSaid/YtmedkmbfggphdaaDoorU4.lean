/- What TasteAlone says: a lot that is tasted first, and one that is never tasted. No condition. -/
import Derived.Test.YtmedkmbfggphdaaDoorU1
set_option linter.unusedSimpArgs false
set_option linter.unusedVariables false
set_option linter.constructorNameAsVariable false
namespace Go.Proofs.YtmedkmbfggphdaaDoor
open Go.RowKit

theorem alone_first (b : BK) (hv : b.Valid) (hn : noneB b.es = false) (L : Nat) (hL : b.lots = L) (q : Nat) (hq : q < b.total) (hf : (b.at' q).1 = true) :
    (b.at' q).2.lo ≤ endV b false (1 + (b.at' q).2.lot.toNat) ∧ endV b true (1 + (b.at' q).2.lot.toNat) ≤ (b.at' q).2.hi := by
  have g := (b.truth_iff hv L hL _).1 (b.great_truth hv L hL hn)
  have l := (b.truth_iff hv L hL _).1 (b.least_truth hv L hL hn)
  have d0 := ((b.tight hv hn).d0 0 (by omega)).2
  have g1 := g.one q hq hf
  have g2 := (g.say q hq).2
  have l1 := l.one q hq hf
  have l2 := (l.say q hq).1
  unfold endV
  rw [cond_false, cond_true]
  omega
theorem truth_put (b : BK) (hv : b.Valid) (L : Nat) (i : Nat) (hi : i < L) (hnever : ∀ q, q < b.total → (b.at' q).2.lot.toNat ≠ i) {x : Nat → Int} (h : Truth b L x) (v : Int) (h0 : 0 ≤ v - x 0) (h1 : v - x 0 ≤ 1000) :
    Truth b L (fun k => if k = 1 + i then v else x k) := by
  refine ⟨fun j hj => ?_, fun q hq hf => ?_, fun q hq hf => ?_, fun q hq => ?_⟩
  · show 0 ≤ (if 1 + j = 1 + i then v else x (1 + j)) - (if 0 = 1 + i then v else x 0) ∧ (if 1 + j = 1 + i then v else x (1 + j)) - (if 0 = 1 + i then v else x 0) ≤ 1000
    have := h.lot j hj
    rw [if_neg (show ¬ 0 = 1 + i by omega)]
    split
    · exact ⟨h0, h1⟩
    · exact this
  · show (if 1 + L + q = 1 + i then v else x (1 + L + q)) = (if 0 = 1 + i then v else x 0)
    rw [if_neg (by omega), if_neg (by omega)]
    exact h.one q hq hf
  · show b.lo ≤ (if 1 + L + q = 1 + i then v else x (1 + L + q)) - (if L + q = 1 + i then v else x (L + q)) ∧ (if 1 + L + q = 1 + i then v else x (1 + L + q)) - (if L + q = 1 + i then v else x (L + q)) ≤ b.hi
    have hq0 : q ≠ 0 := fun e => by subst e; rw [b.fst_zero hv hq] at hf; cases hf
    rw [if_neg (by omega), if_neg (by omega)]
    exact h.nxt q hq hf
  · show (b.at' q).2.lo ≤ (if 1 + (b.at' q).2.lot.toNat = 1 + i then v else x (1 + (b.at' q).2.lot.toNat)) - (if 1 + L + q = 1 + i then v else x (1 + L + q)) ∧ (if 1 + (b.at' q).2.lot.toNat = 1 + i then v else x (1 + (b.at' q).2.lot.toNat)) - (if 1 + L + q = 1 + i then v else x (1 + L + q)) ≤ (b.at' q).2.hi
    have := hnever q hq
    rw [if_neg (by omega), if_neg (by omega)]
    exact h.say q hq
theorem alone_never (b : BK) (hv : b.Valid) (hn : noneB b.es = false) (L : Nat) (hL : b.lots = L) (i : Nat) (hi : i < L) (hnever : ∀ q, q < b.total → (b.at' q).2.lot.toNat ≠ i) :
    endV b false (1 + i) = 0 ∧ endV b true (1 + i) = 1000 := by
  have g := (b.truth_iff hv L hL _).1 (b.great_truth hv L hL hn)
  have d0 := ((b.tight hv hn).d0 0 (by omega)).2
  have e0 : (b.T (ix 0 0)).by' = 0 := d0
  have s := span_in b hv hn L hL i hi
  have k1 := (b.truth_iff hv L hL _).2 (truth_put b hv L i hi hnever g 1000 (by omega) (by omega))
  have k2 := (b.truth_iff hv L hL _).2 (truth_put b hv L i hi hnever g 0 (by omega) (by omega))
  have t1 := b.between hv L hL hn k1 0 (1 + i) (by omega) (by omega)
  have t2 := b.between hv L hL hn k2 0 (1 + i) (by omega) (by omega)
  simp only [if_true, if_neg (show ¬ 0 = 1 + i by omega)] at t1 t2
  unfold endV at s ⊢
  rw [cond_false, cond_true] at *
  omega
end Go.Proofs.YtmedkmbfggphdaaDoor
