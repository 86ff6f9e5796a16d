/- What TasteHeld says of a book that holds a truth. No condition. -/
import Derived.Test.YtmedkmbfggphdaaDoorN3
import Derived.Test.YtmedkmbfggphdaaDoorN6
set_option linter.unusedSimpArgs false
set_option linter.unusedVariables false
set_option linter.constructorNameAsVariable false
namespace Go.Proofs.YtmedkmbfggphdaaDoor
open Go.RowKit

theorem SlI.row2 {B : Nat} {w : World} {q : Option Addr} {n c : Nat} {xs : List Int} (h : SlI B w (.slice q n c) xs) : n = xs.length ∧ Row B w q n fun k => .int .i64 (nthI xs k) := by
  obtain ⟨q', c', he, hr⟩ := h.row
  cases he
  exact ⟨rfl, hr⟩
/-- Two numbers lie in a cell. -/
structure At2 (g : Nat) (x y : Int) (w : World) : Prop where
  c0 : w.cell? ⟨g, 0, none⟩ = some (.int .i64 x)
  c1 : w.cell? ⟨g, 1, none⟩ = some (.int .i64 y)
  lt : g < w.heap.size
theorem At2.of {g : Nat} {x y : Int} {w : World} (h : w.heap[g]? = some (.cells #[.int .i64 x, .int .i64 y] 23 (0, 0))) : At2 g x y w :=
  ⟨by rw [cell_of_row w _ _ _ _ _ h]; rfl, by rw [cell_of_row w _ _ _ _ _ h]; rfl, (Array.getElem?_eq_some_iff.1 h).1⟩
theorem At2.to {g : Nat} {x y : Int} {w w' : World} (h : At2 g x y w) (hp : Pure w w') : At2 g x y w' :=
  ⟨((pcell hp).1 _ _ h.lt).trans h.c0, ((pcell hp).1 _ _ h.lt).trans h.c1, Nat.lt_of_lt_of_le h.lt hp.size⟩
theorem held_facts {b ba : BK} {u : Nat → Int} (hv : b.Valid) (ea : heldB b u = ba) (hc : checkB ba = 0) {N M A Z : Nat} (hN : b.lots = N) (hM : b.total = M) (hA : A < N) (hZ : Z < N) :
    truthC ba (hXs b u) (hYs b u) = 0 ∧ noneB ba.es = false ∧ lotsC ba (fun _ => (A : Int)) 1 = 0 ∧ lotsC ba (fun i => if i = 0 then (A : Int) else (Z : Int)) 2 = 0 ∧
      (∀ i, i < N → endV ba false (1 + i) ≤ nthI (hXs b u) i ∧ nthI (hXs b u) i ≤ endV ba true (1 + i)) ∧
      (∀ i, i < M → endV ba false (1 + N + i) ≤ nthI (hYs b u) i ∧ nthI (hYs b u) i ≤ endV ba true (1 + N + i)) ∧
      (hXs b u).length = N ∧ (hYs b u).length = M ∧ (ba.lots = N ∧ ba.total = M) ∧
      apQ ba 0 (1 + A) 0 = .tuple #[.agg #[.int .i64 (endV ba false (1 + A)), .int .i64 (endV ba true (1 + A))], .int .i64 0] ∧
      (∃ al ah : Int, apQ ba 0 (1 + A) (1 + Z) = .tuple #[.agg #[.int .i64 al, .int .i64 ah], .int .i64 0] ∧ al ≤ nthI (hXs b u) A - nthI (hXs b u) Z ∧ nthI (hXs b u) A - nthI (hXs b u) Z ≤ ah) := by
  have wa : Wider b ba := by rw [← ea]; exact held_wider b u
  have hva := checkB_valid hc
  have e1 : ba.lots = N := by rw [wa.lots, hN]
  have e2 : ba.total = M := by rw [wa.total, hM]
  have l1 : (hXs b u).length = N := by rw [hXs_length]; omega
  have l2 : (hYs b u).length = M := by rw [hYs_length, hM]
  have t1 : truthC ba (hXs b u) (hYs b u) = 0 := held_truthC b hv u ba (by rw [ea]; exact ⟨rfl, rfl, rfl, rfl, rfl, fun _ _ => rfl, fun _ _ => Int.le_refl _, fun _ _ => Int.le_refl _⟩) hc
  have L1 : ba.lots = (hXs b u).length := by rw [l1, e1]
  have L2 : ba.total = (hYs b u).length := by rw [l2, e2]
  have hn : noneB ba.es = false := by
    cases h : noneB ba.es with
    | false => rfl
    | true => have := truth_none ba hc h (hXs b u) (hYs b u) L1 L2 (hXs_in b u) (hYs_in b hv u); omega
  have hk : Keep ba.es (numN (hXs b u) (hYs b u)) := (truthC_iff ba hc _ _ L1 L2 (hXs_in b u) (hYs_in b hv u)).1 t1
  have bt := ba.between hva N e1 hn hk
  have z0 : numN (hXs b u) (hYs b u) 0 = 0 := numN_zero _ _
  have zl : ∀ i, i < N → numN (hXs b u) (hYs b u) (1 + i) = nthI (hXs b u) i := fun i hi => numN_lot _ _ i (by omega)
  have zt : ∀ i, numN (hXs b u) (hYs b u) (1 + N + i) = nthI (hYs b u) i := fun i => by have := numN_taste (hXs b u) (hYs b u) i; rwa [l1] at this
  have ends : ∀ k, k < 1 + N + M → endV ba false k ≤ numN (hXs b u) (hYs b u) k ∧ numN (hXs b u) (hYs b u) k ≤ endV ba true k := fun k hk => by
    have h1 := bt 0 k (by omega) (by omega)
    unfold endV
    rw [cond_false, cond_true]
    rw [z0] at h1
    omega
  refine ⟨t1, hn, ?_, ?_, fun i hi => ?_, fun i hi => ?_, l1, l2, ⟨e1, e2⟩, ?_, ?_⟩
  · unfold lotsC
    rw [if_neg (by omega), if_pos]
    rw [e1]; unfold wAll wIn; simp; omega
  · unfold lotsC
    rw [if_neg (by omega), if_pos]
    rw [e1]; unfold wAll wIn; simp; omega
  · rw [← zl i hi]; exact ends _ (by omega)
  · rw [← zt i]; exact ends _ (by omega)
  · exact apQ_eO ba hn (1 + A) 0 rfl rfl
  · refine ⟨_, _, apQ_eO ba hn (1 + A) (1 + Z) rfl rfl, ?_⟩
    have h1 := bt (1 + Z) (1 + A) (by omega) (by omega)
    rw [zl A hA, zl Z hZ] at h1
    exact h1.2
end Go.Proofs.YtmedkmbfggphdaaDoor
