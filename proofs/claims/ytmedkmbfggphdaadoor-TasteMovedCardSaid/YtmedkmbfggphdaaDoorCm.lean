/- A book in which all that is said of one lot is as much greater. No condition. -/
import Derived.Test.YtmedkmbfggphdaaDoorSb
import Derived.Test.YtmedkmbfggphdaaDoorN1
import Derived.Test.YtmedkmbfggphdaaDoorJ4
set_option linter.unusedSimpArgs false
set_option linter.unusedVariables false
set_option linter.constructorNameAsVariable false
namespace Go.Proofs.YtmedkmbfggphdaaDoor
open Go.RowKit

/-- The tastes of a lot up to one place say as much more. -/
def BK.mv (b : BK) (A : Nat) (D : Int) (k g : Nat) : BK := ⟨b.lo, b.hi, b.lots, b.n, b.m, fun s j => if (s < k ∨ (s = k ∧ j < g)) ∧ (b.t s j).lot = A then ⟨(b.t s j).lot, (b.t s j).lo + D, (b.t s j).hi + D⟩ else b.t s j⟩
theorem mv_lot (b : BK) (A : Nat) (D : Int) (k g s j : Nat) : ((b.mv A D k g).t s j).lot = (b.t s j).lot := by
  show (if (s < k ∨ (s = k ∧ j < g)) ∧ (b.t s j).lot = A then (⟨(b.t s j).lot, (b.t s j).lo + D, (b.t s j).hi + D⟩ : TS) else b.t s j).lot = _
  split <;> rfl
theorem mv_at (b : BK) (A : Nat) (D : Int) (k g : Nat) : (b.mv A D k g).t k g = b.t k g := if_neg (by omega)
theorem mv_next (b : BK) (A : Nat) (D : Int) (k g : Nat) (h : (b.t k g).lot = A) :
    (⟨(b.mv A D k g).lo, (b.mv A D k g).hi, (b.mv A D k g).lots, (b.mv A D k g).n, (b.mv A D k g).m, fun s r => if s = k ∧ r = g then ⟨((b.mv A D k g).t s r).lot, (b.t k g).lo + D, (b.t k g).hi + D⟩ else (b.mv A D k g).t s r⟩ : BK) = b.mv A D k (g + 1) := by
  have key : ∀ s j, (if s = k ∧ j = g then (⟨((b.mv A D k g).t s j).lot, (b.t k g).lo + D, (b.t k g).hi + D⟩ : TS) else (b.mv A D k g).t s j) = (b.mv A D k (g + 1)).t s j := by
    intro s j
    by_cases e : s = k ∧ j = g
    · obtain ⟨rfl, rfl⟩ := e
      rw [if_pos ⟨rfl, rfl⟩, mv_lot]
      exact (if_pos ⟨.inr ⟨rfl, by omega⟩, h⟩).symm
    · rw [if_neg e]
      show (if (s < k ∨ (s = k ∧ j < g)) ∧ (b.t s j).lot = A then (⟨(b.t s j).lot, (b.t s j).lo + D, (b.t s j).hi + D⟩ : TS) else b.t s j) = if (s < k ∨ (s = k ∧ j < g + 1)) ∧ (b.t s j).lot = A then (⟨(b.t s j).lot, (b.t s j).lo + D, (b.t s j).hi + D⟩ : TS) else b.t s j
      by_cases e2 : (s < k ∨ (s = k ∧ j < g)) ∧ (b.t s j).lot = A
      · rw [if_pos e2, if_pos ⟨by omega, e2.2⟩]
      · rw [if_neg e2, if_neg (fun h => e2 ⟨by omega, h.2⟩)]
  rw [show (fun s r => if s = k ∧ r = g then (⟨((b.mv A D k g).t s r).lot, (b.t k g).lo + D, (b.t k g).hi + D⟩ : TS) else (b.mv A D k g).t s r) = (b.mv A D k (g + 1)).t from funext fun s => funext fun r => key s r]
  rfl
theorem mv_skip (b : BK) (A : Nat) (D : Int) (k g : Nat) (h : (b.t k g).lot ≠ A) : b.mv A D k g = b.mv A D k (g + 1) := by
  unfold BK.mv
  congr 1
  funext s j
  by_cases e2 : (s < k ∨ (s = k ∧ j < g)) ∧ (b.t s j).lot = A
  · rw [if_pos e2, if_pos ⟨by omega, e2.2⟩]
  · rw [if_neg e2, if_neg (fun h' => e2 ⟨?_, h'.2⟩)]
    by_cases e : s = k ∧ j = g
    · obtain ⟨rfl, rfl⟩ := e; exact absurd h'.2 h
    · omega
theorem SamI.congr' {B : Nat} {w : World} {v : Value} {b b' : BK} {k : Nat} (h : SamI B w v b k) (he : ∀ j, j < k → b'.m j = b.m j ∧ ∀ r, r < b.m j → b'.t j r = b.t j r) : SamI B w v b' k := by
  obtain ⟨ss, G, c, F, h1, h2, h3⟩ := h
  refine ⟨ss, G, c, F, h1, fun j hj => ?_, h3⟩
  obtain ⟨e1, e2⟩ := he j hj
  obtain ⟨a1, a2⟩ := h2 j hj
  rw [e1]
  exact ⟨a1, a2.low, a2.row, a2.mc, a2.cm, fun i hi => by rw [e2 i hi]; exact a2.at0 i hi⟩
theorem mv_row {B : Nat} {w : World} {v : Value} {b : BK} {A : Nat} {D : Int} {k n : Nat} (h : SamI B w v (b.mv A D k (b.m k)) n) : SamI B w v (b.mv A D (k + 1) 0) n := by
  refine h.congr' fun j _ => ⟨rfl, fun r hr => ?_⟩
  have hr' : r < b.m j := hr
  show (if (j < k + 1 ∨ (j = k + 1 ∧ r < 0)) ∧ (b.t j r).lot = A then (⟨(b.t j r).lot, (b.t j r).lo + D, (b.t j r).hi + D⟩ : TS) else b.t j r) = if (j < k ∨ (j = k ∧ r < b.m k)) ∧ (b.t j r).lot = A then (⟨(b.t j r).lot, (b.t j r).lo + D, (b.t j r).hi + D⟩ : TS) else b.t j r
  by_cases e : (j < k ∨ (j = k ∧ r < b.m k)) ∧ (b.t j r).lot = A
  · rw [if_pos e, if_pos ⟨by omega, e.2⟩]
  · rw [if_neg e, if_neg (fun h => e ⟨?_, h.2⟩)]
    rcases h.1 with h1 | h1
    · by_cases h2 : j < k
      · exact .inl h2
      · obtain rfl : j = k := by omega
        exact .inr ⟨rfl, hr'⟩
    · omega
theorem mv_zero (b : BK) (A : Nat) (D : Int) : b.mv A D 0 0 = b := by
  cases b
  unfold BK.mv
  congr 1
  funext s j
  exact if_neg (by omega)
theorem mv_upto (b : BK) (A : Nat) (D : Int) (k : Nat) : (b.mv A D b.n 0).upto k = b.upto k := upto_of_m (b := b) (c := b.mv A D b.n 0) rfl k
/-- The truth with one sharpness as much greater. -/
theorem mv_truth (b : BK) (A L : Nat) (D : Int) (hA : A < L) (hlot : ∀ k j, k < b.n → j < b.m k → 0 ≤ (b.t k j).lot) {x : Nat → Int} (h : Truth b L x) (h0 : 0 ≤ x (1 + A) + D - x 0) (h1 : x (1 + A) + D - x 0 ≤ 1000) :
    Truth (b.mv A D b.n 0) L fun k => if k = 1 + A then x k + D else x k := by
  have ht : (b.mv A D b.n 0).total = b.total := mv_upto b A D b.n
  have hat : ∀ q, q < b.total → ∃ s j, s < b.n ∧ j < b.m s ∧ q = b.upto s + j ∧ b.at' q = (j == 0, b.t s j) ∧ (b.mv A D b.n 0).at' q = (j == 0, (b.mv A D b.n 0).t s j) := fun q hq => by
    obtain ⟨s, j, hs, hj, rfl⟩ := b.split b.n q hq
    have e := (b.mv A D b.n 0).at_eq s j hs hj
    rw [mv_upto] at e
    exact ⟨s, j, hs, hj, rfl, b.at_eq s j hs hj, e⟩
  refine ⟨fun i hi => ?_, fun q hq hf => ?_, fun q hq hf => ?_, fun q hq => ?_⟩
  · show 0 ≤ (if 1 + i = 1 + A then x (1 + i) + D else x (1 + i)) - (if 0 = 1 + A then x 0 + D else x 0) ∧ (if 1 + i = 1 + A then x (1 + i) + D else x (1 + i)) - (if 0 = 1 + A then x 0 + D else x 0) ≤ 1000
    rw [if_neg (show ¬ 0 = 1 + A by omega)]
    by_cases e : i = A
    · subst e; rw [if_pos rfl]; exact ⟨h0, h1⟩
    · rw [if_neg (by omega)]; exact h.lot i hi
  · rw [ht] at hq
    obtain ⟨s, j, hs, hj, rfl, e1, e2⟩ := hat q hq
    rw [e2] at hf
    show (if 1 + L + (b.upto s + j) = 1 + A then x (1 + L + (b.upto s + j)) + D else x (1 + L + (b.upto s + j))) = if 0 = 1 + A then x 0 + D else x 0
    rw [if_neg (by omega), if_neg (by omega)]
    exact h.one _ hq (by rw [e1]; exact hf)
  · rw [ht] at hq
    obtain ⟨s, j, hs, hj, rfl, e1, e2⟩ := hat q hq
    rw [e2] at hf
    have hj0 : j ≠ 0 := by simpa using hf
    show b.lo ≤ (if 1 + L + (b.upto s + j) = 1 + A then x (1 + L + (b.upto s + j)) + D else x (1 + L + (b.upto s + j))) - (if L + (b.upto s + j) = 1 + A then x (L + (b.upto s + j)) + D else x (L + (b.upto s + j))) ∧ (if 1 + L + (b.upto s + j) = 1 + A then x (1 + L + (b.upto s + j)) + D else x (1 + L + (b.upto s + j))) - (if L + (b.upto s + j) = 1 + A then x (L + (b.upto s + j)) + D else x (L + (b.upto s + j))) ≤ b.hi
    rw [if_neg (by omega), if_neg (by omega)]
    exact h.nxt _ hq (by rw [e1]; exact hf)
  · rw [ht] at hq
    obtain ⟨s, j, hs, hj, rfl, e1, e2⟩ := hat q hq
    have hsay := h.say _ hq
    rw [e1] at hsay
    rw [e2]
    have h2 : (b.t s j).lo ≤ x (1 + (b.t s j).lot.toNat) - x (1 + L + (b.upto s + j)) ∧ x (1 + (b.t s j).lot.toNat) - x (1 + L + (b.upto s + j)) ≤ (b.t s j).hi := hsay
    have hl0 := hlot s j hs hj
    show ((b.mv A D b.n 0).t s j).lo ≤ (if 1 + ((b.mv A D b.n 0).t s j).lot.toNat = 1 + A then x (1 + ((b.mv A D b.n 0).t s j).lot.toNat) + D else x (1 + ((b.mv A D b.n 0).t s j).lot.toNat)) - (if 1 + L + (b.upto s + j) = 1 + A then x (1 + L + (b.upto s + j)) + D else x (1 + L + (b.upto s + j))) ∧
      (if 1 + ((b.mv A D b.n 0).t s j).lot.toNat = 1 + A then x (1 + ((b.mv A D b.n 0).t s j).lot.toNat) + D else x (1 + ((b.mv A D b.n 0).t s j).lot.toNat)) - (if 1 + L + (b.upto s + j) = 1 + A then x (1 + L + (b.upto s + j)) + D else x (1 + L + (b.upto s + j))) ≤ ((b.mv A D b.n 0).t s j).hi
    rw [mv_lot, if_neg (show ¬ 1 + L + (b.upto s + j) = 1 + A by omega)]
    by_cases e : (b.t s j).lot = A
    · have e3 : (b.mv A D b.n 0).t s j = ⟨(b.t s j).lot, (b.t s j).lo + D, (b.t s j).hi + D⟩ := if_pos ⟨.inl hs, e⟩
      rw [e3, if_pos (by omega)]
      simp only
      omega
    · have e3 : (b.mv A D b.n 0).t s j = b.t s j := if_neg (fun h => e h.2)
      rw [e3, if_neg (by omega)]
      exact h2
/-- A list with one number as much greater. -/
theorem nthI_set (l : List Int) (A : Nat) (v : Int) (hA : A < l.length) (i : Nat) : nthI (l.set A v) i = if i = A then v else nthI l i := by
  unfold nthI
  rw [List.getD_eq_getElem?_getD, List.getElem?_set]
  by_cases e : A = i
  · subst e; rw [if_pos rfl, if_pos rfl, if_pos hA]; rfl
  · rw [if_neg e, if_neg (fun h => e h.symm), List.getD_eq_getElem?_getD]
theorem numN_set (l ys : List Int) (A : Nat) (D : Int) (hA : A < l.length) (k : Nat) : numN (l.set A (nthI l A + D)) ys k = if k = 1 + A then numN l ys k + D else numN l ys k := by
  unfold numN numsL nthI
  rw [List.getD_eq_getElem?_getD, List.getD_eq_getElem?_getD, List.getD_eq_getElem?_getD]
  match k with
  | 0 => rw [if_neg (by omega)]; rfl
  | k + 1 =>
    simp only [List.cons_append, List.getElem?_cons_succ]
    by_cases hk : k < l.length
    · rw [List.getElem?_append_left (by rw [List.length_set]; exact hk), List.getElem?_append_left hk, List.getElem?_set]
      by_cases e : A = k
      · subst e; rw [if_pos rfl, if_pos hA, if_pos (by omega)]; rfl
      · rw [if_neg e, if_neg (by omega)]
    · rw [List.getElem?_append_right (by rw [List.length_set]; omega), List.getElem?_append_right (by omega), List.length_set, if_neg (by omega)]
/-- What TasteMoved says of the moved book. -/
theorem moved_facts {b ba bm : BK} {u : Nat → Int} (hv : b.Valid) (ea : heldB b u = ba) {A N M : Nat} {D : Int} (em : ba.mv A D ba.n 0 = bm) (hc : checkB bm = 0) (hN : b.lots = N) (hM : b.total = M) (hA : A < N)
    (h0 : 0 ≤ nthI (hXs b u) A + D) (h1 : nthI (hXs b u) A + D ≤ 1000) :
    truthC bm ((hXs b u).set A (nthI (hXs b u) A + D)) (hYs b u) = 0 ∧ lotsC bm (fun _ => (A : Int)) 1 = 0 ∧
      ∃ sl sh, apQ bm 0 (1 + A) 0 = .tuple #[.agg #[.int .i64 sl, .int .i64 sh], .int .i64 0] ∧ sl ≤ nthI (hXs b u) A + D ∧ nthI (hXs b u) A + D ≤ sh := by
  have hvm := checkB_valid hc
  have l1 : (hXs b u).length = N := by rw [hXs_length]; omega
  have l2 : (hYs b u).length = M := by rw [hYs_length, hM]
  have wa : Wider b ba := by rw [← ea]; exact held_wider b u
  have e1 : bm.lots = N := by rw [← em]; show ba.lots = N; rw [wa.lots, hN]
  have e2 : bm.total = M := by rw [← em]; show (ba.mv A D ba.n 0).upto ba.n = M; rw [mv_upto]; show ba.total = M; rw [wa.total, hM]
  have hT : Truth ba N (numN (hXs b u) (hYs b u)) := by have := held_truth b hv u; rw [l1, ea] at this; exact this
  have z0 : numN (hXs b u) (hYs b u) 0 = 0 := rfl
  have zA : numN (hXs b u) (hYs b u) (1 + A) = nthI (hXs b u) A := by
    unfold numN numsL nthI
    rw [List.getD_eq_getElem?_getD, List.getD_eq_getElem?_getD, Nat.add_comm 1 A]
    simp only [List.cons_append, List.getElem?_cons_succ]
    rw [List.getElem?_append_left (by omega)]
  have hTm : Truth bm N (numN ((hXs b u).set A (nthI (hXs b u) A + D)) (hYs b u)) := by
    have := mv_truth ba A N D hA (fun k j hk hj => by rw [wa.lot]; exact hv.lot0 k j (by rw [wa.n] at hk; exact hk) (by rw [wa.m] at hj; exact hj)) hT (by rw [zA, z0]; omega) (by rw [zA, z0]; omega)
    rw [em] at this
    rw [show numN ((hXs b u).set A (nthI (hXs b u) A + D)) (hYs b u) = fun k => if k = 1 + A then numN (hXs b u) (hYs b u) k + D else numN (hXs b u) (hYs b u) k from funext fun k => numN_set _ _ A D (by omega) k]
    exact this
  have hk := (bm.truth_iff hvm N e1 _).2 hTm
  have hn : noneB bm.es = false := keep_some (bm.netM_good hvm) (bm.loose hvm) hk
  have hin : In64 ((hXs b u).set A (nthI (hXs b u) A + D)) := In64.of_nth fun k hk => by
    rw [nthI_set _ _ _ (by omega)]
    split
    · omega
    · rw [List.length_set] at hk
      rw [hXs_nth b u k (by rw [hXs_length] at hk; exact hk)]
      have := hS_in u k; omega
  refine ⟨truthC_ok bm hc _ _ (by rw [List.length_set, l1, e1]) (by rw [l2, e2]) hin (hYs_in b hv u) hk, ?_, _, _, apQ_eO bm hn (1 + A) 0 rfl rfl, ?_⟩
  · unfold lotsC
    rw [if_neg (by omega), if_pos]
    rw [e1]; unfold wAll wIn; simp; omega
  · have h6 := hvm.lots6
    have bt := (bm.between hvm N e1 hn hk 0 (1 + A) (by omega) (by omega)).2
    rw [numN_set _ _ A D (by omega), numN_set _ _ A D (by omega), if_pos rfl, if_neg (by omega), zA, z0] at bt
    omega
end Go.Proofs.YtmedkmbfggphdaaDoor
