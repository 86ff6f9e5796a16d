/- The numbers of the least and of the greatest truth, and what is so if there is none. No condition. -/
import Derived.Test.YtmedkmbfggphdaaDoorN4
set_option linter.unusedSimpArgs false
set_option linter.unusedVariables false
set_option linter.constructorNameAsVariable false
namespace Go.Proofs.YtmedkmbfggphdaaDoor
open Go.RowKit
theorem pick_lo (b : BK) (x : Nat) : pickT b.T pickLo x = endV b false x := by
  unfold pickT endV pickLo
  rw [show ix x 0 = x * 19 by simp [ix], cond_false]
theorem pick_hi (b : BK) (x : Nat) : pickT b.T pickHi x = endV b true x := by
  unfold pickT endV pickHi
  rw [show ix 0 x = x by simp [ix], cond_true]


def lsX (b : BK) (gr : Bool) : List Int := (List.range b.lots.toNat).map fun j => endV b gr (1 + j)
def lsY (b : BK) (gr : Bool) : List Int := (List.range b.total).map fun j => endV b gr (1 + b.lots.toNat + j)
theorem lsX_length (b : BK) (gr : Bool) : (lsX b gr).length = b.lots.toNat := by simp [lsX]
theorem lsY_length (b : BK) (gr : Bool) : (lsY b gr).length = b.total := by simp [lsY]
theorem lsX_nth (b : BK) (gr : Bool) (j : Nat) (h : j < b.lots.toNat) : nthI (lsX b gr) j = endV b gr (1 + j) := by
  unfold nthI lsX; rw [List.getD_eq_getElem?_getD]; simp [h]
theorem lsY_nth (b : BK) (gr : Bool) (j : Nat) (h : j < b.total) : nthI (lsY b gr) j = endV b gr (1 + b.lots.toNat + j) := by
  unfold nthI lsY; rw [List.getD_eq_getElem?_getD]; simp [h]
theorem endV_in (b : BK) (hv : b.Valid) (gr : Bool) (i : Nat) : -9223372036854775808 ≤ endV b gr i ∧ endV b gr i ≤ 9223372036854775807 := by
  have h1 := tightS_small b.es b.bnN (b.netM_good hv) (ix 0 i)
  have h2 := tightS_small b.es b.bnN (b.netM_good hv) (ix i 0)
  unfold endV BK.T
  cases gr
  · rw [cond_false]; omega
  · rw [cond_true]; omega
theorem ls_in (b : BK) (hv : b.Valid) (gr : Bool) : In64 (lsX b gr) ∧ In64 (lsY b gr) :=
  ⟨fun x hx => by obtain ⟨j, _, rfl⟩ := List.mem_map.1 hx; exact endV_in b hv gr _, fun x hx => by obtain ⟨j, _, rfl⟩ := List.mem_map.1 hx; exact endV_in b hv gr _⟩
theorem keep_congr {es : List ME} {x y : Nat → Int} {N : Nat} (h : Keep es x) (hN : ∀ e ∈ es, e.f.toNat < N ∧ e.t.toNat < N) (hxy : ∀ k, k < N → y k = x k) : Keep es y := fun e he => by
  have := h e he
  have hn := hN e he
  rw [hxy _ hn.1, hxy _ hn.2]; exact this
/-- Both are truths. -/
theorem end_truth (b : BK) (hc : checkB b = 0) (hn : noneB b.es = false) (gr : Bool) : truthC b (lsX b gr) (lsY b gr) = 0 := by
  have hv := checkB_valid hc
  have hl := hv.lots1
  have hL : b.lots = (b.lots.toNat : Int) := by omega
  have hin := ls_in b hv gr
  refine truthC_ok b hc _ _ (by rw [lsX_length]; exact hL) (by rw [lsY_length]) hin.1 hin.2 ?_
  have ht := b.tight hv hn
  have h0 := ht.d0 0 (by omega)
  have key : ∀ k, k < 1 + b.lots.toNat + b.total → numN (lsX b gr) (lsY b gr) k = endV b gr k := fun k hk => by
    by_cases k0 : k = 0
    · subst k0
      rw [numN_zero]
      unfold endV
      have e : (b.T (ix 0 0)).by' = 0 := h0.2
      rw [e]
      cases gr <;> rfl
    · by_cases k1 : k < 1 + b.lots.toNat
      · obtain ⟨j, rfl⟩ : ∃ j, k = 1 + j := ⟨k - 1, by omega⟩
        rw [numN_lot _ _ _ (by rw [lsX_length]; omega), lsX_nth _ _ _ (by omega)]
      · obtain ⟨j, rfl⟩ : ∃ j, k = 1 + b.lots.toNat + j := ⟨k - 1 - b.lots.toNat, by omega⟩
        have := numN_taste (lsX b gr) (lsY b gr) j
        rw [lsX_length] at this
        rw [this, lsY_nth _ _ _ (by omega)]
  refine keep_congr (x := endV b gr) ?_ (b.es_lt hv b.lots.toNat hL) key
  cases gr
  · have := b.least_truth hv b.lots.toNat hL hn
    refine keep_congr this (b.es_lt hv b.lots.toNat hL) (fun k _ => ?_)
    unfold endV; rw [cond_false]
  · have := b.great_truth hv b.lots.toNat hL hn
    refine keep_congr this (b.es_lt hv b.lots.toNat hL) (fun k _ => ?_)
    unfold endV; rw [cond_true]
/-- If there is a truth no round proves. -/
theorem round_none (b : BK) (hc : checkB b = 0) (hn : noneB b.es = false) (f : Nat → Int) (n : Nat) : (roundC b f n).2 ≠ 0 := by
  have hv := checkB_valid hc
  unfold roundC
  rw [if_neg (by omega)]
  split
  · simp
  · rename_i h0
    split
    · simp
    · split
      · simp
      · rename_i hj
        obtain ⟨x, hx⟩ := (noneB_iff (b.netM_good hv) (b.loose hv)).1 hn
        have hx' : Keep b.es x := hx
        have := keep_round hx' f n (by omega) (by simpa using hj)
        rw [if_pos (by omega)]
        simp
/-- If there is none no numbers are one. -/
theorem truth_none (b : BK) (hc : checkB b = 0) (hn : noneB b.es = true) (xs ys : List Int) (hL : b.lots = xs.length) (hT : b.total = ys.length) (hx : In64 xs) (hy : In64 ys) : truthC b xs ys = 17 := by
  have hv := checkB_valid hc
  unfold truthC
  rw [if_neg (by omega), if_neg (by omega)]
  cases h : allowsTo b xs ys b.rgN with
  | false => rfl
  | true =>
    have : noneB b.es = false := keep_some (b.netM_good hv) (b.loose hv) ((allows_iff b hv xs ys hL hx hy).1 h)
    rw [this] at hn; cases hn
/-- What Least and Greatest return, if there is a truth. -/
theorem truth_lists {b : BK} {pick : Int → Int → Int} {gr : Bool} {w w' : World} {e : Ending} (h : truthQ b pick w e w') (hc : checkB b = 0) (hn : noneB b.es = false) (hp : ∀ x, pickT b.T pick x = endV b gr x) :
    ∃ s t, e = .returned (.tuple #[s, t, .int .i64 0]) ∧ SlI w'.heap.size w' s (lsX b gr) ∧ SlI w'.heap.size w' t (lsY b gr) := by
  unfold truthQ at h
  rw [if_neg (by omega), if_neg (by rw [hn]; simp)] at h
  obtain ⟨g1, g2, L, hL, h1, h2, rfl, r1, r2⟩ := h
  have hL' : b.lots.toNat = L := by omega
  refine ⟨_, _, rfl, .inr ⟨g1, 0, L, by rw [lsX_length, hL'], r1.lt, fun k u hu => ?_⟩, .inr ⟨g2, 0, b.total, by rw [lsY_length], r2.lt, fun k u hu => ?_⟩⟩
  · have hk : k < L := by have := (List.getElem?_eq_some_iff.1 hu).1; rw [lsX_length] at this; omega
    rw [Nat.zero_add, r1.cell hk, hp]
    simp only [lsX, List.getElem?_map] at hu
    rw [List.getElem?_range (by omega)] at hu
    simp at hu
    rw [hu]
  · have hk : k < b.total := by have := (List.getElem?_eq_some_iff.1 hu).1; rw [lsY_length] at this; omega
    rw [Nat.zero_add, r2.cell hk, hp]
    simp only [lsY, List.getElem?_map] at hu
    rw [List.getElem?_range (by omega)] at hu
    simp at hu
    rw [← hu, hL']
theorem truth_lists_none {b : BK} {pick : Int → Int → Int} {w w' : World} {e : Ending} (h : truthQ b pick w e w') (hc : checkB b = 0) (hn : noneB b.es = true) : e = .returned (.tuple #[.slice none 0 0, .slice none 0 0, .int .i64 17]) := by
  unfold truthQ at h
  rw [if_neg (by omega), if_pos hn] at h
  exact h
end Go.Proofs.YtmedkmbfggphdaaDoor
