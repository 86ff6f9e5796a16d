/- Sittings the other way round: what can be is the same, and as many tastes can be wrong. No condition. -/
import Derived.Test.YtmedkmbfggphdaaDoorCc
set_option linter.unusedSimpArgs false
set_option linter.unusedVariables false
set_option linter.constructorNameAsVariable false
namespace Go.Proofs.YtmedkmbfggphdaaDoor
open Go.RowKit

/-- A book whose sittings come the other way round. -/
def BK.rev (b : BK) : BK := ⟨b.lo, b.hi, b.lots, b.n, fun k => b.m (b.n - 1 - k), fun k => b.t (b.n - 1 - k)⟩
def sumN (f : Nat → Nat) : Nat → Nat
  | 0 => 0
  | n + 1 => sumN f n + f n
theorem sumN_congr {f g : Nat → Nat} : ∀ {n : Nat}, (∀ i, i < n → f i = g i) → sumN f n = sumN g n
  | 0, _ => rfl
  | n + 1, h => by simp only [sumN]; rw [sumN_congr (n := n) (fun i hi => h i (by omega)), h n (by omega)]
theorem sumN_front (f : Nat → Nat) : ∀ n, sumN f (n + 1) = f 0 + sumN (fun i => f (i + 1)) n
  | 0 => by simp [sumN]
  | n + 1 => by
    have := sumN_front f n
    simp only [sumN] at this ⊢
    omega
theorem sumN_rev : ∀ (n : Nat) (f : Nat → Nat), sumN (fun i => f (n - 1 - i)) n = sumN f n
  | 0, f => rfl
  | n + 1, f => by
    rw [sumN_front f n, ← sumN_rev n (fun i => f (i + 1))]
    show sumN (fun i => f (n + 1 - 1 - i)) n + f (n + 1 - 1 - n) = _
    rw [show n + 1 - 1 - n = 0 by omega, Nat.add_comm]
    congr 1
    exact sumN_congr fun i hi => by
      show f (n + 1 - 1 - i) = f (n - 1 - i + 1)
      congr 1; omega
theorem upto_sum (b : BK) : ∀ k, b.upto k = sumN b.m k
  | 0 => rfl
  | k + 1 => by simp only [BK.upto, sumN, upto_sum b k]
theorem rev_total (b : BK) : b.rev.total = b.total := by
  show b.rev.upto b.n = b.upto b.n
  rw [upto_sum, upto_sum]
  exact sumN_rev b.n b.m
theorem rev_valid {b : BK} (hv : b.Valid) : b.rev.Valid :=
  ⟨hv.lo0, hv.lohi, hv.hi50, hv.lots1, hv.lots6, hv.n4, fun k hk => hv.pos _ (by have : k < b.n := hk; omega), by rw [rev_total]; exact hv.tot,
   fun k j hk hj => hv.lot0 _ j (by have : k < b.n := hk; omega) hj, fun k j hk hj => hv.lot1 _ j (by have : k < b.n := hk; omega) hj,
   fun k j hk hj => hv.said0 _ j (by have : k < b.n := hk; omega) hj, fun k j hk hj => hv.said1 _ j (by have : k < b.n := hk; omega) hj, fun k j hk hj => hv.said2 _ j (by have : k < b.n := hk; omega) hj⟩
theorem rev_small {b : BK} (hs : b.Small) : b.rev.Small := ⟨hs.1, fun k hk => hs.2 _ (by have : k < b.n := hk; omega)⟩
theorem can_rev (b : BK) (L : Nat) (z : Nat → Int) : Can b.rev L z ↔ Can b L z := by
  constructor
  · rintro ⟨h1, h2⟩
    refine ⟨h1, fun s hs => ?_⟩
    have := h2 (b.n - 1 - s) (by show _ < b.n; omega)
    have e : b.n - 1 - (b.n - 1 - s) = s := by omega
    simp only [BK.rev, e] at this
    exact this
  · rintro ⟨h1, h2⟩
    exact ⟨h1, fun s hs => h2 (b.n - 1 - s) (by have : s < b.n := hs; omega)⟩
/-- How many of the first tastes of a sitting can be wrong. -/
def rowCnt (b : BK) (s : Nat) : Nat → Nat
  | 0 => 0
  | j + 1 => rowCnt b s j + (if noneB (b.say s j (-1000) 1000).es = true then 0 else 1)
theorem wrong_count (b : BK) (hv : b.Valid) (L : Nat) (hL : b.lots = L) : ∀ k, k ≤ b.n → (wrongTo b L (b.upto k)).length = sumN (fun s => rowCnt b s (b.m s)) k
  | 0, _ => rfl
  | k + 1, hk => by
    have ih := wrong_count b hv L hL k (by omega)
    have row : ∀ j, j ≤ b.m k → (wrongTo b L (b.upto k + j)).length = sumN (fun s => rowCnt b s (b.m s)) k + rowCnt b k j := by
      intro j
      induction j with
      | zero => intro _; exact ih
      | succ j ihj =>
        intro hj
        have := ihj (by omega)
        have e := cut_say b hv L hL k j (by omega) (by omega)
        show (wrongTo b L (b.upto k + j) ++ (if noneB (cutM L (b.upto k + j) b.es L) = true then [] else [((b.upto k + j : Nat) : Int)])).length = _
        rw [List.length_append, this, e]
        simp only [rowCnt]
        split <;> simp <;> omega
    exact row (b.m k) (Nat.le_refl _)
theorem valid_check {b : BK} (hv : b.Valid) : checkB b = 0 := by
  have h1 := hv.lo0
  have h2 := hv.lohi
  have h3 := hv.hi50
  have h4 := hv.lots1
  have h5 := hv.lots6
  have h6 := hv.n4
  have h7 := hv.tot
  unfold checkB
  have e1 : (decide (b.lo ≤ b.hi) && (wIn 0 50 b.lo && wIn 0 50 b.hi)) = true := by unfold wIn; simp; omega
  have e2 : countsB b = true := by
    unfold countsB BK.full wIn
    simp only [Bool.and_eq_true, List.all_eq_true, List.mem_range, decide_eq_true_eq, bne_iff_ne]
    exact ⟨fun k hk => by have := hv.pos k hk; omega, ⟨by omega, by omega⟩, by omega⟩
  have e3 : tastesB b = true := by
    unfold tastesB BK.rowsOk BK.rowOk tsB wIn
    simp only [Bool.and_eq_true, List.all_eq_true, List.mem_range, decide_eq_true_eq]
    intro k hk j hj
    have a1 := hv.lot0 k j hk hj
    have a2 := hv.lot1 k j hk hj
    have a3 := hv.said0 k j hk hj
    have a4 := hv.said1 k j hk hj
    have a5 := hv.said2 k j hk hj
    refine ⟨⟨?_, ?_⟩, ?_, ⟨?_, ?_⟩, ?_, ?_⟩ <;> omega
  rw [e1, e2, e3]; rfl
theorem same_none {b c : BK} (hv : b.Valid) (hvc : c.Valid) (L : Nat) (hL : b.lots = L) (hLc : c.lots = L) (h : ∀ z, Can c L z ↔ Can b L z) : noneB c.es = noneB b.es := (can_same hv hvc L hL hLc h).1
theorem rev_say (b : BK) (s j : Nat) (hs : s < b.n) (lo hi : Int) : b.rev.say s j lo hi = (b.say (b.n - 1 - s) j lo hi).rev ∨ ∀ L z, Can (b.rev.say s j lo hi) L z ↔ Can (b.say (b.n - 1 - s) j lo hi).rev L z := by
  refine .inr fun L z => ?_
  have key : ∀ s', s' < b.n → (b.rev.say s j lo hi).t s' = (b.say (b.n - 1 - s) j lo hi).rev.t s' := fun s' hs' => by
    funext i
    show (if s' = s ∧ i = j then (⟨(b.t (b.n - 1 - s') i).lot, lo, hi⟩ : TS) else b.t (b.n - 1 - s') i) = (if b.n - 1 - s' = b.n - 1 - s ∧ i = j then (⟨(b.t (b.n - 1 - s') i).lot, lo, hi⟩ : TS) else b.t (b.n - 1 - s') i)
    by_cases e : s' = s ∧ i = j
    · rw [if_pos e, if_pos ⟨by rw [e.1], e.2⟩]
    · rw [if_neg e, if_neg (fun h => e ⟨by omega, h.2⟩)]
  constructor
  · rintro ⟨h1, h2⟩
    exact ⟨h1, fun s' hs' => by have := h2 s' hs'; rw [key s' hs'] at this; exact this⟩
  · rintro ⟨h1, h2⟩
    exact ⟨h1, fun s' hs' => by have := h2 s' hs'; rw [key s' hs']; exact this⟩
theorem rev_rowCnt (b : BK) (hv : b.Valid) (L : Nat) (hL : b.lots = L) (s : Nat) (hs : s < b.n) : ∀ j, rowCnt b.rev s j = rowCnt b (b.n - 1 - s) j
  | 0 => rfl
  | j + 1 => by
    have h0 := say_valid hv (b.n - 1 - s) j (lo := -1000) (hi := 1000) (by omega) (by omega) (by omega)
    have h1 := say_valid (rev_valid hv) s j (lo := -1000) (hi := 1000) (by omega) (by omega) (by omega)
    have e : noneB (b.rev.say s j (-1000) 1000).es = noneB (b.say (b.n - 1 - s) j (-1000) 1000).es := by
      refine same_none h0 h1 L hL hL fun z => ?_
      rcases rev_say b s j hs (-1000) 1000 with h | h
      · rw [h]; exact can_rev _ L z
      · exact (h L z).trans (can_rev _ L z)
    simp only [rowCnt, e, rev_rowCnt b hv L hL s hs j]
theorem rev_wrong (b : BK) (hv : b.Valid) (L : Nat) (hL : b.lots = L) : (wrongTo b.rev L b.rev.total).length = (wrongTo b L b.total).length := by
  have h1 := wrong_count b hv L hL b.n (Nat.le_refl _)
  have h2 := wrong_count b.rev (rev_valid hv) L hL b.n (Nat.le_refl _)
  show (wrongTo b.rev L (b.rev.upto b.n)).length = (wrongTo b L (b.upto b.n)).length
  rw [h1, h2, ← sumN_rev b.n (fun s => rowCnt b s (b.m s))]
  exact sumN_congr fun s hs => rev_rowCnt b hv L hL s hs _
/-- The Spans, and whether there is a truth. -/
theorem rev_spans (b : BK) (hv : b.Valid) (L : Nat) (hL : b.lots = L) : noneB b.rev.es = noneB b.es ∧ (noneB b.es = false → ∀ i, i < L → endV b.rev false (1 + i) = endV b false (1 + i) ∧ endV b.rev true (1 + i) = endV b true (1 + i)) :=
  can_same hv (rev_valid hv) L hL hL (can_rev b L)
end Go.Proofs.YtmedkmbfggphdaaDoor
