/- Blends: parts made of numbers, and what a given blend costs beside a line, the cheapest price and the price at least. -/
import Derived.Test.YtgpfmnjianflaaaDoorR21
set_option linter.unusedSimpArgs false
set_option linter.unusedVariables false
set_option linter.constructorNameAsVariable false
namespace Go.Proofs.YtgpfmnjianflaaaDoor
open Go.RowKit

/-- The parts that Mixed makes of numbers. -/
def mixN (f : Nat → Int) (m : Nat) (k : Nat) : Int := if m = 0 then 0 else f (k % m) % 1001
def mixV (f : Nat → Int) (m n : Nat) (k : Nat) : Int := if sumI (mixN f m) n = 0 then (if k = 0 then 1 else mixN f m k) else mixN f m k
theorem mixN_in (f : Nat → Int) (m k : Nat) : 0 ≤ mixN f m k ∧ mixN f m k ≤ 1000 := by
  unfold mixN; split <;> omega
theorem mixV_in (f : Nat → Int) (m n k : Nat) : 0 ≤ mixV f m n k ∧ mixV f m n k ≤ 1000 := by
  have := mixN_in f m k
  unfold mixV; split
  · split <;> omega
  · exact this
theorem sumI_zero_all {f : Nat → Int} : ∀ {n : Nat}, (∀ i, i < n → 0 ≤ f i) → sumI f n = 0 → ∀ i, i < n → f i = 0
  | 0, _, _, i, hi => by omega
  | n + 1, h, hs, i, hi => by
    have h1 := sum_nonneg (n := n) (f := f) fun i hi => h i (by omega)
    have h2 := h n (by omega)
    simp only [sumI] at hs
    by_cases e : i = n
    · subst e; omega
    · exact sumI_zero_all (n := n) (fun i hi => h i (by omega)) (by omega) i (by omega)
theorem mixV_sum (f : Nat → Int) (m n : Nat) (hn : 0 < n) : 0 < sumI (mixV f m n) n := by
  have h0 := sum_nonneg (n := n) (f := mixV f m n) fun i _ => (mixV_in f m n i).1
  rcases Classical.em (sumI (mixV f m n) n = 0) with h | h
  · have hz := sumI_zero_all (fun i _ => (mixV_in f m n i).1) h 0 hn
    by_cases hs : sumI (mixN f m) n = 0
    · unfold mixV at hz; rw [if_pos hs, if_pos rfl] at hz; omega
    · have e : mixV f m n = mixN f m := by funext k; unfold mixV; rw [if_neg hs]
      rw [e] at h; exact absurd h hs
  · omega
theorem sumI_le {f : Nat → Int} {g : Int} : ∀ {n : Nat}, (∀ i, i < n → f i ≤ g) → sumI f n ≤ g * n
  | 0, _ => by simp [sumI]
  | n + 1, h => by
    have h1 := sumI_le (n := n) (f := f) (g := g) fun i hi => h i (by omega)
    have h2 := h n (by omega)
    simp only [sumI]
    have e : g * ((n + 1 : Nat) : Int) = g * n + g := by rw [Int.natCast_add, Int.mul_add]; simp
    omega
theorem wAll_all {lo hi : Int} {f : Nat → Int} {n : Nat} (h : ∀ k, k < n → lo ≤ f k ∧ f k ≤ hi) : wAll lo hi f n = true := by
  simp only [wAll, List.all_eq_true, List.mem_range]
  intro k hk
  unfold wIn
  rw [decide_eq_true (h k hk).1, decide_eq_true (h k hk).2]; rfl
/-- What a law's small asks of a fraction. -/
structure Sf (a b : Int) : Prop where
  b0 : 1 ≤ b
  b1 : b ≤ 10000
  a0 : 0 ≤ a
  a1 : a ≤ 1000 * b
  rd : redN a b = a ∧ redD a b = b
theorem sf_red {S A g : Int} (hA : 0 < A ∧ A ≤ 10000) (hS : 0 ≤ S ∧ S ≤ g * A) (hg : g ≤ 1000) : Sf (redN S A) (redD S A) := by
  have h1 := red_le S hA.1
  have h2 := redD_pos (a := S) hA.1
  have h3 := h1.2.1 hS.1
  refine ⟨by omega, by omega, by omega, ?_, red_red hA.1⟩
  have h4 := (red_eq (a := redN S A) (b := redD S A) (c := S) (d := A) h2 hA.1).1 (red_red hA.1)
  rcases Int.lt_or_le (1000 * redD S A) (redN S A) with h | h
  · have k1 := Int.mul_lt_mul_of_pos_right h hA.1
    have k2 : S * redD S A ≤ g * A * redD S A := Int.mul_le_mul_of_nonneg_right hS.2 (by omega)
    have k3 := Int.mul_le_mul_of_nonneg_right hg (show 0 ≤ A * redD S A from Int.mul_nonneg (by omega) (by omega))
    have e1 : g * A * redD S A = g * (A * redD S A) := by grind
    have e2 : 1000 * redD S A * A = 1000 * (A * redD S A) := by grind
    omega
  · exact h
/-- A blend: its sharpness and price, in least terms, beside its sums. -/
structure BlQ (L : LT) (f : Nat → Int) (s1 s2 p1 p2 : Int) : Prop where
  ok : partsB L f L.n = 0
  es : blendS L f L.n = (s1, s2)
  ep : blendP L f L.n = (p1, p2)
  ss : Sf s1 s2
  sp : Sf p1 p2
  low : ∀ D x y, Below L D x y → (x * s2 + y * s1) * p2 ≤ p1 * D * s2
  some : ∀ t, t * s2 ≤ s1 → ∃ i, i < L.n ∧ t ≤ L.s i
theorem blend_q {L : LT} (hL : L.Ok) (f : Nat → Int) (h : ∀ k, k < L.n → 0 ≤ f k ∧ f k ≤ 1000) (hs : 0 < sumI f L.n) : ∃ s1 s2 p1 p2, BlQ L f s1 s2 p1 p2 := by
  have hn8 := hL.n8
  have hc : partsB L f L.n = 0 := by
    unfold partsB
    have h1 := checkL_ok.2 hL
    have h2 := wAll_all h
    rw [if_neg (by simp [h1]), if_neg (by simp), if_neg (by simp [h2]), if_neg (by omega)]
  have hA2 : sumI f L.n ≤ 8000 := by
    have := sumI_le (n := L.n) (f := f) (g := 1000) fun i hi => (h i hi).2
    omega
  have hS0 : 0 ≤ sumI (fun i => f i * L.s i) L.n := sum_nonneg fun i hi => Int.mul_nonneg (h i hi).1 (hL.s0 i hi)
  have hS1 := sum_bound (w := f) (s := L.s) (g := 100) (n := L.n) (fun i hi => (h i hi).1) hL.s1
  have hP0 : 0 ≤ sumI (fun i => f i * L.p i) L.n := sum_nonneg fun i hi => Int.mul_nonneg (h i hi).1 (hL.p0 i hi)
  have hP1 := sum_bound (w := f) (s := L.p) (g := 1000) (n := L.n) (fun i hi => (h i hi).1) hL.p1
  have hline : ∀ D x y, Below L D x y → x * sumI f L.n + y * sumI (fun i => f i * L.s i) L.n ≤ sumI (fun i => f i * L.p i) L.n * D := fun D x y hb => sum_line (fun i hi => (h i hi).1) hb.2
  have hsome : ∀ t, t * sumI f L.n ≤ sumI (fun i => f i * L.s i) L.n → ∃ i, i < L.n ∧ t ≤ L.s i := fun t ht => sum_some (fun i hi => (h i hi).1) hs ht
  have es : blendS L f L.n = (redN (sumI (fun i => f i * L.s i) L.n) (sumI f L.n), redD (sumI (fun i => f i * L.s i) L.n) (sumI f L.n)) := by unfold blendS; rw [if_pos hc]
  have ep : blendP L f L.n = (redN (sumI (fun i => f i * L.p i) L.n) (sumI f L.n), redD (sumI (fun i => f i * L.p i) L.n) (sumI f L.n)) := by unfold blendP; rw [if_pos hc]
  generalize sumI (fun i => f i * L.s i) L.n = S at *
  generalize sumI (fun i => f i * L.p i) L.n = P at *
  generalize sumI f L.n = A at *
  have q1 := sf_red (S := S) (A := A) (g := 100) ⟨hs, by omega⟩ ⟨hS0, hS1⟩ (by omega)
  have q2 := sf_red (S := P) (A := A) (g := 1000) ⟨hs, by omega⟩ ⟨hP0, hP1⟩ (by omega)
  have d1 := redD_pos (a := S) hs
  have d2 := redD_pos (a := P) hs
  have r1 := (red_eq (a := redN S A) (b := redD S A) (c := S) (d := A) d1 hs).1 (red_red hs)
  have r2 := (red_eq (a := redN P A) (b := redD P A) (c := P) (d := A) d2 hs).1 (red_red hs)
  generalize redN S A = s1 at *
  generalize redD S A = s2 at *
  generalize redN P A = p1 at *
  generalize redD P A = p2 at *
  refine ⟨s1, s2, p1, p2, hc, es, ep, q1, q2, fun D x y hb => ?_, fun t ht => ?_⟩
  · have hl := hline D x y hb
    have k := Int.mul_le_mul_of_nonneg_right hl (show 0 ≤ s2 * p2 from Int.mul_nonneg (by omega) (by omega))
    have e1 : (x * A + y * S) * (s2 * p2) = (x * s2 + y * s1) * p2 * A := by
      have : (x * A + y * S) * (s2 * p2) = x * A * s2 * p2 + y * (S * s2) * p2 := by grind
      rw [this, ← r1]; grind
    have e2 : P * D * (s2 * p2) = p1 * D * s2 * A := by
      have : P * D * (s2 * p2) = (P * p2) * D * s2 := by grind
      rw [this, ← r2]; grind
    rw [e1, e2] at k
    exact Int.le_of_mul_le_mul_right k hs
  · refine hsome t ?_
    have k := Int.mul_le_mul_of_nonneg_right ht (show 0 ≤ A by omega)
    have e1 : t * s2 * A = t * A * s2 := by grind
    rw [r1, e1] at k
    exact Int.le_of_mul_le_mul_right k d1
/-- A blend that is at least so sharp costs no less than the price at least. -/
theorem least_blend {L : LT} {f : Nat → Int} {t s1 s2 p1 p2 x1 x2 : Int} (hL : L.Ok) (ht : 0 ≤ t ∧ t ≤ 100) (hq : BlQ L f s1 s2 p1 p2) (e1 : atP L t = (x1, x2)) (h : decide (s1 * 1 < t * s2) = false) : (atE L t == 0) = true ∧ Sm x1 x2 ∧ decide (p1 * x2 < x1 * p2) = false := by
  have hs := of_decide_eq_false h
  obtain ⟨k, hk, hk1⟩ := hq.some t (by omega)
  rcases least_join hL ht with ⟨_, c2, a3, a4⟩ | ⟨h, _⟩
  rotate_left
  · have := h k hk; omega
  rw [e1] at a3 a4
  simp only at a3 a4
  refine ⟨by rw [c2]; rfl, a4, decide_eq_false ?_⟩
  obtain ⟨D, x, y, hb, hy, he⟩ := a3.line
  have hl := hq.low D x y hb
  have b0 := a4.b0
  have s0 := hq.ss.b0
  have p0 := hq.sp.b0
  have k1 : y * (t * s2) ≤ y * s1 := Int.mul_le_mul_of_nonneg_left (by omega) hy
  have k2 : (x + y * t) * s2 ≤ x * s2 + y * s1 := by
    have : (x + y * t) * s2 = x * s2 + y * (t * s2) := by grind
    omega
  have k3 := Int.mul_le_mul_of_nonneg_right k2 (show 0 ≤ p2 by omega)
  have k4 : (x + y * t) * s2 * p2 ≤ p1 * D * s2 := Int.le_trans k3 hl
  have k5 := Int.mul_le_mul_of_nonneg_right k4 (show 0 ≤ x2 by omega)
  have e2 : (x + y * t) * s2 * p2 * x2 = x1 * p2 * (D * s2) := by
    have : (x + y * t) * s2 * p2 * x2 = ((x + y * t) * x2) * s2 * p2 := by grind
    rw [this, he]; grind
  have e3 : p1 * D * s2 * x2 = p1 * x2 * (D * s2) := by grind
  rw [e2, e3] at k5
  have := Int.le_of_mul_le_mul_right k5 (Int.mul_pos hb.1 (by omega))
  omega
/-- What the law of the price at least asks of two sharpnesses. -/
theorem least_facts {L : LT} (hL : L.Ok) {t u : Int} (ht : 0 ≤ t ∧ t ≤ 100) (hu : 0 ≤ u ∧ u ≤ 100) (htu : t ≤ u) {x1 x2 y1 y2 z1 z2 : Int} {i1 i2 i3 : Bool} (e1 : atP L t = (x1, x2)) (e2 : atP L u = (y1, y2)) (e3 : cheapP L t = (z1, z2)) (f1 : (atE L t == 0) = i1) (f2 : (atE L u == 0) = i2) (f3 : (cheapE L t == 0) = i3) :
    (i1 = true → Sm x1 x2) ∧ (i2 = true → i1 = true ∧ Sm y1 y2 ∧ decide (y1 * x2 < x1 * y2) = false) ∧ (i3 = true → i1 = true ∧ Sm z1 z2 ∧ decide (z1 * x2 < x1 * z2) = false) := by
  rcases least_join hL ht with ⟨⟨k, hk, hk1⟩, c1, a3, a4⟩ | ⟨hno, c1, a3⟩
  · rw [e1] at a3 a4
    simp only at a3 a4
    have hi1 : i1 = true := by rw [← f1, c1]; rfl
    refine ⟨fun _ => a4, fun h => ⟨hi1, ?_⟩, fun h => ⟨hi1, ?_⟩⟩
    · rcases least_join hL hu with ⟨_, c2, b3, b4⟩ | ⟨_, c2, _⟩
      · rw [e2] at b3 b4
        simp only at b3 b4
        have hx := a3.later htu b3.den b3.has
        exact ⟨b4, decide_eq_false (by omega)⟩
      · rw [← f2, c2] at h; exact absurd h (by decide)
    · rcases cheap_join hL ht with ⟨_, c2, b3, b4⟩ | ⟨_, c2, _⟩
      · rw [e3] at b3 b4
        simp only at b3 b4
        have hx := a3.le_cheap b3
        exact ⟨b4, decide_eq_false (by omega)⟩
      · rw [← f3, c2] at h; exact absurd h (by decide)
  · refine ⟨fun h => ?_, fun h => ?_, fun h => ?_⟩
    · rw [← f1, c1] at h; exact absurd h (by decide)
    · rw [← f2] at h
      obtain ⟨k, hk, h1⟩ := (atE_can hL hu).1 h
      have := hno k hk; omega
    · rw [← f3] at h
      obtain ⟨k, hk, h1⟩ := ((cheapE_can hL ht).1 h).2
      have := hno k hk; omega
/-- What the stage's theorem asks of a line and a blend. -/
theorem line_facts {L : LT} (hL : L.Ok) {t D x y : Int} (ht : 0 ≤ t ∧ t ≤ 100) : (lineE L (D, x, y) t = 3 ∨ lineE L (D, x, y) t = 16) ∨
    (lineE L (D, x, y) t = 0 ∧ lineB D x y = true ∧ OkB (D, x, y) ∧ Below L D x y ∧ lineP L (D, x, y) t = (redN (x + y * t) D, redD (x + y * t) D)) := by
  have hs : sharpE L t = 0 := sharpE_ok.2 ⟨hL, ht⟩
  have he : lineE L (D, x, y) t = if lineB D x y = false then 3 else if lowTo L (D, x, y) L.n = false then 16 else 0 := by unfold lineE; rw [if_neg (by simp [hs])]
  cases hb : lineB D x y
  · rw [he, hb]; exact .inl (.inl rfl)
  · rw [hb] at he
    cases hl : lowTo L (D, x, y) L.n
    · rw [he, hl]; exact .inl (.inr rfl)
    · rw [hl] at he
      have h0 : lineE L (D, x, y) t = 0 := he
      have hB : OkB (D, x, y) := by
        unfold lineB wIn at hb
        simp only [Bool.and_eq_true, decide_eq_true_eq] at hb
        exact ⟨hb.1, hb.2.1, hb.2.2.1, hb.2.2.2⟩
      exact .inr ⟨h0, rfl, hB, (lowTo_iff (b := (D, x, y)) (by have := hB.1.1; show 0 < D; have h1 : 1 ≤ D := this; omega)).1 hl, by unfold lineP; rw [if_pos h0]⟩
theorem line_cheap {L : LT} (hL : L.Ok) {t D x y c1 c2 : Int} (ht : 0 ≤ t ∧ t ≤ 100) (hb : Below L D x y) (e : cheapP L t = (c1, c2)) (h : (cheapE L t == 0) = true) : Sm c1 c2 ∧ decide (c1 * redD (x + y * t) D < redN (x + y * t) D * c2) = false := by
  rcases cheap_join hL ht with ⟨_, _, b3, b4⟩ | ⟨_, c2, _⟩
  · rw [e] at b3 b4
    simp only at b3 b4
    refine ⟨b4, decide_eq_false ?_⟩
    have k := b3.above hb
    have d := redD_pos (a := x + y * t) hb.1
    have r := (red_eq (a := redN (x + y * t) D) (b := redD (x + y * t) D) (c := x + y * t) (d := D) d hb.1).1 (red_red hb.1)
    have k1 := Int.mul_le_mul_of_nonneg_right k (show 0 ≤ redD (x + y * t) D by omega)
    have e1 : (x + y * t) * c2 * redD (x + y * t) D = redN (x + y * t) D * c2 * D := by
      have : (x + y * t) * c2 * redD (x + y * t) D = ((x + y * t) * redD (x + y * t) D) * c2 := by grind
      rw [this, ← r]; grind
    have e2 : c1 * D * redD (x + y * t) D = c1 * redD (x + y * t) D * D := by grind
    rw [e1, e2] at k1
    have := Int.le_of_mul_le_mul_right k1 hb.1
    omega
  · rw [c2] at h; exact absurd h (by decide)
theorem line_blend {L : LT} {f : Nat → Int} {t D x y s1 s2 p1 p2 : Int} (hb : Below L D x y) (hq : BlQ L f s1 s2 p1 p2) :
    decide (p1 * D * s2 < (x * s2 + y * s1) * p2) = false ∧ (decide (y < 0) = false → decide (s1 * 1 < t * s2) = false → decide (p1 * redD (x + y * t) D < redN (x + y * t) D * p2) = false) := by
  have hl := hq.low D x y hb
  refine ⟨decide_eq_false (by omega), fun hy hs => decide_eq_false ?_⟩
  have hy := of_decide_eq_false hy
  have hs := of_decide_eq_false hs
  have s0 := hq.ss.b0
  have p0 := hq.sp.b0
  have d := redD_pos (a := x + y * t) hb.1
  have r := (red_eq (a := redN (x + y * t) D) (b := redD (x + y * t) D) (c := x + y * t) (d := D) d hb.1).1 (red_red hb.1)
  have k1 : y * (t * s2) ≤ y * s1 := Int.mul_le_mul_of_nonneg_left (by omega) (by omega)
  have k2 : (x + y * t) * s2 ≤ x * s2 + y * s1 := by
    have : (x + y * t) * s2 = x * s2 + y * (t * s2) := by grind
    omega
  have k3 := Int.mul_le_mul_of_nonneg_right k2 (show 0 ≤ p2 by omega)
  have k4 : (x + y * t) * s2 * p2 ≤ p1 * D * s2 := Int.le_trans k3 hl
  have k5 := Int.mul_le_mul_of_nonneg_right k4 (show 0 ≤ redD (x + y * t) D by omega)
  generalize redN (x + y * t) D = N at *
  generalize redD (x + y * t) D = R at *
  generalize x + y * t = v at *
  have e1 : v * s2 * p2 * R = N * p2 * (D * s2) := by
    have : v * s2 * p2 * R = (v * R) * s2 * p2 := by grind
    rw [this, ← r]; grind
  have e2 : p1 * D * s2 * R = p1 * R * (D * s2) := by grind
  rw [e1, e2] at k5
  have := Int.le_of_mul_le_mul_right k5 (Int.mul_pos hb.1 (by omega))
  omega
end Go.Proofs.YtgpfmnjianflaaaDoor
