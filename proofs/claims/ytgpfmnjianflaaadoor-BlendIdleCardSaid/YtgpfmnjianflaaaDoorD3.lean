/- What the reference goes through is the cheapest price, the price at least, and the corners. Mathematics alone, no condition. -/
import Derived.Test.YtgpfmnjianflaaaDoorD2
set_option linter.unusedSimpArgs false
set_option linter.unusedVariables false
set_option linter.constructorNameAsVariable false
namespace Go.Proofs.YtgpfmnjianflaaaDoor

/-- What a pair costs, in least terms. -/
def LT.pairX (L : LT) (t : Int) (i k : Nat) : Int × Int := (redN (L.pN i k t) (L.pD i k), redD (L.pN i k t) (L.pD i k))
def LT.canB (L : LT) (t : Int) (i k : Nat) : Bool := decide (L.s i ≤ t) && decide (t ≤ L.s k)
def LT.stepX (L : LT) (t : Int) (i k : Nat) (b : Int × Int) : Int × Int :=
  if L.canB t i k = true then (if chB (L.pairX t i k).1 (L.pairX t i k).2 b.1 b.2 = true then L.pairX t i k else b) else b
def LT.rowX (L : LT) (t : Int) (i : Nat) (b : Int × Int) : Nat → Int × Int
  | 0 => b
  | k + 1 => L.stepX t i k (L.rowX t i b k)
def LT.refTo (L : LT) (t : Int) : Nat → Int × Int
  | 0 => pr0
  | i + 1 => L.rowX t i (L.refTo t i) L.n
def LT.refC (L : LT) (t : Int) : Int × Int := L.refTo t L.n
/-- What has been found of the pairs of P. -/
def PI (L : LT) (t : Int) (P : Nat → Nat → Prop) (b : Int × Int) : Prop :=
  (b = pr0 ∧ ∀ i k, P i k → ¬(L.s i ≤ t ∧ t ≤ L.s k)) ∨
  (0 < b.2 ∧ (redN b.1 b.2 = b.1 ∧ redD b.1 b.2 = b.2) ∧ (∃ i k, i < L.n ∧ k < L.n ∧ L.s i ≤ t ∧ t ≤ L.s k ∧ b = L.pairX t i k) ∧ ∀ i k, P i k → L.s i ≤ t → t ≤ L.s k → b.1 * L.pD i k ≤ L.pN i k t * b.2)
theorem pairX_pos (L : LT) (t : Int) (i k : Nat) : 0 < (L.pairX t i k).2 := redD_pos (pD_pos L i k)
theorem pairX_red (L : LT) (t : Int) (i k : Nat) : redN (L.pairX t i k).1 (L.pairX t i k).2 = (L.pairX t i k).1 ∧ redD (L.pairX t i k).1 (L.pairX t i k).2 = (L.pairX t i k).2 := red_red (pD_pos L i k)
theorem pairX_eq (L : LT) (t : Int) (i k : Nat) : (L.pairX t i k).1 * L.pD i k = L.pN i k t * (L.pairX t i k).2 := by
  have h := pD_pos L i k
  exact (cross_eq (a := (L.pairX t i k).1) (b := (L.pairX t i k).2) (pairX_pos L t i k) h).1 (by rw [(pairX_red L t i k).1, (pairX_red L t i k).2]; rfl)
theorem pairX_ne (L : LT) (t : Int) (i k : Nat) : L.pairX t i k ≠ pr0 := fun h => by
  have := pairX_pos L t i k
  rw [h] at this
  exact absurd this (by decide)
theorem chB_none (a b : Int) (hb : 0 < b) : chB a b 0 0 = true := by
  unfold chB
  rw [hasB_den hb]
  rfl
theorem PI.step {L : LT} {t : Int} {P : Nat → Nat → Prop} {b : Int × Int} (h : PI L t P b) {i k : Nat} (hi : i < L.n) (hk : k < L.n) : PI L t (fun x y => P x y ∨ (x = i ∧ y = k)) (L.stepX t i k b) := by
  unfold LT.stepX
  by_cases hc : L.canB t i k = true
  · rw [if_pos hc]
    have hcc : L.s i ≤ t ∧ t ≤ L.s k := by unfold LT.canB at hc; simpa using hc
    have hx := pairX_pos L t i k
    have hxe := pairX_eq L t i k
    by_cases hch : chB (L.pairX t i k).1 (L.pairX t i k).2 b.1 b.2 = true
    · rw [if_pos hch]
      refine .inr ⟨hx, pairX_red L t i k, ⟨i, k, hi, hk, hcc.1, hcc.2, rfl⟩, fun x y hP h1 h2 => ?_⟩
      rcases hP with hP | ⟨rfl, rfl⟩
      · rcases h with ⟨_, h3⟩ | ⟨h3, _, _, h4⟩
        · exact absurd ⟨h1, h2⟩ (h3 x y hP)
        · have hlt := (chB_pos hx h3).1 hch
          exact cross_trans hx h3 (pD_pos L x y) (by omega) (h4 x y hP h1 h2)
      · exact Int.le_of_eq hxe
    · rw [if_neg hch]
      rcases h with ⟨rfl, h3⟩ | ⟨h3, h5, h6, h4⟩
      · exact absurd (chB_none _ _ hx) hch
      · refine .inr ⟨h3, h5, h6, fun x y hP h1 h2 => ?_⟩
        rcases hP with hP | ⟨rfl, rfl⟩
        · exact h4 x y hP h1 h2
        · have hge : b.1 * (L.pairX t x y).2 ≤ (L.pairX t x y).1 * b.2 := by
            have : ¬ (L.pairX t x y).1 * b.2 < b.1 * (L.pairX t x y).2 := fun hh => hch ((chB_pos hx h3).2 hh)
            omega
          exact cross_trans h3 hx (pD_pos L x y) hge (Int.le_of_eq hxe)
  · rw [if_neg hc]
    have hcc : ¬(L.s i ≤ t ∧ t ≤ L.s k) := fun hh => hc (by unfold LT.canB; simpa using hh)
    rcases h with ⟨h2, h3⟩ | ⟨h3, h5, h6, h4⟩
    · refine .inl ⟨h2, fun x y hP => ?_⟩
      rcases hP with hP | ⟨rfl, rfl⟩
      · exact h3 x y hP
      · exact hcc
    · refine .inr ⟨h3, h5, h6, fun x y hP h1 h2 => ?_⟩
      rcases hP with hP | ⟨rfl, rfl⟩
      · exact h4 x y hP h1 h2
      · exact absurd ⟨h1, h2⟩ hcc
theorem PI.weak {L : LT} {t : Int} {P P' : Nat → Nat → Prop} {b : Int × Int} (h : PI L t P b) (hp : ∀ i k, P' i k → P i k) : PI L t P' b := by
  rcases h with ⟨h1, h2⟩ | ⟨h1, h2, h3, h4⟩
  · exact .inl ⟨h1, fun i k hP => h2 i k (hp i k hP)⟩
  · exact .inr ⟨h1, h2, h3, fun i k hP => h4 i k (hp i k hP)⟩
theorem PI.row {L : LT} {t : Int} {i : Nat} {b : Int × Int} (hi : i < L.n) (h : PI L t (fun x y => x < i ∧ y < L.n) b) : ∀ k, k ≤ L.n → PI L t (fun x y => (x < i ∧ y < L.n) ∨ (x = i ∧ y < k)) (L.rowX t i b k)
  | 0, _ => h.weak fun x y hp => by rcases hp with hp | hp; exact hp; omega
  | k + 1, hk => (PI.step (PI.row hi h k (by omega)) hi (show k < L.n by omega)).weak fun x y hp => by
      rcases hp with hp | ⟨h1, h2⟩
      · exact .inl (.inl hp)
      · by_cases e : y = k
        · exact .inr ⟨h1, e⟩
        · exact .inl (.inr ⟨h1, by omega⟩)
theorem PI.all {L : LT} {t : Int} : ∀ i, i ≤ L.n → PI L t (fun x y => x < i ∧ y < L.n) (L.refTo t i)
  | 0, _ => .inl ⟨rfl, fun i k h => by omega⟩
  | i + 1, hi => (PI.row (show i < L.n by omega) (PI.all i (by omega)) L.n (Nat.le_refl _)).weak fun x y hp => by
      by_cases e : x = i
      · exact .inr ⟨e, hp.2⟩
      · exact .inl ⟨by omega, hp.2⟩
theorem refC_is (L : LT) (t : Int) : (L.refC t = pr0 ∧ ¬ CanB L t) ∨ (CanB L t ∧ PMin L t (L.refC t).1 (L.refC t).2 ∧ (redN (L.refC t).1 (L.refC t).2 = (L.refC t).1 ∧ redD (L.refC t).1 (L.refC t).2 = (L.refC t).2) ∧ ∃ i k, i < L.n ∧ k < L.n ∧ L.s i ≤ t ∧ t ≤ L.s k ∧ L.refC t = L.pairX t i k) := by
  rcases PI.all (L := L) (t := t) L.n (Nat.le_refl _) with ⟨h1, h2⟩ | ⟨h1, h2, ⟨i, k, hi, hk, e1, e2, e3⟩, h4⟩
  · exact .inl ⟨h1, fun ⟨⟨i, hi, a⟩, k, hk, b⟩ => h2 i k ⟨hi, hk⟩ ⟨a, b⟩⟩
  · refine .inr ⟨⟨⟨i, hi, e1⟩, k, hk, e2⟩, ⟨h1, ⟨i, k, hi, hk, e1, e2, ?_⟩, fun i k hi hk => h4 i k ⟨hi, hk⟩⟩, h2, i, k, hi, hk, e1, e2, e3⟩
    show (L.refTo t L.n).1 * _ = _ * (L.refTo t L.n).2
    rw [e3]
    exact pairX_eq L t i k
/-- The reference's cheapest price is the program's. -/
theorem refC_cheap {L : LT} {t : Int} (hok : L.Ok) (ht : 0 ≤ t ∧ t ≤ 100) : L.refC t = cheapP L t := by
  rcases refC_is L t with ⟨h1, h2⟩ | ⟨h1, h2, h3, i, k, hi, hk, e1, e2, e3⟩
  · rcases cheap_join hok ht with ⟨h3, _⟩ | ⟨_, _, h4⟩
    · exact absurd h3 h2
    · rw [h1, h4]
  · rcases cheap_join hok ht with ⟨_, _, h4, h5⟩ | ⟨h4, _⟩
    · have e := h4.pmin h2
      have := red_eq_of_cross h2.den h4.den (show (L.refC t).1 * (cheapP L t).2 = (cheapP L t).1 * (L.refC t).2 by omega)
      rw [h3.1, h3.2, h5.rd.1, h5.rd.2] at this
      exact this
    · exact absurd h1 h4
theorem refC_small {L : LT} (hL : ∀ i, i < L.n → (0 ≤ L.s i ∧ L.s i ≤ 100) ∧ 0 ≤ L.p i ∧ L.p i ≤ 1000) (t : Int) : (0 ≤ (L.refC t).1 ∧ (L.refC t).1 ≤ 100000) ∧ 0 ≤ (L.refC t).2 ∧ (L.refC t).2 ≤ 100 := by
  rcases refC_is L t with ⟨h1, h2⟩ | ⟨h1, h2, h3, i, k, hi, hk, e1, e2, e3⟩
  · rw [h1]; decide
  · rw [e3]
    have hp := pD_pos L i k
    have a1 := hL i hi
    have a2 := hL k hk
    have r := red_le (L.pN i k t) hp
    have hpN : 0 ≤ L.pN i k t ∧ L.pN i k t ≤ 100000 ∧ L.pD i k ≤ 100 := by
      unfold LT.pN LT.pD
      split
      · have b1 := Int.mul_nonneg a1.2.1 (show 0 ≤ L.s k - t by omega)
        have b2 := Int.mul_nonneg a2.2.1 (show 0 ≤ t - L.s i by omega)
        have b3 := Int.mul_le_mul_of_nonneg_right a1.2.2 (show 0 ≤ L.s k - t by omega)
        have b4 := Int.mul_le_mul_of_nonneg_right a2.2.2 (show 0 ≤ t - L.s i by omega)
        omega
      · omega
    have := redD_pos (a := L.pN i k t) hp
    have := r.2.1 hpN.1
    show (0 ≤ redN _ _ ∧ redN _ _ ≤ _) ∧ 0 ≤ redD _ _ ∧ redD _ _ ≤ _
    omega
/-- The reference's price at least. -/
def LT.refL (L : LT) (t : Int) : Nat → Int × Int
  | 0 => L.refC t
  | i + 1 => if (decide (t ≤ L.s i) && chB (redN (L.p i) 1) (redD (L.p i) 1) (L.refL t i).1 (L.refL t i).2) = true then (redN (L.p i) 1, redD (L.p i) 1) else L.refL t i
theorem refL_is {L : LT} {t : Int} (hok : L.Ok) (ht : 0 ≤ t ∧ t ≤ 100) : ∀ i, i ≤ L.n →
    (L.refL t i = pr0 ∧ ¬ CanB L t ∧ ∀ k, k < i → L.s k < t) ∨
    (Sm (L.refL t i).1 (L.refL t i).2 ∧ (Has L t (L.refL t i).1 (L.refL t i).2 ∨ ∃ k, k < L.n ∧ t ≤ L.s k ∧ (L.refL t i).1 = L.p k * (L.refL t i).2) ∧
      (∀ c d, 0 < d → Has L t c d → (L.refL t i).1 * d ≤ c * (L.refL t i).2) ∧ ∀ k, k < i → t ≤ L.s k → (L.refL t i).1 ≤ L.p k * (L.refL t i).2)
  | 0, _ => by
    show (L.refC t = pr0 ∧ _) ∨ (Sm (L.refC t).1 (L.refC t).2 ∧ (Has L t (L.refC t).1 (L.refC t).2 ∨ _) ∧ (∀ c d, 0 < d → Has L t c d → (L.refC t).1 * d ≤ c * (L.refC t).2) ∧ _)
    rw [refC_cheap hok ht]
    rcases cheap_join hok ht with ⟨_, _, h4, h5⟩ | ⟨h4, _, h6⟩
    · exact .inr ⟨h5, .inl h4.has, fun c d hd hh => h4.le hd hh, fun k hk => by omega⟩
    · exact .inl ⟨h6, h4, fun k hk => by omega⟩
  | i + 1, hi => by
    have hstep : L.refL t (i + 1) = if (decide (t ≤ L.s i) && chB (redN (L.p i) 1) (redD (L.p i) 1) (L.refL t i).1 (L.refL t i).2) = true then (redN (L.p i) 1, redD (L.p i) 1) else L.refL t i := rfl
    rw [(red_one (L.p i)).1, (red_one (L.p i)).2] at hstep
    have ih := refL_is hok ht i (by omega)
    obtain ⟨b, hb⟩ : ∃ b, L.refL t i = b := ⟨_, rfl⟩
    rw [hb] at ih hstep
    have p0 := hok.p0 i (by omega)
    have p1 := hok.p1 i (by omega)
    have hsm : Sm (L.p i) 1 := ⟨by omega, by omega, p0, by omega, red_one _⟩
    by_cases hc : (decide (t ≤ L.s i) && chB (L.p i) 1 b.1 b.2) = true
    · rw [if_pos hc] at hstep
      rw [hstep]
      simp only [Bool.and_eq_true, decide_eq_true_eq] at hc
      refine .inr ⟨hsm, .inr ⟨i, by omega, hc.1, by omega⟩, ?_, ?_⟩
      · rcases ih with ⟨_, h2, _⟩ | ⟨h1, _, h3, _⟩
        · exact fun c d hd hh => absurd hh.can h2
        · intro c d hd hh
          have hb0 := h1.b0
          have hlt := (chB_pos (show (0 : Int) < 1 by decide) (by omega)).1 hc.2
          exact cross_trans Int.zero_lt_one (by omega) hd (Int.le_of_lt hlt) (h3 c d hd hh)
      · intro k hk hkt
        show L.p i ≤ L.p k * 1
        rcases Nat.lt_or_ge k i with h5 | h5
        · rcases ih with ⟨_, _, h2⟩ | ⟨h1, _, _, h4⟩
          · have := h2 k h5; omega
          · have hb0 := h1.b0
            have hlt := (chB_pos (show (0 : Int) < 1 by decide) (by omega)).1 hc.2
            have := cross_trans (f := 1) (e := L.p k) Int.zero_lt_one (show 0 < b.2 by omega) Int.zero_lt_one (Int.le_of_lt hlt) (by have := h4 k h5 hkt; omega)
            omega
        · obtain rfl : k = i := by omega
          omega
    · rw [if_neg hc] at hstep
      rw [hstep]
      rcases ih with ⟨h1, h2, h3⟩ | ⟨h1, h2, h3, h4⟩
      · refine .inl ⟨h1, h2, fun k hk => ?_⟩
        rcases Nat.lt_or_ge k i with h5 | h5
        · exact h3 k h5
        · obtain rfl : k = i := by omega
          rcases Int.lt_or_le (L.s k) t with h6 | h6
          · exact h6
          · refine absurd ?_ hc
            rw [h1]
            simp only [Bool.and_eq_true, decide_eq_true_eq]
            exact ⟨h6, chB_none _ _ Int.zero_lt_one⟩
      · refine .inr ⟨h1, h2, h3, fun k hk hkt => ?_⟩
        rcases Nat.lt_or_ge k i with h5 | h5
        · exact h4 k h5 hkt
        · obtain rfl : k = i := by omega
          have hb0 := h1.b0
          have : ¬ L.p k * b.2 < b.1 * 1 := fun hh => hc (by
            simp only [Bool.and_eq_true, decide_eq_true_eq]
            exact ⟨hkt, (chB_pos Int.zero_lt_one (by omega)).2 hh⟩)
          omega
theorem refL_least {L : LT} {t : Int} (hok : L.Ok) (ht : 0 ≤ t ∧ t ≤ 100) : L.refL t L.n = atP L t := by
  rcases refL_is hok ht L.n (Nat.le_refl _) with ⟨h1, h2, h3⟩ | ⟨h1, h2, h3, h4⟩
  · rcases least_join hok ht with ⟨⟨k, hk, hkt⟩, _⟩ | ⟨_, _, h6⟩
    · have := h3 k hk; omega
    · rw [h1, h6]
  · rcases least_join hok ht with ⟨_, _, h6, h7⟩ | ⟨h5, _, _⟩
    · have hb0 := h1.b0
      have e1 := h6.le (c := (L.refL t L.n).1) (d := (L.refL t L.n).2) (by omega) h2
      have e2 : (L.refL t L.n).1 * (atP L t).2 ≤ (atP L t).1 * (L.refL t L.n).2 := by
        rcases h6.has with h8 | ⟨k, hk, hkt, h9⟩
        · exact h3 _ _ h6.den h8
        · have h10 := h4 k hk hkt
          rw [h9]
          have := Int.mul_le_mul_of_nonneg_right h10 (Int.le_of_lt h6.den)
          have e : L.p k * (L.refL t L.n).2 * (atP L t).2 = L.p k * (atP L t).2 * (L.refL t L.n).2 := by grind
          omega
      obtain ⟨g1, g2⟩ := h1.same h7 (by omega)
      exact Prod.ext g1 g2
    · rcases h2 with h8 | ⟨k, hk, hkt, _⟩
      · obtain ⟨_, k, hk, hkt⟩ := h8.can
        have := h5 k hk; omega
      · have := h5 k hk; omega

/-! ### Corners -/
/-- The lots that are not like one, as the reference lists them. -/
def LT.othL (L : LT) (s p : Int) (n : Nat) : List Nat := (List.range n).filter fun j => !((L.s j == s) && (L.p j == p))
def LT.sel (L : LT) (l : List Nat) : LT := ⟨l.length, fun j => L.s (nthN l j), fun j => L.p (nthN l j)⟩
def LT.oth (L : LT) (s p : Int) : LT := L.sel (L.othL s p L.n)
theorem othL_mem {L : LT} {s p : Int} {n j : Nat} : j ∈ L.othL s p n ↔ j < n ∧ ¬(L.s j = s ∧ L.p j = p) := by
  unfold LT.othL
  rw [List.mem_filter, List.mem_range]
  simp
  intro _
  exact ⟨fun h e1 e2 => by rcases h with h | h; exact h e1; exact h e2, fun h => by by_cases e : L.s j = s; exact .inr (h e); exact .inl e⟩
theorem nthN_of_mem {l : List Nat} {x : Nat} (h : x ∈ l) : ∃ k, k < l.length ∧ nthN l k = x := by
  obtain ⟨k, hk, rfl⟩ := List.getElem_of_mem h
  exact ⟨k, hk, by simp [nthN, hk]⟩
theorem oth_is (L : LT) (s p : Int) : Others L s p (L.oth s p) := by
  refine ⟨fun j hj => ?_, fun i hi h => ?_⟩
  · have hm := othL_mem.1 (nthN_mem (show j < (L.othL s p L.n).length from hj))
    exact ⟨nthN (L.othL s p L.n) j, hm.1, rfl, rfl, hm.2⟩
  · obtain ⟨k, hk, e⟩ := nthN_of_mem (othL_mem.2 ⟨hi, h⟩)
    exact ⟨k, hk, by show L.s (nthN _ k) = _; rw [e], by show L.p (nthN _ k) = _; rw [e]⟩
theorem Others.subs {L M N : LT} {s p : Int} (h : Others L s p M) (h' : Others L s p N) : Sub M N := fun j hj => by
  obtain ⟨i, hi, e1, e2, hn⟩ := h.sub j hj
  obtain ⟨k, hk, f1, f2⟩ := h'.all i hi (by rw [e1, e2]; exact hn)
  exact ⟨k, hk, by omega, by omega⟩
def LT.dupB (L : LT) (i k : Nat) : Bool := (L.s k == L.s i) && (L.p k == L.p i)
def LT.dupTo (L : LT) (i n : Nat) : Bool := (List.range n).any fun k => L.dupB i k
/-- A lot is a corner, as the reference reckons. -/
def LT.cornB (L : LT) (i : Nat) : Bool :=
  if L.dupTo i i = true then false
  else prEq (L.refC (L.s i)) (redN (L.p i) 1, redD (L.p i) 1) && (!(hasB ((L.oth (L.s i) (L.p i)).refC (L.s i)).1 ((L.oth (L.s i) (L.p i)).refC (L.s i)).2) || decide ((L.refC (L.s i)).1 * ((L.oth (L.s i) (L.p i)).refC (L.s i)).2 < ((L.oth (L.s i) (L.p i)).refC (L.s i)).1 * (L.refC (L.s i)).2))
theorem dupTo_iff {L : LT} {i n : Nat} : L.dupTo i n = true ↔ ∃ k, k < n ∧ L.s k = L.s i ∧ L.p k = L.p i := by
  unfold LT.dupTo LT.dupB
  simp only [List.any_eq_true, List.mem_range, Bool.and_eq_true, beq_iff_eq]
theorem PMin.le {L : LT} {t a b c d : Int} (h : PMin L t a b) (hd : 0 < d) (hh : Has L t c d) : a * d ≤ c * b := by
  obtain ⟨i, k, hi, hk, h1, h2, h3⟩ := hh
  exact cross_trans h.den (pD_pos L i k) hd (h.min i k hi hk h1 h2) (by omega)
theorem cornB_iff {L : LT} {i : Nat} (hi : i < L.n) : L.cornB i = true ↔ IsC L i := by
  unfold LT.cornB
  have hc0 : CanB L (L.s i) := ⟨⟨i, hi, Int.le_refl _⟩, i, hi, Int.le_refl _⟩
  rcases refC_is L (L.s i) with ⟨_, h⟩ | ⟨_, hm, hr, _⟩
  · exact absurd hc0 h
  obtain ⟨a, ha⟩ : ∃ a, L.refC (L.s i) = a := ⟨_, rfl⟩
  rw [ha] at hm hr ⊢
  have ho := oth_is L (L.s i) (L.p i)
  have hor := refC_is (L.oth (L.s i) (L.p i)) (L.s i)
  obtain ⟨c, hcc⟩ : ∃ c, (L.oth (L.s i) (L.p i)).refC (L.s i) = c := ⟨_, rfl⟩
  rw [hcc] at hor ⊢
  rw [(red_one (L.p i)).1, (red_one (L.p i)).2]
  have hpr : prEq a (L.p i, 1) = true ↔ a.1 = L.p i * a.2 := by
    unfold prEq
    simp only [Bool.and_eq_true, beq_iff_eq]
    constructor
    · rintro ⟨h1, h2⟩; rw [h2]; omega
    · intro h
      have := red_eq_of_cross hm.den (show (0 : Int) < 1 by decide) (show a.1 * 1 = L.p i * a.2 by omega)
      rw [hr.1, hr.2, (red_one _).1, (red_one _).2] at this
      have e := Prod.mk.inj this
      exact e
  constructor
  · intro h
    split at h
    · cases h
    · rename_i hd
      rw [Bool.and_eq_true, hpr] at h
      obtain ⟨h1, h2⟩ := h
      refine ⟨fun k hk he => hd (dupTo_iff.2 ⟨k, hk, he⟩), fun x y hxy => ?_, fun M hM x y hxy => ?_⟩
      · have e1 := hm.le hxy.den hxy.has
        have e2 := hxy.le hm.den hm.has
        have e3 : a.1 * y = x * a.2 := by omega
        rw [h1] at e3
        exact Int.eq_of_mul_eq_mul_right (show a.2 ≠ 0 by have := hm.den; omega) (by grind)
      · rcases hor with ⟨_, h3⟩ | ⟨_, h3, _, _⟩
        · exact absurd (hxy.has.sub (hM.subs ho)).can h3
        · rw [hasB_den h3.den] at h2
          simp only [Bool.not_true, Bool.false_or, decide_eq_true_eq] at h2
          have h4 := h3.le hxy.den (hxy.has.sub (hM.subs ho))
          have hy := hxy.den
          have hc2 := h3.den
          have ha2 := hm.den
          rw [h1] at h2
          have h5 : L.p i * c.2 < c.1 := by
            refine Int.lt_of_mul_lt_mul_right (a := a.2) ?_ (by omega)
            have e : L.p i * c.2 * a.2 = L.p i * a.2 * c.2 := by grind
            omega
          refine Int.lt_of_mul_lt_mul_right (a := c.2) ?_ (by omega)
          have h6 := Int.mul_lt_mul_of_pos_right h5 hy
          have e : L.p i * y * c.2 = L.p i * c.2 * y := by grind
          omega
  · rintro ⟨h1, h2, h3⟩
    rw [if_neg (fun hd => by obtain ⟨k, hk, he⟩ := dupTo_iff.1 hd; exact h1 k hk he), Bool.and_eq_true, hpr]
    have h4 := h2 _ _ hm
    refine ⟨h4, ?_⟩
    rcases hor with ⟨h5, _⟩ | ⟨_, h5, _, _⟩
    · rw [h5]; simp [hasB]
    · rw [hasB_den h5.den]
      simp only [Bool.not_true, Bool.false_or, decide_eq_true_eq]
      have h6 := h3 _ ho _ _ h5
      rw [h4]
      have h7 := Int.mul_lt_mul_of_pos_right h6 hm.den
      have e : L.p i * a.2 * c.2 = L.p i * c.2 * a.2 := by grind
      omega
theorem ref_corners {L : LT} (hok : L.Ok) : L.below L.cornB 101 = L.corners :=
  below_corners L (by have := hok.n0; omega) (fun i hi => ⟨hok.s0 i hi, hok.s1 i hi⟩) L.cornB (fun i _ => ⟨_, oth_is L _ _⟩) (fun i hi => cornB_iff hi)
end Go.Proofs.YtgpfmnjianflaaaDoor
