/- The shares that the program answers cost the cheapest price. Mathematics alone, no condition. -/
import Derived.Test.YtgpfmnjianflaaaDoorD1
set_option linter.unusedSimpArgs false
set_option linter.unusedVariables false
set_option linter.constructorNameAsVariable false
namespace Go.Proofs.YtgpfmnjianflaaaDoor

theorem sumI_zero {f : Nat → Int} : ∀ n, (∀ m, m < n → f m = 0) → sumI f n = 0
  | 0, _ => rfl
  | n + 1, h => by
    have := sumI_zero n (fun m hm => h m (by omega))
    have e : sumI f (n + 1) = sumI f n + f n := rfl
    rw [e, this, h n (by omega)]; rfl
theorem sumI_one {f : Nat → Int} {i : Nat} : ∀ n, i < n → (∀ m, m < n → m ≠ i → f m = 0) → sumI f n = f i
  | 0, h, _ => by omega
  | n + 1, h, hz => by
    have e : sumI f (n + 1) = sumI f n + f n := rfl
    rw [e]
    by_cases hi : i = n
    · subst hi
      rw [sumI_zero i (fun m hm => hz m (by omega) (by omega))]; omega
    · rw [sumI_one n (by omega) (fun m hm h => hz m (by omega) h), hz n (by omega) (by omega)]; omega
theorem sumI_two {f : Nat → Int} {i k : Nat} (hik : i ≠ k) : ∀ n, i < n → k < n → (∀ m, m < n → m ≠ i → m ≠ k → f m = 0) → sumI f n = f i + f k
  | 0, h, _, _ => by omega
  | n + 1, hi, hk, hz => by
    have e : sumI f (n + 1) = sumI f n + f n := rfl
    rw [e]
    by_cases h1 : i = n
    · subst h1
      rw [sumI_one (i := k) i (by omega) (fun m hm h => hz m (by omega) (by omega) h)]; omega
    · by_cases h2 : k = n
      · subst h2
        rw [sumI_one (i := i) k (by omega) (fun m hm h => hz m (by omega) h (by omega))]
      · rw [sumI_two hik n (by omega) (by omega) (fun m hm h h' => hz m (by omega) h h'), hz n (by omega) (by omega) (by omega)]; omega
theorem setI_same (f : Nat → Int) (k : Nat) (x : Int) : setI f k x k = x := by simp [setI]
theorem setI_other {f : Nat → Int} {k j : Nat} (x : Int) (h : j ≠ k) : setI f k x j = f j := by simp [setI, h]
theorem setI_twice (f : Nat → Int) (k : Nat) (x y : Int) : setI (setI f k x) k y = setI f k y := by
  funext j; unfold setI; split <;> rfl
theorem partsTo_is (L : LT) (C : List Nat) (r : Nat) (h : Chain L (nthN C) r) (t : Int) : ∀ i, i ≤ r →
    (t < L.s (nthN C 0) → partsTo L C t (i + 1) = fun _ => 0) ∧ (L.s (nthN C i) ≤ t → partsTo L C t (i + 1) = setI (fun _ => 0) (nthN C i) 1) ∧
    ∀ j, j < i → L.s (nthN C j) ≤ t → t < L.s (nthN C (j + 1)) → partsTo L C t (i + 1) = setI (setI (fun _ => 0) (nthN C j) (L.s (nthN C (j + 1)) - t)) (nthN C (j + 1)) (t - L.s (nthN C j))
  | 0, _ => by
    have e : partsTo L C t (0 + 1) = if L.s (nthN C 0) ≤ t then setI (fun _ => 0) (nthN C 0) 1 else if L.s (nthN C (0 - 1)) ≤ t then setI (setI (partsTo L C t 0) (nthN C (0 - 1)) (L.s (nthN C 0) - t)) (nthN C 0) (t - L.s (nthN C (0 - 1))) else partsTo L C t 0 := rfl
    refine ⟨fun h0 => ?_, fun h0 => ?_, fun j hj => by omega⟩
    · rw [e, if_neg (by omega), if_neg (by show ¬ L.s (nthN C 0) ≤ t; omega)]; rfl
    · rw [e, if_pos h0]
  | i + 1, hi => by
    have e : partsTo L C t (i + 1 + 1) = if L.s (nthN C (i + 1)) ≤ t then setI (fun _ => 0) (nthN C (i + 1)) 1 else if L.s (nthN C i) ≤ t then setI (setI (partsTo L C t (i + 1)) (nthN C i) (L.s (nthN C (i + 1)) - t)) (nthN C (i + 1)) (t - L.s (nthN C i)) else partsTo L C t (i + 1) := rfl
    obtain ⟨i1, i2, i3⟩ := partsTo_is L C r h t i (by omega)
    refine ⟨fun h0 => ?_, fun h0 => ?_, fun j hj h1 h2 => ?_⟩
    · have m1 := h.mono (Nat.zero_le (i + 1)) hi
      have m2 := h.mono (Nat.zero_le i) (by omega)
      rw [e, if_neg (by omega), if_neg (by omega), i1 h0]
    · rw [e, if_pos h0]
    · have m1 := h.mono (show j + 1 ≤ i + 1 by omega) hi
      rw [e, if_neg (by omega)]
      by_cases hji : j = i
      · subst hji
        rw [if_pos h1, i2 h1, setI_twice]
      · have m2 := h.mono (show j + 1 ≤ i by omega) (by omega)
        rw [if_neg (by omega), i3 j (by omega) h1 h2]
theorem parts_join {L : LT} {t : Int} (h : cheapE L t = 0) : (∀ k, 0 ≤ L.parts t k ∧ L.parts t k ≤ 100) ∧ partsB L (L.parts t) L.n = 0 ∧ blendS L (L.parts t) L.n = (t, 1) ∧ blendP L (L.parts t) L.n = cheapP L t ∧
    ∃ i k, i < L.n ∧ k < L.n ∧ ∀ m, m ≠ i → m ≠ k → L.parts t m = 0 := by
  obtain ⟨hok, ht⟩ := cheapE_ok h
  have hn := hok.n0
  have hch := corner_chain L (by omega)
  have hpos := corners_pos L (by omega)
  rcases cheap_join hok ht with ⟨hcan, _, hc, hsm⟩ | ⟨_, h', _⟩
  rotate_left
  · rw [h] at h'; exact absurd h' (by decide)
  have hbt := hc.has.between hch
  have hb := hc.den
  have fin : ∀ f : Nat → Int, (∀ k, 0 ≤ f k ∧ f k ≤ 100) → 0 < sumI f L.n → sumI (fun i => f i * L.s i) L.n = t * sumI f L.n → sumI (fun i => f i * L.p i) L.n * (cheapP L t).2 = (cheapP L t).1 * sumI f L.n →
      partsB L f L.n = 0 ∧ blendS L f L.n = (t, 1) ∧ blendP L f L.n = cheapP L t := fun f h1 h2 h3 h4 => by
    have hB : partsB L f L.n = 0 := by
      unfold partsB
      rw [if_neg (by rw [checkL_ok.2 hok]; simp), if_neg (by simp)]
      have hw : wAll 0 1000 f L.n = true := by
        unfold wAll wIn
        rw [List.all_eq_true]
        intro k _
        have := h1 k
        simp only [Bool.and_eq_true, decide_eq_true_eq]
        omega
      rw [if_neg (by rw [hw]; simp), if_neg (by omega)]
    refine ⟨hB, ?_, ?_⟩
    · unfold blendS
      rw [if_pos hB, red_eq_of_cross h2 (show (0 : Int) < 1 by decide) (show sumI (fun i => f i * L.s i) L.n * 1 = t * sumI f L.n by rw [Int.mul_one]; exact h3), (red_one t).1, (red_one t).2]
    · unfold blendP
      rw [if_pos hB, red_eq_of_cross h2 hb h4, hsm.rd.1, hsm.rd.2]
  obtain ⟨C, hC⟩ : ∃ C, L.corners = C := ⟨_, rfl⟩
  have e1 : C.length - 1 + 1 = C.length := by rw [← hC]; omega
  unfold LT.parts
  rw [hC] at hch hbt ⊢
  have hpi := partsTo_is L C (C.length - 1) hch t (C.length - 1) (Nat.le_refl _)
  rw [e1] at hpi
  obtain ⟨-, p2, p3⟩ := hpi
  rcases Int.lt_or_le t (L.s (nthN C (C.length - 1))) with hlt | hge
  · -- between two corners
    obtain ⟨j, hj, h1, h2⟩ : ∃ j, j < C.length - 1 ∧ L.s (nthN C j) ≤ t ∧ t < L.s (nthN C (j + 1)) := by
      have key : ∀ m, m ≤ C.length - 1 → t < L.s (nthN C m) → ∃ j, j < m ∧ L.s (nthN C j) ≤ t ∧ t < L.s (nthN C (j + 1)) := fun m => by
        induction m with
        | zero => intro _ h; omega
        | succ m ih =>
          intro hm h
          rcases Int.lt_or_le t (L.s (nthN C m)) with h5 | h5
          · obtain ⟨j, a, b, c⟩ := ih (by omega) h5
            exact ⟨j, by omega, b, c⟩
          · exact ⟨m, by omega, h5, h⟩
      obtain ⟨j, a, b, c⟩ := key _ (Nat.le_refl _) hlt
      exact ⟨j, a, b, c⟩
    have hi := hch.inc j hj
    have m0 := hch.mem j (by omega)
    have m1 := hch.mem (j + 1) (by omega)
    have hec := edge_cheap hch hj h1 (by omega)
    have hne : nthN C j ≠ nthN C (j + 1) := fun h => by rw [← h] at hi; omega
    rw [p3 j hj h1 h2]
    obtain ⟨a, ha⟩ : ∃ a, nthN C j = a := ⟨_, rfl⟩
    obtain ⟨b, hbb⟩ : ∃ b, nthN C (j + 1) = b := ⟨_, rfl⟩
    simp only [ha, hbb] at hi m0 m1 hec hne h1 h2 ⊢
    obtain ⟨f, hf⟩ : ∃ f, setI (setI (fun _ => 0) a (L.s b - t)) b (t - L.s a) = f := ⟨_, rfl⟩
    have fa : f a = L.s b - t := by rw [← hf, setI_other _ hne, setI_same]
    have fb : f b = t - L.s a := by rw [← hf, setI_same]
    have fo : ∀ m, m ≠ a → m ≠ b → f m = 0 := fun m h5 h6 => by rw [← hf, setI_other _ h6, setI_other _ h5]
    rw [hf]
    have s1 := hok.s0 a m0
    have s2 := hok.s1 b m1
    have hs0 := sumI_two (f := f) hne L.n m0 m1 (fun m _ h5 h6 => fo m h5 h6)
    have hs1 := sumI_two (f := fun i => f i * L.s i) hne L.n m0 m1 (fun m _ h5 h6 => by show f m * _ = 0; rw [fo m h5 h6, Int.zero_mul])
    have hs2 := sumI_two (f := fun i => f i * L.p i) hne L.n m0 m1 (fun m _ h5 h6 => by show f m * _ = 0; rw [fo m h5 h6, Int.zero_mul])
    rw [fa, fb] at hs0
    have hr : ∀ k, 0 ≤ f k ∧ f k ≤ 100 := fun k => by
      by_cases h5 : k = a
      · rw [h5, fa]; omega
      · by_cases h6 : k = b
        · rw [h6, fb]; omega
        · rw [fo k h5 h6]; omega
    have hq := fin f hr (by omega) (by rw [hs1, hs0]; show f a * _ + f b * _ = _; rw [fa, fb]; grind) (by
      rw [hs2, hs0]
      show (f a * _ + f b * _) * _ = _
      rw [fa, fb]
      have := cheap_unique hec hc
      have e : (L.s b - t) * L.p a + (t - L.s a) * L.p b = L.p a * (L.s b - L.s a) - (L.p b - L.p a) * L.s a + (L.p b - L.p a) * t := by grind
      have e2 : L.s b - t + (t - L.s a) = L.s b - L.s a := by omega
      rw [e, e2]; exact this)
    exact ⟨hr, hq.1, hq.2.1, hq.2.2, a, b, m0, m1, fo⟩
  · have ht0 : t = L.s (nthN C (C.length - 1)) := by omega
    have m0 := hch.mem (C.length - 1) (Nat.le_refl _)
    have hcc := corner_cheap hch (Nat.le_refl (C.length - 1))
    rw [← ht0] at hcc
    rw [p2 hge]
    obtain ⟨a, ha⟩ : ∃ a, nthN C (C.length - 1) = a := ⟨_, rfl⟩
    rw [ha] at ht0 m0 hcc ⊢
    obtain ⟨f, hf⟩ : ∃ f, setI (fun _ => 0) a 1 = f := ⟨_, rfl⟩
    have fa : f a = 1 := by rw [← hf, setI_same]
    have fo : ∀ m, m ≠ a → f m = 0 := fun m h5 => by rw [← hf, setI_other _ h5]
    rw [hf]
    have hs0 := sumI_one (f := f) L.n m0 (fun m _ h5 => fo m h5)
    have hs1 := sumI_one (f := fun i => f i * L.s i) L.n m0 (fun m _ h5 => by show f m * _ = 0; rw [fo m h5, Int.zero_mul])
    have hs2 := sumI_one (f := fun i => f i * L.p i) L.n m0 (fun m _ h5 => by show f m * _ = 0; rw [fo m h5, Int.zero_mul])
    rw [fa] at hs0
    have hr : ∀ k, 0 ≤ f k ∧ f k ≤ 100 := fun k => by
      by_cases h5 : k = a
      · rw [h5, fa]; omega
      · rw [fo k h5]; omega
    have hq := fin f hr (by omega) (by rw [hs1, hs0]; show f a * _ = _; rw [fa, ht0]; omega) (by
      rw [hs2, hs0]
      show f a * _ * _ = _
      rw [fa, Int.one_mul]
      have := cheap_unique hcc hc
      omega)
    exact ⟨hr, hq.1, hq.2.1, hq.2.2, a, a, m0, m0, fun m h5 _ => fo m h5⟩
end Go.Proofs.YtgpfmnjianflaaaDoor
