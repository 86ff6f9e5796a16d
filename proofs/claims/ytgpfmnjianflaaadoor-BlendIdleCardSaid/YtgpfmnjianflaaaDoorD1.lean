/- What the program answers is the cheapest price, the price at least: the joins. Mathematics alone, no condition. -/
import Derived.Test.YtgpfmnjianflaaaDoorM8
set_option linter.unusedSimpArgs false
set_option linter.unusedVariables false
set_option linter.constructorNameAsVariable false
namespace Go.Proofs.YtgpfmnjianflaaaDoor

theorem red_eq_of_cross {a b c d : Int} (hb : 0 < b) (hd : 0 < d) (e : a * d = c * b) : (redN a b, redD a b) = (redN c d, redD c d) := by
  obtain ⟨h1, h2⟩ := (red_eq hb hd).2 e
  rw [h1, h2]
theorem hasB_den {a b : Int} (h : 0 < b) : hasB a b = true := by
  unfold hasB
  simp
  omega
theorem chB_pos {a b c d : Int} (hb : 0 < b) (hd : 0 < d) : chB a b c d = true ↔ a * d < c * b := by
  unfold chB
  rw [hasB_den hb, hasB_den hd]
  simp
theorem cheap_join {L : LT} {t : Int} (hok : L.Ok) (ht : 0 ≤ t ∧ t ≤ 100) :
    (CanB L t ∧ cheapE L t = 0 ∧ Cheap L t (cheapP L t).1 (cheapP L t).2 ∧ Sm (cheapP L t).1 (cheapP L t).2) ∨ (¬ CanB L t ∧ cheapE L t = 19 ∧ cheapP L t = pr0) := by
  have hn := hok.n0
  have hs : sharpE L t = 0 := sharpE_ok.2 ⟨hok, ht⟩
  have e : ((t.toNat : Nat) : Int) = t := by omega
  obtain ⟨h1, h2⟩ := tar_is L (by omega) t.toNat
  have h3 := tar_has L (by omega) t.toNat
  rw [e] at h1 h2 h3
  unfold cheapE cheapP
  rw [if_pos hs, if_pos hs]
  rcases Classical.em (CanB L t) with hc | hc
  · obtain ⟨a, b, h4, h5⟩ := h1 hc
    refine .inl ⟨hc, by rw [if_pos (h3.2 hc)], ?_, ?_⟩
    · rw [h5]; exact h4.red
    · rw [h5]; exact h4.small hok
  · refine .inr ⟨hc, ?_, h2 hc⟩
    rw [if_neg (fun h => hc (h3.1 h))]
/-- The best of several prices, of which some are none. -/
theorem bestTo_min {first : Int × Int} {f : Nat → Int × Int} (h0 : first = pr0 ∨ 0 < first.2) : ∀ n, (∀ k, k < n → f k = pr0 ∨ 0 < (f k).2) →
    (bestTo first f n = first ∨ ∃ k, k < n ∧ bestTo first f n = f k) ∧ (bestTo first f n = pr0 → first = pr0 ∧ ∀ k, k < n → f k = pr0) ∧
    (bestTo first f n ≠ pr0 → 0 < (bestTo first f n).2 ∧ (first ≠ pr0 → (bestTo first f n).1 * first.2 ≤ first.1 * (bestTo first f n).2) ∧ ∀ k, k < n → f k ≠ pr0 → (bestTo first f n).1 * (f k).2 ≤ (f k).1 * (bestTo first f n).2)
  | 0, _ => ⟨.inl rfl, fun h => ⟨h, fun k hk => by omega⟩, fun h => ⟨by rcases h0 with h1 | h1; exact absurd h1 h; exact h1, fun _ => Int.le_refl _, fun k hk => by omega⟩⟩
  | n + 1, hf => by
    obtain ⟨i1, i2, i3⟩ := bestTo_min h0 (f := f) n (fun k hk => hf k (by omega))
    have hstep : bestTo first f (n + 1) = if chB (f n).1 (f n).2 (bestTo first f n).1 (bestTo first f n).2 = true then f n else bestTo first f n := rfl
    obtain ⟨B, hB⟩ : ∃ B, bestTo first f n = B := ⟨_, rfl⟩
    rw [hB] at i1 i2 i3 hstep
    have hp0 : hasB pr0.1 pr0.2 = false := by decide
    rcases hf n (by omega) with hn | hn
    · have hc : chB (f n).1 (f n).2 B.1 B.2 = false := by rw [hn]; unfold chB; rw [hp0]; rfl
      rw [if_neg (by rw [hc]; simp)] at hstep
      rw [hstep]
      refine ⟨?_, fun h => ⟨(i2 h).1, fun k hk => ?_⟩, fun h => ⟨(i3 h).1, (i3 h).2.1, fun k hk hne => ?_⟩⟩
      · rcases i1 with h | ⟨k, hk, h⟩
        · exact .inl h
        · exact .inr ⟨k, by omega, h⟩
      · rcases Nat.lt_or_ge k n with h5 | h5
        · exact (i2 h).2 k h5
        · obtain rfl : k = n := by omega
          exact hn
      · rcases Nat.lt_or_ge k n with h5 | h5
        · exact (i3 h).2.2 k h5 hne
        · obtain rfl : k = n := by omega
          exact absurd hn hne
    · have hne : f n ≠ pr0 := fun h => by rw [h] at hn; exact absurd hn (by decide)
      by_cases hBp : B = pr0
      · have hc : chB (f n).1 (f n).2 B.1 B.2 = true := by rw [hBp]; unfold chB; rw [hp0, hasB_den hn]; rfl
        rw [if_pos hc] at hstep
        rw [hstep]
        obtain ⟨j1, j2⟩ := i2 hBp
        refine ⟨.inr ⟨n, by omega, rfl⟩, fun h => absurd h hne, fun _ => ⟨hn, fun h => absurd j1 h, fun k hk h => ?_⟩⟩
        rcases Nat.lt_or_ge k n with h5 | h5
        · exact absurd (j2 k h5) h
        · obtain rfl : k = n := by omega
          exact Int.le_refl _
      · obtain ⟨j1, j2, j3⟩ := i3 hBp
        by_cases hc : chB (f n).1 (f n).2 B.1 B.2 = true
        · rw [if_pos hc] at hstep
          rw [hstep]
          have hlt := (chB_pos hn j1).1 hc
          refine ⟨.inr ⟨n, by omega, rfl⟩, fun h => absurd h hne, fun _ => ⟨hn, fun h => ?_, fun k hk h => ?_⟩⟩
          · have hd : 0 < first.2 := by rcases h0 with h1 | h1; exact absurd h1 h; exact h1
            exact cross_trans hn j1 hd (by omega) (j2 h)
          · rcases Nat.lt_or_ge k n with h5 | h5
            · have hd : 0 < (f k).2 := by rcases hf k (by omega) with h1 | h1; exact absurd h1 h; exact h1
              exact cross_trans hn j1 hd (by omega) (j3 k h5 h)
            · obtain rfl : k = n := by omega
              exact Int.le_refl _
        · rw [if_neg hc] at hstep
          rw [hstep]
          have hge : B.1 * (f n).2 ≤ (f n).1 * B.2 := by
            have : ¬ (f n).1 * B.2 < B.1 * (f n).2 := fun h => hc ((chB_pos hn j1).2 h)
            omega
          refine ⟨?_, fun h => absurd h hBp, fun _ => ⟨j1, j2, fun k hk h => ?_⟩⟩
          · rcases i1 with h | ⟨k, hk, h⟩
            · exact .inl h
            · exact .inr ⟨k, by omega, h⟩
          · rcases Nat.lt_or_ge k n with h5 | h5
            · exact j3 k h5 h
            · obtain rfl : k = n := by omega
              exact hge
theorem rest_is {L : LT} (hok : L.Ok) {t : Int} (ht : 0 ≤ t ∧ t ≤ 100) (k : Nat) :
    (t ≤ (k : Int) ∧ CanB L k ∧ ∃ a b, Cheap L k a b ∧ L.rest t k = (redN a b, redD a b)) ∨ (¬ (t ≤ (k : Int) ∧ CanB L k) ∧ L.rest t k = pr0) := by
  have hn := hok.n0
  obtain ⟨h1, h2⟩ := tar_is L (by omega) k
  unfold LT.rest fromF
  by_cases hk : k < t.toNat
  · rw [if_pos hk]; exact .inr ⟨fun h => by omega, rfl⟩
  · rw [if_neg hk]
    rcases Classical.em (CanB L k) with hc | hc
    · exact .inl ⟨by omega, hc, h1 hc⟩
    · exact .inr ⟨fun h => hc h.2, h2 hc⟩
theorem rest_den {L : LT} (hok : L.Ok) {t : Int} (ht : 0 ≤ t ∧ t ≤ 100) (k : Nat) : L.rest t k = pr0 ∨ 0 < (L.rest t k).2 := by
  rcases rest_is hok ht k with ⟨_, _, a, b, h1, h2⟩ | ⟨_, h⟩
  · right; rw [h2]; exact redD_pos h1.den
  · exact .inl h
theorem tabEq_iff (f g : Nat → Int × Int) : tabEq f g = true ↔ ∀ k, k < 101 → f k = g k := by
  unfold tabEq prEq
  simp only [List.all_eq_true, List.mem_range, Bool.and_eq_true, beq_iff_eq]
  exact ⟨fun h k hk => Prod.ext (h k hk).1 (h k hk).2, fun h k hk => by rw [h k hk]; exact ⟨rfl, rfl⟩⟩
theorem least_join {L : LT} {t : Int} (hok : L.Ok) (ht : 0 ≤ t ∧ t ≤ 100) :
    ((∃ k, k < L.n ∧ t ≤ L.s k) ∧ atE L t = 0 ∧ Least L t (atP L t).1 (atP L t).2 ∧ Sm (atP L t).1 (atP L t).2) ∨ ((∀ k, k < L.n → L.s k < t) ∧ atE L t = 19 ∧ atP L t = pr0) := by
  have hn := hok.n0
  have hs : sharpE L t = 0 := sharpE_ok.2 ⟨hok, ht⟩
  unfold atE atP
  rw [if_pos hs, if_pos hs]
  rcases Classical.em (∃ k, k < L.n ∧ t ≤ L.s k) with ⟨k, hk, hkt⟩ | hno
  · left
    have k0 := hok.s0 k hk
    have k1 := hok.s1 k hk
    have hch := corner_chain L (by omega)
    have hcan : CanB L (L.s k) := ⟨⟨k, hk, Int.le_refl _⟩, k, hk, Int.le_refl _⟩
    have ek : (((L.s k).toNat : Nat) : Int) = L.s k := by omega
    have hne : L.rest t (L.s k).toNat ≠ pr0 := by
      rcases rest_is hok ht (L.s k).toNat with ⟨_, _, a, b, h1, h2⟩ | ⟨h1, _⟩
      · rw [h2]; intro h
        have := redD_pos (a := a) h1.den
        have e2 : redD a b = 0 := congrArg Prod.snd h
        omega
      · exact absurd ⟨by omega, by rw [ek]; exact hcan⟩ h1
    have htab : ¬ tabEq (L.rest t) (fun _ => pr0) = true := fun h => hne ((tabEq_iff _ _).1 h _ (by omega))
    rw [if_neg htab, if_neg htab]
    obtain ⟨g1, g2, g3⟩ := bestTo_min (first := L.rest t 0) (f := fun k => L.rest t (k + 1)) (rest_den hok ht 0) 100 (fun k _ => rest_den hok ht (k + 1))
    obtain ⟨B, hB⟩ : ∃ B, bestTo (L.rest t 0) (fun k => L.rest t (k + 1)) 100 = B := ⟨_, rfl⟩
    rw [hB] at g1 g2 g3 ⊢
    have all0 : ∀ j, j < 101 → B = pr0 → L.rest t j = pr0 := fun j hj h => by
      obtain ⟨h1, h2⟩ := g2 h
      cases j with
      | zero => exact h1
      | succ j => exact h2 j (by omega)
    have hBn : B ≠ pr0 := fun h => hne (all0 _ (by omega) h)
    obtain ⟨d1, d2, d3⟩ := g3 hBn
    have hmin : ∀ j, j < 101 → L.rest t j ≠ pr0 → B.1 * (L.rest t j).2 ≤ (L.rest t j).1 * B.2 := fun j hj h => by
      cases j with
      | zero => exact d2 h
      | succ j => exact d3 j (by omega) h
    obtain ⟨j, hj⟩ : ∃ j, B = L.rest t j := by
      rcases g1 with h | ⟨j, _, h⟩
      · exact ⟨0, h⟩
      · exact ⟨j + 1, h⟩
    rcases rest_is hok ht j with ⟨j1, j2, a, b, j3, j4⟩ | ⟨_, h⟩
    · have hl : Least L t B.1 B.2 := by
        refine least_of_min hch j1 (a := B.1) (b := B.2) (by rw [hj, j4]; exact j3.red) (fun u c d hu hc => ?_)
        have hcu := hc.has.can
        obtain ⟨⟨i, hi, hi2⟩, m, hm, hm2⟩ := hcu
        have := hok.s1 m hm
        have eu : ((u.toNat : Nat) : Int) = u := by omega
        rcases rest_is hok ht u.toNat with ⟨_, _, a', b', u3, u4⟩ | ⟨h, _⟩
        · rw [eu] at u3
          have hx := hmin u.toNat (by omega) (by
            rw [u4]; intro h
            have := redD_pos (a := a') u3.den
            have e2 : redD a' b' = 0 := congrArg Prod.snd h
            omega)
          have hu2 := cheap_unique u3.red hc
          rw [u4] at hx
          exact cross_trans d1 (redD_pos u3.den) hc.den hx (Int.le_of_eq hu2)
        · exact absurd ⟨by omega, by rw [eu]; exact ⟨⟨i, hi, hi2⟩, m, hm, hm2⟩⟩ h
      refine ⟨⟨k, hk, hkt⟩, rfl, hl, ?_⟩
      have h5 := hl.small hok
      have h6 : redN B.1 B.2 = B.1 ∧ redD B.1 B.2 = B.2 := by rw [hj, j4]; exact red_red j3.den
      rw [h6.1, h6.2] at h5
      exact h5
    · exact absurd (hj.trans h) hBn
  · right
    have htab : tabEq (L.rest t) (fun _ => pr0) = true := (tabEq_iff _ _).2 fun k _ => by
      rcases rest_is hok ht k with ⟨h1, h2, _⟩ | ⟨_, h⟩
      · obtain ⟨_, m, hm, hm2⟩ := h2
        exact absurd ⟨m, hm, by omega⟩ hno
      · exact h
    rw [if_pos htab, if_pos htab]
    refine ⟨fun k hk => ?_, rfl, rfl⟩
    rcases Int.lt_or_le (L.s k) t with h | h
    · exact h
    · exact absurd ⟨k, hk, h⟩ hno

/-! ### The lines -/
theorem nthB_of_mem {l : List Bd} {x : Bd} (h : x ∈ l) : ∃ k, k < l.length ∧ nthB l k = x := by
  obtain ⟨k, hk, rfl⟩ := List.getElem_of_mem h
  exact ⟨k, hk, by simp [nthB, hk]⟩
theorem atV_lt {x y : Bd} {t : Int} (hx : 0 < x.1) (hy : 0 < y.1) : hgB t x y = true ↔ (y.2.1 + y.2.2 * t) * x.1 < (x.2.1 + x.2.2 * t) * y.1 := by
  unfold hgB
  rw [chB_pos (by show 0 < redD _ _; exact redD_pos hy) (by show 0 < redD _ _; exact redD_pos hx)]
  exact cross_lt hy hx
theorem bestB_max {t : Int} {first : Bd} {f : Nat → Bd} (h0 : 0 < first.1) : ∀ n, (∀ k, k < n → 0 < (f k).1) →
    0 < (bestB t first f n).1 ∧ (bestB t first f n = first ∨ ∃ k, k < n ∧ bestB t first f n = f k) ∧
    (first.2.1 + first.2.2 * t) * (bestB t first f n).1 ≤ ((bestB t first f n).2.1 + (bestB t first f n).2.2 * t) * first.1 ∧
    ∀ k, k < n → ((f k).2.1 + (f k).2.2 * t) * (bestB t first f n).1 ≤ ((bestB t first f n).2.1 + (bestB t first f n).2.2 * t) * (f k).1
  | 0, _ => ⟨h0, .inl rfl, Int.le_refl _, fun k hk => by omega⟩
  | n + 1, hf => by
    obtain ⟨i0, i1, i2, i3⟩ := bestB_max h0 (f := f) (t := t) n (fun k hk => hf k (by omega))
    have hstep : bestB t first f (n + 1) = if hgB t (f n) (bestB t first f n) = true then f n else bestB t first f n := rfl
    obtain ⟨B, hB⟩ : ∃ B, bestB t first f n = B := ⟨_, rfl⟩
    rw [hB] at i0 i1 i2 i3 hstep
    have hn := hf n (by omega)
    by_cases hc : hgB t (f n) B = true
    · rw [if_pos hc] at hstep
      rw [hstep]
      have hlt := (atV_lt hn i0).1 hc
      refine ⟨hn, .inr ⟨n, by omega, rfl⟩, cross_trans h0 i0 hn i2 (by omega), fun k hk => ?_⟩
      rcases Nat.lt_or_ge k n with h5 | h5
      · exact cross_trans (hf k (by omega)) i0 hn (i3 k h5) (by omega)
      · obtain rfl : k = n := by omega
        exact Int.le_refl _
    · rw [if_neg hc] at hstep
      rw [hstep]
      have hge : ¬ _ := fun h => hc ((atV_lt hn i0).2 h)
      refine ⟨i0, ?_, i2, fun k hk => ?_⟩
      · rcases i1 with h | ⟨k, hk, h⟩
        · exact .inl h
        · exact .inr ⟨k, by omega, h⟩
      · rcases Nat.lt_or_ge k n with h5 | h5
        · exact i3 k h5
        · obtain rfl : k = n := by omega
          omega
theorem proof_spec {L : LT} (hok : L.Ok) {t ls a b : Int} (hls : ls ≤ 0) (hb : 0 < b)
    (hle : ∀ x, x ∈ keptB L (linesTo L L.corners ls L.corners.length) → (x.2.1 + x.2.2 * t) * b ≤ a * x.1)
    (hex : ∃ x, x ∈ keptB L (linesTo L L.corners ls L.corners.length) ∧ (x.2.1 + x.2.2 * t) * b = a * x.1) :
    OkB (proofB L t ls) ∧ lowTo L (proofB L t ls) L.n = true ∧ ls ≤ (proofB L t ls).2.2 ∧ ((proofB L t ls).2.1 + (proofB L t ls).2.2 * t) * b = a * (proofB L t ls).1 := by
  have hn := hok.n0
  have hch := corner_chain L (by omega)
  have hpos := corners_pos L (by omega)
  have hlen := kept_pos hpos hch hls
  obtain ⟨l, hl⟩ : ∃ l, keptB L (linesTo L L.corners ls L.corners.length) = l := ⟨_, rfl⟩
  have hmem : ∀ x, x ∈ l → OkB x ∧ lowTo L x L.n = true ∧ ls ≤ x.2.2 := fun x hx => by
    rw [← hl] at hx
    unfold keptB at hx
    rw [List.mem_filter] at hx
    refine ⟨lines_ok hok hch hx.1, hx.2, ?_⟩
    obtain ⟨j, _, h, _⟩ := linesTo_mem.1 hx.1
    exact h
  have hpf : proofB L t ls = bestB t (nthB l 0) (fun k => nthB l (k + 1)) (l.length - 1) := by unfold proofB; rw [hl]
  rw [hl] at hle hex hlen
  obtain ⟨g0, g1, g2, g3⟩ := bestB_max (t := t) (first := nthB l 0) (f := fun k => nthB l (k + 1)) (by have := (hmem _ (nthB_mem hlen)).1.1; omega) (l.length - 1) (fun k hk => by have := (hmem _ (nthB_mem (show k + 1 < l.length by omega))).1.1; omega)
  rw [← hpf] at g0 g1 g2 g3
  have hin : proofB L t ls ∈ l := by
    rcases g1 with h | ⟨k, hk, h⟩
    · rw [h]; exact nthB_mem hlen
    · rw [h]; exact nthB_mem (by omega)
  obtain ⟨m1, m2, m3⟩ := hmem _ hin
  refine ⟨m1, m2, m3, ?_⟩
  have h1 := hle _ hin
  obtain ⟨x, hx, hxe⟩ := hex
  have hxp : 0 < x.1 := by have := (hmem x hx).1.1; omega
  have hbest : (x.2.1 + x.2.2 * t) * (proofB L t ls).1 ≤ ((proofB L t ls).2.1 + (proofB L t ls).2.2 * t) * x.1 := by
    obtain ⟨k, hk, rfl⟩ := nthB_of_mem hx
    cases k with
    | zero => exact g2
    | succ k => exact g3 k (by omega)
  have h2 := cross_trans hb hxp g0 (show a * x.1 ≤ (x.2.1 + x.2.2 * t) * b by omega) hbest
  omega
theorem lineE_of {L : LT} {b : Bd} {t x y : Int} (hs : sharpE L t = 0) (h1 : OkB b) (h2 : lowTo L b L.n = true) (hy : 0 < y) (h3 : (b.2.1 + b.2.2 * t) * y = x * b.1) (hr : redN x y = x ∧ redD x y = y) : lineE L b t = 0 ∧ lineP L b t = (x, y) := by
  have hE : lineE L b t = 0 := by
    unfold lineE
    rw [if_neg (by rw [hs]; simp), if_neg (by rw [(lineB_ok (d := b.1) (x := b.2.1) (y := b.2.2)).2 h1]; simp), if_neg (by rw [h2]; simp)]
  refine ⟨hE, ?_⟩
  unfold lineP
  rw [if_pos hE, red_eq_of_cross (by have := h1.1; omega) hy h3, hr.1, hr.2]
theorem thr_edge {L : LT} {l r : Nat} (h : L.s l < L.s r) : thr L l r = (L.s r - L.s l, L.p l * (L.s r - L.s l) - (L.p r - L.p l) * L.s l, L.p r - L.p l) := by
  unfold thr thX thD
  rw [if_pos h]
theorem thr_level {L : LT} {l : Nat} : thr L l l = (1, L.p l, 0) := by
  unfold thr thX thD
  rw [if_neg (by omega)]
  simp
theorem kept_iff {L : LT} {l : List Bd} {x : Bd} (hx : x ∈ l) (hp : 0 < x.1) (hb : Below L x.1 x.2.1 x.2.2) : x ∈ keptB L l := by
  unfold keptB
  rw [List.mem_filter]
  exact ⟨hx, (lowTo_iff hp).2 hb⟩
theorem kept_below {L : LT} (hok : L.Ok) {ls : Int} {x : Bd} (h : x ∈ keptB L (linesTo L L.corners ls L.corners.length)) : Below L x.1 x.2.1 x.2.2 ∧ ls ≤ x.2.2 := by
  have hn := hok.n0
  have hch := corner_chain L (by omega)
  unfold keptB at h
  rw [List.mem_filter] at h
  have h1 := lines_ok hok hch h.1
  obtain ⟨j, _, h2, _⟩ := linesTo_mem.1 h.1
  exact ⟨(lowTo_iff (by have := h1.1; omega)).1 h.2, h2⟩
theorem line_join {L : LT} {t : Int} (h : cheapE L t = 0) : OkB (lineOf L t) ∧ lowTo L (lineOf L t) L.n = true ∧ lineE L (lineOf L t) t = 0 ∧ lineP L (lineOf L t) t = cheapP L t := by
  obtain ⟨hok, ht⟩ := cheapE_ok h
  have hn := hok.n0
  have hch := corner_chain L (by omega)
  have hpos := corners_pos L (by omega)
  rcases cheap_join hok ht with ⟨hcan, _, hc, hsm⟩ | ⟨_, h', _⟩
  rotate_left
  · rw [h] at h'; exact absurd h' (by decide)
  have hb := hc.den
  have hmemE : ∀ j, j < L.corners.length - 1 → L.s (nthN L.corners j) ≤ t → t ≤ L.s (nthN L.corners (j + 1)) → ∃ x, x ∈ keptB L (linesTo L L.corners (-1048576) L.corners.length) ∧ (x.2.1 + x.2.2 * t) * (cheapP L t).2 = (cheapP L t).1 * x.1 := fun j hj h1 h2 => by
    have hi := hch.inc j hj
    have hec := edge_cheap hch hj h1 h2
    have heb := edge_below hch hj
    have m0 := hch.mem j (by omega)
    have m1 := hch.mem (j + 1) (by omega)
    refine ⟨thr L (nthN L.corners j) (nthN L.corners (j + 1)), kept_iff (linesTo_mem.2 ⟨j + 1, by omega, ?_, .inl rfl⟩) ?_ ?_, ?_⟩
    · rw [thr_edge hi]
      have := hok.p0 _ m1
      have := hok.p1 _ m0
      show _ ≤ _ - _
      omega
    · rw [thr_edge hi]; show 0 < _ - _; omega
    · rw [thr_edge hi]; exact heb
    · rw [thr_edge hi]
      exact cheap_unique hec hc
  have hex : ∃ x, x ∈ keptB L (linesTo L L.corners (-1048576) L.corners.length) ∧ (x.2.1 + x.2.2 * t) * (cheapP L t).2 = (cheapP L t).1 * x.1 := by
    have hbt := hc.has.between hch
    by_cases hr : L.corners.length - 1 = 0
    · have e0 : t = L.s (nthN L.corners 0) := by rw [hr] at hbt; omega
      refine ⟨thr L (nthN L.corners 0) (nthN L.corners 0), kept_iff (linesTo_mem.2 ⟨0, by omega, by rw [thr_level]; show _ ≤ (0 : Int); omega, .inr rfl⟩) (by rw [thr_level]; exact Int.zero_lt_one) ?_, ?_⟩
      · rw [thr_level]
        rw [hr] at hch
        exact corner_level hch
      · rw [thr_level]
        have h3 := corner_cheap hch (Nat.zero_le _)
        rw [← e0] at h3
        have h4 := cheap_unique h3 hc
        show (L.p _ + 0 * t) * _ = _ * 1
        rw [Int.zero_mul, Int.add_zero]
        exact h4
    · rcases hch.find hbt.1 hbt.2 with e | ⟨j, hj, h1, h2⟩
      · have := hch.inc 0 (by omega)
        exact hmemE 0 (by omega) (by omega) (by rw [e]; show _ ≤ L.s (nthN L.corners (0 + 1)); omega)
      · exact hmemE j hj (by omega) h2
  obtain ⟨g1, g2, _, g4⟩ := proof_spec hok (t := t) (ls := -1048576) (by omega) hb (fun x hx => by
    have hbl := (kept_below hok hx).1
    exact hc.above hbl) hex
  unfold lineOf
  rw [if_pos h]
  exact ⟨g1, g2, lineE_of (sharpE_ok.2 ⟨hok, ht⟩) g1 g2 hb g4 hsm.rd⟩
theorem floor_join {L : LT} {t : Int} (h : atE L t = 0) : OkB (floorOf L t) ∧ lowTo L (floorOf L t) L.n = true ∧ 0 ≤ (floorOf L t).2.2 ∧ lineE L (floorOf L t) t = 0 ∧ lineP L (floorOf L t) t = atP L t := by
  obtain ⟨hok, ht⟩ := atE_ok h
  have hn := hok.n0
  have hch := corner_chain L (by omega)
  have hpos := corners_pos L (by omega)
  rcases least_join hok ht with ⟨⟨k, hk, hkt⟩, _, hc, hsm⟩ | ⟨_, h', _⟩
  rotate_left
  · rw [h] at h'; exact absurd h' (by decide)
  have hb := hc.den
  have htr : t ≤ L.s (nthN L.corners (L.corners.length - 1)) := by have := hch.hi k hk; omega
  have hex : ∃ x, x ∈ keptB L (linesTo L L.corners 0 L.corners.length) ∧ (x.2.1 + x.2.2 * t) * (atP L t).2 = (atP L t).1 * x.1 := by
    rcases hch.least htr with ⟨j, hj, _, h2, h3⟩ | ⟨j, hj, _, _, h4, h5⟩
    · refine ⟨thr L (nthN L.corners j) (nthN L.corners j), kept_iff (linesTo_mem.2 ⟨j, by omega, by rw [thr_level]; show _ ≤ (0 : Int); omega, .inr rfl⟩) (by rw [thr_level]; exact Int.zero_lt_one) ?_, ?_⟩
      · rw [thr_level]; exact h2
      · rw [thr_level]
        have h6 := least_unique h3 hc
        show (L.p _ + 0 * t) * _ = _ * 1
        rw [Int.zero_mul, Int.add_zero]
        exact h6
    · have hi := hch.inc j hj
      have heb := edge_below hch hj
      refine ⟨thr L (nthN L.corners j) (nthN L.corners (j + 1)), kept_iff (linesTo_mem.2 ⟨j + 1, by omega, ?_, .inl rfl⟩) ?_ ?_, ?_⟩
      · rw [thr_edge hi]; exact h4
      · rw [thr_edge hi]; show 0 < _ - _; omega
      · rw [thr_edge hi]; exact heb
      · rw [thr_edge hi]
        exact least_unique h5 hc
  obtain ⟨g1, g2, g3, g4⟩ := proof_spec hok (t := t) (ls := 0) (by omega) hb (fun x hx => by
    obtain ⟨hbl, hy⟩ := kept_below hok hx
    exact hc.above hbl hy) hex
  unfold floorOf
  rw [if_pos h]
  have h9 := lineE_of (sharpE_ok.2 ⟨hok, ht⟩) g1 g2 hb g4 hsm.rd
  exact ⟨g1, g2, g3, h9.1, h9.2⟩
end Go.Proofs.YtgpfmnjianflaaaDoor
