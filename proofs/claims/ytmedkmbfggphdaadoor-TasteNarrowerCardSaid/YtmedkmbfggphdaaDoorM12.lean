/- Truths of a book are numbers that keep its net. No condition. The reference: CheckBook. -/
import Derived.Test.YtmedkmbfggphdaaDoorM11
import Derived.Test.YtmedkmbfggphdaaDoorM09
import Derived.Test.YtmedkmbfggphdaaDoorM08
set_option linter.unusedSimpArgs false
set_option linter.unusedVariables false
set_option linter.constructorNameAsVariable false
namespace Go.Proofs.YtmedkmbfggphdaaDoor

theorem BK.keep_iff (b : BK) (x : Nat → Int) : Keep b.es x ↔ ∀ i, i < b.rgN → (b.rg i).lo ≤ x (b.rg i).t.toNat - x (b.rg i).f.toNat ∧ x (b.rg i).t.toNat - x (b.rg i).f.toNat ≤ (b.rg i).hi := by
  constructor
  · intro h i hi
    have hm : ∀ j, j < b.bnN → x (b.bn j).t.toNat - x (b.bn j).f.toNat ≤ (b.bn j).by' := fun j hj => h ⟨(b.bn j).f, (b.bn j).t, (b.bn j).by', j⟩ (by
      simp only [BK.es, BK.netM, List.mem_map, List.mem_range]
      exact ⟨j, hj, rfl⟩)
    have h1 := hm (2 * i) (by unfold BK.bnN; omega)
    have h2 := hm (2 * i + 1) (by unfold BK.bnN; omega)
    rw [b.bn_even] at h1
    rw [b.bn_odd] at h2
    simp only at h1 h2
    omega
  · intro h e he
    simp only [BK.es, BK.netM, List.mem_map, List.mem_range] at he
    obtain ⟨j, hj, rfl⟩ := he
    unfold BK.bnN at hj
    have := h (j / 2) (by omega)
    show x (b.bn j).t.toNat - x (b.bn j).f.toNat ≤ (b.bn j).by'
    unfold BK.bn
    simp only
    split <;> simp only <;> omega

/-- The same by lots and tastes. -/
structure Truth (b : BK) (L : Nat) (x : Nat → Int) : Prop where
  lot : ∀ i, i < L → 0 ≤ x (1 + i) - x 0 ∧ x (1 + i) - x 0 ≤ 1000
  one : ∀ q, q < b.total → (b.at' q).1 = true → x (1 + L + q) = x 0
  nxt : ∀ q, q < b.total → (b.at' q).1 = false → b.lo ≤ x (1 + L + q) - x (L + q) ∧ x (1 + L + q) - x (L + q) ≤ b.hi
  say : ∀ q, q < b.total → (b.at' q).2.lo ≤ x (1 + (b.at' q).2.lot.toNat) - x (1 + L + q) ∧ x (1 + (b.at' q).2.lot.toNat) - x (1 + L + q) ≤ (b.at' q).2.hi
theorem BK.truth_iff (b : BK) (hv : b.Valid) (L : Nat) (hL : b.lots = L) (x : Nat → Int) : Keep b.es x ↔ Truth b L x := by
  rw [b.keep_iff]
  have hN := b.rgN_eq L hL
  constructor
  · intro h
    refine ⟨fun i hi => ?_, fun q hq hf => ?_, fun q hq hf => ?_, fun q hq => ?_⟩
    · have := h i (by omega)
      rw [b.rg_lot L i hL hi] at this
      simp only at this
      rw [show (1 + (i : Int)).toNat = 1 + i by omega] at this
      simpa using this
    · have := h (L + 2 * q) (by omega)
      rw [b.rg_a L q hL, if_pos hf] at this
      simp only at this
      rw [show (1 + (L : Int) + q).toNat = 1 + L + q by omega] at this
      simp only [Int.toNat_zero] at this
      omega
    · have := h (L + 2 * q) (by omega)
      rw [b.rg_a L q hL, hf] at this
      simp only [Bool.false_eq_true, if_false] at this
      rw [show (1 + (L : Int) + q).toNat = 1 + L + q by omega, show ((L : Int) + q).toNat = L + q by omega] at this
      exact this
    · have := h (L + 2 * q + 1) (by omega)
      rw [b.rg_b L q hL] at this
      simp only at this
      have h0 := (b.at_ok hv q).lot0
      rw [show (1 + (L : Int) + q).toNat = 1 + L + q by omega, show (1 + (b.at' q).2.lot).toNat = 1 + (b.at' q).2.lot.toNat by omega] at this
      exact this
  · intro h i hi
    rcases b.pairs L hL i hi with hk | ⟨q, hq, rfl⟩ | ⟨q, hq, rfl⟩
    · rw [b.rg_lot L i hL hk]
      simp only
      rw [show (1 + (i : Int)).toNat = 1 + i by omega]
      simpa using h.lot i hk
    · rw [b.rg_a L q hL]
      cases hf : (b.at' q).1 with
      | true =>
        simp only [if_true]
        rw [show (1 + (L : Int) + q).toNat = 1 + L + q by omega]
        simp only [Int.toNat_zero]
        have := h.one q hq hf
        omega
      | false =>
        simp only [Bool.false_eq_true, if_false]
        rw [show (1 + (L : Int) + q).toNat = 1 + L + q by omega, show ((L : Int) + q).toNat = L + q by omega]
        exact h.nxt q hq hf
    · rw [b.rg_b L q hL]
      simp only
      have h0 := (b.at_ok hv q).lot0
      rw [show (1 + (L : Int) + q).toNat = 1 + L + q by omega, show (1 + (b.at' q).2.lot).toNat = 1 + (b.at' q).2.lot.toNat by omega]
      exact h.say q hq
/-- How tired a tongue is. -/
theorem Truth.tired {b : BK} {L : Nat} {x : Nat → Int} (h : Truth b L x) (hv : b.Valid) : ∀ q, q < b.total → 0 ≤ x (1 + L + q) - x 0 ∧ x (1 + L + q) - x 0 ≤ 50 * q
  | 0, hq => by have := h.one 0 hq (b.fst_zero hv hq); omega
  | q + 1, hq => by
    cases hf : (b.at' (q + 1)).1 with
    | true => have := h.one (q + 1) hq hf; omega
    | false =>
      have h1 := h.nxt (q + 1) hq hf
      have h2 := Truth.tired h hv q (by omega)
      have h3 := hv.lo0
      have h4 := hv.hi50
      rw [show L + (q + 1) = 1 + L + q by omega] at h1
      omega

/-! What the tightest bounds know. -/
theorem Tight.edge {es : List ME} {T : Nat → Bd} (h : Tight es T) {a c v : Int} (hb : boundO es a c = some v) : (T (ix a.toNat c.toNat)).known = true ∧ (T (ix a.toNat c.toNat)).by' ≤ v := by
  rw [boundO_find] at hb
  obtain ⟨e, he, rfl⟩ := Option.map_eq_some_iff.1 hb
  have h2 := List.find?_some he
  simp only [ME.is, Bool.and_eq_true, beq_iff_eq] at h2
  have := h.net e (List.mem_of_find?_eq_some he)
  rw [← h2.1, ← h2.2] at this
  exact this
theorem Tight.path {es : List ME} {T : Nat → Bd} (h : Tight es T) {i a c : Nat} {u v : Int} (hi : i < 19) (ha : a < 19) (hc : c < 19) (h1 : (T (ix a i)).known = true ∧ (T (ix a i)).by' ≤ u) (h2 : (T (ix i c)).known = true ∧ (T (ix i c)).by' ≤ v) :
    (T (ix a c)).known = true ∧ (T (ix a c)).by' ≤ u + v := by
  have hn : ((T (ix a i)).next (T (ix i c))).known = true := Bd.next_known.2 ⟨h1.1, h2.1⟩
  have := h.tri i a c hi ha hc hn
  rw [Bd.next_by hn] at this
  exact ⟨this.1, by have := this.2; omega⟩

theorem BK.tight (b : BK) (hv : b.Valid) (hn : noneB b.es = false) : Tight b.es b.T := tight_of (b.netM_good hv) (b.loose hv) hn
/-- All names of a book are bound to 0, and from it. -/
theorem BK.zero (b : BK) (hv : b.Valid) (L : Nat) (hL : b.lots = L) (hn : noneB b.es = false) (k : Nat) (hk : k < 1 + L + b.total) : (b.T (ix 0 k)).known = true ∧ (b.T (ix k 0)).known = true := by
  have ht := b.tight hv hn
  have h6 := hv.lots6
  have h12 := hv.tot
  have hlot : ∀ i, i < L → (b.T (ix 0 (1 + i))).known = true ∧ (b.T (ix (1 + i) 0)).known = true := by
    intro i hi
    have hN := b.rgN_eq L hL
    have h1 := ht.edge (a := 0) (c := ((1 + i : Nat) : Int)) (v := 1000) ((b.bound_iff hv _ _ _).2 ⟨2 * i, by unfold BK.bnN; omega, by rw [b.bn_even, b.rg_lot L i hL hi], by rw [b.bn_even, b.rg_lot L i hL hi]; simp, by rw [b.bn_even, b.rg_lot L i hL hi]⟩)
    have h2 := ht.edge (a := ((1 + i : Nat) : Int)) (c := 0) (v := -0) ((b.bound_iff hv _ _ _).2 ⟨2 * i + 1, by unfold BK.bnN; omega, by rw [b.bn_odd, b.rg_lot L i hL hi]; simp, by rw [b.bn_odd, b.rg_lot L i hL hi], by rw [b.bn_odd, b.rg_lot L i hL hi]⟩)
    exact ⟨h1.1, h2.1⟩
  by_cases h0 : k = 0
  · subst h0; exact ⟨(ht.d0 0 (by omega)).1, (ht.d0 0 (by omega)).1⟩
  by_cases h1 : k < 1 + L
  · have := hlot (k - 1) (by omega)
    rwa [show 1 + (k - 1) = k by omega] at this
  · obtain ⟨q, hq, rfl⟩ : ∃ q, q < b.total ∧ k = 1 + L + q := ⟨k - 1 - L, by omega, by omega⟩
    have hok := b.at_ok hv q
    have l0 := hok.lot0
    have l1 := hok.lot1
    have hN := b.rgN_eq L hL
    have hl := hlot (b.at' q).2.lot.toNat (by omega)
    have e1 := ht.edge (a := ((1 + L + q : Nat) : Int)) (c := ((1 + (b.at' q).2.lot.toNat : Nat) : Int)) (v := (b.at' q).2.hi) ((b.bound_iff hv _ _ _).2 ⟨2 * (L + 2 * q + 1), by unfold BK.bnN; omega, by rw [b.bn_even, b.rg_b L q hL]; simp, by rw [b.bn_even, b.rg_b L q hL]; simp; omega, by rw [b.bn_even, b.rg_b L q hL]⟩)
    have e2 := ht.edge (a := ((1 + (b.at' q).2.lot.toNat : Nat) : Int)) (c := ((1 + L + q : Nat) : Int)) (v := -(b.at' q).2.lo) ((b.bound_iff hv _ _ _).2 ⟨2 * (L + 2 * q + 1) + 1, by unfold BK.bnN; omega, by rw [b.bn_odd, b.rg_b L q hL]; simp; omega, by rw [b.bn_odd, b.rg_b L q hL]; simp, by rw [b.bn_odd, b.rg_b L q hL]⟩)
    simp only [Int.toNat_natCast] at e1 e2
    exact ⟨(ht.path (i := 1 + (b.at' q).2.lot.toNat) (by omega) (by omega) (by omega) ⟨hl.1, Int.le_refl _⟩ e2).1, (ht.path (i := 1 + (b.at' q).2.lot.toNat) (by omega) (by omega) (by omega) e1 ⟨hl.2, Int.le_refl _⟩).1⟩
theorem BK.es_lt (b : BK) (hv : b.Valid) (L : Nat) (hL : b.lots = L) : ∀ e ∈ b.es, e.f.toNat < 1 + L + b.total ∧ e.t.toNat < 1 + L + b.total := by
  intro e he
  simp only [BK.es, BK.netM, List.mem_map, List.mem_range] at he
  obtain ⟨i, hi, rfl⟩ := he
  have := b.bn_lt hv i hi
  simp only; omega
/-- The greatest truth, and the least one. -/
theorem BK.great_truth (b : BK) (hv : b.Valid) (L : Nat) (hL : b.lots = L) (hn : noneB b.es = false) : Keep b.es (fun k => (b.T (ix 0 k)).by') :=
  (b.tight hv hn).from (b.netM_good hv) 0 (by omega) (fun e he => (b.zero hv L hL hn _ (b.es_lt hv L hL e he).1).1)
theorem BK.least_truth (b : BK) (hv : b.Valid) (L : Nat) (hL : b.lots = L) (hn : noneB b.es = false) : Keep b.es (fun k => -(b.T (ix k 0)).by') :=
  (b.tight hv hn).to (b.netM_good hv) 0 (by omega) (fun e he => (b.zero hv L hL hn _ (b.es_lt hv L hL e he).2).2)
/-- Two names are at least, and at most, so far apart in each truth. -/
theorem BK.between (b : BK) (hv : b.Valid) (L : Nat) (hL : b.lots = L) (hn : noneB b.es = false) {x : Nat → Int} (hx : Keep b.es x) (a c : Nat) (ha : a < 1 + L + b.total) (hc : c < 1 + L + b.total) :
    (b.T (ix a c)).known = true ∧ -(b.T (ix c a)).by' ≤ x c - x a ∧ x c - x a ≤ (b.T (ix a c)).by' := by
  have ht := b.tight hv hn
  have h6 := hv.lots6
  have h12 := hv.tot
  have k1 := b.zero hv L hL hn a ha
  have k2 := b.zero hv L hL hn c hc
  have hac := (ht.path (i := 0) (a := a) (c := c) (by omega) (by omega) (by omega) ⟨k1.2, Int.le_refl _⟩ ⟨k2.1, Int.le_refl _⟩).1
  have hca := (ht.path (i := 0) (a := c) (c := a) (by omega) (by omega) (by omega) ⟨k2.2, Int.le_refl _⟩ ⟨k1.1, Int.le_refl _⟩).1
  have h1 := ht.keep x hx a c (by omega) (by omega) hac
  have h2 := ht.keep x hx c a (by omega) (by omega) hca
  exact ⟨hac, by omega, h1⟩

/-- What CheckTruth asks, without overflow. -/
theorem wrap_near (x y : Int) (hx : -9223372036854775808 ≤ x ∧ x ≤ 9223372036854775807) (hy : 0 ≤ y ∧ y ≤ 1000) (lo hi : Int) (hlo : -1000 ≤ lo) (hhi : hi ≤ 1000) : (wIn lo hi (IntKind.i64.wrap (x - y)) = true) ↔ (lo ≤ x - y ∧ x - y ≤ hi) := by
  unfold wIn
  simp only [Bool.and_eq_true, decide_eq_true_eq]
  rw [IntKind.wrap_i64]
  omega
theorem wrap_near' (x y : Int) (hx : 0 ≤ x ∧ x ≤ 1000) (hy : -9223372036854775808 ≤ y ∧ y ≤ 9223372036854775807) (lo hi : Int) (hlo : -1000 ≤ lo) (hhi : hi ≤ 1000) : (wIn lo hi (IntKind.i64.wrap (x - y)) = true) ↔ (lo ≤ x - y ∧ x - y ≤ hi) := by
  unfold wIn
  simp only [Bool.and_eq_true, decide_eq_true_eq]
  rw [IntKind.wrap_i64]
  omega
def numN (xs ys : List Int) (k : Nat) : Int := (numsL xs ys).getD k 0
theorem numN_zero (xs ys : List Int) : numN xs ys 0 = 0 := rfl
theorem numN_lot (xs ys : List Int) (i : Nat) (h : i < xs.length) : numN xs ys (1 + i) = nthI xs i := by
  unfold numN numsL nthI
  rw [show 1 + i = i + 1 by omega, List.cons_append, List.getD_cons_succ, List.getD_eq_getElem?_getD, List.getElem?_append_left h, ← List.getD_eq_getElem?_getD]
theorem numN_taste (xs ys : List Int) (q : Nat) : numN xs ys (1 + xs.length + q) = nthI ys q := by
  unfold numN numsL nthI
  rw [show 1 + xs.length + q = (xs.length + q) + 1 by omega, List.cons_append, List.getD_cons_succ, List.getD_eq_getElem?_getD, List.getElem?_append_right (by omega), show xs.length + q - xs.length = q by omega, ← List.getD_eq_getElem?_getD]
def In64 (l : List Int) : Prop := ∀ x ∈ l, -9223372036854775808 ≤ x ∧ x ≤ 9223372036854775807
theorem In64.nth {l : List Int} (h : In64 l) (k : Nat) : -9223372036854775808 ≤ nthI l k ∧ nthI l k ≤ 9223372036854775807 := by
  unfold nthI
  rw [List.getD_eq_getElem?_getD]
  cases hk : l[k]? with
  | none => simp
  | some x => simpa using h x (List.mem_of_getElem? hk)
theorem numN_in {xs ys : List Int} (hx : In64 xs) (hy : In64 ys) (k : Nat) : -9223372036854775808 ≤ numN xs ys k ∧ numN xs ys k ≤ 9223372036854775807 := by
  have : In64 (numsL xs ys) := by
    intro z hz
    simp only [numsL, List.cons_append, List.mem_cons, List.mem_append] at hz
    rcases hz with rfl | hz | hz
    · omega
    · exact hx z hz
    · exact hy z hz
  exact In64.nth this k
theorem allows_iff (b : BK) (hv : b.Valid) (xs ys : List Int) (hL : b.lots = xs.length) (hx : In64 xs) (hy : In64 ys) : allowsTo b xs ys b.rgN = true ↔ Keep b.es (numN xs ys) := by
  have hN := b.rgN_eq xs.length hL
  have hin := numN_in hx hy
  have hlo0 := hv.lo0
  have hhi := hv.hi50
  have hlh := hv.lohi
  have h12 := hv.tot
  have hof : ∀ k : Int, numOf xs ys k = numN xs ys k.toNat := fun _ => rfl
  rw [b.keep_iff]
  constructor
  · intro h
    have hall : ∀ i, i < b.rgN → wIn (b.rg i).lo (b.rg i).hi (IntKind.i64.wrap (numN xs ys (b.rg i).t.toNat - numN xs ys (b.rg i).f.toNat)) = true := fun i hi => by
      have := List.all_eq_true.1 h i (by simpa using hi)
      simpa only [hof] using this
    have hlot : ∀ i, i < xs.length → 0 ≤ numN xs ys (1 + i) ∧ numN xs ys (1 + i) ≤ 1000 := fun i hi => by
      have := hall i (by omega)
      rw [b.rg_lot xs.length i hL hi] at this
      simp only [Int.toNat_zero, numN_zero] at this
      rw [wrap_near _ _ (hin _) (by omega) _ _ (by omega) (by omega), show (1 + (i : Int)).toNat = 1 + i by omega] at this
      omega
    have htaste : ∀ q, q < b.total → 0 ≤ numN xs ys (1 + xs.length + q) ∧ numN xs ys (1 + xs.length + q) ≤ 50 * q := by
      intro q
      induction q with
      | zero =>
        intro hq
        have := hall (xs.length + 2 * 0) (by omega)
        rw [b.rg_a xs.length 0 hL, if_pos (b.fst_zero hv hq)] at this
        simp only [Int.toNat_zero, numN_zero] at this
        rw [wrap_near _ _ (hin _) (by omega) _ _ (by omega) (by omega), show (1 + (xs.length : Int) + (0 : Nat)).toNat = 1 + xs.length + 0 by omega] at this
        omega
      | succ q ih =>
        intro hq
        have ih := ih (by omega)
        have := hall (xs.length + 2 * (q + 1)) (by omega)
        rw [b.rg_a xs.length (q + 1) hL] at this
        cases hf : (b.at' (q + 1)).1 with
        | true =>
          rw [hf, if_pos rfl] at this
          simp only [Int.toNat_zero, numN_zero] at this
          rw [wrap_near _ _ (hin _) (by omega) _ _ (by omega) (by omega), show (1 + (xs.length : Int) + (q + 1 : Nat)).toNat = 1 + xs.length + (q + 1) by omega] at this
          omega
        | false =>
          rw [hf] at this
          simp only [Bool.false_eq_true, if_false] at this
          rw [show ((xs.length : Int) + (q + 1 : Nat)).toNat = 1 + xs.length + q by omega, wrap_near _ _ (hin _) (by omega) _ _ (by omega) (by omega), show (1 + (xs.length : Int) + (q + 1 : Nat)).toNat = 1 + xs.length + (q + 1) by omega] at this
          omega
    have hsm : ∀ k, k < 1 + xs.length + b.total → 0 ≤ numN xs ys k ∧ numN xs ys k ≤ 1000 := fun k hk => by
      by_cases h0 : k = 0
      · subst h0; rw [numN_zero]; omega
      · by_cases h1 : k < 1 + xs.length
        · have := hlot (k - 1) (by omega)
          rwa [show 1 + (k - 1) = k by omega] at this
        · have := htaste (k - 1 - xs.length) (by omega)
          rw [show 1 + xs.length + (k - 1 - xs.length) = k by omega] at this
          omega
    intro i hi
    have hb := b.bn_lt hv (2 * i) (by unfold BK.bnN; omega)
    rw [b.bn_even] at hb
    simp only at hb
    have hr1 := b.rg_lo hv i
    have hr2 := b.rg_hi hv i
    exact (wrap_near _ _ (hin _) (hsm _ (by omega)) _ _ (by omega) (by omega)).1 (hall i hi)
  · intro h
    have ht := (b.truth_iff hv xs.length hL _).1 ((b.keep_iff _).2 h)
    have hsm : ∀ k, k < 1 + xs.length + b.total → 0 ≤ numN xs ys k ∧ numN xs ys k ≤ 1000 := fun k hk => by
      by_cases h0 : k = 0
      · subst h0; rw [numN_zero]; omega
      · by_cases h1 : k < 1 + xs.length
        · have := ht.lot (k - 1) (by omega)
          rw [show 1 + (k - 1) = k by omega, numN_zero] at this
          omega
        · have := ht.tired hv (k - 1 - xs.length) (by omega)
          rw [show 1 + xs.length + (k - 1 - xs.length) = k by omega, numN_zero] at this
          omega
    refine List.all_eq_true.2 (fun i hi => ?_)
    have hi' : i < b.rgN := by simpa using hi
    have hb := b.bn_lt hv (2 * i) (by unfold BK.bnN; omega)
    rw [b.bn_even] at hb
    simp only at hb
    have hr1 := b.rg_lo hv i
    have hr2 := b.rg_hi hv i
    rw [hof, hof]
    exact (wrap_near _ _ (hin _) (hsm _ (by omega)) _ _ (by omega) (by omega)).2 (h i hi')
end Go.Proofs.YtmedkmbfggphdaaDoor

namespace Go.Proofs.YtmedkmbfggphdaaDoor
open Go.RowKit

theorem BK.rowC_at (b : BK) (k : Nat) : ∀ n j, j < n → (b.rowC k n)[j * 3]? = some (.int .i64 (b.t k j).lot) ∧ (b.rowC k n)[j * 3 + 1]? = some (.int .i64 (b.t k j).lo) ∧ (b.rowC k n)[j * 3 + 2]? = some (.int .i64 (b.t k j).hi)
  | 0, j, h => by omega
  | n + 1, j, h => by
    have hl := b.rowC_length k n
    by_cases e : j = n
    · subst e
      simp only [BK.rowC]
      rw [List.getElem?_append_right (by omega), List.getElem?_append_right (by omega), List.getElem?_append_right (by omega), hl]
      rw [show j * 3 - j * 3 = 0 by omega, show j * 3 + 1 - j * 3 = 1 by omega, show j * 3 + 2 - j * 3 = 2 by omega]
      exact ⟨rfl, rfl, rfl⟩
    · have ih := b.rowC_at k n j (by omega)
      simp only [BK.rowC]
      rw [List.getElem?_append_left (by omega), List.getElem?_append_left (by omega), List.getElem?_append_left (by omega)]
      exact ih
theorem BK.allC_length (b : BK) : ∀ n, (b.allC n).length = b.upto n * 3
  | 0 => rfl
  | n + 1 => by simp only [BK.allC, List.length_append, b.allC_length n, b.rowC_length, BK.upto]; omega
theorem BK.allC_at (b : BK) (s j : Nat) (hj : j < b.m s) : ∀ n, s < n → ∀ c, c < 3 → (b.allC n)[(b.upto s + j) * 3 + c]? = (b.rowC s (b.m s))[j * 3 + c]?
  | 0, h, _, _ => by omega
  | n + 1, h, c, hc => by
    have hl := b.allC_length n
    simp only [BK.allC]
    by_cases e : s = n
    · subst e
      rw [List.getElem?_append_right (by omega), hl, show (b.upto s + j) * 3 + c - b.upto s * 3 = j * 3 + c by omega]
    · have hu := b.upto_mono (i := s + 1) (j := n) (by omega)
      simp only [BK.upto] at hu
      rw [List.getElem?_append_left (by omega)]
      exact b.allC_at s j hj n (by omega) c hc
theorem BK.all_at (b : BK) (q : Nat) (hq : q < b.total) : (b.allC b.n)[q * 3]? = some (.int .i64 (b.at' q).2.lot) ∧ (b.allC b.n)[q * 3 + 1]? = some (.int .i64 (b.at' q).2.lo) ∧ (b.allC b.n)[q * 3 + 2]? = some (.int .i64 (b.at' q).2.hi) := by
  obtain ⟨s, j, hs, hj, rfl⟩ := b.split b.n q hq
  rw [b.at_eq s j hs hj]
  have h0 := b.allC_at s j hj b.n hs 0 (by omega)
  have h1 := b.allC_at s j hj b.n hs 1 (by omega)
  have h2 := b.allC_at s j hj b.n hs 2 (by omega)
  have hr := b.rowC_at s (b.m s) j hj
  exact ⟨h0.trans hr.1, h1.trans hr.2.1, h2.trans hr.2.2⟩

/-- u is the list of all tastes. -/
def FlatAt (B : Nat) (w : World) (u : Value) (b : BK) : Prop := ∃ p c, u = .slice p b.total c ∧ ∀ q, q < b.total → ∃ g, p = some ⟨g, 0, none⟩ ∧ g < B ∧ w.cell? ⟨g, q * 3, none⟩ = some (.int .i64 (b.at' q).2.lot) ∧ w.cell? ⟨g, q * 3 + 1, none⟩ = some (.int .i64 (b.at' q).2.lo) ∧ w.cell? ⟨g, q * 3 + 2, none⟩ = some (.int .i64 (b.at' q).2.hi)
theorem FlatAt.of {w : World} {b : BK} {B : Nat} {u : Value} (h : w.ownsRow B 70 3 u b.total (b.allC b.n)) : FlatAt w.heap.size w u b := by
  rcases h.2 with ⟨rfl, h0⟩ | ⟨g, c, cur, rfl, h1, h2, h3⟩
  · exact ⟨none, 0, by rw [h0], fun q hq => by omega⟩
  · refine ⟨_, c, rfl, fun q hq => ⟨g, rfl, (Array.getElem?_eq_some_iff.1 h2).1, ?_⟩⟩
    have hc := World.ownsRow.cells h (g := g) rfl
    have hadd : ∀ j, (⟨g, 0, none⟩ : Addr).add j = ⟨g, j, none⟩ := fun j => by unfold Addr.add; split <;> simp_all
    obtain ⟨a1, a2, a3⟩ := b.all_at q hq
    have b1 := hc _ _ a1
    have b2 := hc _ _ a2
    have b3 := hc _ _ a3
    rw [hadd] at b1 b2 b3
    exact ⟨b1, b2, b3⟩
theorem FlatAt.to {w w' : World} {b : BK} {B : Nat} {u : Value} (h : FlatAt B w u b) (hp : Pure w w') (hB : B ≤ w.heap.size) : FlatAt w'.heap.size w' u b := by
  obtain ⟨p, c, rfl, hc⟩ := h
  refine ⟨p, c, rfl, fun q hq => ?_⟩
  obtain ⟨g, rfl, hg, h1, h2, h3⟩ := hc q hq
  have hl : g < w.heap.size := by omega
  exact ⟨g, rfl, Nat.lt_of_lt_of_le hl hp.size, ((pcell hp).1 _ _ hl).trans h1, ((pcell hp).1 _ _ hl).trans h2, ((pcell hp).1 _ _ hl).trans h3⟩
theorem Tastes_flat (w : World) (b : BK) (p : Option Addr) (cap : Nat) (hs : b.Small) (hpos : ∀ k, k < b.n → 0 < b.m k) (hb : BookAt w.heap.size w p b) :
    Calls Tryd.prog 50 #[bookV b p cap] w fun e w' => ∃ u, e = .returned u ∧ FlatAt w'.heap.size w' u b ∧ Pure w w' := by
  refine (Tastes_any w b p cap hs hpos hb).mono ?_
  rintro e w' ⟨u, rfl, h1, h2⟩
  exact ⟨u, rfl, FlatAt.of h1, h2⟩

def flatOk (b : BK) (n : Nat) : Bool := (List.range n).all fun q => tsB b (b.at' q).2
theorem flatOk_succ (b : BK) (n : Nat) : flatOk b (n + 1) = (flatOk b n && tsB b (b.at' n).2) := by simp [flatOk, List.range_succ]
theorem flatOk_false {b : BK} {n q : Nat} (hq : q < n) (h : tsB b (b.at' q).2 = false) : flatOk b n = false := by
  simp only [flatOk, List.all_eq_false, List.mem_range]
  exact ⟨q, hq, by simp [h]⟩
theorem tastes_flat (b : BK) : tastesB b = flatOk b b.total := by
  rw [Bool.eq_iff_iff]
  simp only [tastesB, BK.rowsOk, BK.rowOk, flatOk, List.all_eq_true, List.mem_range]
  constructor
  · intro h q hq
    obtain ⟨s, j, hs, hj, rfl⟩ := b.split b.n q hq
    rw [b.at_eq s j hs hj]
    exact h s hs j hj
  · intro h s hs j hj
    have := h _ (b.upto_lt s j hs hj)
    rwa [b.at_eq s j hs hj] at this
/-- The numbers of tastes, as the reference looks at them. -/
def rowsFit (b : BK) (n : Nat) : Bool := (List.range n).all fun k => b.m k != 0 && decide (b.m k ≤ 12)
theorem rowsFit_succ (b : BK) (n : Nat) : rowsFit b (n + 1) = (rowsFit b n && (b.m n != 0 && decide (b.m n ≤ 12))) := by simp [rowsFit, List.range_succ]
theorem rowsFit_false {b : BK} {n k : Nat} (hk : k < n) (h : (b.m k != 0 && decide (b.m k ≤ 12)) = false) : rowsFit b n = false := by
  simp only [rowsFit, List.all_eq_false, List.mem_range]
  exact ⟨k, hk, by simp only [h]; simp⟩
theorem counts_fit (b : BK) : countsB b = (wIn 1 6 b.lots && (decide (b.n ≤ 4) && (rowsFit b b.n && decide (b.total ≤ 12)))) := by
  rw [Bool.eq_iff_iff]
  simp only [countsB, BK.full, rowsFit, List.all_eq_true, List.mem_range, Bool.and_eq_true, decide_eq_true_eq, bne_iff_ne, ne_eq]
  constructor
  · rintro ⟨h1, ⟨h2, h3⟩, h4⟩
    refine ⟨h2, h3, fun k hk => ⟨h1 k hk, ?_⟩, h4⟩
    have hu := b.upto_mono (i := k + 1) (j := b.n) (by omega)
    unfold BK.total at h4
    simp only [BK.upto] at hu
    omega
  · rintro ⟨h1, h2, h3, h4⟩
    exact ⟨fun k hk => (h3 k hk).1, ⟨h1, h2⟩, h4⟩
def checkR (b : BK) : Int :=
  if (decide (0 ≤ b.lo) && (decide (b.lo ≤ b.hi) && decide (b.hi ≤ 50))) = false then 3 else if (wIn 1 6 b.lots && decide (b.n ≤ 4)) = false then 6 else if rowsFit b b.n = false then 6 else if 12 < b.total then 6 else if flatOk b b.total = false then 3 else 0
theorem checkR_eq (b : BK) : checkR b = checkB b := by
  unfold checkR checkB
  have h1 : (decide (0 ≤ b.lo) && (decide (b.lo ≤ b.hi) && decide (b.hi ≤ 50))) = (decide (b.lo ≤ b.hi) && (wIn 0 50 b.lo && wIn 0 50 b.hi)) := by
    rw [Bool.eq_iff_iff]; simp only [wIn, Bool.and_eq_true, decide_eq_true_eq]; omega
  rw [h1, counts_fit, tastes_flat]
  split
  · rfl
  · cases wIn 1 6 b.lots <;> cases hn : decide (b.n ≤ 4) <;> cases rowsFit b b.n <;> cases ht : decide (b.total ≤ 12) <;> simp at hn ht ⊢ <;> (first | (intro h; omega) | (split <;> omega) | skip)
end Go.Proofs.YtmedkmbfggphdaaDoor
