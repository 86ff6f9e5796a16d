/- What Wrong asks of a book without one taste: whether there is a truth if this taste says any number. No condition. -/
import Derived.Test.YtmedkmbfggphdaaDoorCb
set_option linter.unusedSimpArgs false
set_option linter.unusedVariables false
set_option linter.constructorNameAsVariable false
namespace Go.Proofs.YtmedkmbfggphdaaDoor
open Go.RowKit

/-- A book in which one taste says other bounds. -/
def BK.say (b : BK) (s0 j0 : Nat) (lo hi : Int) : BK := ⟨b.lo, b.hi, b.lots, b.n, b.m, fun s j => if s = s0 ∧ j = j0 then ⟨(b.t s j).lot, lo, hi⟩ else b.t s j⟩
theorem say_upto (b : BK) (s0 j0 : Nat) (lo hi : Int) (k : Nat) : (b.say s0 j0 lo hi).upto k = b.upto k := upto_of_m (b := b) (c := b.say s0 j0 lo hi) rfl k
theorem say_total (b : BK) (s0 j0 : Nat) (lo hi : Int) : (b.say s0 j0 lo hi).total = b.total := say_upto b s0 j0 lo hi b.n
theorem say_lot (b : BK) (s0 j0 : Nat) (lo hi : Int) (s j : Nat) : ((b.say s0 j0 lo hi).t s j).lot = (b.t s j).lot := by
  show (if s = s0 ∧ j = j0 then (⟨(b.t s j).lot, lo, hi⟩ : TS) else b.t s j).lot = _
  split <;> rfl
theorem say_at {b : BK} {s0 j0 : Nat} {lo hi : Int} : (b.say s0 j0 lo hi).t s0 j0 = ⟨(b.t s0 j0).lot, lo, hi⟩ := if_pos ⟨rfl, rfl⟩
theorem say_off {b : BK} {s0 j0 : Nat} {lo hi : Int} {s j : Nat} (h : ¬(s = s0 ∧ j = j0)) : (b.say s0 j0 lo hi).t s j = b.t s j := if_neg h
theorem say_valid {b : BK} (hv : b.Valid) (s0 j0 : Nat) {lo hi : Int} (h0 : -1000 ≤ lo) (h1 : lo ≤ hi) (h2 : hi ≤ 1000) : (b.say s0 j0 lo hi).Valid := by
  refine ⟨hv.lo0, hv.lohi, hv.hi50, hv.lots1, hv.lots6, hv.n4, hv.pos, by rw [say_total]; exact hv.tot, fun k j hk hj => by rw [say_lot]; exact hv.lot0 k j hk hj, fun k j hk hj => by rw [say_lot]; exact hv.lot1 k j hk hj, fun k j hk hj => ?_, fun k j hk hj => ?_, fun k j hk hj => ?_⟩
  all_goals
    by_cases e : k = s0 ∧ j = j0
    · obtain ⟨rfl, rfl⟩ := e
      rw [say_at]
      first | exact h0 | exact h1 | exact h2
    · rw [say_off e]
      first | exact hv.said0 k j hk hj | exact hv.said1 k j hk hj | exact hv.said2 k j hk hj

theorem bound_mem {es : List ME} {clock : Nat} (hg : GoodM es clock) {e : ME} (he : e ∈ es) : boundO es e.f e.t = some e.v := by
  rw [boundO_find]
  cases hf : es.find? (fun e' => e'.is e.f e.t) with
  | none =>
    have := List.find?_eq_none.1 hf e he
    simp only [ME.is, Bool.and_eq_true, beq_iff_eq] at this
    exact absurd ⟨trivial, trivial⟩ this
  | some e' =>
    have h2 := List.find?_some hf
    simp only [ME.is, Bool.and_eq_true, beq_iff_eq] at h2
    rw [hg.keys e' (List.mem_of_find?_eq_some hf) e he (by omega) (by omega)]; rfl
/-- The net without the taste q. -/
theorem keep_cut (b : BK) (hv : b.Valid) (L q : Nat) (hL : b.lots = L) (hq : q < b.total) (x : Nat → Int) :
    Keep (cutM L q b.es L) x ↔ ∀ i, i < b.rgN → i ≠ L + 2 * q + 1 → (b.rg i).lo ≤ x (b.rg i).t.toNat - x (b.rg i).f.toNat ∧ x (b.rg i).t.toNat - x (b.rg i).f.toNat ≤ (b.rg i).hi := by
  have hgd : GoodM b.es b.bnN := b.netM_good hv
  have hbc := fun a c => boundO_cutM hgd L q a c L (Nat.le_refl _)
  have hbn : ∀ j, j < b.bnN → boundO b.es (b.bn j).f (b.bn j).t = some (b.bn j).by' := fun j hj => (b.bound_iff hv _ _ _).2 ⟨j, hj, rfl, rfl, rfl⟩
  -- the pairs that are cut are those of one taste
  have hx : ∀ i, i < b.rgN → ((((b.rg i).f = 1 + (L : Int) + q ∧ 1 ≤ (b.rg i).t ∧ (b.rg i).t ≤ L) ∨ ((b.rg i).t = 1 + (L : Int) + q ∧ 1 ≤ (b.rg i).f ∧ (b.rg i).f ≤ L)) ↔ i = L + 2 * q + 1) := by
    intro i hi
    rcases b.rg_kind hv L hL i hi with ⟨h1, h2, h3⟩ | ⟨r, hr, rfl, h2, h3⟩ | ⟨r, hr, rfl, h2, h3, h4⟩
    · rw [h2, h3]; omega
    · rw [h2]
      rcases h3 with h3 | ⟨h3, h4⟩
      · rw [h3]; omega
      · rw [h4]; omega
    · rw [h2]; omega
  constructor
  · intro h i hi hne
    have hni : ¬(((b.rg i).f = 1 + (L : Int) + q ∧ 1 ≤ (b.rg i).t ∧ (b.rg i).t ≤ L) ∨ ((b.rg i).t = 1 + (L : Int) + q ∧ 1 ≤ (b.rg i).f ∧ (b.rg i).f ≤ L)) := fun e => hne ((hx i hi).1 e)
    have h1 := hbn (2 * i) (by unfold BK.bnN; omega)
    have h2 := hbn (2 * i + 1) (by unfold BK.bnN; omega)
    rw [b.bn_even] at h1
    rw [b.bn_odd] at h2
    simp only at h1 h2
    have k1 := hbc (b.rg i).f (b.rg i).t
    have k2 := hbc (b.rg i).t (b.rg i).f
    rw [if_neg hni] at k1
    rw [if_neg (by omega)] at k2
    have r1 := boundO_keep h (k1.trans h1)
    have r2 := boundO_keep h (k2.trans h2)
    omega
  · intro h e he
    have hm := (cutM_sub L q b.es L).subset he
    have hb := bound_mem (hgd.sub (cutM_sub L q _ L)) he
    have he2 := hm
    simp only [BK.es, BK.netM, List.mem_map, List.mem_range] at hm
    obtain ⟨j, hj, rfl⟩ := hm
    have hj2 : j / 2 < b.rgN := by unfold BK.bnN at hj; omega
    have hk := hbc (b.bn j).f (b.bn j).t
    have hb' : boundO (cutM L q b.es L) (b.bn j).f (b.bn j).t = some (b.bn j).by' := hb
    rw [hb'] at hk
    have hne : j / 2 ≠ L + 2 * q + 1 := fun e => by
      have hx' := (hx _ hj2).2 e
      have : (((b.bn j).f = 1 + (L : Int) + q ∧ 1 ≤ (b.bn j).t ∧ (b.bn j).t ≤ L) ∨ ((b.bn j).t = 1 + (L : Int) + q ∧ 1 ≤ (b.bn j).f ∧ (b.bn j).f ≤ L)) := by
        unfold BK.bn
        simp only
        split <;> simp only <;> omega
      rw [if_pos this] at hk
      cases hk
    have := h (j / 2) hj2 hne
    show x (b.bn j).t.toNat - x (b.bn j).f.toNat ≤ (b.bn j).by'
    unfold BK.bn
    simp only
    split <;> simp only <;> omega
theorem say_rg (b : BK) (hv : b.Valid) (L : Nat) (hL : b.lots = L) (s0 j0 : Nat) (hs : s0 < b.n) (hj : j0 < b.m s0) (lo hi : Int) (i : Nat) (hi' : i < b.rgN) :
    (b.say s0 j0 lo hi).rg i = if i = L + 2 * (b.upto s0 + j0) + 1 then ⟨1 + L + b.upto s0 + j0, 1 + (b.t s0 j0).lot, lo, hi⟩ else b.rg i := by
  have hN := b.rgN_eq L hL
  by_cases h1 : i < L
  · rw [if_neg (by omega), b.rg_lot L i hL h1, (b.say s0 j0 lo hi).rg_lot L i hL h1]
  · obtain ⟨q, hq, hqi⟩ : ∃ q, q < b.total ∧ (i = L + 2 * q ∨ i = L + 2 * q + 1) := ⟨(i - L) / 2, by omega, by omega⟩
    obtain ⟨s, j, h2, h3, rfl⟩ := b.split b.n q hq
    have hu := say_upto b s0 j0 lo hi s
    rcases hqi with rfl | rfl
    · rw [if_neg (by omega), b.rg_one L s j hL h2 h3]
      have := (b.say s0 j0 lo hi).rg_one L s j hL h2 h3
      rw [hu] at this
      exact this
    · have e2 := (b.say s0 j0 lo hi).rg_two L s j hL h2 h3
      rw [hu] at e2
      rw [e2]
      by_cases e : s = s0 ∧ j = j0
      · obtain ⟨rfl, rfl⟩ := e
        rw [if_pos rfl, say_at]
      · rw [if_neg (fun h => e (upto_two b h3 hj (by omega))), say_off e, b.rg_two L s j hL h2 h3]
/-- How tired the tongue can be. -/
theorem sit_tired {lo hi : Int} {m : Nat} {t : Nat → TS} {z y : Nat → Int} (h : Sit lo hi m t z y) (h0 : 0 ≤ lo) (h1 : hi ≤ 50) : ∀ j, j < m → 0 ≤ y j ∧ y j ≤ 50 * (j : Int)
  | 0, _ => by rw [h.one]; omega
  | j + 1, hj => by
    have ih := sit_tired h h0 h1 j (by omega)
    have := h.nxt j hj
    push_cast
    omega
theorem m_le (b : BK) {s : Nat} (hs : s < b.n) : b.m s ≤ b.total := by
  have := b.upto_mono (show s + 1 ≤ b.n by omega)
  simp only [BK.upto] at this
  unfold BK.total
  omega
/-- Without one taste, or if it says any number: the same. -/
theorem cut_say (b : BK) (hv : b.Valid) (L : Nat) (hL : b.lots = L) (s0 j0 : Nat) (hs : s0 < b.n) (hj : j0 < b.m s0) :
    noneB (cutM L (b.upto s0 + j0) b.es L) = noneB (b.say s0 j0 (-1000) 1000).es := by
  have hv' := say_valid hv s0 j0 (lo := -1000) (hi := 1000) (by omega) (by omega) (by omega)
  have hgd : GoodM b.es b.bnN := b.netM_good hv
  have hq := b.upto_lt s0 j0 hs hj
  have hN : (b.say s0 j0 (-1000) 1000).rgN = b.rgN := by unfold BK.rgN; rw [say_total]; rfl
  have hrg := fun i hi => say_rg b hv L hL s0 j0 hs hj (-1000) 1000 i hi
  have e1 := noneB_iff (hgd.sub (cutM_sub L (b.upto s0 + j0) _ L)) (fun e he => b.loose hv e ((cutM_sub L (b.upto s0 + j0) b.es L).subset he))
  have e2 := none_can (b.say s0 j0 (-1000) 1000) hv' L hL
  have key : (∃ x, Keep (cutM L (b.upto s0 + j0) b.es L) x) ↔ ∃ z, Can (b.say s0 j0 (-1000) 1000) L z := by
    constructor
    · rintro ⟨x, hx⟩
      have h := (keep_cut b hv L _ hL hq x).1 hx
      have hc : ∀ i, i < L → 0 ≤ x (1 + i) - x 0 ∧ x (1 + i) - x 0 ≤ 1000 := fun i hi => by
        have := h i (by have := b.rgN_eq L hL; omega) (by omega)
        rw [b.rg_lot L i hL hi] at this
        simp only at this
        have e : ((1 + i : Int)).toNat = 1 + i := by omega
        rw [e] at this
        simpa using this
      have hone : ∀ s, s < b.n → x (1 + L + (b.upto s + 0)) - x 0 = 0 := by
        intro s hs'
        have hp := hv.pos s hs'
        have hlt := b.upto_lt s 0 hs' hp
        have := h (L + 2 * (b.upto s + 0)) (by have := b.rgN_eq L hL; omega) (by omega)
        rw [b.rg_one L s 0 hL hs' hp] at this
        simp only [lstN, tlo, thi, if_pos] at this
        rw [show ((1 + (L : Int) + (b.upto s : Int) + ((0 : Nat) : Int))).toNat = 1 + L + (b.upto s + 0) by omega, show ((0 : Int)).toNat = 0 from rfl] at this
        omega
      have hnxt : ∀ s, s < b.n → ∀ j, j + 1 < b.m s → b.lo ≤ x (1 + L + (b.upto s + (j + 1))) - x 0 - (x (1 + L + (b.upto s + j)) - x 0) ∧ x (1 + L + (b.upto s + (j + 1))) - x 0 - (x (1 + L + (b.upto s + j)) - x 0) ≤ b.hi := by
        intro s hs' j hj'
        have hlt := b.upto_lt s (j + 1) hs' hj'
        have := h (L + 2 * (b.upto s + (j + 1))) (by have := b.rgN_eq L hL; omega) (by omega)
        rw [b.rg_one L s (j + 1) hL hs' hj'] at this
        simp only [lstN, tlo, thi, if_neg (show ¬ j + 1 = 0 by omega)] at this
        rw [show ((1 + (L : Int) + (b.upto s : Int) + ((j + 1 : Nat) : Int))).toNat = 1 + L + (b.upto s + (j + 1)) by omega, show (((L : Int) + (b.upto s : Int) + ((j + 1 : Nat) : Int))).toNat = 1 + L + (b.upto s + j) by omega] at this
        omega
      have htir : ∀ s, s < b.n → ∀ j, j < b.m s → 0 ≤ x (1 + L + (b.upto s + j)) - x 0 ∧ x (1 + L + (b.upto s + j)) - x 0 ≤ 50 * (j : Int) := by
        intro s hs' j
        induction j with
        | zero => intro _; have := hone s hs'; omega
        | succ j ih =>
          intro hj'
          have h1 := ih (by omega)
          have h2 := hnxt s hs' j hj'
          have h3 := hv.lo0
          have h4 := hv.hi50
          push_cast
          omega
      refine ⟨fun i => x (1 + i) - x 0, hc, fun s hs' => ⟨fun j => x (1 + L + (b.upto s + j)) - x 0, hone s hs', fun j hj' => hnxt s hs' j hj', fun j hj' => ?_⟩⟩
      · rw [say_lot]
        have hlt := b.upto_lt s j hs' hj'
        by_cases e : s = s0 ∧ j = j0
        · obtain ⟨rfl, rfl⟩ := e
          rw [say_at]
          have h0 := hv.lot0 s j hs' hj'
          have h1 := hv.lot1 s j hs' hj'
          have hz := hc (b.t s j).lot.toNat (by omega)
          have hy := htir s hs' j hj'
          have hm := m_le b hs'
          have ht := hv.tot
          show -1000 ≤ x (1 + (b.t s j).lot.toNat) - x 0 - (x (1 + L + (b.upto s + j)) - x 0) ∧ x (1 + (b.t s j).lot.toNat) - x 0 - (x (1 + L + (b.upto s + j)) - x 0) ≤ 1000
          omega
        · rw [say_off e]
          have := h (L + 2 * (b.upto s + j) + 1) (by have := b.rgN_eq L hL; omega) (by intro e'; exact e (upto_two b hj' hj (by omega)))
          rw [b.rg_two L s j hL hs' hj'] at this
          simp only at this
          have h0 := hv.lot0 s j hs' hj'
          rw [show (1 + (L : Int) + (b.upto s : Int) + (j : Int)).toNat = 1 + L + (b.upto s + j) by omega, show (1 + (b.t s j).lot).toNat = 1 + (b.t s j).lot.toNat by omega] at this
          show (b.t s j).lo ≤ x (1 + (b.t s j).lot.toNat) - x 0 - (x (1 + L + (b.upto s + j)) - x 0) ∧ x (1 + (b.t s j).lot.toNat) - x 0 - (x (1 + L + (b.upto s + j)) - x 0) ≤ (b.t s j).hi
          omega
    · rintro ⟨z, hz⟩
      obtain ⟨x, hx, -⟩ := truth_of_can (b.say s0 j0 (-1000) 1000) hv' L hL hz
      have hk := ((b.say s0 j0 (-1000) 1000).truth_iff hv' L hL x).2 hx
      rw [BK.keep_iff, hN] at hk
      refine ⟨x, (keep_cut b hv L _ hL hq x).2 fun i hi hne => ?_⟩
      have := hk i hi
      rw [hrg i hi, if_neg hne] at this
      exact this
  have e3 := e1.trans (key.trans e2.symm)
  cases hc : noneB (cutM L (b.upto s0 + j0) b.es L) <;> cases hb : noneB (b.say s0 j0 (-1000) 1000).es <;> simp_all
end Go.Proofs.YtmedkmbfggphdaaDoor
