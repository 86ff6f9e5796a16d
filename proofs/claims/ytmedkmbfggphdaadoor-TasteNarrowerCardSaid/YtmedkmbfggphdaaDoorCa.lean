/- A book's truths, sitting by sitting: which sharpnesses of lots can be. No condition. -/
import Derived.Test.YtmedkmbfggphdaaDoorN1
set_option linter.unusedSimpArgs false
set_option linter.unusedVariables false
set_option linter.constructorNameAsVariable false
namespace Go.Proofs.YtmedkmbfggphdaaDoor
open Go.RowKit

/-- How tired the tongue is in one sitting, so that all that is said in it is true. -/
structure Sit (lo hi : Int) (m : Nat) (t : Nat → TS) (z y : Nat → Int) : Prop where
  one : y 0 = 0
  nxt : ∀ j, j + 1 < m → lo ≤ y (j + 1) - y j ∧ y (j + 1) - y j ≤ hi
  say : ∀ j, j < m → (t j).lo ≤ z (t j).lot.toNat - y j ∧ z (t j).lot.toNat - y j ≤ (t j).hi
/-- These sharpnesses can be. -/
def Can (b : BK) (L : Nat) (z : Nat → Int) : Prop := (∀ i, i < L → 0 ≤ z i ∧ z i ≤ 1000) ∧ ∀ s, s < b.n → ∃ y, Sit b.lo b.hi (b.m s) (b.t s) z y

theorem upto_two (b : BK) {s j s' j' : Nat} (hj : j < b.m s) (hj' : j' < b.m s') (h : b.upto s + j = b.upto s' + j') : s = s' ∧ j = j' := by
  have key : ∀ {s s' j j' : Nat}, j < b.m s → s < s' → b.upto s + j < b.upto s' + j' := fun {s s' j j'} hj hs => by
    have := b.upto_mono (show s + 1 ≤ s' by omega)
    simp only [BK.upto] at this
    omega
  rcases Nat.lt_trichotomy s s' with h1 | h1 | h1
  · have := key (j' := j') hj h1; omega
  · subst h1; exact ⟨rfl, by omega⟩
  · have := key (j' := j) hj' h1; omega
theorem can_of_truth (b : BK) (hv : b.Valid) (L : Nat) (hL : b.lots = L) {x : Nat → Int} (h : Truth b L x) : Can b L fun i => x (1 + i) - x 0 := by
  refine ⟨fun i hi => h.lot i hi, fun s hs => ⟨fun j => x (1 + L + (b.upto s + j)) - x 0, ?_, fun j hj => ?_, fun j hj => ?_⟩⟩
  · have hp := hv.pos s hs
    have hq := b.upto_lt s 0 hs hp
    have ha := b.at_eq s 0 hs hp
    have h1 := h.one _ hq (by rw [ha]; rfl)
    show x (1 + L + (b.upto s + 0)) - x 0 = 0
    omega
  · have hq := b.upto_lt s (j + 1) hs hj
    have ha := b.at_eq s (j + 1) hs hj
    have h1 := h.nxt _ hq (by rw [ha]; rfl)
    show b.lo ≤ x (1 + L + (b.upto s + (j + 1))) - x 0 - (x (1 + L + (b.upto s + j)) - x 0) ∧ x (1 + L + (b.upto s + (j + 1))) - x 0 - (x (1 + L + (b.upto s + j)) - x 0) ≤ b.hi
    rw [show L + (b.upto s + (j + 1)) = 1 + L + (b.upto s + j) by omega] at h1
    omega
  · have hq := b.upto_lt s j hs hj
    have ha := b.at_eq s j hs hj
    have h1 := h.say _ hq
    rw [ha] at h1
    show (b.t s j).lo ≤ x (1 + (b.t s j).lot.toNat) - x 0 - (x (1 + L + (b.upto s + j)) - x 0) ∧ x (1 + (b.t s j).lot.toNat) - x 0 - (x (1 + L + (b.upto s + j)) - x 0) ≤ (b.t s j).hi
    have h2 : (b.t s j).lo ≤ x (1 + (b.t s j).lot.toNat) - x (1 + L + (b.upto s + j)) ∧ x (1 + (b.t s j).lot.toNat) - x (1 + L + (b.upto s + j)) ≤ (b.t s j).hi := h1
    omega
open Classical in
theorem truth_of_can (b : BK) (hv : b.Valid) (L : Nat) (hL : b.lots = L) {z : Nat → Int} (h : Can b L z) : ∃ x, Truth b L x ∧ x 0 = 0 ∧ ∀ i, i < L → x (1 + i) = z i := by
  obtain ⟨Y, hY⟩ : ∃ Y : Nat → Nat → Int, ∀ s, s < b.n → Sit b.lo b.hi (b.m s) (b.t s) z (Y s) := by
    refine ⟨fun s => if hs : s < b.n then Classical.choose (h.2 s hs) else fun _ => 0, fun s hs => ?_⟩
    show Sit b.lo b.hi (b.m s) (b.t s) z (if hs : s < b.n then Classical.choose (h.2 s hs) else fun _ => 0)
    rw [dif_pos hs]; exact Classical.choose_spec (h.2 s hs)
  obtain ⟨V, hV⟩ : ∃ V : Nat → Int, ∀ s j, s < b.n → j < b.m s → V (b.upto s + j) = Y s j := by
    refine ⟨fun q => if hq : ∃ s j, s < b.n ∧ j < b.m s ∧ q = b.upto s + j then Y (Classical.choose hq) (Classical.choose (Classical.choose_spec hq)) else 0, fun s j hs hj => ?_⟩
    have hq : ∃ s' j', s' < b.n ∧ j' < b.m s' ∧ b.upto s + j = b.upto s' + j' := ⟨s, j, hs, hj, rfl⟩
    show (if hq : ∃ s' j', s' < b.n ∧ j' < b.m s' ∧ b.upto s + j = b.upto s' + j' then Y (Classical.choose hq) (Classical.choose (Classical.choose_spec hq)) else 0) = _
    rw [dif_pos hq]
    have h3 := Classical.choose_spec (Classical.choose_spec hq)
    obtain ⟨e1, e2⟩ := upto_two b hj h3.2.1 h3.2.2
    rw [← e2, ← e1]
  refine ⟨fun k => if k = 0 then 0 else if k < 1 + L then z (k - 1) else V (k - (1 + L)), ⟨fun i hi => ?_, fun q hq hf => ?_, fun q hq hf => ?_, fun q hq => ?_⟩, rfl, fun i hi => ?_⟩
  · show 0 ≤ (if 1 + i = 0 then 0 else if 1 + i < 1 + L then z (1 + i - 1) else V (1 + i - (1 + L))) - 0 ∧ (if 1 + i = 0 then 0 else if 1 + i < 1 + L then z (1 + i - 1) else V (1 + i - (1 + L))) - 0 ≤ 1000
    rw [if_neg (by omega), if_pos (by omega), Nat.add_sub_cancel_left]
    have := h.1 i hi
    omega
  · show (if 1 + L + q = 0 then 0 else if 1 + L + q < 1 + L then z (1 + L + q - 1) else V (1 + L + q - (1 + L))) = 0
    rw [if_neg (by omega), if_neg (by omega), Nat.add_sub_cancel_left]
    obtain ⟨s, j, hs, hj, rfl⟩ := b.split b.n q hq
    rw [b.at_eq s j hs hj] at hf
    have hj0 : j = 0 := by simpa using hf
    subst hj0
    rw [hV s 0 hs hj]; exact (hY s hs).one
  · show b.lo ≤ (if 1 + L + q = 0 then 0 else if 1 + L + q < 1 + L then z (1 + L + q - 1) else V (1 + L + q - (1 + L))) - (if L + q = 0 then 0 else if L + q < 1 + L then z (L + q - 1) else V (L + q - (1 + L))) ∧ (if 1 + L + q = 0 then 0 else if 1 + L + q < 1 + L then z (1 + L + q - 1) else V (1 + L + q - (1 + L))) - (if L + q = 0 then 0 else if L + q < 1 + L then z (L + q - 1) else V (L + q - (1 + L))) ≤ b.hi
    obtain ⟨s, j, hs, hj, rfl⟩ := b.split b.n q hq
    rw [b.at_eq s j hs hj] at hf
    have hj0 : j ≠ 0 := by simpa using hf
    obtain ⟨i, rfl⟩ : ∃ i, j = i + 1 := ⟨j - 1, by omega⟩
    rw [if_neg (by omega), if_neg (by omega), if_neg (by omega), if_neg (by omega), Nat.add_sub_cancel_left, show L + (b.upto s + (i + 1)) - (1 + L) = b.upto s + i by omega, hV s _ hs hj, hV s i hs (by omega)]
    exact (hY s hs).nxt i hj
  · show (b.at' q).2.lo ≤ (if 1 + (b.at' q).2.lot.toNat = 0 then 0 else if 1 + (b.at' q).2.lot.toNat < 1 + L then z (1 + (b.at' q).2.lot.toNat - 1) else V (1 + (b.at' q).2.lot.toNat - (1 + L))) - (if 1 + L + q = 0 then 0 else if 1 + L + q < 1 + L then z (1 + L + q - 1) else V (1 + L + q - (1 + L))) ∧ (if 1 + (b.at' q).2.lot.toNat = 0 then 0 else if 1 + (b.at' q).2.lot.toNat < 1 + L then z (1 + (b.at' q).2.lot.toNat - 1) else V (1 + (b.at' q).2.lot.toNat - (1 + L))) - (if 1 + L + q = 0 then 0 else if 1 + L + q < 1 + L then z (1 + L + q - 1) else V (1 + L + q - (1 + L))) ≤ (b.at' q).2.hi
    obtain ⟨s, j, hs, hj, rfl⟩ := b.split b.n q hq
    rw [b.at_eq s j hs hj]
    have h0 := hv.lot0 s j hs hj
    have h1 := hv.lot1 s j hs hj
    show (b.t s j).lo ≤ (if 1 + (b.t s j).lot.toNat = 0 then 0 else if 1 + (b.t s j).lot.toNat < 1 + L then z (1 + (b.t s j).lot.toNat - 1) else V (1 + (b.t s j).lot.toNat - (1 + L))) - (if 1 + L + (b.upto s + j) = 0 then 0 else if 1 + L + (b.upto s + j) < 1 + L then z (1 + L + (b.upto s + j) - 1) else V (1 + L + (b.upto s + j) - (1 + L))) ∧ (if 1 + (b.t s j).lot.toNat = 0 then 0 else if 1 + (b.t s j).lot.toNat < 1 + L then z (1 + (b.t s j).lot.toNat - 1) else V (1 + (b.t s j).lot.toNat - (1 + L))) - (if 1 + L + (b.upto s + j) = 0 then 0 else if 1 + L + (b.upto s + j) < 1 + L then z (1 + L + (b.upto s + j) - 1) else V (1 + L + (b.upto s + j) - (1 + L))) ≤ (b.t s j).hi
    rw [if_neg (by omega), if_pos (by omega), if_neg (by omega), if_neg (by omega), Nat.add_sub_cancel_left, Nat.add_sub_cancel_left, hV s j hs hj]
    exact (hY s hs).say j hj
  · show (if 1 + i = 0 then 0 else if 1 + i < 1 + L then z (1 + i - 1) else V (1 + i - (1 + L))) = z i
    rw [if_neg (by omega), if_pos (by omega), Nat.add_sub_cancel_left]
theorem none_can (b : BK) (hv : b.Valid) (L : Nat) (hL : b.lots = L) : noneB b.es = false ↔ ∃ z, Can b L z := by
  have e := noneB_iff (b.netM_good hv) (b.loose hv)
  refine (show noneB b.es = false ↔ ∃ x, Keep b.es x from e).trans ?_
  constructor
  · rintro ⟨x, hx⟩
    exact ⟨_, can_of_truth b hv L hL ((b.truth_iff hv L hL x).1 hx)⟩
  · rintro ⟨z, hz⟩
    obtain ⟨x, hx, -⟩ := truth_of_can b hv L hL hz
    exact ⟨x, (b.truth_iff hv L hL x).2 hx⟩
end Go.Proofs.YtmedkmbfggphdaaDoor
