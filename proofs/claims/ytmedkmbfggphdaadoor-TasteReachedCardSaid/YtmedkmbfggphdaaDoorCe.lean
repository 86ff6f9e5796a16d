/- A book with one more sitting of one taste: what can be. No condition. -/
import Derived.Test.YtmedkmbfggphdaaDoorCb
set_option linter.unusedSimpArgs false
set_option linter.unusedVariables false
set_option linter.constructorNameAsVariable false
namespace Go.Proofs.YtmedkmbfggphdaaDoor
open Go.RowKit

/-- One more sitting of one taste. -/
def BK.add (b : BK) (lot lo hi : Int) : BK := ⟨b.lo, b.hi, b.lots, b.n + 1, fun k => if k = b.n then 1 else b.m k, fun k j => if k = b.n then ⟨lot, lo, hi⟩ else b.t k j⟩
theorem add_m {b : BK} {lot lo hi : Int} {k : Nat} (h : k < b.n) : (b.add lot lo hi).m k = b.m k := if_neg (by omega)
theorem add_t {b : BK} {lot lo hi : Int} {k : Nat} (h : k < b.n) : (b.add lot lo hi).t k = b.t k := by funext j; exact if_neg (by omega)
theorem add_mn {b : BK} {lot lo hi : Int} : (b.add lot lo hi).m b.n = 1 := if_pos rfl
theorem add_tn {b : BK} {lot lo hi : Int} (j : Nat) : (b.add lot lo hi).t b.n j = ⟨lot, lo, hi⟩ := if_pos rfl
theorem add_upto (b : BK) (lot lo hi : Int) : ∀ k, k ≤ b.n → (b.add lot lo hi).upto k = b.upto k
  | 0, _ => rfl
  | k + 1, h => by simp only [BK.upto]; rw [add_upto b lot lo hi k (by omega), add_m (by omega)]
theorem add_total (b : BK) (lot lo hi : Int) : (b.add lot lo hi).total = b.total + 1 := by
  show (b.add lot lo hi).upto (b.n + 1) = b.upto b.n + 1
  simp only [BK.upto]; rw [add_upto b lot lo hi b.n (Nat.le_refl _), add_mn]
theorem add_valid {b : BK} (hv : b.Valid) (hn : b.n < 4) (ht : b.total < 12) {lot lo hi : Int} (h0 : 0 ≤ lot) (h1 : lot < b.lots) (h2 : -1000 ≤ lo) (h3 : lo ≤ hi) (h4 : hi ≤ 1000) : (b.add lot lo hi).Valid := by
  have key : ∀ k, k < b.n + 1 → k < b.n ∨ k = b.n := fun k hk => by omega
  refine ⟨hv.lo0, hv.lohi, hv.hi50, hv.lots1, hv.lots6, by show b.n + 1 ≤ 4; omega, fun k hk => ?_, by rw [add_total]; omega, fun k j hk hj => ?_, fun k j hk hj => ?_, fun k j hk hj => ?_, fun k j hk hj => ?_, fun k j hk hj => ?_⟩
  · rcases key k hk with h | rfl
    · rw [add_m h]; exact hv.pos k h
    · rw [add_mn]; omega
  all_goals
    rcases key k hk with h | rfl
    · rw [add_m h] at hj
      rw [add_t h]
      first | exact hv.lot0 k j h hj | exact hv.lot1 k j h hj | exact hv.said0 k j h hj | exact hv.said1 k j h hj | exact hv.said2 k j h hj
    · rw [add_tn]
      first | exact h0 | exact h1 | exact h2 | exact h3 | exact h4
theorem add_small {b : BK} (hs : b.Small) (hn : b.n < 4) (lot lo hi : Int) : (b.add lot lo hi).Small := by
  refine ⟨by show b.n + 1 ≤ 8; omega, fun k hk => ?_⟩
  have hk' : k < b.n + 1 := hk
  by_cases h : k < b.n
  · rw [add_m h]; exact hs.2 k h
  · obtain rfl : k = b.n := by omega
    rw [add_mn]; omega
theorem can_add (b : BK) (L : Nat) (lot lo hi : Int) (z : Nat → Int) : Can (b.add lot lo hi) L z ↔ Can b L z ∧ lo ≤ z lot.toNat ∧ z lot.toNat ≤ hi := by
  constructor
  · rintro ⟨h1, h2⟩
    refine ⟨⟨h1, fun s hs => ?_⟩, ?_⟩
    · have := h2 s (by show s < b.n + 1; omega)
      rw [add_m hs, add_t hs] at this
      exact this
    · obtain ⟨y, hy⟩ := h2 b.n (by show b.n < b.n + 1; omega)
      have := hy.say 0 (by rw [add_mn]; omega)
      rw [add_tn, hy.one] at this
      simpa using this
  · rintro ⟨⟨h1, h2⟩, h3, h4⟩
    refine ⟨h1, fun s hs => ?_⟩
    have hs' : s < b.n + 1 := hs
    by_cases h : s < b.n
    · have := h2 s h
      rw [add_m h, add_t h]
      exact this
    · obtain rfl : s = b.n := by omega
      refine ⟨fun _ => 0, rfl, fun j hj => by rw [add_mn] at hj; omega, fun j hj => ?_⟩
      rw [add_tn]
      simp only [Int.sub_zero]
      exact ⟨h3, h4⟩
/-- A number of a Span is had: the Span is just it then, and no Span is wider. -/
theorem reach_in (b : BK) (hv : b.Valid) (L : Nat) (hL : b.lots = L) (hn4 : b.n < 4) (ht : b.total < 12) (hn : noneB b.es = false) (A : Nat) (hA : A < L) (v : Int) (h1 : endV b false (1 + A) ≤ v) (h2 : v ≤ endV b true (1 + A)) :
    (b.add A v v).Valid ∧ noneB (b.add A v v).es = false ∧ endV (b.add A v v) false (1 + A) = v ∧ endV (b.add A v v) true (1 + A) = v ∧
      ∀ i, i < L → endV b false (1 + i) ≤ endV (b.add A v v) false (1 + i) ∧ endV (b.add A v v) true (1 + i) ≤ endV b true (1 + i) := by
  have hs := span_in b hv hn L hL A hA
  have hva : (b.add A v v).Valid := add_valid hv hn4 ht (by omega) (by omega) (by omega) (by omega) (by omega)
  obtain ⟨z, hz, hzA⟩ := can_mid b hv L hL hn A hA v h1 h2
  have hca : Can (b.add A v v) L z := (can_add b L A v v z).2 ⟨hz, by rw [Int.toNat_natCast]; omega, by rw [Int.toNat_natCast]; omega⟩
  have hna : noneB (b.add A v v).es = false := (none_can _ hva L hL).2 ⟨z, hca⟩
  have hl := (can_add b L A v v _).1 (can_low _ hva L hL hna)
  have hh := (can_add b L A v v _).1 (can_high _ hva L hL hna)
  simp only [Int.toNat_natCast] at hl hh
  exact ⟨hva, hna, by omega, by omega, (can_sub hv hva L hL hL (fun z h => ((can_add b L A v v z).1 h).1) hna).2⟩
/-- Beyond the ends there is no truth. -/
theorem reach_out (b : BK) (hv : b.Valid) (L : Nat) (hL : b.lots = L) (hn4 : b.n < 4) (ht : b.total < 12) (hn : noneB b.es = false) (A : Nat) (hA : A < L) (lo hi : Int) (h1 : -1000 ≤ lo) (h2 : lo ≤ hi) (h3 : hi ≤ 1000)
    (h4 : hi < endV b false (1 + A) ∨ endV b true (1 + A) < lo) : (b.add A lo hi).Valid ∧ noneB (b.add A lo hi).es = true := by
  have hva : (b.add A lo hi).Valid := add_valid hv hn4 ht (by omega) (by omega) h1 h2 h3
  refine ⟨hva, ?_⟩
  cases hc : noneB (b.add A lo hi).es with
  | true => rfl
  | false =>
    obtain ⟨z, hz⟩ := (none_can _ hva L hL).1 hc
    have hz' := (can_add b L A lo hi z).1 hz
    have := can_in b hv L hL hn hz'.1 A hA
    rw [Int.toNat_natCast] at hz'
    omega
end Go.Proofs.YtmedkmbfggphdaaDoor
