/- The law's helpers: great. No condition. -/
import Derived.Test.YtmedkmbfggphdaaDoorR5
set_option linter.unusedSimpArgs false
set_option linter.unusedVariables false
set_option linter.constructorNameAsVariable false
namespace Go.Proofs.YtmedkmbfggphdaaDoor
open Go.RowKit

/-- The greatest number of tastes of the first k sittings. -/
def BK.most (b : BK) : Nat → Nat
  | 0 => 0
  | k + 1 => max (b.most k) (b.m k)
def hugeB (b : BK) : Bool := if 8 < b.n then true else decide (16 < b.most b.n)
theorem BK.le_most (b : BK) : ∀ n k, k < n → b.m k ≤ b.most n
  | n + 1, k, h => by
    simp only [BK.most]
    by_cases e : k = n
    · subst e; omega
    · have := b.le_most n k (by omega); omega
theorem small_of_huge {b : BK} (h : hugeB b = false) : b.Small := by
  unfold hugeB at h
  split at h
  · cases h
  · simp only [decide_eq_false_iff_not] at h
    exact ⟨by omega, fun k hk => by have := b.le_most b.n k hk; omega⟩

set_option maxHeartbeats 2000000 in
theorem great_any (w : World) (b : BK) (p : Option Addr) (cap : Nat) (hb : BookAt w.heap.size w p b) :
    Calls Tryd.prog 19 #[.agg #[.int .i64 b.lo, .int .i64 b.hi, .int .i64 b.lots, .slice p b.n cap]] w fun e w' => e = .returned (.bool (hugeB b)) ∧ Pure w w' := by
  go_enter Tryd.func19, Tryd.ntmps19
  by_cases h8 : 8 < b.n
  · have h8i : 8 < (b.n : Int) := by omega
    go_wp2_with fail
    exact bodyPost_ret (v := .bool true) (by simp [results, Tryd.results19, go_sem]) rfl ⟨by unfold hugeB; rw [if_pos h8], (Diff.refl w).alloc _⟩
  · have h8i : ¬ 8 < (b.n : Int) := by omega
    go_wp2_with fail
    obtain ⟨X, hX⟩ : ∃ X, w.alloc (.cells #[.int .i64 b.lo, .int .i64 b.hi, .int .i64 b.lots, .slice p b.n cap] 26) = X := ⟨_, rfl⟩
    have HP : Hid (Pure w X) := by rw [← hX]; exact (Diff.refl w).alloc _
    have hX1 : X.heap[w.heap.size]? = some (.cells #[.int .i64 b.lo, .int .i64 b.hi, .int .i64 b.lots, .slice p b.n cap] 26 (0, 0)) := by rw [← hX]; exact World.alloc_heap_new _ _
    have HB : Hid (BookAt w.heap.size w p b) := hb
    have z3 : X.cell? ⟨w.heap.size, 3, none⟩ = some (.slice p b.n cap) := by rw [cell_of_row X _ _ _ _ _ hX1]; rfl
    have hl : w.heap.size < X.heap.size := (Array.getElem?_eq_some_iff.1 hX1).1
    obtain ⟨gb, hgb⟩ : ∃ gb, w.heap.size = gb := ⟨_, rfl⟩
    rw [hX]
    rw [hgb] at z3 hl ⊢
    clear hX hX1 hb hgb
    go_loopw [3, 4] (fun m i wr => ∃ k : Nat, k ≤ b.n ∧ i = .int .i64 k ∧ m = .int .i64 (b.most k : Nat) ∧ Hid (Pure X wr)) (fun _ i _ => b.n - (intOf i).toNat)
    case atStart => exact ⟨0, Nat.zero_le _, rfl, rfl, Diff.refl _⟩
    case round =>
      obtain ⟨k, hk, rfl, rfl, HPr⟩ := hrel
      have z3r := ((pcell HPr.out).1 _ _ hl).trans z3
      by_cases hkn : k < b.n
      · obtain ⟨sb, so, q, c, rfl, hsb, hc, -⟩ := HB.out k hkn
        have hcr := ((pcell (HP.out.trans HPr.out)).1 _ _ hsb).trans hc
        have hki : (k : Int) < b.n := by omega
        have hk0 : (0 : Int) ≤ k := by omega
        clear hc
        go_wp2_with fail
        refine ⟨⟨k + 1, by omega, by push_cast; rfl, ?_, HPr.out⟩, by simp only [intOf]; omega⟩
        have : (if b.most k < b.m k then ((b.m k : Nat) : Int) else ((b.most k : Nat) : Int)) = ((max (b.most k) (b.m k) : Nat) : Int) := by split <;> omega
        rw [this]; rfl
      · obtain rfl : k = b.n := by omega
        go_wp2_with fail
        exact bodyPost_ret (v := .bool (decide (16 < (b.most b.n : Int)))) (by simp [results, Tryd.results19, go_sem]) rfl ⟨by unfold hugeB; rw [if_neg h8]; exact congrArg (fun x => Ending.returned (Value.bool x)) (decide_eq_decide.2 (by omega)), HP.out.trans HPr.out⟩
/-- Two lists are alike: f28. -/
theorem alikeLongs_any (w : World) (q r : Option Addr) (n m c d : Nat) (f : Nat → Int) (hn : n ≤ 1000) (hm : n = m) (hq : Row w.heap.size w q n fun k => .int .i64 (f k)) (hr : Row w.heap.size w r m fun k => .int .i64 (f k)) :
    Calls Tryd.prog 28 #[.slice q n c, .slice r m d] w fun e w' => e = .returned (.bool true) ∧ Pure w w' := by
  subst hm
  go_enter Tryd.func28, Tryd.ntmps28
  go_wp2_with fail
  go_loopw [5] (fun i wr => ∃ k : Nat, k ≤ n ∧ i = .int .i64 k ∧ Hid (Pure w wr)) (fun i _ => n - (intOf i).toNat)
  case atStart => exact ⟨0, Nat.zero_le _, rfl, Diff.refl _⟩
  case round =>
    obtain ⟨k, hk, rfl, HPr⟩ := hrel
    by_cases hkn : k < n
    · obtain ⟨qb, qo, rfl, hqb, zq⟩ := hq k hkn
      obtain ⟨rb, ro, rfl, hrb, zr⟩ := hr k hkn
      have yq := ((pcell HPr.out).1 _ _ hqb).trans zq
      have yr := ((pcell HPr.out).1 _ _ hrb).trans zr
      have hki : (k : Int) < n := by omega
      have hk0 : (0 : Int) ≤ k := by omega
      clear zq zr
      go_wp2_with fail
      go_region
      go_wp2_with fail
      exact ⟨⟨k + 1, by omega, by push_cast; rfl, HPr.out.trans (Diff.refl _).drew⟩, by simp only [intOf]; omega⟩
    · obtain rfl : k = n := by omega
      go_wp2_with fail
      exact bodyPost_ret (v := .bool true) (by simp [results, Tryd.results28, go_sem]) rfl ⟨rfl, HPr.out⟩
end Go.Proofs.YtmedkmbfggphdaaDoor
