/- Walk of the law's count. -/
import Derived.Test.YtgpfmnjianflaaaDoorM9
import Derived.Test.YtgpfmnjianflaaaDoorD2
set_option linter.unusedSimpArgs false
set_option linter.unusedVariables false
set_option linter.constructorNameAsVariable false
namespace Go.Proofs.YtgpfmnjianflaaaDoor
open Go.RowKit

/-- How many of the first n are not 0. -/
def cntTo (f : Nat → Int) : Nat → Nat
  | 0 => 0
  | n + 1 => cntTo f n + if f n = 0 then 0 else 1
theorem cntTo_le (f : Nat → Int) : ∀ n, cntTo f n ≤ n
  | 0 => Nat.le_refl _
  | n + 1 => by
    have := cntTo_le f n
    unfold cntTo
    split <;> omega
theorem cntTo_two {f : Nat → Int} {i k : Nat} (h : ∀ m, m ≠ i → m ≠ k → f m = 0) : ∀ n, cntTo f n ≤ (if i < n then 1 else 0) + if k < n then 1 else 0
  | 0 => by simp [cntTo]
  | n + 1 => by
    have h1 := cntTo_two h n
    unfold cntTo
    by_cases hi : n = i
    · subst hi
      rw [if_neg (Nat.lt_irrefl _)] at h1
      rw [if_pos (Nat.lt_succ_self _)]
      by_cases hk : n = k
      · subst hk; rw [if_neg (Nat.lt_irrefl _)] at h1; rw [if_pos (Nat.lt_succ_self _)]; split <;> omega
      · by_cases hk2 : k < n
        · rw [if_pos hk2] at h1; rw [if_pos (Nat.lt_succ_of_lt hk2)]; split <;> omega
        · rw [if_neg hk2] at h1; split <;> split <;> omega
    · by_cases hk : n = k
      · subst hk
        rw [if_neg (Nat.lt_irrefl _)] at h1
        rw [if_pos (Nat.lt_succ_self n)]
        by_cases hk2 : i < n
        · rw [if_pos hk2] at h1; rw [if_pos (Nat.lt_succ_of_lt hk2)]; split <;> omega
        · rw [if_neg hk2] at h1; split <;> split <;> omega
      · rw [if_pos (h n hi hk)]
        have e1 : (if i < n + 1 then 1 else 0) = if i < n then 1 else 0 := by
          by_cases hi2 : i < n
          · rw [if_pos hi2, if_pos (by omega)]
          · rw [if_neg hi2, if_neg (by omega)]
        have e2 : (if k < n + 1 then 1 else 0) = if k < n then 1 else 0 := by
          by_cases hi2 : k < n
          · rw [if_pos hi2, if_pos (by omega)]
          · rw [if_neg hi2, if_neg (by omega)]
        rw [e1, e2]
        omega
theorem cntTo_small {f : Nat → Int} {i k : Nat} (h : ∀ m, m ≠ i → m ≠ k → f m = 0) (n : Nat) : cntTo f n ≤ 2 := by
  have := cntTo_two h n
  split at this <;> split at this <;> omega
theorem count_any (w : World) (q : Option Addr) (n c : Nat) (f : Nat → Int) (hn : n ≤ 1000) (hq : Row w.heap.size w q n fun k => .int .i64 (f k)) :
    Calls Tryd.prog 32 #[.slice q n c] w fun e w' => e = .returned (.int .i64 (cntTo f n)) ∧ Pure w w' := by
  have HA := Lib.hid hq
  clear hq
  go_enter Tryd.func32, Tryd.ntmps32
  go_wp2
  go_loopw [3, 4] (fun s i wr => ∃ k : Nat, k ≤ n ∧ i = .int .i64 k ∧ s = .int .i64 (cntTo f k) ∧ Hid (Pure w wr)) (fun s i _ => n - (intOf i).toNat)
  case atStart => exact ⟨0, Nat.zero_le _, rfl, rfl, Diff.refl _⟩
  case round =>
    obtain ⟨k, hk, rfl, rfl, HP⟩ := hrel
    by_cases hlt : k < n
    · obtain ⟨b, o, rfl, hb, hc⟩ := HA.out k hlt
      have d0 := ((pcell HP.out).1 _ _ hb).trans hc
      have l0 := Nat.lt_of_lt_of_le hb HP.out.size
      have hki : (k : Int) < (n : Int) := by omega
      have hcl := cntTo_le f k
      obtain ⟨x, hx⟩ : ∃ x, cntTo f k = x := ⟨_, rfl⟩
      have hxk : x ≤ 1000 := by omega
      clear hc hcl
      by_cases hf : f k = 0
      · have hb1 : (f k != 0) = false := by simpa using hf
        have HS : Hid (cntTo f (k + 1) = x) := by show _ = _; unfold cntTo; rw [if_pos hf, hx]; rfl
        rw [hx]
        clear hf hx
        go_wp2
        go_roundw
        case rel => exact ⟨k + 1, by omega, by go_num, by rw [HS.out], HP.out⟩
        case measure => simp [intOf]; omega
      · have hb1 : (f k != 0) = true := by simpa using hf
        have HS : Hid (cntTo f (k + 1) = x + 1) := by show _ = _; unfold cntTo; rw [if_neg hf, hx]
        rw [hx]
        clear hf hx
        go_wp2
        go_roundw
        case rel => exact ⟨k + 1, by omega, by go_num, by rw [HS.out]; go_num, HP.out⟩
        case measure => simp [intOf]; omega
    · obtain rfl : k = n := by omega
      go_wp2
      exact bodyPost_ret (v := .int .i64 (cntTo f k)) (by simp [results, Tryd.results32, go_sem]) rfl ⟨rfl, HP.out⟩
end Go.Proofs.YtgpfmnjianflaaaDoor
