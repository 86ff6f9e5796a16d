/- Plain helpers for the laws: what lies goes on lying; lists that are alike. No condition. -/
import Derived.Test.YtmedkmbfggphdaaDoorL6
import Derived.Test.YtmedkmbfggphdaaDoorH1
import Derived.Test.YtmedkmbfggphdaaDoorH3
import Derived.Test.YtmedkmbfggphdaaDoorH4
set_option linter.unusedSimpArgs false
set_option linter.unusedVariables false
set_option linter.constructorNameAsVariable false
namespace Go.Proofs.YtmedkmbfggphdaaDoor
open Go.RowKit

theorem Row.to {w w' : World} {q : Option Addr} {n : Nat} {f : Nat → Value} (h : Row w.heap.size w q n f) (hp : Pure w w') : Row w'.heap.size w' q n f := (h.diff hp (Nat.le_refl _) (fun _ _ => id)).mono hp.size
theorem BookAt.to {w w' : World} {p : Option Addr} {b : BK} (h : BookAt w.heap.size w p b) (hp : Pure w w') : BookAt w'.heap.size w' p b := (h.diff hp (Nat.le_refl _) (fun _ _ => id)).mono hp.size
theorem Gl.to {w w' : World} (h : Gl w) (hp : Pure w w') : Gl w' := h.diff hp (fun _ _ => id)
theorem eqTo_self (f : Nat → Int) (n : Nat) : eqTo f f n = true := by simp [eqTo]
/-- Longs of two lists that are alike. -/
theorem Longs_same (w : World) (q r : Option Addr) (n c d : Nat) (f g : Nat → Int) (hn : n ≤ 1000) (hfg : ∀ k, k < n → f k = g k) (hq : Row w.heap.size w q n fun k => .int .i64 (f k)) (hr : Row w.heap.size w r n fun k => .int .i64 (g k)) :
    Calls Tryd.prog 33 #[.slice q n c, .slice r n d] w fun e w' => e = .returned (.bool true) ∧ Pure w w' := by
  refine (Longs_any w q r n n c d f g hn hn hq hr).mono ?_
  rintro e w' ⟨rfl, hp⟩
  have : eqTo f g n = true := by
    simp only [eqTo, List.all_eq_true, List.mem_range, beq_iff_eq]
    exact hfg
  exact ⟨by rw [this]; simp, hp⟩
theorem Ints_same (w : World) (q r : Option Addr) (n c d : Nat) (f g : Nat → Int) (hn : n ≤ 1000) (hfg : ∀ k, k < n → f k = g k) (hq : Row w.heap.size w q n fun k => .int .i64 (f k)) (hr : Row w.heap.size w r n fun k => .int .i64 (g k)) :
    Calls Tryd.prog 46 #[.slice q n c, .slice r n d] w fun e w' => e = .returned (.bool true) ∧ Pure w w' := by
  refine (Ints_any w q r n n c d f g hn hn hq hr).mono ?_
  rintro e w' ⟨rfl, hp⟩
  have : eqTo f g n = true := by
    simp only [eqTo, List.all_eq_true, List.mem_range, beq_iff_eq]
    exact hfg
  exact ⟨by rw [this]; simp, hp⟩
end Go.Proofs.YtmedkmbfggphdaaDoor
