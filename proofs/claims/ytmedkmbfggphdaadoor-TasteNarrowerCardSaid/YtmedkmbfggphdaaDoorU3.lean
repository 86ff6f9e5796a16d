/- The law's helpers: less01, where it says yes. No condition. -/
import Derived.Test.YtmedkmbfggphdaaDoorU2
set_option linter.unusedSimpArgs false
set_option linter.unusedVariables false
set_option linter.constructorNameAsVariable false
namespace Go.Proofs.YtmedkmbfggphdaaDoor
open Go.RowKit

theorem Rg2.to {N : Nat} {q : Option Addr} {f g : Nat → Int} {w w' : World} (h : Rg2 N q f g w) (hp : Pure w w') : Rg2 N q f g w' := fun i hi => by
  obtain ⟨x, h1, h2, h3, h4⟩ := h i hi
  exact ⟨x, h1, Nat.lt_of_lt_of_le h2 hp.size, ((pcell hp).1 _ _ h2).trans h3, ((pcell hp).1 _ _ h2).trans h4⟩

set_option maxRecDepth 20000 in
set_option maxHeartbeats 4000000 in
theorem less_none (w : World) (b : BK) (p : Option Addr) (cap : Nat) (sv : Value) (was : Bool) (hs : b.Small) (hck : checkB b = 0) (hb : BookAt w.heap.size w p b) (hg : Gl w) (hno : noneB b.es = true) :
    Calls Tryd.prog 55 #[bookV b p cap, sv, .bool was] w fun e w' => e = .returned (.bool true) ∧ Pure w w' := by
  have HB := Lib.hid hb
  have HG := Lib.hid hg
  have HCK := Lib.hid hck
  have HNO := Lib.hid hno
  clear hb hg hck hno
  go_enter Tryd.func55, Tryd.ntmps55
  go_wp2_with fail
  obtain ⟨X, hX⟩ : ∃ X, w.alloc (.cells (bookC b p cap) 26) = X := ⟨_, rfl⟩
  have hP : Hid (Pure w X) := by rw [← hX]; exact (Diff.refl w).alloc _
  have hX1 : BoxB w.heap.size b p cap X := by rw [← hX]; exact BoxB.new w b p cap 26
  obtain ⟨g0, hg0⟩ : ∃ g, w.heap.size = g := ⟨_, rfl⟩
  rw [hX]
  rw [hg0] at hX1 ⊢
  clear hX hg0
  obtain ⟨c0, c1', c2', c3, cl⟩ := hX1
  go_wp2_with fail
  refine (spans_any X b p cap hs HCK.out (HB.out.to hP.out) (HG.out.to hP.out)).mono ?_
  rintro e w1 ⟨hq, hp1⟩
  have he := hq.one HNO.out
  subst he
  clear hq c0 c1' c2' c3 cl
  go_wp2_with fail
  exact bodyPost_ret (v := .bool true) (by simp [results, Tryd.results55, go_sem]) rfl ⟨rfl, hP.out.trans hp1⟩

set_option maxRecDepth 20000 in
set_option maxHeartbeats 4000000 in
theorem less_some (w : World) (b : BK) (p : Option Addr) (cap : Nat) (q : Option Addr) (N d : Nat) (f' g' : Nat → Int) (hs : b.Small) (hck : checkB b = 0) (hb : BookAt w.heap.size w p b) (hg : Gl w) (hno : noneB b.es = false) (hL : b.lots = N) (hr : Rg2 N q f' g' w)
    (hle : ∀ i, i < N → f' i ≤ endV b false (1 + i) ∧ endV b true (1 + i) ≤ g' i) :
    Calls Tryd.prog 55 #[bookV b p cap, .slice q N d, .bool true] w fun e w' => e = .returned (.bool true) ∧ Pure w w' := by
  have hN6 : N ≤ 1000 := by have := (checkB_valid hck).lots6; omega
  have HB := Lib.hid hb
  have HG := Lib.hid hg
  have HCK := Lib.hid hck
  have HNO := Lib.hid hno
  have HL := Lib.hid hL
  have HR := Lib.hid hr
  have HLE := Lib.hid hle
  clear hb hg hck hno hL hr hle
  go_enter Tryd.func55, Tryd.ntmps55
  go_wp2_with fail
  obtain ⟨X, hX⟩ : ∃ X, w.alloc (.cells (bookC b p cap) 26) = X := ⟨_, rfl⟩
  have hP : Hid (Pure w X) := by rw [← hX]; exact (Diff.refl w).alloc _
  have hX1 : BoxB w.heap.size b p cap X := by rw [← hX]; exact BoxB.new w b p cap 26
  obtain ⟨g0, hg0⟩ : ∃ g, w.heap.size = g := ⟨_, rfl⟩
  rw [hX]
  rw [hg0] at hX1 ⊢
  clear hX hg0
  obtain ⟨c0, c1', c2', c3, cl⟩ := hX1
  go_wp2_with fail
  refine (spans_any X b p cap hs HCK.out (HB.out.to hP.out) (HG.out.to hP.out)).mono ?_
  rintro e w1 ⟨hq, hp1⟩
  obtain ⟨sq, sc, rfl, hsp⟩ := hq.two HNO.out HL.out
  have HP1 : Hid (Pure w w1) := hP.out.trans hp1
  have HSP := Lib.hid hsp.rg
  clear hq c0 c1' c2' c3 cl hsp hp1 hP
  go_wp2_with fail
  refine (within_true w1 N sq q sc d _ _ f' g' hN6 HSP.out (HR.out.to HP1.out) HLE.out).mono ?_
  rintro e w2 ⟨rfl, hp2⟩
  go_wp2_with fail
  exact bodyPost_ret (v := .bool true) (by simp [results, Tryd.results55, go_sem]) rfl ⟨rfl, HP1.out.trans hp2⟩
end Go.Proofs.YtmedkmbfggphdaaDoor
