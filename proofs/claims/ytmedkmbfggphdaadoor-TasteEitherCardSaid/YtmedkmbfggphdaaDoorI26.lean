/- The reference: CheckTruth. -/
import Derived.Test.YtmedkmbfggphdaaDoorI66
set_option linter.unusedSimpArgs false
set_option linter.unusedVariables false
set_option linter.constructorNameAsVariable false
namespace Go.Proofs.YtmedkmbfggphdaaDoor
open Go.RowKit

def truthR (b : BK) (n m : Nat) (f g : Nat → Int) : Int :=
  if checkB b ≠ 0 then checkB b else if b.lots ≠ n ∨ b.total ≠ m then 15 else if isT b f g n = false then 17 else 0
/-- What the program says of two lists, the reference says. -/
theorem truthR_eq (b : BK) (xs ys : List Int) (hx : In64 xs) (hy : In64 ys) : truthR b xs.length ys.length (nthI xs) (nthI ys) = truthC b xs ys := by
  unfold truthR truthC
  by_cases h : checkB b ≠ 0
  · rw [if_pos h, if_pos h]
  · rw [if_neg h, if_neg h]
    by_cases h2 : b.lots ≠ xs.length ∨ b.total ≠ ys.length
    · rw [if_pos h2, if_pos h2]
    · rw [if_neg h2, if_neg h2, isT_allows b (checkB_valid (by omega)) xs ys (by omega) hx hy]

set_option maxRecDepth 20000 in
set_option maxHeartbeats 8000000 in
theorem RCheckTruth_any (w : World) (b : BK) (p q r : Option Addr) (cap n c m d : Nat) (f g : Nat → Int) (hs : b.Small) (hb : BookAt w.heap.size w p b) (hq : Row w.heap.size w q n fun k => .int .i64 (f k)) (hr : Row w.heap.size w r m fun k => .int .i64 (g k)) :
    Calls Tryd.prog 26 #[bookV b p cap, .slice q n c, .slice r m d] w fun e w' => e = .returned (.int .i64 (truthR b n m f g)) ∧ Pure w w' := by
  have HB := Lib.hid hb
  have HQ := Lib.hid hq
  have HR := Lib.hid hr
  clear hb hq hr
  go_enter Tryd.func26, Tryd.ntmps26
  go_wp2_with fail
  obtain ⟨X, hX⟩ : ∃ X, w.alloc (.cells (bookC b p cap) 26) = X := ⟨_, rfl⟩
  have hP : Hid (Pure w X) := by rw [← hX]; exact (Diff.refl w).alloc _
  have hX1 : BoxB w.heap.size b p cap X := by rw [← hX]; exact BoxB.new w b p cap 26
  obtain ⟨g0, hg0⟩ : ∃ g, w.heap.size = g := ⟨_, rfl⟩
  rw [hX]
  rw [hg0] at hX1 ⊢
  clear hX hg0
  have H0 := Lib.hid hX1
  obtain ⟨c0, c1, c2, c3, cl⟩ := hX1
  go_wp2_with fail
  refine (RCheckBook_any X b p cap hs (HB.out.to hP.out)).mono ?_
  rintro e w1 ⟨rfl, hp1⟩
  have hP1 : Hid (Pure w w1) := hP.out.trans hp1
  have H1 := Lib.hid (H0.out.pure hp1)
  clear c0 c1 c2 c3 cl hp1 hP H0
  obtain ⟨c0, c1, c2, c3, cl⟩ := H1.out
  by_cases hck : checkB b = 0
  · have hv := checkB_valid hck
    have HCK := Lib.hid hck
    rw [hck]
    clear hck
    by_cases hn : (n : Int) = b.lots
    · have HN := Lib.hid hn
      have hn1 : ((n : Int) != b.lots) = false := by simp [hn]
      clear hn
      go_wp2_with fail
      refine (Tastes_len w1 b p cap hv (HB.out.to hP1.out)).mono ?_
      rintro e w2 ⟨⟨q2, d2, rfl⟩, hp2⟩
      have hP2 : Hid (Pure w w2) := hP1.out.trans hp2
      have H2 := Lib.hid (H1.out.pure hp2)
      clear c0 c1 c2 c3 cl hp2 hP1 H1 hn1
      obtain ⟨c0, c1, c2, c3, cl⟩ := H2.out
      by_cases hm : m = b.total
      · have hm1 : ((m : Int) != (b.total : Int)) = false := by simp [hm]
        have HM := Lib.hid hm
        clear hm
        go_wp2_with fail
        have hr2 := HR.out.to hP2.out
        rw [HM.out] at hr2 ⊢
        refine (IsTruth_any w2 b p q r cap n c d f g hv (HB.out.to hP2.out) HN.out.symm (HQ.out.to hP2.out) hr2).mono ?_
        rintro e w3 ⟨rfl, hp3⟩
        have hP3 : Hid (Pure w w3) := hP2.out.trans hp3
        clear hp3 hr2
        have HT : Hid (truthR b n m f g = if isT b f g n = false then 17 else 0) := by show _ = _; unfold truthR; rw [if_neg (by have := HCK.out; omega), if_neg (by have := HN.out; have := HM.out; omega)]
        cases hi : isT b f g n with
        | true =>
          go_wp2_with fail
          exact bodyPost_ret (v := .int .i64 0) (by simp [results, Tryd.results26, go_sem]) rfl ⟨by rw [HT.out, hi]; rfl, hP3.out⟩
        | false =>
          go_wp2_with fail
          exact bodyPost_ret (v := .int .i64 17) (by simp [results, Tryd.results26, go_sem]) rfl ⟨by rw [HT.out, hi]; rfl, hP3.out⟩
      · have hm1 : ((m : Int) != (b.total : Int)) = true := by simp; omega
        have HT : Hid (truthR b n m f g = 15) := by show _ = _; unfold truthR; rw [if_neg (by have := HCK.out; omega), if_pos (.inr (by omega))]
        clear hm
        go_wp2_with fail
        exact bodyPost_ret (v := .int .i64 15) (by simp [results, Tryd.results26, go_sem]) rfl ⟨by rw [HT.out], hP2.out⟩
    · have hn1 : ((n : Int) != b.lots) = true := by simp [hn]
      have HT : Hid (truthR b n m f g = 15) := by show _ = _; unfold truthR; rw [if_neg (by have := HCK.out; omega), if_pos (.inl (by omega))]
      clear hn
      go_wp2_with fail
      exact bodyPost_ret (v := .int .i64 15) (by simp [results, Tryd.results26, go_sem]) rfl ⟨by rw [HT.out], hP1.out⟩
  · go_wp2_with fail
    refine (RCheckBook_any w1 b p cap hs (HB.out.to hP1.out)).mono ?_
    rintro e w2 ⟨rfl, hp2⟩
    have hP2 : Hid (Pure w w2) := hP1.out.trans hp2
    clear hp2
    go_wp2_with fail
    exact bodyPost_ret (v := .int .i64 (checkB b)) (by simp [results, Tryd.results26, go_sem]) rfl ⟨by unfold truthR; rw [if_pos hck], hP2.out⟩
end Go.Proofs.YtmedkmbfggphdaaDoor
