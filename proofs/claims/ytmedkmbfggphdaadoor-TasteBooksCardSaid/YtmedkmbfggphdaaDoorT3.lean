/- TasteBooks: which books are valid, and which numbers are a truth, is what the reference says. The walk of the law, for any book in memory and any two lists. -/
import Derived.Test.YtmedkmbfggphdaaDoorI26
import Derived.Test.YtmedkmbfggphdaaDoorH6
set_option linter.unusedSimpArgs false
set_option linter.unusedVariables false
set_option linter.constructorNameAsVariable false
namespace Go.Proofs.YtmedkmbfggphdaaDoor
open Go.RowKit

theorem alikeLongs_row (w : World) (q r : Option Addr) (n c d : Nat) (f : Nat → Int) (hn : n ≤ 1000) (hq : Row w.heap.size w q n fun k => .int .i64 (f k)) (hr : Row w.heap.size w r n fun k => .int .i64 (f k)) :
    Calls Tryd.prog 28 #[.slice q n c, .slice r n d] w fun e w' => e = .returned (.bool true) ∧ Pure w w' := alikeLongs_any w q r n n c d f hn rfl hq hr
theorem truthR_congr (b : BK) (n m : Nat) (f g f' g' : Nat → Int) (hf : ∀ i, i < n → f i = f' i) (hg : ∀ i, i < m → g i = g' i) : truthR b n m f g = truthR b n m f' g' := by
  unfold truthR
  by_cases h : checkB b ≠ 0
  · rw [if_pos h, if_pos h]
  · rw [if_neg h, if_neg h]
    by_cases h2 : b.lots ≠ n ∨ b.total ≠ m
    · rw [if_pos h2, if_pos h2]
    · rw [if_neg h2, if_neg h2]
      have hv := checkB_valid (b := b) (by omega)
      have e1 : isT b f g n = isT b f' g' n := by
        unfold isT
        have a1 : sharpTo f n = sharpTo f' n := by
          unfold sharpTo
          rw [Bool.eq_iff_iff, List.all_eq_true, List.all_eq_true]
          exact ⟨fun h i hi => by rw [← hf i (by simpa using hi)]; exact h i hi, fun h i hi => by rw [hf i (by simpa using hi)]; exact h i hi⟩
        have tk : ∀ k, k < b.total → tOk b f g k = tOk b f' g' k := fun k hk => by
          have hok := b.at_ok hv k
          have l0 := hok.lot0
          have l1 := hok.lot1
          unfold tOk
          rw [hg k (by omega), hf (b.at' k).2.lot.toNat (by omega)]
          cases hfst : (b.at' k).1 with
          | true => rfl
          | false =>
            have hk1 : 1 ≤ k := by
              by_cases e : k = 0
              · subst e; have := b.fst_zero hv (by omega); rw [hfst] at this; cases this
              · omega
            rw [hg (k - 1) (by omega)]
        have a2 : tiredTo b f g b.total = tiredTo b f' g' b.total := by
          unfold tiredTo
          rw [Bool.eq_iff_iff, List.all_eq_true, List.all_eq_true]
          exact ⟨fun h i hi => by rw [← tk i (by simpa using hi)]; exact h i hi, fun h i hi => by rw [tk i (by simpa using hi)]; exact h i hi⟩
        rw [a1, a2]
      rw [e1]

set_option maxRecDepth 20000 in
set_option maxHeartbeats 8000000 in
theorem Books_any (w : World) (b : BK) (p : Option Addr) (cap : Nat) (q1 : Option Addr) (n1 c1 : Nat) (f1 : Nat → Int) (q2 : Option Addr) (n2 c2 : Nat) (f2 : Nat → Int) (hb : BookAt w.heap.size w p b) (hr1 : Row w.heap.size w q1 n1 fun k => .int .i64 (f1 k)) (hw1 : ∀ i, i < n1 → (Lit.int .i64 (f1 i)).wf = true)
    (hr2 : Row w.heap.size w q2 n2 fun k => .int .i64 (f2 k)) (hw2 : ∀ i, i < n2 → (Lit.int .i64 (f2 i)).wf = true) (hg : Gl w) :
    Calls Tryd.prog 3 #[bookV b p cap, .slice q1 n1 c1, .slice q2 n2 c2] w fun e w' => e = .returned (.bool true) ∧ Pure w w' := by
  have hmx : Tryd.prog.follows .mixedOrders = true := by kernel_rfl
  have HR1 := Lib.hid hr1
  have HR2 := Lib.hid hr2
  have HI1 := Lib.hid (In64.of_map hw1)
  have HI2 := Lib.hid (In64.of_map hw2)
  clear hr1 hr2 hw1 hw2
  have HB := Lib.hid hb
  have HG := Lib.hid hg
  clear hb hg
  go_enter Tryd.func3, Tryd.ntmps3
  go_wp2_with fail
  obtain ⟨X, hX⟩ : ∃ X, w.alloc (.cells (bookC b p cap) 26) = X := ⟨_, rfl⟩
  have hP : Hid (Pure w X) := by rw [← hX]; exact (Diff.refl w).alloc _
  have hX1 : BoxB w.heap.size b p cap X := by rw [← hX]; exact BoxB.new w b p cap 26
  obtain ⟨g0, hg0⟩ : ∃ g, w.heap.size = g := ⟨_, rfl⟩
  rw [hX]
  rw [hg0] at hX1 ⊢
  clear hX hg0
  have H0 := Lib.hid hX1
  obtain ⟨c0, c1, c2, c3, cl⟩ := hX1
  refine (great_any X b p cap (HB.out.to hP.out)).mono ?_
  rintro e w1 ⟨rfl, hp1⟩
  have hP1 : Hid (Pure w w1) := hP.out.trans hp1
  have H1 := Lib.hid (H0.out.pure hp1)
  clear c0 c1 c2 c3 cl hp1 hP H0
  obtain ⟨c0, c1, c2, c3, cl⟩ := H1.out
  cases hgr : hugeB b with
  | true =>
    go_wp2_with fail
    refine (Works_any w1 (HG.out.to hP1.out)).mono ?_
    rintro e w2 ⟨rfl, hp2⟩
    have hP2 : Hid (Pure w w2) := hP1.out.trans hp2
    clear hp2
    go_wp2_with fail
    exact bodyPost_ret (v := .bool true) (by simp [results, Tryd.results3, go_sem]) rfl ⟨rfl, hP2.out⟩
  | false =>
    by_cases h1 : 30 < n1
    · have h30i : 30 < (n1 : Int) := by omega
      go_wp2_with fail
      refine (Works_any w1 (HG.out.to hP1.out)).mono ?_
      rintro e w2 ⟨rfl, hp2⟩
      have hP2 : Hid (Pure w w2) := hP1.out.trans hp2
      clear hp2
      go_wp2_with fail
      exact bodyPost_ret (v := .bool true) (by simp [results, Tryd.results3, go_sem]) rfl ⟨rfl, hP2.out⟩
    have h1i : ¬ 30 < (n1 : Int) := by omega
    by_cases h2 : 30 < n2
    · have h30i : 30 < (n2 : Int) := by omega
      go_wp2_with fail
      refine (Works_any w1 (HG.out.to hP1.out)).mono ?_
      rintro e w2 ⟨rfl, hp2⟩
      have hP2 : Hid (Pure w w2) := hP1.out.trans hp2
      clear hp2
      go_wp2_with fail
      exact bodyPost_ret (v := .bool true) (by simp [results, Tryd.results3, go_sem]) rfl ⟨rfl, hP2.out⟩
    have h2i : ¬ 30 < (n2 : Int) := by omega
    have hs := small_of_huge hgr
    go_wp2_with fail
    refine (twinBook_any w1 b p cap hs (HB.out.to hP1.out)).mono ?_
    rintro e w2 ⟨p', cap', rfl, hb2, hp2⟩
    have hP2 : Hid (Pure w w2) := hP1.out.trans hp2
    have H2 := Lib.hid (H1.out.pure hp2)
    have HT := Lib.hid hb2
    clear c0 c1 c2 c3 cl hp2 hP1 H1 hb2
    obtain ⟨c0, c1, c2, c3, cl⟩ := H2.out
    go_wp2_with fail
    clear c0 c1 c2 c3 cl
    obtain ⟨w3, hw3⟩ : ∃ w3, w2.alloc (.cells (bookC b p' cap') 26) = w3 := ⟨_, rfl⟩
    have hp : Pure w2 w3 := by rw [← hw3]; exact (Diff.refl w2).alloc _
    have hC : BoxB w2.heap.size b p' cap' w3 := by rw [← hw3]; exact BoxB.new w2 b p' cap' 26
    obtain ⟨g1, hg1⟩ : ∃ g, w2.heap.size = g := ⟨_, rfl⟩
    rw [hw3]
    rw [hg1] at hC ⊢
    have hP3 : Hid (Pure w w3) := hP2.out.trans hp
    have HA3 := Lib.hid (H2.out.pure hp)
    have HC3 := Lib.hid hC
    have HB3 := Lib.hid (HB.out.to hP3.out)
    have HG3 := Lib.hid (HG.out.to hP3.out)
    have HT3 := Lib.hid (HT.out.to hp)
    have HR13 := Lib.hid (HR1.out.to hP3.out)
    have HR23 := Lib.hid (HR2.out.to hP3.out)
    clear hw3 hg1 hp hC H2 HT HB HG hP2 HR1 HR2
    obtain ⟨za0, za1, za2, za3, zal⟩ := HA3.out
    obtain ⟨zc0, zc1, zc2, zc3, zcl⟩ := HC3.out
    have hn1 : n1 ≤ 30 := by omega
    have hn2 : n2 ≤ 30 := by omega
    refine (twinLongs_list w3 q1 n1 c1 f1 (by omega) HR13.out).mono ?_
    rintro e w4 ⟨s1, d1, rfl, hs1, hp⟩
    have hP4 : Hid (Pure w w4) := hP3.out.trans hp
    have HA4 := Lib.hid (HA3.out.pure hp)
    have HC4 := Lib.hid (HC3.out.pure hp)
    have HB4 := Lib.hid (HB3.out.to hp)
    have HT4 := Lib.hid (HT3.out.to hp)
    have HG4 := Lib.hid (HG3.out.to hp)
    have HR14 := Lib.hid (HR13.out.to hp)
    have HR24 := Lib.hid (HR23.out.to hp)
    have HS14 := Lib.hid (hs1)
    clear hp hP3 HA3 HC3 za0 za1 za2 za3 zal zc0 zc1 zc2 zc3 zcl HB3 HT3 HG3 HR13 HR23
    obtain ⟨za0, za1, za2, za3, zal⟩ := HA4.out
    obtain ⟨zc0, zc1, zc2, zc3, zcl⟩ := HC4.out
    clear hs1
    go_wp2_with fail
    refine (twinLongs_list w4 q2 n2 c2 f2 (by omega) HR24.out).mono ?_
    rintro e w5 ⟨s2, d2, rfl, hs2, hp⟩
    have hP5 : Hid (Pure w w5) := hP4.out.trans hp
    have HA5 := Lib.hid (HA4.out.pure hp)
    have HC5 := Lib.hid (HC4.out.pure hp)
    have HB5 := Lib.hid (HB4.out.to hp)
    have HT5 := Lib.hid (HT4.out.to hp)
    have HG5 := Lib.hid (HG4.out.to hp)
    have HR15 := Lib.hid (HR14.out.to hp)
    have HR25 := Lib.hid (HR24.out.to hp)
    have HS15 := Lib.hid (HS14.out.to hp)
    have HS25 := Lib.hid (hs2)
    clear hp hP4 HA4 HC4 za0 za1 za2 za3 zal zc0 zc1 zc2 zc3 zcl HB4 HT4 HG4 HR14 HR24 HS14
    obtain ⟨za0, za1, za2, za3, zal⟩ := HA5.out
    obtain ⟨zc0, zc1, zc2, zc3, zcl⟩ := HC5.out
    clear hs2
    go_wp2_with fail
    have HTR : Hid (truthR b n1 n2 f1 f2 = truthC b ((List.range n1).map f1) ((List.range n2).map f2)) := by
      have := truthR_eq b _ _ HI1.out HI2.out
      rw [List.length_map, List.length_map, List.length_range, List.length_range] at this
      show _ = _
      rw [← this]
      exact truthR_congr b n1 n2 _ _ _ _ (fun i hi => (nthI_map f1 n1 i hi).symm) (fun i hi => (nthI_map f2 n2 i hi).symm)
    obtain ⟨X5, hX5⟩ : ∃ v, w5 = v := ⟨_, rfl⟩
    rw [hX5] at hP5 HA5 HC5 HB5 HT5 HG5 HR15 HR25 HS15 HS25 za0 za1 za2 za3 zal zc0 zc1 zc2 zc3 zcl ⊢
    clear hX5
    have hp0 : Hid (Pure X5 X5.drew) := (Diff.refl X5).drew
    have KEY : Hid (∀ w', Pure X5 w' → w'.cell? ⟨g1, 0, none⟩ = some (.int .i64 b.lo) ∧ w'.cell? ⟨g1, 1, none⟩ = some (.int .i64 b.hi) ∧ w'.cell? ⟨g1, 2, none⟩ = some (.int .i64 b.lots) ∧ w'.cell? ⟨g1, 3, none⟩ = some (.slice p' b.n cap') ∧ w'.cell? ⟨g0, 0, none⟩ = some (.int .i64 b.lo) ∧ w'.cell? ⟨g0, 1, none⟩ = some (.int .i64 b.hi) ∧ w'.cell? ⟨g0, 2, none⟩ = some (.int .i64 b.lots) ∧ w'.cell? ⟨g0, 3, none⟩ = some (.slice p b.n cap) ∧ Hid (Pure X5 w')) := fun w' hp => by
      obtain ⟨a0, a1, a2, a3, -⟩ := HC5.out.pure hp
      obtain ⟨e0, e1, e2, e3, -⟩ := HA5.out.pure hp
      exact ⟨a0, a1, a2, a3, e0, e1, e2, e3, hp⟩
    go_region_held3 (fun w' => w'.cell? ⟨g1, 0, none⟩ = some (.int .i64 b.lo) ∧ w'.cell? ⟨g1, 1, none⟩ = some (.int .i64 b.hi) ∧ w'.cell? ⟨g1, 2, none⟩ = some (.int .i64 b.lots) ∧ w'.cell? ⟨g1, 3, none⟩ = some (.slice p' b.n cap') ∧ w'.cell? ⟨g0, 0, none⟩ = some (.int .i64 b.lo) ∧ w'.cell? ⟨g0, 1, none⟩ = some (.int .i64 b.hi) ∧ w'.cell? ⟨g0, 2, none⟩ = some (.int .i64 b.lots) ∧ w'.cell? ⟨g0, 3, none⟩ = some (.slice p b.n cap) ∧ Hid (Pure X5 w'))
      (exact KEY.out _ (by first | exact hp0.out | exact hpW.out))
      (first
        | (go_at_call 23; refine Calls.mono (CheckBook_any _ b p' cap' hs ?_ ?_) ?_; (exact HT5.out.to (by first | exact hpW.out | exact hp0.out)); (exact HG5.out.to (by first | exact hpW.out | exact hp0.out)); rintro e w6 ⟨rfl, hp6⟩; have hpW : Hid (Pure X5 w6) := (by first | exact Lib.hid (hpW.out.trans hp6) | exact Lib.hid (hp0.out.trans hp6)))
        | (go_at_call 24; refine Calls.mono (RCheckBook_any _ b p cap hs ?_) ?_; (exact HB5.out.to (by first | exact hpW.out | exact hp0.out)); rintro e w6 ⟨rfl, hp6⟩; have hpW : Hid (Pure X5 w6) := (by first | exact Lib.hid (hpW.out.trans hp6) | exact Lib.hid (hp0.out.trans hp6)))
        | (go_at_call 25; refine Calls.mono (CheckTruth_any _ b p' cap' _ _ ((List.range n1).map f1) ((List.range n2).map f2) hs ?_ ?_ ?_ ?_) ?_; (exact HT5.out.to hpW.out); (exact HG5.out.to hpW.out); (exact HS15.out.to hpW.out); (exact HS25.out.to hpW.out); rintro e w6 ⟨rfl, hp6⟩; have hpW : Hid (Pure X5 w6) := Lib.hid (hpW.out.trans hp6))
        | (go_at_call 26; refine Calls.mono (RCheckTruth_any _ b p q1 q2 cap n1 c1 n2 c2 f1 f2 hs ?_ ?_ ?_) ?_; (exact HB5.out.to hpW.out); (exact HR15.out.to hpW.out); (exact HR25.out.to hpW.out); rintro e w6 ⟨rfl, hp6⟩; (rw [HTR.out]); have hpW : Hid (Pure X5 w6) := Lib.hid (hpW.out.trans hp6))
        | (go_at_call 27; refine Calls.mono (alikeBook_any _ b p' p cap' cap hs ?_ ?_) ?_; (exact HT5.out.to hpW.out); (exact HB5.out.to hpW.out); rintro e w6 ⟨rfl, hp6⟩; have hpW : Hid (Pure X5 w6) := Lib.hid (hpW.out.trans hp6))
        | (go_at_call_of 28 (Value.slice q1 n1 c1); refine Calls.mono (alikeLongs_row _ s1 q1 n1 d1 c1 f1 (by omega) ?_ ?_) ?_; (exact (Row.of_SlI HS15.out).to hpW.out); (exact HR15.out.to hpW.out); rintro e w6 ⟨rfl, hp6⟩; have hpW : Hid (Pure X5 w6) := Lib.hid (hpW.out.trans hp6))
        | (go_at_call_of 28 (Value.slice q2 n2 c2); refine Calls.mono (alikeLongs_row _ s2 q2 n2 d2 c2 f2 (by omega) ?_ ?_) ?_; (exact (Row.of_SlI HS25.out).to hpW.out); (exact HR25.out.to hpW.out); rintro e w6 ⟨rfl, hp6⟩; have hpW : Hid (Pure X5 w6) := Lib.hid (hpW.out.trans hp6))
        | (go_at_call 20; refine Calls.mono (Works_any _ ?_) ?_; (exact HG5.out.to hpW.out); rintro e w6 ⟨rfl, hp6⟩; have hpW : Hid (Pure X5 w6) := Lib.hid (hpW.out.trans hp6)))
    rename_i hHeld
    obtain ⟨-, -, -, -, -, -, -, -, hpe⟩ := hHeld
    go_wp2_with fail
    exact bodyPost_ret (v := .bool true) (by simp [results, Tryd.results3, go_sem]) rfl ⟨rfl, hP5.out.trans hpe.out⟩
end Go.Proofs.YtmedkmbfggphdaaDoor
