/- The walk of CheckRound. The walks of Least and Greatest. What holds of the two books of the examples. No condition. The reference: the walk of Bound. The reference: the walk of Bound, part A. The reference: the walk of Bound, part B. The reference: the walk of Bound, part C. The reference: the walk of Bound, part C. The reference: the walk of Bound, part C. -/
import Derived.Test.YtmedkmbfggphdaaDoorM10
import Derived.Test.YtmedkmbfggphdaaDoorM06
import Derived.Test.YtmedkmbfggphdaaDoorM07
import Derived.Test.YtmedkmbfggphdaaDoorM14
import Derived.Test.YtmedkmbfggphdaaDoorM15
import Derived.Test.YtmedkmbfggphdaaDoorM17
import Derived.Test.YtmedkmbfggphdaaDoorM09
import Derived.Test.YtmedkmbfggphdaaDoorR5
set_option linter.unusedSimpArgs false
set_option linter.unusedVariables false
set_option linter.constructorNameAsVariable false
namespace Go.Proofs.YtmedkmbfggphdaaDoor
open Go.RowKit

def roundC (b : BK) (f : Nat → Int) (n : Nat) : Int × Int :=
  if checkB b ≠ 0 then (0, checkB b) else if n = 0 then (0, 6) else if diffTo (1 + b.lots.toNat + b.total) f n = false then (0, 2) else if joinsTo b.es f n n = false then (0, 16) else
  if -(sumTo b.es f n n) ≤ 0 then (0, 14) else (-(sumTo b.es f n n), 0)

set_option maxHeartbeats 2000000 in
theorem CheckRound_any (w : World) (b : BK) (p q : Option Addr) (cap n c : Nat) (f : Nat → Int) (hs : b.Small) (hb : BookAt w.heap.size w p b) (hg : Gl w) (hn : n ≤ 1000) (hr : Row w.heap.size w q n fun k => .int .i64 (f k)) :
    Calls Tryd.prog 39 #[bookV b p cap, .slice q n c] w fun e w' => e = .returned (.tuple #[.int .i64 (roundC b f n).1, .int .i64 (roundC b f n).2]) ∧ Pure w w' := by
  go_enter Tryd.func39, Tryd.ntmps39
  go_wp2_with fail
  have hP0 : Pure w (w.alloc (.cells (bookC b p cap) 26)) := (Diff.refl w).alloc _
  refine (CheckBook_any _ b p cap hs ((hb.diff hP0 (Nat.le_refl _) (fun _ _ => id)).mono hP0.size) (hg.diff hP0 (fun _ _ => id))).mono ?_
  rintro e w1 ⟨rfl, hp1⟩
  have HP1 : Hid (Pure w w1) := hP0.trans hp1
  have hX1 : w1.heap[w.heap.size]? = some (.cells (bookC b p cap) 26 (0, 0)) := (hp1.block _ (by simp) id).trans (World.alloc_heap_new _ _)
  have hBl : w.heap.size < w1.heap.size := (Array.getElem?_eq_some_iff.1 hX1).1
  have hC0 : w1.cell? ⟨w.heap.size, 0, none⟩ = some (.int .i64 b.lo) := by rw [cell_of_row w1 _ _ _ _ _ hX1]; rfl
  have hC1 : w1.cell? ⟨w.heap.size, 1, none⟩ = some (.int .i64 b.hi) := by rw [cell_of_row w1 _ _ _ _ _ hX1]; rfl
  have hC2 : w1.cell? ⟨w.heap.size, 2, none⟩ = some (.int .i64 b.lots) := by rw [cell_of_row w1 _ _ _ _ _ hX1]; rfl
  have hC3 : w1.cell? ⟨w.heap.size, 3, none⟩ = some (.slice p b.n cap) := by rw [cell_of_row w1 _ _ _ _ _ hX1]; rfl
  clear hp1 hX1 hP0
  by_cases hck : checkB b = 0
  · have HHB := Lib.hid hb
    have HG := Lib.hid hg
    have HR := Lib.hid hr
    have hv := checkB_valid hck
    have hgd := b.netM_good hv
    have HCK := Lib.hid hck
    rw [hck]
    clear hck hb hg hr
    go_wp2_with fail
    obtain ⟨X, hX⟩ : ∃ X, w1.alloc (.cells (bookC b p cap) 82) = X := ⟨_, rfl⟩
    have hPX : Pure w1 X := by rw [← hX]; exact (Diff.refl w1).alloc _
    have hX1 : X.heap[w1.heap.size]? = some (.cells (bookC b p cap) 82 (0, 0)) := by rw [← hX]; exact World.alloc_heap_new _ _
    have HPX : Pure w X := HP1.out.trans hPX
    rw [hX]
    clear hX hC0 hC1 hC2 hC3 hPX HP1
    refine (net_any X b p cap hv ((HHB.out.diff HPX (Nat.le_refl _) (fun _ _ => id)).mono HPX.size) (HG.out.diff HPX (fun _ _ => id))).mono ?_
    rintro e w2 ⟨rfl, hm2, hp2⟩
    obtain ⟨gB, hgB⟩ : ∃ gB, w1.heap.size = gB := ⟨_, rfl⟩
    obtain ⟨r, hrr⟩ : ∃ r, X.heap.size + 1 = r := ⟨_, rfl⟩
    rw [hgB] at hX1 ⊢
    rw [hrr] at hm2 ⊢
    have hX2 := (hp2.block _ (Array.getElem?_eq_some_iff.1 hX1).1 id).trans hX1
    have hB2 : gB < w2.heap.size := (Array.getElem?_eq_some_iff.1 hX2).1
    have hC0 : w2.cell? ⟨gB, 0, none⟩ = some (.int .i64 b.lo) := by rw [cell_of_row w2 _ _ _ _ _ hX2]; rfl
    have hC1 : w2.cell? ⟨gB, 1, none⟩ = some (.int .i64 b.hi) := by rw [cell_of_row w2 _ _ _ _ _ hX2]; rfl
    have hC2 : w2.cell? ⟨gB, 2, none⟩ = some (.int .i64 b.lots) := by rw [cell_of_row w2 _ _ _ _ _ hX2]; rfl
    have hC3 : w2.cell? ⟨gB, 3, none⟩ = some (.slice p b.n cap) := by rw [cell_of_row w2 _ _ _ _ _ hX2]; rfl
    have HP2 := Lib.hid (HPX.trans hp2)
    have HM2 : Hid (w2.heap[r]? = some (mapO b.es b.bnN)) := hm2
    clear hX1 hX2 hp2 HPX hgB hrr hm2
    by_cases hn0 : n = 0
    · subst hn0
      go_wp2_with fail
      exact bodyPost_ret (v := .tuple #[.int .i64 0, .int .i64 6]) (by simp [results, Tryd.results39, go_sem]) rfl ⟨by unfold roundC; rw [if_neg (by have := HCK.out; omega), if_pos rfl], HP2.out⟩
    · have hn1 : 1 ≤ n := by omega
      obtain ⟨qb, qo, rfl, hqb, -⟩ := HR.out 0 (by omega)
      have hrow : Hid (∀ k, k < n → w.cell? ⟨qb, qo + k, none⟩ = some (.int .i64 (f k))) := fun k hk => by
        obtain ⟨b1, o1, he, _, hc1⟩ := HR.out k hk
        cases he
        exact hc1
      have hdf := different_any w2 b p (some ⟨qb, qo, none⟩) cap n c f hv ((HHB.out.diff HP2.out (Nat.le_refl _) (fun _ _ => id)).mono HP2.out.size) hn ((HR.out.diff HP2.out (Nat.le_refl _) (fun _ _ => id)).mono HP2.out.size)
      have hn0i : ¬ ((n : Int) = 0) := by omega
      go_wp2_with fail
      refine hdf.mono ?_
      rintro e w3 ⟨rfl, hp3⟩
      have HP3 := Lib.hid (HP2.out.trans hp3)
      have HM3 := Lib.hid ((hp3.block _ (Array.getElem?_eq_some_iff.1 HM2.out).1 id).trans HM2.out)
      clear hdf hp3 hC0 hC1 hC2 hC3
      cases hd : diffTo (1 + b.lots.toNat + b.total) f n
      · go_wp2_with fail
        exact bodyPost_ret (v := .tuple #[.int .i64 0, .int .i64 2]) (by simp [results, Tryd.results39, go_sem]) rfl ⟨by unfold roundC; rw [if_neg (by have := HCK.out; omega), if_neg hn0, if_pos hd], HP3.out⟩
      · have HD := Lib.hid hd
        have hjo := joins_any w3 r b.bnN qb qo n c b.es f hn1 hn HM3.out (Nat.lt_of_lt_of_le hqb HP3.out.size) (fun k hk => ((pcell HP3.out).1 _ _ hqb).trans (hrow.out k hk))
        clear hd
        go_wp2_with fail
        refine hjo.mono ?_
        rintro e w4 ⟨rfl, hp4⟩
        have HP4 := Lib.hid (HP3.out.trans hp4)
        have HM4 := Lib.hid ((hp4.block _ (Array.getElem?_eq_some_iff.1 HM3.out).1 id).trans HM3.out)
        clear hjo hp4
        cases hj : joinsTo b.es f n n
        · go_wp2_with fail
          exact bodyPost_ret (v := .tuple #[.int .i64 0, .int .i64 16]) (by simp [results, Tryd.results39, go_sem]) rfl ⟨by unfold roundC; rw [if_neg (by have := HCK.out; omega), if_neg hn0, if_neg (by rw [HD.out]; simp), if_pos hj], HP4.out⟩
        · have HJ := Lib.hid hj
          have hpr := proof_any w4 r b.bnN qb qo n c b.es f hgd hn1 hn HM4.out (Nat.lt_of_lt_of_le hqb HP4.out.size) (fun k hk => ((pcell HP4.out).1 _ _ hqb).trans (hrow.out k hk))
          clear hj
          go_wp2_with fail
          refine hpr.mono ?_
          rintro e w5 ⟨rfl, hp5⟩
          have HP5 := Lib.hid (HP4.out.trans hp5)
          have HM5 := Lib.hid ((hp5.block _ (Array.getElem?_eq_some_iff.1 HM4.out).1 id).trans HM4.out)
          clear hpr hp5
          by_cases h5 : -(sumTo b.es f n n) ≤ 0
          · go_wp2_with fail
            exact bodyPost_ret (v := .tuple #[.int .i64 0, .int .i64 14]) (by simp [results, Tryd.results39, go_sem]) rfl ⟨by unfold roundC; rw [if_neg (by have := HCK.out; omega), if_neg hn0, if_neg (by rw [HD.out]; simp), if_neg (by rw [HJ.out]; simp), if_pos h5], HP5.out⟩
          · have hpr := proof_any w5 r b.bnN qb qo n c b.es f hgd hn1 hn HM5.out (Nat.lt_of_lt_of_le hqb HP5.out.size) (fun k hk => ((pcell HP5.out).1 _ _ hqb).trans (hrow.out k hk))
            go_wp2_with fail
            refine hpr.mono ?_
            rintro e w6 ⟨rfl, hp6⟩
            have HP6 := Lib.hid (HP5.out.trans hp6)
            clear hpr hp6
            go_wp2_with fail
            exact bodyPost_ret (v := .tuple #[.int .i64 (-(sumTo b.es f n n)), .int .i64 0]) (by simp [results, Tryd.results39, go_sem]) rfl ⟨by unfold roundC; rw [if_neg (by have := HCK.out; omega), if_neg hn0, if_neg (by rw [HD.out]; simp), if_neg (by rw [HJ.out]; simp), if_neg (by omega)], HP6.out⟩
  · go_wp2_with fail
    exact bodyPost_ret (v := .tuple #[.int .i64 0, .int .i64 (checkB b)]) (by simp [results, Tryd.results39, go_sem]) rfl ⟨by unfold roundC; rw [if_pos hck], HP1.out⟩
end Go.Proofs.YtmedkmbfggphdaaDoor

namespace Go.Proofs.YtmedkmbfggphdaaDoor
open Go.RowKit

def pickLo (x _y : Int) : Int := x
def pickHi (_x y : Int) : Int := y
theorem truthQ.size {b : BK} {pick : Int → Int → Int} {w w1 w' : World} {e : Ending} (h : truthQ b pick w1 e w') (hs : w.heap.size ≤ w1.heap.size) : truthQ b pick w e w' := by
  unfold truthQ at *
  split
  · rename_i h1; rwa [if_pos h1] at h
  · rename_i h1
    rw [if_neg h1] at h
    split
    · rename_i h2; rwa [if_pos h2] at h
    · rename_i h2
      rw [if_neg h2] at h
      obtain ⟨g1, g2, L, a1, a2, a3, a4⟩ := h
      exact ⟨g1, g2, L, a1, by omega, by omega, a4⟩
theorem truthQ.form {b : BK} {pick : Int → Int → Int} {w w' : World} {e : Ending} (h : truthQ b pick w e w') : ∃ x y z, e = .returned (.tuple #[x, y, z]) := by
  unfold truthQ at h
  split at h
  · exact ⟨_, _, _, h⟩
  · split at h
    · exact ⟨_, _, _, h⟩
    · obtain ⟨g1, g2, L, a1, a2, a3, a4, _⟩ := h
      exact ⟨_, _, _, a4⟩

theorem Least_any (w : World) (b : BK) (p : Option Addr) (cap : Nat) (hs : b.Small) (hb : BookAt w.heap.size w p b) (hg : Gl w) :
    Calls Tryd.prog 29 #[bookV b p cap] w fun e w' => truthQ b pickLo w e w' ∧ Pure w w' := by
  go_enter Tryd.func29, Tryd.ntmps29
  go_wp2_with fail
  have hP0 : Pure w (w.alloc (.cells (bookC b p cap) 26)) := (Diff.refl w).alloc _
  refine (truth_any 68 (.inl rfl) pickLo endLo_any _ b p cap hs ((hb.diff hP0 (Nat.le_refl _) (fun _ _ => id)).mono hP0.size) (hg.diff hP0 (fun _ _ => id))).mono ?_
  rintro e w1 ⟨hq, hp1⟩
  have HQ := Lib.hid (hq.size hP0.size)
  obtain ⟨x, y, z, rfl⟩ := hq.form
  have HP := Lib.hid (hP0.trans hp1)
  clear hq hp1 hP0
  go_wp2_with fail
  exact bodyPost_ret (v := .tuple #[x, y, z]) (by simp [results, Tryd.results29, go_sem]) rfl ⟨HQ.out, HP.out⟩
theorem Greatest_any (w : World) (b : BK) (p : Option Addr) (cap : Nat) (hs : b.Small) (hb : BookAt w.heap.size w p b) (hg : Gl w) :
    Calls Tryd.prog 31 #[bookV b p cap] w fun e w' => truthQ b pickHi w e w' ∧ Pure w w' := by
  go_enter Tryd.func31, Tryd.ntmps31
  go_wp2_with fail
  have hP0 : Pure w (w.alloc (.cells (bookC b p cap) 26)) := (Diff.refl w).alloc _
  refine (truth_any 70 (.inr rfl) pickHi endHi_any _ b p cap hs ((hb.diff hP0 (Nat.le_refl _) (fun _ _ => id)).mono hP0.size) (hg.diff hP0 (fun _ _ => id))).mono ?_
  rintro e w1 ⟨hq, hp1⟩
  have HQ := Lib.hid (hq.size hP0.size)
  obtain ⟨x, y, z, rfl⟩ := hq.form
  have HP := Lib.hid (hP0.trans hp1)
  clear hq hp1 hP0
  go_wp2_with fail
  exact bodyPost_ret (v := .tuple #[x, y, z]) (by simp [results, Tryd.results31, go_sem]) rfl ⟨HQ.out, HP.out⟩
end Go.Proofs.YtmedkmbfggphdaaDoor

namespace Go.Proofs.YtmedkmbfggphdaaDoor

theorem checkA : checkB bkA = 0 := by decide
theorem checkBB : checkB bkB = 0 := by decide
theorem validA : bkA.Valid := checkB_valid checkA
theorem validB : bkB.Valid := checkB_valid checkBB
theorem smallA : bkA.Small := validA.small
theorem smallB : bkB.Small := validB.small
instance (es : List ME) (x : Nat → Int) : Decidable (Keep es x) := inferInstanceAs (Decidable (∀ e ∈ es, x e.t.toNat - x e.f.toNat ≤ e.v))
theorem keepA1 : Keep bkA.es (numN [50, 41] [0, 1, 3]) := by decide
theorem keepA2 : Keep bkA.es (numN [52, 44] [0, 3, 6]) := by decide
theorem keepA3 : Keep bkA.es (numN [50, 44] [0, 3, 4]) := by decide
theorem keepA4 : Keep bkA.es (numN [51, 41] [0, 1, 4]) := by decide
theorem noneA : noneB bkA.es = false := keep_some (bkA.netM_good validA) (bkA.loose validA) keepA1
theorem noneBB : noneB bkB.es = true := by
  cases h : noneB bkB.es with
  | true => rfl
  | false =>
    obtain ⟨x, hx⟩ := (noneB_iff (bkB.netM_good validB) (bkB.loose validB)).1 h
    have := keep_round hx (nthI [1, 2, 3]) 3 (by omega) (by decide)
    revert this
    decide
theorem truthA1 : truthC bkA [50, 41] [0, 1, 3] = 0 := by decide
theorem truthA2 : truthC bkA [52, 41] [0, 1, 5] = 17 := by decide
theorem truthA3 : truthC bkA [50, 41] [0, 1] = 15 := by decide
theorem truthB1 : truthC bkB [50] [0, 3] = 17 := by decide
theorem truthA4 : truthC bkA [52, 44] [0, 3, 6] = 0 := by decide

theorem BK.edge (b : BK) (hv : b.Valid) (hn : noneB b.es = false) (a c : Nat) (v : Int) (h : boundO b.es a c = some v) : (b.T (ix a c)).known = true ∧ (b.T (ix a c)).by' ≤ v := by
  have h1 := (b.tight hv hn).edge h
  rw [Int.toNat_natCast, Int.toNat_natCast] at h1
  exact h1
theorem eA (a c : Nat) (v : Int) (h : boundO bkA.es a c = some v) : (bkA.T (ix a c)).known = true ∧ (bkA.T (ix a c)).by' ≤ v := bkA.edge validA noneA a c v h
theorem pA {a i c : Nat} {u v z : Int} (h1 : (bkA.T (ix a i)).known = true ∧ (bkA.T (ix a i)).by' ≤ u) (h2 : (bkA.T (ix i c)).known = true ∧ (bkA.T (ix i c)).by' ≤ v) (hi : i < 19 := by decide) (ha : a < 19 := by decide) (hc : c < 19 := by decide) (hz : u + v = z := by decide) :
    (bkA.T (ix a c)).known = true ∧ (bkA.T (ix a c)).by' ≤ z := hz ▸ (bkA.tight validA noneA).path hi ha hc h1 h2
theorem lA {x : Nat → Int} (hx : Keep bkA.es x) (a c : Nat) (ha : a < 6 := by decide) (hc : c < 6 := by decide) : x c - x a ≤ (bkA.T (ix a c)).by' :=
  (bkA.between validA 2 rfl noneA hx a c (show a < 1 + 2 + bkA.total from ha) (show c < 1 + 2 + bkA.total from hc)).2.2
theorem vA {x : Nat → Int} {a c : Nat} {v : Int} (h : (bkA.T (ix a c)).known = true ∧ (bkA.T (ix a c)).by' ≤ v) (hx : Keep bkA.es x) (hv : x c - x a = v) (ha : a < 6 := by decide) (hc : c < 6 := by decide) : (bkA.T (ix a c)).by' = v := by
  have := lA hx a c ha hc
  have := h.2
  omega
theorem tA03 : (bkA.T (ix 0 3)).by' = 0 := vA (eA 0 3 0 (by decide)) keepA2 (by decide)
theorem tA30 : (bkA.T (ix 3 0)).by' = 0 := vA (eA 3 0 0 (by decide)) keepA1 (by decide)
theorem tA01 : (bkA.T (ix 0 1)).by' = 52 := vA (pA (i := 3) (eA 0 3 0 (by decide)) (eA 3 1 52 (by decide))) keepA2 (by decide)
theorem tA04 : (bkA.T (ix 0 4)).by' = 3 := vA (pA (i := 3) (eA 0 3 0 (by decide)) (eA 3 4 3 (by decide))) keepA2 (by decide)
theorem tA02 : (bkA.T (ix 0 2)).by' = 44 := vA (pA (i := 4) (pA (i := 3) (z := 3) (eA 0 3 0 (by decide)) (eA 3 4 3 (by decide))) (eA 4 2 41 (by decide))) keepA2 (by decide)
theorem tA05 : (bkA.T (ix 0 5)).by' = 6 := vA (pA (i := 4) (pA (i := 3) (z := 3) (eA 0 3 0 (by decide)) (eA 3 4 3 (by decide))) (eA 4 5 3 (by decide))) keepA2 (by decide)
theorem tA10 : (bkA.T (ix 1 0)).by' = -50 := vA (pA (i := 3) (eA 1 3 (-50) (by decide)) (eA 3 0 0 (by decide))) keepA1 (by decide)
theorem tA20 : (bkA.T (ix 2 0)).by' = -41 := vA (pA (i := 3) (pA (i := 4) (z := -41) (eA 2 4 (-40) (by decide)) (eA 4 3 (-1) (by decide))) (eA 3 0 0 (by decide))) keepA1 (by decide)
theorem tA40 : (bkA.T (ix 4 0)).by' = -1 := vA (pA (i := 3) (eA 4 3 (-1) (by decide)) (eA 3 0 0 (by decide))) keepA1 (by decide)
theorem tA50 : (bkA.T (ix 5 0)).by' = -3 := vA (pA (i := 3) (pA (i := 1) (z := -3) (eA 5 1 47 (by decide)) (eA 1 3 (-50) (by decide))) (eA 3 0 0 (by decide))) keepA1 (by decide)
theorem tA12 : (bkA.T (ix 1 2)).by' = -6 := vA (pA (i := 4) (pA (i := 3) (z := -47) (eA 1 3 (-50) (by decide)) (eA 3 4 3 (by decide))) (eA 4 2 41 (by decide))) keepA3 (by decide)
theorem tA21 : (bkA.T (ix 2 1)).by' = 10 := vA (pA (i := 5) (pA (i := 4) (z := -37) (eA 2 4 (-40) (by decide)) (eA 4 5 3 (by decide))) (eA 5 1 47 (by decide))) keepA4 (by decide)
theorem tA11 : (bkA.T (ix 1 1)).by' = 0 := ((bkA.tight validA noneA).d0 1 (by decide)).2
theorem tA22 : (bkA.T (ix 2 2)).by' = 0 := ((bkA.tight validA noneA).d0 2 (by decide)).2

/-- The nets without one taste. -/
theorem cut_none {b : BK} (hv : b.Valid) (L q : Nat) {x : Nat → Int} (h : Keep (cutM L q b.es L) x) : noneB (cutM L q b.es L) = false :=
  keep_some ((b.netM_good hv).sub (cutM_sub L q _ L)) (fun e he => b.loose hv e ((cutM_sub L q b.es L).subset he)) h
theorem wrongB : wrongTo bkB 1 2 = [0, 1] := by
  have h0 : noneB (cutM 1 0 bkB.es 1) = false := cut_none validB 1 0 (x := numN [45] [0, 1]) (by decide)
  have h1 : noneB (cutM 1 1 bkB.es 1) = false := cut_none validB 1 1 (x := numN [50] [0, 1]) (by decide)
  simp only [wrongTo, h0, h1]
  rfl
theorem wrongA : wrongTo bkA 2 3 = [0, 1, 2] := by
  have h : ∀ q, noneB (cutM 2 q bkA.es 2) = false := fun q => cut_none validA 2 q (x := numN [50, 41] [0, 1, 3]) (fun e he => keepA1 e ((cutM_sub 2 q bkA.es 2).subset he))
  simp only [wrongTo, h]
  rfl
theorem rdB1 : roundC bkB (nthI [1, 2, 3]) 3 = (2, 0) := by decide
theorem rdB2 : roundC bkB (nthI [3, 2, 1]) 3 = (0, 14) := by decide
theorem rdB3 : roundC bkB (nthI [1, 1]) 2 = (0, 2) := by decide
theorem rdB4 (f : Nat → Int) : roundC bkB f 0 = (0, 6) := by unfold roundC; rw [if_neg (by rw [checkBB]; simp), if_pos rfl]
theorem rdA1 : roundC bkA (nthI [0, 2, 4]) 3 = (0, 16) := by decide
theorem rd_ok {b : BK} (hc : checkB b = 0) {r : List Int} (h : RoundOk b.es (nmN b) r) : ∃ m, 0 < m ∧ roundC b (nthI r) r.length = (m, 0) := by
  refine ⟨-(sumTo b.es (nthI r) r.length r.length), by have := h.neg; omega, ?_⟩
  have hp := h.pos
  have hd : diffTo (1 + b.lots.toNat + b.total) (nthI r) r.length = true := h.dif
  unfold roundC
  rw [if_neg (by rw [hc]; simp), if_neg (by omega), if_neg (by rw [hd]; simp), if_neg (by rw [h.bnd]; simp), if_neg (by have := h.neg; omega)]
end Go.Proofs.YtmedkmbfggphdaaDoor

namespace Go.Proofs.YtmedkmbfggphdaaDoor
open Go.RowKit

theorem BK.upto_inj (b : BK) (hpos : ∀ k, k < b.n → 0 < b.m k) {s k : Nat} (hs : s < b.n) (hk : k < b.n) (j : Nat) (hj : j < b.m s) (h : b.upto k = b.upto s + j) : k = s ∧ j = 0 := by
  rcases Nat.lt_trichotomy k s with h1 | h1 | h1
  · have h2 := b.upto_mono (i := k + 1) (j := s) (by omega)
    have h3 := hpos k hk
    simp only [BK.upto] at h2
    omega
  · subst h1; exact ⟨rfl, by omega⟩
  · have h2 := b.upto_mono (i := s + 1) (j := k) (by omega)
    simp only [BK.upto] at h2
    omega
theorem firstTo_at (b : BK) (hv : b.Valid) (q : Nat) (hq : q < b.total) : firstTo b (q : Int) b.n = (b.at' q).1 := by
  obtain ⟨s, j, hs, hj, rfl⟩ := b.split b.n q hq
  rw [b.at_eq s j hs hj]
  by_cases h0 : j = 0
  · subst h0
    exact firstTo_true hs (by simp)
  · rw [show (j == 0) = false by simp [h0]]
    simp only [firstTo, List.any_eq_false, List.mem_range]
    intro k hk h
    have h' : b.upto k = b.upto s + j := by
      have h2 : ((b.upto k : Nat) : Int) = ((b.upto s + j : Nat) : Int) := by simpa using h
      exact_mod_cast h2
    exact h0 (b.upto_inj hv.pos hs hk j hj h').2

end Go.Proofs.YtmedkmbfggphdaaDoor

namespace Go.Proofs.YtmedkmbfggphdaaDoor
open Go.RowKit

set_option maxRecDepth 20000 in
set_option maxHeartbeats 20000000 in
theorem Bound_A0 (w : World) (b : BK) (p : Option Addr) (cap : Nat) (a c but : Int) (hv : b.Valid) (hb : BookAt w.heap.size w p b) (ha : 0 ≤ a) (ha2 : a < 1 + b.lots + b.total) (hc : 0 ≤ c) (hc2 : c < 1 + b.lots + b.total) (ha' : a = 0) (hc' : c = 0) :
    Calls Tryd.prog 81 #[bookV b p cap, .int .i64 a, .int .i64 c, .int .i64 but] w fun e w' => e = .returned (.tuple #[.int .i64 ((b.bd but a c).getD 0), .bool (b.bd but a c).isSome]) ∧ Pure w w' := by
  have hl1 := hv.lots1
  have hl6 := hv.lots6
  have h12 := hv.tot
  go_enter Tryd.func81, Tryd.ntmps81
  go_wp2_with fail
  obtain ⟨X, hX⟩ : ∃ X, w.alloc (.cells (bookC b p cap) 26) = X := ⟨_, rfl⟩
  have hP : Hid (Pure w X) := by rw [← hX]; exact (Diff.refl w).alloc _
  have hX1 : BoxB w.heap.size b p cap X := by rw [← hX]; exact BoxB.new w b p cap 26
  rw [hX]
  clear hX
  have HB := Lib.hid hX1
  obtain ⟨c0, c1, c2, c3, cl⟩ := hX1
  go_wp2_with fail
  refine (Tastes_flat X b p cap hv.small hv.pos ((hb.diff hP.out (Nat.le_refl _) (fun _ _ => id)).mono hP.out.size)).mono ?_
  rintro e w1 ⟨u, rfl, hfl, hp1⟩
  have hP1 : Hid (Pure w w1) := hP.out.trans hp1
  have HB1 := Lib.hid (HB.out.pure hp1)
  have HHB := Lib.hid hb
  clear c0 c1 c2 c3 cl HB hp1 hP hb
  obtain ⟨c0, c1, c2, c3, cl⟩ := HB1.out
  obtain ⟨pu, cu, rfl, hcell⟩ := hfl
  have HC := Lib.hid hcell
  clear hcell
  obtain ⟨t, ht⟩ : ∃ t, b.total = t := ⟨_, rfl⟩
  have HT := Lib.hid ht
  rw [ht] at ha2 hc2 h12 ⊢
  clear ht
  obtain ⟨gb, hgb⟩ : ∃ gb, w.heap.size = gb := ⟨_, rfl⟩
  rw [hgb] at c0 c1 c2 c3 cl HB1 ⊢
  clear hgb
  have hS := hv.small
  have hPD : Hid (Pure w w1.drew) := hP1.out.trans (Diff.refl w1).drew
  have first1 : ∀ (q : Nat) (W : World), q < t → Pure w1 W → Calls Tryd.prog 93 #[.agg #[.int .i64 b.lo, .int .i64 b.hi, .int .i64 b.lots, .slice p b.n cap], .int .i64 (q : Int)] W fun e w' => e = .returned (.bool (b.at' q).1) ∧ Pure W w' := fun q W hq hW => by
    refine (IsFirst_any W b p cap (q : Int) hS ((HHB.out.diff (hP1.out.trans hW) (Nat.le_refl _) (fun _ _ => id)).mono (hP1.out.trans hW).size)).mono ?_
    rintro e w' ⟨rfl, h⟩
    exact ⟨by rw [firstTo_at b hv q (by rw [HT.out]; exact hq)], h⟩
  have F1 := Lib.hid first1
  clear first1
  have hdr : Hid (Pure w1 w1.drew) := (Diff.refl w1).drew
  obtain rfl := ha'
  obtain rfl := hc'
  have HF : Hid (b.bd but 0 0 = none) := by
    show _ = _
    unfold BK.bd
    rw [if_neg (by omega), if_neg (by omega), if_neg (by omega), if_neg (by omega), if_neg (by omega), if_neg (by omega), if_neg (by omega)]
  go_wp2_with fail
  go_region
  (go_wp2_with fail) <;> first | (exfalso; omega) | (exact bodyPost_ret (v := .tuple #[.int .i64 (0), .bool false]) (by simp [results, Tryd.results81, go_sem]) rfl ⟨by rw [HF.out]; rfl, hPD.out⟩)

set_option maxRecDepth 20000 in
set_option maxHeartbeats 20000000 in
theorem Bound_A1 (w : World) (b : BK) (p : Option Addr) (cap : Nat) (a c but : Int) (hv : b.Valid) (hb : BookAt w.heap.size w p b) (ha : 0 ≤ a) (ha2 : a < 1 + b.lots + b.total) (hc : 0 ≤ c) (hc2 : c < 1 + b.lots + b.total) (ha' : a = 0) (hc' : 1 ≤ c ∧ c ≤ b.lots) :
    Calls Tryd.prog 81 #[bookV b p cap, .int .i64 a, .int .i64 c, .int .i64 but] w fun e w' => e = .returned (.tuple #[.int .i64 ((b.bd but a c).getD 0), .bool (b.bd but a c).isSome]) ∧ Pure w w' := by
  have hl1 := hv.lots1
  have hl6 := hv.lots6
  have h12 := hv.tot
  go_enter Tryd.func81, Tryd.ntmps81
  go_wp2_with fail
  obtain ⟨X, hX⟩ : ∃ X, w.alloc (.cells (bookC b p cap) 26) = X := ⟨_, rfl⟩
  have hP : Hid (Pure w X) := by rw [← hX]; exact (Diff.refl w).alloc _
  have hX1 : BoxB w.heap.size b p cap X := by rw [← hX]; exact BoxB.new w b p cap 26
  rw [hX]
  clear hX
  have HB := Lib.hid hX1
  obtain ⟨c0, c1, c2, c3, cl⟩ := hX1
  go_wp2_with fail
  refine (Tastes_flat X b p cap hv.small hv.pos ((hb.diff hP.out (Nat.le_refl _) (fun _ _ => id)).mono hP.out.size)).mono ?_
  rintro e w1 ⟨u, rfl, hfl, hp1⟩
  have hP1 : Hid (Pure w w1) := hP.out.trans hp1
  have HB1 := Lib.hid (HB.out.pure hp1)
  have HHB := Lib.hid hb
  clear c0 c1 c2 c3 cl HB hp1 hP hb
  obtain ⟨c0, c1, c2, c3, cl⟩ := HB1.out
  obtain ⟨pu, cu, rfl, hcell⟩ := hfl
  have HC := Lib.hid hcell
  clear hcell
  obtain ⟨t, ht⟩ : ∃ t, b.total = t := ⟨_, rfl⟩
  have HT := Lib.hid ht
  rw [ht] at ha2 hc2 h12 ⊢
  clear ht
  obtain ⟨gb, hgb⟩ : ∃ gb, w.heap.size = gb := ⟨_, rfl⟩
  rw [hgb] at c0 c1 c2 c3 cl HB1 ⊢
  clear hgb
  have hS := hv.small
  have hPD : Hid (Pure w w1.drew) := hP1.out.trans (Diff.refl w1).drew
  have first1 : ∀ (q : Nat) (W : World), q < t → Pure w1 W → Calls Tryd.prog 93 #[.agg #[.int .i64 b.lo, .int .i64 b.hi, .int .i64 b.lots, .slice p b.n cap], .int .i64 (q : Int)] W fun e w' => e = .returned (.bool (b.at' q).1) ∧ Pure W w' := fun q W hq hW => by
    refine (IsFirst_any W b p cap (q : Int) hS ((HHB.out.diff (hP1.out.trans hW) (Nat.le_refl _) (fun _ _ => id)).mono (hP1.out.trans hW).size)).mono ?_
    rintro e w' ⟨rfl, h⟩
    exact ⟨by rw [firstTo_at b hv q (by rw [HT.out]; exact hq)], h⟩
  have F1 := Lib.hid first1
  clear first1
  have hdr : Hid (Pure w1 w1.drew) := (Diff.refl w1).drew
  obtain rfl := ha'
  obtain ⟨hc3, hc4⟩ := hc'
  have HF : Hid (b.bd but 0 c = some 1000) := by
    show _ = _
    unfold BK.bd
    rw [if_pos (by omega)]
  go_wp2_with fail
  exact bodyPost_ret (v := .tuple #[.int .i64 (1000), .bool true]) (by simp [results, Tryd.results81, go_sem]) rfl ⟨by rw [HF.out]; rfl, hP1.out⟩

set_option maxRecDepth 20000 in
set_option maxHeartbeats 20000000 in
theorem Bound_A2 (w : World) (b : BK) (p : Option Addr) (cap : Nat) (a c but : Int) (hv : b.Valid) (hb : BookAt w.heap.size w p b) (ha : 0 ≤ a) (ha2 : a < 1 + b.lots + b.total) (hc : 0 ≤ c) (hc2 : c < 1 + b.lots + b.total) (ha' : a = 0) (hc' : ∃ q : Nat, q < b.total ∧ c - b.lots - 1 = q) :
    Calls Tryd.prog 81 #[bookV b p cap, .int .i64 a, .int .i64 c, .int .i64 but] w fun e w' => e = .returned (.tuple #[.int .i64 ((b.bd but a c).getD 0), .bool (b.bd but a c).isSome]) ∧ Pure w w' := by
  have hl1 := hv.lots1
  have hl6 := hv.lots6
  have h12 := hv.tot
  go_enter Tryd.func81, Tryd.ntmps81
  go_wp2_with fail
  obtain ⟨X, hX⟩ : ∃ X, w.alloc (.cells (bookC b p cap) 26) = X := ⟨_, rfl⟩
  have hP : Hid (Pure w X) := by rw [← hX]; exact (Diff.refl w).alloc _
  have hX1 : BoxB w.heap.size b p cap X := by rw [← hX]; exact BoxB.new w b p cap 26
  rw [hX]
  clear hX
  have HB := Lib.hid hX1
  obtain ⟨c0, c1, c2, c3, cl⟩ := hX1
  go_wp2_with fail
  refine (Tastes_flat X b p cap hv.small hv.pos ((hb.diff hP.out (Nat.le_refl _) (fun _ _ => id)).mono hP.out.size)).mono ?_
  rintro e w1 ⟨u, rfl, hfl, hp1⟩
  have hP1 : Hid (Pure w w1) := hP.out.trans hp1
  have HB1 := Lib.hid (HB.out.pure hp1)
  have HHB := Lib.hid hb
  clear c0 c1 c2 c3 cl HB hp1 hP hb
  obtain ⟨c0, c1, c2, c3, cl⟩ := HB1.out
  obtain ⟨pu, cu, rfl, hcell⟩ := hfl
  have HC := Lib.hid hcell
  clear hcell
  obtain ⟨t, ht⟩ : ∃ t, b.total = t := ⟨_, rfl⟩
  have HT := Lib.hid ht
  rw [ht] at ha2 hc2 h12 hc' ⊢
  clear ht
  obtain ⟨gb, hgb⟩ : ∃ gb, w.heap.size = gb := ⟨_, rfl⟩
  rw [hgb] at c0 c1 c2 c3 cl HB1 ⊢
  clear hgb
  have hS := hv.small
  have hPD : Hid (Pure w w1.drew) := hP1.out.trans (Diff.refl w1).drew
  have first1 : ∀ (q : Nat) (W : World), q < t → Pure w1 W → Calls Tryd.prog 93 #[.agg #[.int .i64 b.lo, .int .i64 b.hi, .int .i64 b.lots, .slice p b.n cap], .int .i64 (q : Int)] W fun e w' => e = .returned (.bool (b.at' q).1) ∧ Pure W w' := fun q W hq hW => by
    refine (IsFirst_any W b p cap (q : Int) hS ((HHB.out.diff (hP1.out.trans hW) (Nat.le_refl _) (fun _ _ => id)).mono (hP1.out.trans hW).size)).mono ?_
    rintro e w' ⟨rfl, h⟩
    exact ⟨by rw [firstTo_at b hv q (by rw [HT.out]; exact hq)], h⟩
  have F1 := Lib.hid first1
  clear first1
  have hdr : Hid (Pure w1 w1.drew) := (Diff.refl w1).drew
  obtain rfl := ha'
  obtain ⟨q, hq, hyq⟩ := hc'
  have HF : Hid (b.bd but 0 c = if (b.at' q).1 = true then some 0 else none) := by
    show _ = _
    unfold BK.bd
    rw [if_neg (by omega), if_neg (by omega), if_pos (by omega), show (max ((0 : Int) - b.lots - 1) (c - b.lots - 1)).toNat = q by omega]
  have hc0 : ¬ c = 0 := by omega
  have hcl : ¬ c ≤ b.lots := by omega
  have hc1 : 1 ≤ c := by omega
  have hq0 : (0 : Int) ≤ q := by omega
  have hmx : max (-b.lots - 1) (q : Int) = q := by omega
  go_wp2_with fail
  go_region
  go_wp2_with fail
  refine (F1.out q _ hq hdr.out).mono ?_
  rintro e w2 ⟨rfl, hp2⟩
  have hPE : Hid (Pure w w2) := hPD.out.trans hp2
  obtain ⟨c0, c1, c2, c3, cl⟩ := HB1.out.pure (hdr.out.trans hp2)
  cases hf : (b.at' q).1 with
  | true =>
    rw [hf, if_pos rfl] at HF
    clear hf hp2
    (go_wp2_with fail) <;> first | (exfalso; omega) | (exact bodyPost_ret (v := .tuple #[.int .i64 (0), .bool true]) (by simp [results, Tryd.results81, go_sem]) rfl ⟨by rw [HF.out]; rfl, hPE.out⟩)
  | false =>
    rw [hf, if_neg (by simp)] at HF
    clear hf hp2
    (go_wp2_with fail) <;> first | (exfalso; omega) | (exact bodyPost_ret (v := .tuple #[.int .i64 (0), .bool false]) (by simp [results, Tryd.results81, go_sem]) rfl ⟨by rw [HF.out]; rfl, hPE.out⟩)

end Go.Proofs.YtmedkmbfggphdaaDoor

namespace Go.Proofs.YtmedkmbfggphdaaDoor
open Go.RowKit

set_option maxRecDepth 20000 in
set_option maxHeartbeats 20000000 in
theorem Bound_B0 (w : World) (b : BK) (p : Option Addr) (cap : Nat) (a c but : Int) (hv : b.Valid) (hb : BookAt w.heap.size w p b) (ha : 0 ≤ a) (ha2 : a < 1 + b.lots + b.total) (hc : 0 ≤ c) (hc2 : c < 1 + b.lots + b.total) (ha' : 1 ≤ a ∧ a ≤ b.lots) (hc' : c = 0) :
    Calls Tryd.prog 81 #[bookV b p cap, .int .i64 a, .int .i64 c, .int .i64 but] w fun e w' => e = .returned (.tuple #[.int .i64 ((b.bd but a c).getD 0), .bool (b.bd but a c).isSome]) ∧ Pure w w' := by
  have hl1 := hv.lots1
  have hl6 := hv.lots6
  have h12 := hv.tot
  go_enter Tryd.func81, Tryd.ntmps81
  go_wp2_with fail
  obtain ⟨X, hX⟩ : ∃ X, w.alloc (.cells (bookC b p cap) 26) = X := ⟨_, rfl⟩
  have hP : Hid (Pure w X) := by rw [← hX]; exact (Diff.refl w).alloc _
  have hX1 : BoxB w.heap.size b p cap X := by rw [← hX]; exact BoxB.new w b p cap 26
  rw [hX]
  clear hX
  have HB := Lib.hid hX1
  obtain ⟨c0, c1, c2, c3, cl⟩ := hX1
  go_wp2_with fail
  refine (Tastes_flat X b p cap hv.small hv.pos ((hb.diff hP.out (Nat.le_refl _) (fun _ _ => id)).mono hP.out.size)).mono ?_
  rintro e w1 ⟨u, rfl, hfl, hp1⟩
  have hP1 : Hid (Pure w w1) := hP.out.trans hp1
  have HB1 := Lib.hid (HB.out.pure hp1)
  have HHB := Lib.hid hb
  clear c0 c1 c2 c3 cl HB hp1 hP hb
  obtain ⟨c0, c1, c2, c3, cl⟩ := HB1.out
  obtain ⟨pu, cu, rfl, hcell⟩ := hfl
  have HC := Lib.hid hcell
  clear hcell
  obtain ⟨t, ht⟩ : ∃ t, b.total = t := ⟨_, rfl⟩
  have HT := Lib.hid ht
  rw [ht] at ha2 hc2 h12 ⊢
  clear ht
  obtain ⟨gb, hgb⟩ : ∃ gb, w.heap.size = gb := ⟨_, rfl⟩
  rw [hgb] at c0 c1 c2 c3 cl HB1 ⊢
  clear hgb
  have hS := hv.small
  have hPD : Hid (Pure w w1.drew) := hP1.out.trans (Diff.refl w1).drew
  have first1 : ∀ (q : Nat) (W : World), q < t → Pure w1 W → Calls Tryd.prog 93 #[.agg #[.int .i64 b.lo, .int .i64 b.hi, .int .i64 b.lots, .slice p b.n cap], .int .i64 (q : Int)] W fun e w' => e = .returned (.bool (b.at' q).1) ∧ Pure W w' := fun q W hq hW => by
    refine (IsFirst_any W b p cap (q : Int) hS ((HHB.out.diff (hP1.out.trans hW) (Nat.le_refl _) (fun _ _ => id)).mono (hP1.out.trans hW).size)).mono ?_
    rintro e w' ⟨rfl, h⟩
    exact ⟨by rw [firstTo_at b hv q (by rw [HT.out]; exact hq)], h⟩
  have F1 := Lib.hid first1
  clear first1
  have hdr : Hid (Pure w1 w1.drew) := (Diff.refl w1).drew
  obtain ⟨ha3, ha4⟩ := ha'
  obtain rfl := hc'
  have HF : Hid (b.bd but a 0 = some 0) := by
    show _ = _
    unfold BK.bd
    rw [if_neg (by omega), if_pos (by omega)]
  have ha0 : ¬ a = 0 := by omega
  (go_wp2_with fail) <;> first | (exfalso; omega) | (exact bodyPost_ret (v := .tuple #[.int .i64 (0), .bool true]) (by simp [results, Tryd.results81, go_sem]) rfl ⟨by rw [HF.out]; rfl, hP1.out⟩)

set_option maxRecDepth 20000 in
set_option maxHeartbeats 20000000 in
theorem Bound_B1 (w : World) (b : BK) (p : Option Addr) (cap : Nat) (a c but : Int) (hv : b.Valid) (hb : BookAt w.heap.size w p b) (ha : 0 ≤ a) (ha2 : a < 1 + b.lots + b.total) (hc : 0 ≤ c) (hc2 : c < 1 + b.lots + b.total) (ha' : 1 ≤ a ∧ a ≤ b.lots) (hc' : 1 ≤ c ∧ c ≤ b.lots) :
    Calls Tryd.prog 81 #[bookV b p cap, .int .i64 a, .int .i64 c, .int .i64 but] w fun e w' => e = .returned (.tuple #[.int .i64 ((b.bd but a c).getD 0), .bool (b.bd but a c).isSome]) ∧ Pure w w' := by
  have hl1 := hv.lots1
  have hl6 := hv.lots6
  have h12 := hv.tot
  go_enter Tryd.func81, Tryd.ntmps81
  go_wp2_with fail
  obtain ⟨X, hX⟩ : ∃ X, w.alloc (.cells (bookC b p cap) 26) = X := ⟨_, rfl⟩
  have hP : Hid (Pure w X) := by rw [← hX]; exact (Diff.refl w).alloc _
  have hX1 : BoxB w.heap.size b p cap X := by rw [← hX]; exact BoxB.new w b p cap 26
  rw [hX]
  clear hX
  have HB := Lib.hid hX1
  obtain ⟨c0, c1, c2, c3, cl⟩ := hX1
  go_wp2_with fail
  refine (Tastes_flat X b p cap hv.small hv.pos ((hb.diff hP.out (Nat.le_refl _) (fun _ _ => id)).mono hP.out.size)).mono ?_
  rintro e w1 ⟨u, rfl, hfl, hp1⟩
  have hP1 : Hid (Pure w w1) := hP.out.trans hp1
  have HB1 := Lib.hid (HB.out.pure hp1)
  have HHB := Lib.hid hb
  clear c0 c1 c2 c3 cl HB hp1 hP hb
  obtain ⟨c0, c1, c2, c3, cl⟩ := HB1.out
  obtain ⟨pu, cu, rfl, hcell⟩ := hfl
  have HC := Lib.hid hcell
  clear hcell
  obtain ⟨t, ht⟩ : ∃ t, b.total = t := ⟨_, rfl⟩
  have HT := Lib.hid ht
  rw [ht] at ha2 hc2 h12 ⊢
  clear ht
  obtain ⟨gb, hgb⟩ : ∃ gb, w.heap.size = gb := ⟨_, rfl⟩
  rw [hgb] at c0 c1 c2 c3 cl HB1 ⊢
  clear hgb
  have hS := hv.small
  have hPD : Hid (Pure w w1.drew) := hP1.out.trans (Diff.refl w1).drew
  have first1 : ∀ (q : Nat) (W : World), q < t → Pure w1 W → Calls Tryd.prog 93 #[.agg #[.int .i64 b.lo, .int .i64 b.hi, .int .i64 b.lots, .slice p b.n cap], .int .i64 (q : Int)] W fun e w' => e = .returned (.bool (b.at' q).1) ∧ Pure W w' := fun q W hq hW => by
    refine (IsFirst_any W b p cap (q : Int) hS ((HHB.out.diff (hP1.out.trans hW) (Nat.le_refl _) (fun _ _ => id)).mono (hP1.out.trans hW).size)).mono ?_
    rintro e w' ⟨rfl, h⟩
    exact ⟨by rw [firstTo_at b hv q (by rw [HT.out]; exact hq)], h⟩
  have F1 := Lib.hid first1
  clear first1
  have hdr : Hid (Pure w1 w1.drew) := (Diff.refl w1).drew
  obtain ⟨ha3, ha4⟩ := ha'
  obtain ⟨hc3, hc4⟩ := hc'
  have HF : Hid (b.bd but a c = none) := by
    show _ = _
    unfold BK.bd
    rw [if_neg (by omega), if_neg (by omega), if_neg (by omega), if_neg (by omega), if_neg (by omega), if_neg (by omega), if_neg (by omega)]
  have ha0 : ¬ a = 0 := by omega
  have hc0 : ¬ c = 0 := by omega
  have hxn : ¬ 0 ≤ a - b.lots - 1 := by omega
  have hyn : ¬ 0 ≤ c - b.lots - 1 := by omega
  go_wp2_with fail
  go_region
  (go_wp2_with fail) <;> first | (exfalso; omega) | (exact bodyPost_ret (v := .tuple #[.int .i64 (0), .bool false]) (by simp [results, Tryd.results81, go_sem]) rfl ⟨by rw [HF.out]; rfl, hPD.out⟩)

set_option maxRecDepth 20000 in
set_option maxHeartbeats 20000000 in
theorem Bound_B2 (w : World) (b : BK) (p : Option Addr) (cap : Nat) (a c but : Int) (hv : b.Valid) (hb : BookAt w.heap.size w p b) (ha : 0 ≤ a) (ha2 : a < 1 + b.lots + b.total) (hc : 0 ≤ c) (hc2 : c < 1 + b.lots + b.total) (ha' : 1 ≤ a ∧ a ≤ b.lots) (hc' : ∃ q : Nat, q < b.total ∧ c - b.lots - 1 = q) :
    Calls Tryd.prog 81 #[bookV b p cap, .int .i64 a, .int .i64 c, .int .i64 but] w fun e w' => e = .returned (.tuple #[.int .i64 ((b.bd but a c).getD 0), .bool (b.bd but a c).isSome]) ∧ Pure w w' := by
  have hl1 := hv.lots1
  have hl6 := hv.lots6
  have h12 := hv.tot
  go_enter Tryd.func81, Tryd.ntmps81
  go_wp2_with fail
  obtain ⟨X, hX⟩ : ∃ X, w.alloc (.cells (bookC b p cap) 26) = X := ⟨_, rfl⟩
  have hP : Hid (Pure w X) := by rw [← hX]; exact (Diff.refl w).alloc _
  have hX1 : BoxB w.heap.size b p cap X := by rw [← hX]; exact BoxB.new w b p cap 26
  rw [hX]
  clear hX
  have HB := Lib.hid hX1
  obtain ⟨c0, c1, c2, c3, cl⟩ := hX1
  go_wp2_with fail
  refine (Tastes_flat X b p cap hv.small hv.pos ((hb.diff hP.out (Nat.le_refl _) (fun _ _ => id)).mono hP.out.size)).mono ?_
  rintro e w1 ⟨u, rfl, hfl, hp1⟩
  have hP1 : Hid (Pure w w1) := hP.out.trans hp1
  have HB1 := Lib.hid (HB.out.pure hp1)
  have HHB := Lib.hid hb
  clear c0 c1 c2 c3 cl HB hp1 hP hb
  obtain ⟨c0, c1, c2, c3, cl⟩ := HB1.out
  obtain ⟨pu, cu, rfl, hcell⟩ := hfl
  have HC := Lib.hid hcell
  clear hcell
  obtain ⟨t, ht⟩ : ∃ t, b.total = t := ⟨_, rfl⟩
  have HT := Lib.hid ht
  rw [ht] at ha2 hc2 h12 hc' ⊢
  clear ht
  obtain ⟨gb, hgb⟩ : ∃ gb, w.heap.size = gb := ⟨_, rfl⟩
  rw [hgb] at c0 c1 c2 c3 cl HB1 ⊢
  clear hgb
  have hS := hv.small
  have hPD : Hid (Pure w w1.drew) := hP1.out.trans (Diff.refl w1).drew
  have first1 : ∀ (q : Nat) (W : World), q < t → Pure w1 W → Calls Tryd.prog 93 #[.agg #[.int .i64 b.lo, .int .i64 b.hi, .int .i64 b.lots, .slice p b.n cap], .int .i64 (q : Int)] W fun e w' => e = .returned (.bool (b.at' q).1) ∧ Pure W w' := fun q W hq hW => by
    refine (IsFirst_any W b p cap (q : Int) hS ((HHB.out.diff (hP1.out.trans hW) (Nat.le_refl _) (fun _ _ => id)).mono (hP1.out.trans hW).size)).mono ?_
    rintro e w' ⟨rfl, h⟩
    exact ⟨by rw [firstTo_at b hv q (by rw [HT.out]; exact hq)], h⟩
  have F1 := Lib.hid first1
  clear first1
  have hdr : Hid (Pure w1 w1.drew) := (Diff.refl w1).drew
  obtain ⟨ha3, ha4⟩ := ha'
  obtain ⟨q, hq, hyq⟩ := hc'
  have ha0 : ¬ a = 0 := by omega
  have hc0 : ¬ c = 0 := by omega
  have hcl : ¬ c ≤ b.lots := by omega
  have hxn : ¬ 0 ≤ a - b.lots - 1 := by omega
  have hq0 : (0 : Int) ≤ q := by omega
  have hq1 : (q : Int) < t := by omega
  have hxq : ¬ a - b.lots - 1 = q + 1 := by omega
  obtain ⟨g, rfl, hg, z0, z1, z2⟩ := HC.out q (by rw [HT.out]; exact hq)
  obtain ⟨x, hx⟩ : ∃ x, (b.at' q).2 = x := ⟨_, rfl⟩
  rw [hx] at z0 z1 z2
  have hlo : -1000 ≤ x.lo ∧ x.lo ≤ 1000 := by rw [← hx]; have := b.at_ok hv q; have h1 := this.lo; have h2 := this.le; have h3 := this.hi; omega
  obtain ⟨hlo1, hlo2⟩ := hlo
  by_cases hok : (q : Int) ≠ but ∧ x.lot = a - 1
  · have HF : Hid (b.bd but a c = some (-x.lo)) := by
      show _ = _
      unfold BK.bd
      rw [if_neg (by omega), if_neg (by omega), if_neg (by omega), if_neg (by omega), if_neg (by omega), if_neg (by omega), show (c - b.lots - 1).toNat = q by omega, hx, if_pos (by omega)]
    obtain ⟨hb1, hb2⟩ := hok
    clear hx
    go_wp2_with fail
    go_region
    (go_wp2_with fail) <;> first | (exfalso; omega) | (exact bodyPost_ret (v := .tuple #[.int .i64 (-x.lo), .bool true]) (by simp [results, Tryd.results81, go_sem]) rfl ⟨by rw [HF.out]; rfl, hPD.out⟩)
  · have HF : Hid (b.bd but a c = none) := by
      show _ = _
      unfold BK.bd
      rw [if_neg (by omega), if_neg (by omega), if_neg (by omega), if_neg (by omega), if_neg (by omega), if_neg (by omega), show (c - b.lots - 1).toNat = q by omega, hx, if_neg (by omega)]
    clear hx
    by_cases hb1 : (q : Int) = but
    · have hbq : ((q : Int) == but) = true := by simp [hb1]
      have hbq2 : ((q : Int) != but) = false := by simp [hb1]
      clear hok hb1
      go_wp2_with fail
      go_region
      (go_wp2_with fail) <;> first | (exfalso; omega) | (exact bodyPost_ret (v := .tuple #[.int .i64 (0), .bool false]) (by simp [results, Tryd.results81, go_sem]) rfl ⟨by rw [HF.out]; rfl, hPD.out⟩)
    · have hb2 : ¬ x.lot = a - 1 := fun h => hok ⟨hb1, h⟩
      have hbl : (x.lot == a - 1) = false := by simp [hb2]
      clear hok
      go_wp2_with fail
      go_region
      (go_wp2_with fail) <;> first | (exfalso; omega) | (exact bodyPost_ret (v := .tuple #[.int .i64 (0), .bool false]) (by simp [results, Tryd.results81, go_sem]) rfl ⟨by rw [HF.out]; rfl, hPD.out⟩)

end Go.Proofs.YtmedkmbfggphdaaDoor

namespace Go.Proofs.YtmedkmbfggphdaaDoor
open Go.RowKit

set_option maxRecDepth 20000 in
set_option maxHeartbeats 20000000 in
theorem Bound_C0 (w : World) (b : BK) (p : Option Addr) (cap : Nat) (a c but : Int) (hv : b.Valid) (hb : BookAt w.heap.size w p b) (ha : 0 ≤ a) (ha2 : a < 1 + b.lots + b.total) (hc : 0 ≤ c) (hc2 : c < 1 + b.lots + b.total) (ha' : ∃ r : Nat, r < b.total ∧ a - b.lots - 1 = r) (hc' : c = 0) :
    Calls Tryd.prog 81 #[bookV b p cap, .int .i64 a, .int .i64 c, .int .i64 but] w fun e w' => e = .returned (.tuple #[.int .i64 ((b.bd but a c).getD 0), .bool (b.bd but a c).isSome]) ∧ Pure w w' := by
  have hl1 := hv.lots1
  have hl6 := hv.lots6
  have h12 := hv.tot
  go_enter Tryd.func81, Tryd.ntmps81
  go_wp2_with fail
  obtain ⟨X, hX⟩ : ∃ X, w.alloc (.cells (bookC b p cap) 26) = X := ⟨_, rfl⟩
  have hP : Hid (Pure w X) := by rw [← hX]; exact (Diff.refl w).alloc _
  have hX1 : BoxB w.heap.size b p cap X := by rw [← hX]; exact BoxB.new w b p cap 26
  rw [hX]
  clear hX
  have HB := Lib.hid hX1
  obtain ⟨c0, c1, c2, c3, cl⟩ := hX1
  go_wp2_with fail
  refine (Tastes_flat X b p cap hv.small hv.pos ((hb.diff hP.out (Nat.le_refl _) (fun _ _ => id)).mono hP.out.size)).mono ?_
  rintro e w1 ⟨u, rfl, hfl, hp1⟩
  have hP1 : Hid (Pure w w1) := hP.out.trans hp1
  have HB1 := Lib.hid (HB.out.pure hp1)
  have HHB := Lib.hid hb
  clear c0 c1 c2 c3 cl HB hp1 hP hb
  obtain ⟨c0, c1, c2, c3, cl⟩ := HB1.out
  obtain ⟨pu, cu, rfl, hcell⟩ := hfl
  have HC := Lib.hid hcell
  clear hcell
  obtain ⟨t, ht⟩ : ∃ t, b.total = t := ⟨_, rfl⟩
  have HT := Lib.hid ht
  rw [ht] at ha2 hc2 h12 ha' ⊢
  clear ht
  obtain ⟨gb, hgb⟩ : ∃ gb, w.heap.size = gb := ⟨_, rfl⟩
  rw [hgb] at c0 c1 c2 c3 cl HB1 ⊢
  clear hgb
  have hS := hv.small
  have hPD : Hid (Pure w w1.drew) := hP1.out.trans (Diff.refl w1).drew
  have first1 : ∀ (q : Nat) (W : World), q < t → Pure w1 W → Calls Tryd.prog 93 #[.agg #[.int .i64 b.lo, .int .i64 b.hi, .int .i64 b.lots, .slice p b.n cap], .int .i64 (q : Int)] W fun e w' => e = .returned (.bool (b.at' q).1) ∧ Pure W w' := fun q W hq hW => by
    refine (IsFirst_any W b p cap (q : Int) hS ((HHB.out.diff (hP1.out.trans hW) (Nat.le_refl _) (fun _ _ => id)).mono (hP1.out.trans hW).size)).mono ?_
    rintro e w' ⟨rfl, h⟩
    exact ⟨by rw [firstTo_at b hv q (by rw [HT.out]; exact hq)], h⟩
  have F1 := Lib.hid first1
  clear first1
  have hdr : Hid (Pure w1 w1.drew) := (Diff.refl w1).drew
  obtain ⟨r, hr, hxr⟩ := ha'
  have hr0 : (0 : Int) ≤ r := by omega
  have hr1 : (r : Int) < t := by omega
  have ha0 : ¬ a = 0 := by omega
  have ha1 : 1 ≤ a := by omega
  have hal : ¬ a ≤ b.lots := by omega
  obtain rfl := hc'
  have HF : Hid (b.bd but a 0 = if (b.at' r).1 = true then some 0 else none) := by
    show _ = _
    unfold BK.bd
    rw [if_neg (by omega), if_neg (by omega), if_pos (by omega), show (max (a - b.lots - 1) ((0 : Int) - b.lots - 1)).toNat = r by omega]
  have hmx : max (r : Int) (-b.lots - 1) = r := by omega
  go_wp2_with fail
  go_region
  go_wp2_with fail
  refine (F1.out r _ hr hdr.out).mono ?_
  rintro e w2 ⟨rfl, hp2⟩
  have hPE : Hid (Pure w w2) := hPD.out.trans hp2
  obtain ⟨c0, c1, c2, c3, cl⟩ := HB1.out.pure (hdr.out.trans hp2)
  cases hf : (b.at' r).1 with
  | true =>
    rw [hf, if_pos rfl] at HF
    clear hf hp2
    (go_wp2_with fail) <;> first | (exfalso; omega) | (exact bodyPost_ret (v := .tuple #[.int .i64 (0), .bool true]) (by simp [results, Tryd.results81, go_sem]) rfl ⟨by rw [HF.out]; rfl, hPE.out⟩)
  | false =>
    rw [hf, if_neg (by simp)] at HF
    clear hf hp2
    (go_wp2_with fail) <;> first | (exfalso; omega) | (exact bodyPost_ret (v := .tuple #[.int .i64 (0), .bool false]) (by simp [results, Tryd.results81, go_sem]) rfl ⟨by rw [HF.out]; rfl, hPE.out⟩)

end Go.Proofs.YtmedkmbfggphdaaDoor

namespace Go.Proofs.YtmedkmbfggphdaaDoor
open Go.RowKit

set_option maxRecDepth 20000 in
set_option maxHeartbeats 20000000 in
theorem Bound_C1 (w : World) (b : BK) (p : Option Addr) (cap : Nat) (a c but : Int) (hv : b.Valid) (hb : BookAt w.heap.size w p b) (ha : 0 ≤ a) (ha2 : a < 1 + b.lots + b.total) (hc : 0 ≤ c) (hc2 : c < 1 + b.lots + b.total) (ha' : ∃ r : Nat, r < b.total ∧ a - b.lots - 1 = r) (hc' : 1 ≤ c ∧ c ≤ b.lots) :
    Calls Tryd.prog 81 #[bookV b p cap, .int .i64 a, .int .i64 c, .int .i64 but] w fun e w' => e = .returned (.tuple #[.int .i64 ((b.bd but a c).getD 0), .bool (b.bd but a c).isSome]) ∧ Pure w w' := by
  have hl1 := hv.lots1
  have hl6 := hv.lots6
  have h12 := hv.tot
  go_enter Tryd.func81, Tryd.ntmps81
  go_wp2_with fail
  obtain ⟨X, hX⟩ : ∃ X, w.alloc (.cells (bookC b p cap) 26) = X := ⟨_, rfl⟩
  have hP : Hid (Pure w X) := by rw [← hX]; exact (Diff.refl w).alloc _
  have hX1 : BoxB w.heap.size b p cap X := by rw [← hX]; exact BoxB.new w b p cap 26
  rw [hX]
  clear hX
  have HB := Lib.hid hX1
  obtain ⟨c0, c1, c2, c3, cl⟩ := hX1
  go_wp2_with fail
  refine (Tastes_flat X b p cap hv.small hv.pos ((hb.diff hP.out (Nat.le_refl _) (fun _ _ => id)).mono hP.out.size)).mono ?_
  rintro e w1 ⟨u, rfl, hfl, hp1⟩
  have hP1 : Hid (Pure w w1) := hP.out.trans hp1
  have HB1 := Lib.hid (HB.out.pure hp1)
  have HHB := Lib.hid hb
  clear c0 c1 c2 c3 cl HB hp1 hP hb
  obtain ⟨c0, c1, c2, c3, cl⟩ := HB1.out
  obtain ⟨pu, cu, rfl, hcell⟩ := hfl
  have HC := Lib.hid hcell
  clear hcell
  obtain ⟨t, ht⟩ : ∃ t, b.total = t := ⟨_, rfl⟩
  have HT := Lib.hid ht
  rw [ht] at ha2 hc2 h12 ha' ⊢
  clear ht
  obtain ⟨gb, hgb⟩ : ∃ gb, w.heap.size = gb := ⟨_, rfl⟩
  rw [hgb] at c0 c1 c2 c3 cl HB1 ⊢
  clear hgb
  have hS := hv.small
  have hPD : Hid (Pure w w1.drew) := hP1.out.trans (Diff.refl w1).drew
  have first1 : ∀ (q : Nat) (W : World), q < t → Pure w1 W → Calls Tryd.prog 93 #[.agg #[.int .i64 b.lo, .int .i64 b.hi, .int .i64 b.lots, .slice p b.n cap], .int .i64 (q : Int)] W fun e w' => e = .returned (.bool (b.at' q).1) ∧ Pure W w' := fun q W hq hW => by
    refine (IsFirst_any W b p cap (q : Int) hS ((HHB.out.diff (hP1.out.trans hW) (Nat.le_refl _) (fun _ _ => id)).mono (hP1.out.trans hW).size)).mono ?_
    rintro e w' ⟨rfl, h⟩
    exact ⟨by rw [firstTo_at b hv q (by rw [HT.out]; exact hq)], h⟩
  have F1 := Lib.hid first1
  clear first1
  have hdr : Hid (Pure w1 w1.drew) := (Diff.refl w1).drew
  obtain ⟨r, hr, hxr⟩ := ha'
  have hr0 : (0 : Int) ≤ r := by omega
  have hr1 : (r : Int) < t := by omega
  have ha0 : ¬ a = 0 := by omega
  have ha1 : 1 ≤ a := by omega
  have hal : ¬ a ≤ b.lots := by omega
  obtain ⟨hc3, hc4⟩ := hc'
  have hc0 : ¬ c = 0 := by omega
  have hyn : ¬ 0 ≤ c - b.lots - 1 := by omega
  have hyr : ¬ c - b.lots - 1 = r + 1 := by omega
  obtain ⟨g, rfl, hg, z0, z1, z2⟩ := HC.out r (by rw [HT.out]; exact hr)
  obtain ⟨x, hx⟩ : ∃ x, (b.at' r).2 = x := ⟨_, rfl⟩
  rw [hx] at z0 z1 z2
  by_cases hok : (r : Int) ≠ but ∧ x.lot = c - 1
  · have HF : Hid (b.bd but a c = some x.hi) := by
      show _ = _
      unfold BK.bd
      rw [if_neg (by omega), if_neg (by omega), if_neg (by omega), if_neg (by omega), if_neg (by omega), show (a - b.lots - 1).toNat = r by omega, hx, if_pos (by omega)]
    obtain ⟨hb1, hb2⟩ := hok
    clear hx
    go_wp2_with fail
    go_region
    (go_wp2_with fail) <;> first | (exfalso; omega) | (exact bodyPost_ret (v := .tuple #[.int .i64 (x.hi), .bool true]) (by simp [results, Tryd.results81, go_sem]) rfl ⟨by rw [HF.out]; rfl, hPD.out⟩)
  · have HF : Hid (b.bd but a c = none) := by
      show _ = _
      unfold BK.bd
      rw [if_neg (by omega), if_neg (by omega), if_neg (by omega), if_neg (by omega), if_neg (by omega), show (a - b.lots - 1).toNat = r by omega, hx, if_neg (by omega), if_neg (by omega)]
    clear hx
    by_cases hb1 : (r : Int) = but
    · have hbq : ((r : Int) == but) = true := by simp [hb1]
      have hbq2 : ((r : Int) != but) = false := by simp [hb1]
      clear hok hb1
      go_wp2_with fail
      go_region
      (go_wp2_with fail) <;> first | (exfalso; omega) | (exact bodyPost_ret (v := .tuple #[.int .i64 (0), .bool false]) (by simp [results, Tryd.results81, go_sem]) rfl ⟨by rw [HF.out]; rfl, hPD.out⟩)
    · have hb2 : ¬ x.lot = c - 1 := fun h => hok ⟨hb1, h⟩
      have hbl : (x.lot == c - 1) = false := by simp [hb2]
      clear hok
      go_wp2_with fail
      go_region
      (go_wp2_with fail) <;> first | (exfalso; omega) | (exact bodyPost_ret (v := .tuple #[.int .i64 (0), .bool false]) (by simp [results, Tryd.results81, go_sem]) rfl ⟨by rw [HF.out]; rfl, hPD.out⟩)

end Go.Proofs.YtmedkmbfggphdaaDoor

namespace Go.Proofs.YtmedkmbfggphdaaDoor
open Go.RowKit

set_option maxRecDepth 20000 in
set_option maxHeartbeats 20000000 in
theorem Bound_C2 (w : World) (b : BK) (p : Option Addr) (cap : Nat) (a c but : Int) (hv : b.Valid) (hb : BookAt w.heap.size w p b) (ha : 0 ≤ a) (ha2 : a < 1 + b.lots + b.total) (hc : 0 ≤ c) (hc2 : c < 1 + b.lots + b.total) (ha' : ∃ r : Nat, r < b.total ∧ a - b.lots - 1 = r) (hc' : ∃ q : Nat, q < b.total ∧ c - b.lots - 1 = q) :
    Calls Tryd.prog 81 #[bookV b p cap, .int .i64 a, .int .i64 c, .int .i64 but] w fun e w' => e = .returned (.tuple #[.int .i64 ((b.bd but a c).getD 0), .bool (b.bd but a c).isSome]) ∧ Pure w w' := by
  have hl1 := hv.lots1
  have hl6 := hv.lots6
  have h12 := hv.tot
  go_enter Tryd.func81, Tryd.ntmps81
  go_wp2_with fail
  obtain ⟨X, hX⟩ : ∃ X, w.alloc (.cells (bookC b p cap) 26) = X := ⟨_, rfl⟩
  have hP : Hid (Pure w X) := by rw [← hX]; exact (Diff.refl w).alloc _
  have hX1 : BoxB w.heap.size b p cap X := by rw [← hX]; exact BoxB.new w b p cap 26
  rw [hX]
  clear hX
  have HB := Lib.hid hX1
  obtain ⟨c0, c1, c2, c3, cl⟩ := hX1
  go_wp2_with fail
  refine (Tastes_flat X b p cap hv.small hv.pos ((hb.diff hP.out (Nat.le_refl _) (fun _ _ => id)).mono hP.out.size)).mono ?_
  rintro e w1 ⟨u, rfl, hfl, hp1⟩
  have hP1 : Hid (Pure w w1) := hP.out.trans hp1
  have HB1 := Lib.hid (HB.out.pure hp1)
  have HHB := Lib.hid hb
  clear c0 c1 c2 c3 cl HB hp1 hP hb
  obtain ⟨c0, c1, c2, c3, cl⟩ := HB1.out
  obtain ⟨pu, cu, rfl, hcell⟩ := hfl
  have HC := Lib.hid hcell
  clear hcell
  obtain ⟨t, ht⟩ : ∃ t, b.total = t := ⟨_, rfl⟩
  have HT := Lib.hid ht
  rw [ht] at ha2 hc2 h12 ha' hc' ⊢
  clear ht
  obtain ⟨gb, hgb⟩ : ∃ gb, w.heap.size = gb := ⟨_, rfl⟩
  rw [hgb] at c0 c1 c2 c3 cl HB1 ⊢
  clear hgb
  have hS := hv.small
  have hPD : Hid (Pure w w1.drew) := hP1.out.trans (Diff.refl w1).drew
  have first1 : ∀ (q : Nat) (W : World), q < t → Pure w1 W → Calls Tryd.prog 93 #[.agg #[.int .i64 b.lo, .int .i64 b.hi, .int .i64 b.lots, .slice p b.n cap], .int .i64 (q : Int)] W fun e w' => e = .returned (.bool (b.at' q).1) ∧ Pure W w' := fun q W hq hW => by
    refine (IsFirst_any W b p cap (q : Int) hS ((HHB.out.diff (hP1.out.trans hW) (Nat.le_refl _) (fun _ _ => id)).mono (hP1.out.trans hW).size)).mono ?_
    rintro e w' ⟨rfl, h⟩
    exact ⟨by rw [firstTo_at b hv q (by rw [HT.out]; exact hq)], h⟩
  have F1 := Lib.hid first1
  clear first1
  have hdr : Hid (Pure w1 w1.drew) := (Diff.refl w1).drew
  obtain ⟨r, hr, hxr⟩ := ha'
  have hr0 : (0 : Int) ≤ r := by omega
  have hr1 : (r : Int) < t := by omega
  have ha0 : ¬ a = 0 := by omega
  have ha1 : 1 ≤ a := by omega
  have hal : ¬ a ≤ b.lots := by omega
  obtain ⟨q, hq, hyq⟩ := hc'
  have hc0 : ¬ c = 0 := by omega
  have hc1 : 1 ≤ c := by omega
  have hcl : ¬ c ≤ b.lots := by omega
  have hq0 : (0 : Int) ≤ q := by omega
  have hq1 : (q : Int) < t := by omega
  have hrates : -50 ≤ b.lo ∧ b.lo ≤ 50 := by have := hv.lo0; have := hv.lohi; have := hv.hi50; omega
  obtain ⟨hrt1, hrt2⟩ := hrates
  by_cases hup : (q : Int) = r + 1
  · have HF : Hid (b.bd but a c = if (b.at' q).1 = false then some b.hi else none) := by
      show _ = _
      unfold BK.bd
      rw [if_neg (by omega), if_neg (by omega), if_neg (by omega), show (c - b.lots - 1).toNat = q by omega]
      cases (b.at' q).1 with
      | false => rw [if_pos ⟨by omega, by omega, rfl⟩]; rfl
      | true => rw [if_neg (fun h => by cases h.2.2), if_neg (by omega), if_neg (by omega), if_neg (by omega)]; rfl
    have hbu : ((q : Int) == (r : Int) + 1) = true := by simp [hup]
    have hbd : ((r : Int) == (q : Int) + 1) = false := by simp; omega
    have HUP := Lib.hid hup
    clear hup
    go_wp2_with fail
    go_region
    go_wp2_with fail
    refine (F1.out q _ hq hdr.out).mono ?_
    rintro e w2 ⟨rfl, hp2⟩
    have hPE : Hid (Pure w w2) := hPD.out.trans hp2
    obtain ⟨c0, c1, c2, c3, cl⟩ := HB1.out.pure (hdr.out.trans hp2)
    cases hf : (b.at' q).1 with
    | true =>
      rw [hf, if_neg (by simp)] at HF
      clear hf hp2
      (go_wp2_with fail) <;> first | (exfalso; omega) | (exact bodyPost_ret (v := .tuple #[.int .i64 (0), .bool false]) (by simp [results, Tryd.results81, go_sem]) rfl ⟨by rw [HF.out]; rfl, hPE.out⟩)
    | false =>
      rw [hf, if_pos rfl] at HF
      clear hf hp2
      (go_wp2_with fail) <;> first | (exfalso; omega) | (exact bodyPost_ret (v := .tuple #[.int .i64 (b.hi), .bool true]) (by simp [results, Tryd.results81, go_sem]) rfl ⟨by rw [HF.out]; rfl, hPE.out⟩)
  · by_cases hdn : (r : Int) = q + 1
    · have HF : Hid (b.bd but a c = if (b.at' r).1 = false then some (-b.lo) else none) := by
        show _ = _
        unfold BK.bd
        rw [if_neg (by omega), if_neg (by omega), if_neg (by omega), if_neg (by omega), show (a - b.lots - 1).toNat = r by omega]
        cases (b.at' r).1 with
        | false => rw [if_pos ⟨by omega, by omega, rfl⟩]; rfl
        | true => rw [if_neg (fun h => by cases h.2.2), if_neg (by omega), if_neg (by omega)]; rfl
      have hbu : ((q : Int) == (r : Int) + 1) = false := by simp; omega
      have hbd : ((r : Int) == (q : Int) + 1) = true := by simp [hdn]
      have HDN := Lib.hid hdn
      clear hdn hup
      go_wp2_with fail
      go_region
      go_wp2_with fail
      refine (F1.out r _ hr hdr.out).mono ?_
      rintro e w2 ⟨rfl, hp2⟩
      have hPE : Hid (Pure w w2) := hPD.out.trans hp2
      obtain ⟨c0, c1, c2, c3, cl⟩ := HB1.out.pure (hdr.out.trans hp2)
      cases hf : (b.at' r).1 with
      | true =>
        rw [hf, if_neg (by simp)] at HF
        clear hf hp2
        (go_wp2_with fail) <;> first | (exfalso; omega) | (exact bodyPost_ret (v := .tuple #[.int .i64 (0), .bool false]) (by simp [results, Tryd.results81, go_sem]) rfl ⟨by rw [HF.out]; rfl, hPE.out⟩)
      | false =>
        rw [hf, if_pos rfl] at HF
        clear hf hp2
        (go_wp2_with fail) <;> first | (exfalso; omega) | (exact bodyPost_ret (v := .tuple #[.int .i64 (-b.lo), .bool true]) (by simp [results, Tryd.results81, go_sem]) rfl ⟨by rw [HF.out]; rfl, hPE.out⟩)
    · have HF : Hid (b.bd but a c = none) := by
        show _ = _
        unfold BK.bd
        rw [if_neg (by omega), if_neg (by omega), if_neg (by omega), if_neg (by omega), if_neg (by omega), if_neg (by omega), if_neg (by omega)]
      have hbu : ((q : Int) == (r : Int) + 1) = false := by simp; omega
      have hbd : ((r : Int) == (q : Int) + 1) = false := by simp; omega
      clear hdn hup
      go_wp2_with fail
      go_region
      (go_wp2_with fail) <;> first | (exfalso; omega) | (exact bodyPost_ret (v := .tuple #[.int .i64 (0), .bool false]) (by simp [results, Tryd.results81, go_sem]) rfl ⟨by rw [HF.out]; rfl, hPD.out⟩)

end Go.Proofs.YtmedkmbfggphdaaDoor
