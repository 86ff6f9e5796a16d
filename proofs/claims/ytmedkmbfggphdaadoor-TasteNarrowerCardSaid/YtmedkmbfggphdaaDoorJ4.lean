/- The reference: Span and Apart. -/
import Derived.Test.YtmedkmbfggphdaaDoorJ2
import Derived.Test.YtmedkmbfggphdaaDoorT0
set_option linter.unusedSimpArgs false
set_option linter.unusedVariables false
set_option linter.constructorNameAsVariable false
namespace Go.Proofs.YtmedkmbfggphdaaDoor
open Go.RowKit

/-- A range that lies in block g. -/
def RgAt (g : Nat) (lo hi : Int) (w : World) : Prop := w.heap[g]? = some (.cells #[.int .i64 lo, .int .i64 hi] 23 (0, 0))
theorem RgAt.new (w : World) (lo hi : Int) : RgAt w.heap.size lo hi (w.alloc (.cells #[.int .i64 lo, .int .i64 hi] 23)) := World.alloc_heap_new w _
theorem RgAt.to {g : Nat} {lo hi : Int} {w w' : World} (h : RgAt g lo hi w) (hp : Pure w w') : RgAt g lo hi w' := (hp.block _ (Array.getElem?_eq_some_iff.1 h).1 id).trans h
theorem RgAt.c0 {g : Nat} {lo hi : Int} {w : World} (h : RgAt g lo hi w) : w.cell? ⟨g, 0, none⟩ = some (.int .i64 lo) := by rw [cell_of_row w _ _ _ _ _ h]; rfl
theorem RgAt.c1 {g : Nat} {lo hi : Int} {w : World} (h : RgAt g lo hi w) : w.cell? ⟨g, 1, none⟩ = some (.int .i64 hi) := by rw [cell_of_row w _ _ _ _ _ h]; rfl
theorem RgAt.fr {g : Nat} {lo hi : Int} {w : World} (h : RgAt g lo hi w) (o : Nat) : w.frozen? ⟨g, o, none⟩ = false := frozen_of_row w g o _ _ h
theorem RgAt.lt {g : Nat} {lo hi : Int} {w : World} (h : RgAt g lo hi w) : g < w.heap.size := (Array.getElem?_eq_some_iff.1 h).1

theorem apQ_eE (b : BK) {E : Int} (h : E ≠ 0) (x y : Nat) : apQ b E x y = .tuple #[.agg #[.int .i64 0, .int .i64 0], .int .i64 E] := by unfold apQ; rw [if_pos h]
theorem apQ_eN (b : BK) (h : noneB b.es = true) (x y : Nat) : apQ b 0 x y = .tuple #[.agg #[.int .i64 0, .int .i64 0], .int .i64 17] := by unfold apQ apLo apHi apE; rw [if_neg (by simp), h]; rfl
theorem apQ_eO (b : BK) (h : noneB b.es = false) (x y : Nat) {u v : Int} (hu : u = (b.T (ix x y)).by') (hv : v = (b.T (ix y x)).by') : apQ b 0 x y = .tuple #[.agg #[.int .i64 (-u), .int .i64 v], .int .i64 0] := by
  unfold apQ apLo apHi apE; rw [if_neg (by simp), h, hu, hv]; rfl
theorem lotsC_bad {b : BK} {f : Nat → Int} {n : Nat} (h : checkB b ≠ 0) : lotsC b f n = checkB b := by unfold lotsC; rw [if_pos h]

set_option maxRecDepth 20000 in
set_option maxHeartbeats 8000000 in
theorem RSpan_any (w : World) (b : BK) (p : Option Addr) (cap : Nat) (lot : Int) (hs : b.Small) (hb : BookAt w.heap.size w p b) :
    Calls Tryd.prog 35 #[bookV b p cap, .int .i64 lot] w fun e w' => e = .returned (apQ b (lotsC b (fun _ => lot) 1) (1 + lot.toNat) 0) ∧ Pure w w' := by
  have hmx : Tryd.prog.follows .mixedOrders = true := by kernel_rfl
  have HB := Lib.hid hb
  clear hb
  go_enter Tryd.func35, Tryd.ntmps35
  go_wp2_with fail
  obtain ⟨X, hX⟩ : ∃ X, (w.alloc (.cells (bookC b p cap) 26)).alloc (.cells #[.int .i64 0, .int .i64 0] 23) = X := ⟨_, rfl⟩
  have hP : Hid (Pure w X) := by rw [← hX]; exact ((Diff.refl w).alloc _).alloc _
  have hX1 : BoxB w.heap.size b p cap X := by rw [← hX]; exact (BoxB.new w b p cap 26).pure ((Diff.refl _).alloc _)
  have hX2 : RgAt (w.heap.size + 1) 0 0 X := by rw [← hX]; have := RgAt.new (w.alloc (.cells (bookC b p cap) 26)) 0 0; rwa [World.size_alloc] at this
  rw [hX]
  obtain ⟨g0, hg0⟩ : ∃ g, w.heap.size = g := ⟨_, rfl⟩
  obtain ⟨g1, hg1⟩ : ∃ g, g0 + 1 = g := ⟨_, rfl⟩
  have HG : Hid (¬ g1 < w.heap.size) := by show ¬ _; omega
  rw [hg0] at hX1 hX2 ⊢
  rw [hg1] at hX2 ⊢
  clear hX hg0 hg1
  have H0 := Lib.hid hX1
  have R0 := Lib.hid hX2
  obtain ⟨c0, c1, c2, c3, cl⟩ := hX1
  clear hX2
  go_wp2_with fail
  refine (RCheckBook_any X b p cap hs (HB.out.to hP.out)).mono ?_
  rintro e w1 ⟨rfl, hp1⟩
  have hP1 : Hid (Pure w w1) := hP.out.trans hp1
  have H1 := Lib.hid (H0.out.pure hp1)
  have R1 := Lib.hid (R0.out.to hp1)
  clear c0 c1 c2 c3 cl hp1 hP H0 R0
  obtain ⟨c0, c1, c2, c3, cl⟩ := H1.out
  have e0 := R1.out.c0
  have e1 := R1.out.c1
  have ef := R1.out.fr
  by_cases hck : checkB b = 0
  · have hv := checkB_valid hck
    have HCK := Lib.hid hck
    rw [hck]
    clear hck
    have hl1 := hv.lots1
    have hl6 := hv.lots6
    have h12 := hv.tot
    have HE : Hid (lotsC b (fun _ => lot) 1 = if wIn 0 (b.lots - 1) lot = false then 2 else 0) := by
      show _ = _
      unfold lotsC
      rw [if_neg (by have := HCK.out; omega)]
      have : wAll 0 (b.lots - 1) (fun _ => lot) 1 = wIn 0 (b.lots - 1) lot := by simp [wAll, List.range_succ]
      rw [this]
      cases wIn 0 (b.lots - 1) lot <;> rfl
    by_cases hin : 0 ≤ lot ∧ lot < b.lots
    · obtain ⟨h1, h2⟩ := hin
      have HE0 : Hid (lotsC b (fun _ => lot) 1 = 0) := by show _ = _; rw [HE.out, if_neg (by simp [wIn]; omega)]
      clear HE
      go_wp2_with fail
      refine (Can_net w1 b p cap hv (HB.out.to hP1.out)).mono ?_
      rintro e w2 ⟨rfl, hp2⟩
      have hP2 : Hid (Pure w w2) := hP1.out.trans hp2
      have H2 := Lib.hid (H1.out.pure hp2)
      have R2 := Lib.hid (R1.out.to hp2)
      clear c0 c1 c2 c3 cl hp2 hP1 H1 R1 e0 e1 ef
      obtain ⟨c0, c1, c2, c3, cl⟩ := H2.out
      have e0 := R2.out.c0
      have e1 := R2.out.c1
      have ef := R2.out.fr
      cases hN : noneB b.es with
      | true =>
        have HN := Lib.hid hN
        clear hN
        go_wp2_with fail
        exact bodyPost_ret (v := .tuple #[.agg #[.int .i64 0, .int .i64 0], .int .i64 17]) (by simp [results, Tryd.results35, go_sem, e0, e1]) rfl ⟨by rw [HE0.out, apQ_eN b HN.out], (hP2.out.setCell (fun h => HG.out h) _).setCell (fun h => HG.out h) _⟩
      | false =>
        have HN := Lib.hid hN
        clear hN
        obtain ⟨N, hN⟩ := Int.eq_ofNat_of_zero_le (show 0 ≤ 1 + b.lots + b.total by omega)
        obtain ⟨L, hL⟩ := Int.eq_ofNat_of_zero_le (show 0 ≤ b.lots by omega)
        obtain ⟨m, rfl⟩ := Int.eq_ofNat_of_zero_le h1
        have hmL : m < L := by omega
        have hN19 : N ≤ 19 := by omega
        have hmN : m + 1 < N := by omega
        have HNN : Hid ((N : Int) = 1 + b.lots + b.total) := hN.symm
        have HL := Lib.hid hL
        have HNL : Hid (N = 1 + L + b.total) := by show _ = _; omega
        clear hN hL
        go_wp2_with fail
        refine (Joined_any w2 b p cap N (-1) hv (HB.out.to hP2.out) HNN.out).mono ?_
        rintro e w3 ⟨u, rfl, hM, hp3⟩
        have hP3 : Hid (Pure w w3) := hP2.out.trans hp3
        have R3 := Lib.hid (R2.out.to hp3)
        clear c0 c1 c2 c3 cl hp3 hP2 H2 R2 e0 e1 ef
        have HR : Hid (jm (j0 fun a c => b.bd (-1) a c) N N (m + 1) 0 = (b.T (ix (1 + m) 0)).by' ∧ jm (j0 fun a c => b.bd (-1) a c) N N 0 (m + 1) = (b.T (ix 0 (1 + m))).by') := by
          have hrel := (joined_b b hv N HNN.out).2 HN.out
          rw [show m + 1 = 1 + m by omega]
          have hz := b.zero hv L HL.out HN.out (1 + m) (by have := HNL.out; omega)
          have h1 := hrel (1 + m) 0 (by omega) (by omega)
          have h2 := hrel 0 (1 + m) (by omega) (by omega)
          unfold relB at h1 h2
          rw [if_pos hz.2] at h1
          rw [if_pos hz.1] at h2
          exact ⟨h1, h2⟩
        have HS : Hid (∀ i, -1000000000 ≤ (b.T i).by' ∧ (b.T i).by' ≤ 1000000000) := tightS_small b.es b.bnN (b.netM_good hv)
        obtain ⟨R, hR⟩ : ∃ R, (jm (j0 fun a c => b.bd (-1) a c) N N) = R := ⟨_, rfl⟩
        rw [hR] at hM HR
        clear hR
        obtain ⟨ub, uc, G, rfl, hub, hall⟩ := hM
        have HA := Lib.hid hall
        clear hall
        go_wp2_with fail
        have hNi : (0 : Int) < N := by omega
        have hm0 : (0 : Int) ≤ (m : Int) + 1 := by omega
        have hmi : (m : Int) + 1 < N := by omega
        have hsum : IntKind.i64.wrap ((m : Int) + 1) = (m : Int) + 1 := IntWalk.i64_in _ (by omega)
        have hto : ((m : Int) + 1).toNat = m + 1 := by omega
        have x1 := (HA.out (m + 1) hmN).1
        have x2 := (HA.out (m + 1) hmN).2.2 0 (by omega)
        have x3 := (HA.out 0 (by omega)).1
        have x4 := (HA.out 0 (by omega)).2.2 (m + 1) hmN
        have hNN : 0 < N := by omega
        obtain ⟨r1, hr1⟩ : ∃ r, R (m + 1) 0 = r := ⟨_, rfl⟩
        obtain ⟨r2, hr2⟩ : ∃ r, R 0 (m + 1) = r := ⟨_, rfl⟩
        rw [hr1] at x2
        rw [hr2] at x4
        have hb1 : -1000000000 ≤ r1 ∧ r1 ≤ 1000000000 := by rw [← hr1, HR.out.1]; exact HS.out _
        have V1 : Hid (r1 = (b.T (ix (1 + m) 0)).by') := by show _ = _; rw [← hr1]; exact HR.out.1
        have V2 : Hid (r2 = (b.T (ix 0 (1 + m))).by') := by show _ = _; rw [← hr2]; exact HR.out.2
        clear hr1 hr2
        go_still_tail 16, hmx
        have hdr : ({ heap := w3.heap, tape := w3.tape, drawn := w3.drawn + 1, os := w3.os, output := w3.output } : World) = w3.drew := rfl
        rw [hdr]
        have hpd : Pure w3 w3.drew := (Diff.refl _).drew
        obtain ⟨W, hW⟩ : ∃ W, w3.drew = W := ⟨_, rfl⟩
        rw [hW] at hpd ⊢
        have hP4 : Hid (Pure w W) := hP3.out.trans hpd
        have R4 := Lib.hid (R3.out.to hpd)
        have e0 := R4.out.c0
        have e1 := R4.out.c1
        have ef := R4.out.fr
        clear hW hdr hpd hP3 R3
        go_wp2_with fail
        exact bodyPost_ret (v := .tuple #[.agg #[.int .i64 (-r1), .int .i64 r2], .int .i64 0]) (by simp [results, Tryd.results35, go_sem, e0, e1]) rfl ⟨by rw [HE0.out, Int.toNat_natCast, apQ_eO b HN.out _ _ V1.out V2.out], (hP4.out.setCell (fun h => HG.out h) _).setCell (fun h => HG.out h) _⟩
    · have HE0 : Hid (lotsC b (fun _ => lot) 1 = 2) := by show _ = _; rw [HE.out, if_pos (by simp [wIn]; omega)]
      clear HE
      by_cases h0 : lot < 0
      · go_wp2_with fail
        exact bodyPost_ret (v := .tuple #[.agg #[.int .i64 0, .int .i64 0], .int .i64 2]) (by simp [results, Tryd.results35, go_sem, e0, e1]) rfl ⟨by rw [HE0.out, apQ_eE b (by omega)], (hP1.out.setCell (fun h => HG.out h) _).setCell (fun h => HG.out h) _⟩
      · have h2 : b.lots ≤ lot := by omega
        clear hin
        go_wp2_with fail
        exact bodyPost_ret (v := .tuple #[.agg #[.int .i64 0, .int .i64 0], .int .i64 2]) (by simp [results, Tryd.results35, go_sem, e0, e1]) rfl ⟨by rw [HE0.out, apQ_eE b (by omega)], (hP1.out.setCell (fun h => HG.out h) _).setCell (fun h => HG.out h) _⟩
  · go_wp2_with fail
    refine (RCheckBook_any w1 b p cap hs (HB.out.to hP1.out)).mono ?_
    rintro e w2 ⟨rfl, hp2⟩
    have hP2 : Hid (Pure w w2) := hP1.out.trans hp2
    have R2 := Lib.hid (R1.out.to hp2)
    clear hp2 hP1 H1 R1 e0 e1 ef
    have e0 := R2.out.c0
    have e1 := R2.out.c1
    have ef := R2.out.fr
    go_wp2_with fail
    exact bodyPost_ret (v := .tuple #[.agg #[.int .i64 0, .int .i64 0], .int .i64 (checkB b)]) (by simp [results, Tryd.results35, go_sem, e0, e1]) rfl ⟨by rw [lotsC_bad hck, apQ_eE b hck], (hP2.out.setCell (fun h => HG.out h) _).setCell (fun h => HG.out h) _⟩
end Go.Proofs.YtmedkmbfggphdaaDoor
