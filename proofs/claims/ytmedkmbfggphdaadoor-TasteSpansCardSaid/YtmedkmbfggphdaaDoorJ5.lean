/- The reference: Apart. -/
import Derived.Test.YtmedkmbfggphdaaDoorJ4
set_option linter.unusedSimpArgs false
set_option linter.unusedVariables false
set_option linter.constructorNameAsVariable false
namespace Go.Proofs.YtmedkmbfggphdaaDoor
open Go.RowKit

set_option maxRecDepth 20000 in
set_option maxHeartbeats 8000000 in
theorem RApart_any (w : World) (b : BK) (p : Option Addr) (cap : Nat) (one two : Int) (hs : b.Small) (hb : BookAt w.heap.size w p b) :
    Calls Tryd.prog 37 #[bookV b p cap, .int .i64 one, .int .i64 two] w fun e w' => e = .returned (apQ b (lotsC b (fun i => if i = 0 then one else two) 2) (1 + one.toNat) (1 + two.toNat)) ∧ Pure w w' := by
  have hmx : Tryd.prog.follows .mixedOrders = true := by kernel_rfl
  have HB := Lib.hid hb
  clear hb
  go_enter Tryd.func37, Tryd.ntmps37
  go_wp2_with fail
  obtain ⟨X, hX⟩ : ∃ X, (w.alloc (.cells (bookC b p cap) 26)).alloc (.cells #[.int .i64 0, .int .i64 0] 23) = X := ⟨_, rfl⟩
  have hP : Hid (Pure w X) := by rw [← hX]; exact ((Diff.refl w).alloc _).alloc _
  have hX1 : BoxB w.heap.size b p cap X := by rw [← hX]; exact (BoxB.new w b p cap 26).pure ((Diff.refl _).alloc _)
  have hX2 : RgAt (w.heap.size + 1) 0 0 X := by rw [← hX]; have := RgAt.new (w.alloc (.cells (bookC b p cap) 26)) 0 0; rwa [World.size_alloc] at this
  rw [hX]
  obtain ⟨g0, hg0⟩ : ∃ g, w.heap.size = g := ⟨_, rfl⟩
  obtain ⟨g1, hg1⟩ : ∃ g, g0 + 1 = g := ⟨_, rfl⟩
  have HG : Hid (¬ g1 < w.heap.size) := by show ¬ _; omega
  rw [hg0] at hX1 hX2 ⊢
  rw [hg1] at hX2 ⊢
  clear hX hg0 hg1
  have H0 := Lib.hid hX1
  have R0 := Lib.hid hX2
  obtain ⟨c0, c1, c2, c3, cl⟩ := hX1
  clear hX2
  go_wp2_with fail
  refine (RCheckBook_any X b p cap hs (HB.out.to hP.out)).mono ?_
  rintro e w1 ⟨rfl, hp1⟩
  have hP1 : Hid (Pure w w1) := hP.out.trans hp1
  have H1 := Lib.hid (H0.out.pure hp1)
  have R1 := Lib.hid (R0.out.to hp1)
  clear c0 c1 c2 c3 cl hp1 hP H0 R0
  obtain ⟨c0, c1, c2, c3, cl⟩ := H1.out
  have e0 := R1.out.c0
  have e1 := R1.out.c1
  have ef := R1.out.fr
  by_cases hck : checkB b = 0
  · have hv := checkB_valid hck
    have HCK := Lib.hid hck
    rw [hck]
    clear hck
    have hl1 := hv.lots1
    have hl6 := hv.lots6
    have h12 := hv.tot
    have HE : Hid (lotsC b (fun i => if i = 0 then one else two) 2 = if (wIn 0 (b.lots - 1) one && wIn 0 (b.lots - 1) two) = false then 2 else 0) := by
      show _ = _
      unfold lotsC
      rw [if_neg (by have := HCK.out; omega)]
      have : wAll 0 (b.lots - 1) (fun i => if i = 0 then one else two) 2 = (wIn 0 (b.lots - 1) one && wIn 0 (b.lots - 1) two) := by simp [wAll, List.range_succ]
      rw [this]
      cases wIn 0 (b.lots - 1) one <;> cases wIn 0 (b.lots - 1) two <;> rfl
    by_cases hin : (0 ≤ one ∧ one < b.lots) ∧ (0 ≤ two ∧ two < b.lots)
    · obtain ⟨⟨h1, h2⟩, h3, h4⟩ := hin
      have HE0 : Hid (lotsC b (fun i => if i = 0 then one else two) 2 = 0) := by show _ = _; rw [HE.out, if_neg (by simp [wIn]; omega)]
      clear HE
      go_wp2_with fail
      refine (Can_net w1 b p cap hv (HB.out.to hP1.out)).mono ?_
      rintro e w2 ⟨rfl, hp2⟩
      have hP2 : Hid (Pure w w2) := hP1.out.trans hp2
      have H2 := Lib.hid (H1.out.pure hp2)
      have R2 := Lib.hid (R1.out.to hp2)
      clear c0 c1 c2 c3 cl hp2 hP1 H1 R1 e0 e1 ef
      obtain ⟨c0, c1, c2, c3, cl⟩ := H2.out
      have e0 := R2.out.c0
      have e1 := R2.out.c1
      have ef := R2.out.fr
      cases hN : noneB b.es with
      | true =>
        have HN := Lib.hid hN
        clear hN
        go_wp2_with fail
        exact bodyPost_ret (v := .tuple #[.agg #[.int .i64 0, .int .i64 0], .int .i64 17]) (by simp [results, Tryd.results37, go_sem, e0, e1]) rfl ⟨by rw [HE0.out, apQ_eN b HN.out], (hP2.out.setCell (fun h => HG.out h) _).setCell (fun h => HG.out h) _⟩
      | false =>
        have HN := Lib.hid hN
        clear hN
        obtain ⟨N, hN⟩ := Int.eq_ofNat_of_zero_le (show 0 ≤ 1 + b.lots + b.total by omega)
        obtain ⟨L, hL⟩ := Int.eq_ofNat_of_zero_le (show 0 ≤ b.lots by omega)
        obtain ⟨m, rfl⟩ := Int.eq_ofNat_of_zero_le h1
        obtain ⟨q, rfl⟩ := Int.eq_ofNat_of_zero_le h3
        have hmL : m < L := by omega
        have hqL : q < L := by omega
        have hqN : q + 1 < N := by omega
        have hN19 : N ≤ 19 := by omega
        have hmN : m + 1 < N := by omega
        have HNN : Hid ((N : Int) = 1 + b.lots + b.total) := hN.symm
        have HL := Lib.hid hL
        have HNL : Hid (N = 1 + L + b.total) := by show _ = _; omega
        clear hN hL
        go_wp2_with fail
        refine (Joined_any w2 b p cap N (-1) hv (HB.out.to hP2.out) HNN.out).mono ?_
        rintro e w3 ⟨u, rfl, hM, hp3⟩
        have hP3 : Hid (Pure w w3) := hP2.out.trans hp3
        have R3 := Lib.hid (R2.out.to hp3)
        clear c0 c1 c2 c3 cl hp3 hP2 H2 R2 e0 e1 ef
        have HR : Hid (jm (j0 fun a c => b.bd (-1) a c) N N (m + 1) (q + 1) = (b.T (ix (1 + m) (1 + q))).by' ∧ jm (j0 fun a c => b.bd (-1) a c) N N (q + 1) (m + 1) = (b.T (ix (1 + q) (1 + m))).by') := by
          have hrel := (joined_b b hv N HNN.out).2 HN.out
          rw [show m + 1 = 1 + m by omega, show q + 1 = 1 + q by omega]
          have hx := b.great_truth hv L HL.out HN.out
          have hz1 := (b.between hv L HL.out HN.out hx (1 + m) (1 + q) (by have := HNL.out; omega) (by have := HNL.out; omega)).1
          have hz2 := (b.between hv L HL.out HN.out hx (1 + q) (1 + m) (by have := HNL.out; omega) (by have := HNL.out; omega)).1
          have h1 := hrel (1 + m) (1 + q) (by omega) (by omega)
          have h2 := hrel (1 + q) (1 + m) (by omega) (by omega)
          unfold relB at h1 h2
          rw [if_pos hz1] at h1
          rw [if_pos hz2] at h2
          exact ⟨h1, h2⟩
        have HS : Hid (∀ i, -1000000000 ≤ (b.T i).by' ∧ (b.T i).by' ≤ 1000000000) := tightS_small b.es b.bnN (b.netM_good hv)
        obtain ⟨R, hR⟩ : ∃ R, (jm (j0 fun a c => b.bd (-1) a c) N N) = R := ⟨_, rfl⟩
        rw [hR] at hM HR
        clear hR
        obtain ⟨ub, uc, G, rfl, hub, hall⟩ := hM
        have HA := Lib.hid hall
        clear hall
        go_wp2_with fail
        have hNi : (0 : Int) < N := by omega
        have hm0 : (0 : Int) ≤ (m : Int) + 1 := by omega
        have hmi : (m : Int) + 1 < N := by omega
        have hsum : IntKind.i64.wrap ((m : Int) + 1) = (m : Int) + 1 := IntWalk.i64_in _ (by omega)
        have hto : ((m : Int) + 1).toNat = m + 1 := by omega
        have hq0 : (0 : Int) ≤ (q : Int) + 1 := by omega
        have hqi : (q : Int) + 1 < N := by omega
        have hsuq : IntKind.i64.wrap ((q : Int) + 1) = (q : Int) + 1 := IntWalk.i64_in _ (by omega)
        have htq : ((q : Int) + 1).toNat = q + 1 := by omega
        have x1 := (HA.out (m + 1) hmN).1
        have x2 := (HA.out (m + 1) hmN).2.2 (q + 1) hqN
        have x3 := (HA.out (q + 1) hqN).1
        have x4 := (HA.out (q + 1) hqN).2.2 (m + 1) hmN
        have hNN : 0 < N := by omega
        obtain ⟨r1, hr1⟩ : ∃ r, R (m + 1) (q + 1) = r := ⟨_, rfl⟩
        obtain ⟨r2, hr2⟩ : ∃ r, R (q + 1) (m + 1) = r := ⟨_, rfl⟩
        rw [hr1] at x2
        rw [hr2] at x4
        have hb1 : -1000000000 ≤ r1 ∧ r1 ≤ 1000000000 := by rw [← hr1, HR.out.1]; exact HS.out _
        have V1 : Hid (r1 = (b.T (ix (1 + m) (1 + q))).by') := by show _ = _; rw [← hr1]; exact HR.out.1
        have V2 : Hid (r2 = (b.T (ix (1 + q) (1 + m))).by') := by show _ = _; rw [← hr2]; exact HR.out.2
        clear hr1 hr2
        go_still_tail 20, hmx
        have hdr : ({ heap := w3.heap, tape := w3.tape, drawn := w3.drawn + 1, os := w3.os, output := w3.output } : World) = w3.drew := rfl
        rw [hdr]
        have hpd : Pure w3 w3.drew := (Diff.refl _).drew
        obtain ⟨W, hW⟩ : ∃ W, w3.drew = W := ⟨_, rfl⟩
        rw [hW] at hpd ⊢
        have hP4 : Hid (Pure w W) := hP3.out.trans hpd
        have R4 := Lib.hid (R3.out.to hpd)
        have e0 := R4.out.c0
        have e1 := R4.out.c1
        have ef := R4.out.fr
        clear hW hdr hpd hP3 R3
        go_wp2_with fail
        exact bodyPost_ret (v := .tuple #[.agg #[.int .i64 (-r1), .int .i64 r2], .int .i64 0]) (by simp [results, Tryd.results37, go_sem, e0, e1]) rfl ⟨by rw [HE0.out, Int.toNat_natCast, Int.toNat_natCast, apQ_eO b HN.out _ _ V1.out V2.out], (hP4.out.setCell (fun h => HG.out h) _).setCell (fun h => HG.out h) _⟩
    · have HE0 : Hid (lotsC b (fun i => if i = 0 then one else two) 2 = 2) := by show _ = _; rw [HE.out, if_pos (by simp [wIn]; omega)]
      clear HE
      by_cases h0 : one < 0
      · clear hin
        go_wp2_with fail
        exact bodyPost_ret (v := .tuple #[.agg #[.int .i64 0, .int .i64 0], .int .i64 2]) (by simp [results, Tryd.results37, go_sem, e0, e1]) rfl ⟨by rw [HE0.out, apQ_eE b (by omega)], (hP1.out.setCell (fun h => HG.out h) _).setCell (fun h => HG.out h) _⟩
      · by_cases h1 : b.lots ≤ one
        · clear hin
          go_wp2_with fail
          exact bodyPost_ret (v := .tuple #[.agg #[.int .i64 0, .int .i64 0], .int .i64 2]) (by simp [results, Tryd.results37, go_sem, e0, e1]) rfl ⟨by rw [HE0.out, apQ_eE b (by omega)], (hP1.out.setCell (fun h => HG.out h) _).setCell (fun h => HG.out h) _⟩
        · by_cases h2 : two < 0
          · clear hin
            go_wp2_with fail
            exact bodyPost_ret (v := .tuple #[.agg #[.int .i64 0, .int .i64 0], .int .i64 2]) (by simp [results, Tryd.results37, go_sem, e0, e1]) rfl ⟨by rw [HE0.out, apQ_eE b (by omega)], (hP1.out.setCell (fun h => HG.out h) _).setCell (fun h => HG.out h) _⟩
          · have h3 : b.lots ≤ two := by omega
            clear hin
            go_wp2_with fail
            exact bodyPost_ret (v := .tuple #[.agg #[.int .i64 0, .int .i64 0], .int .i64 2]) (by simp [results, Tryd.results37, go_sem, e0, e1]) rfl ⟨by rw [HE0.out, apQ_eE b (by omega)], (hP1.out.setCell (fun h => HG.out h) _).setCell (fun h => HG.out h) _⟩
  · go_wp2_with fail
    refine (RCheckBook_any w1 b p cap hs (HB.out.to hP1.out)).mono ?_
    rintro e w2 ⟨rfl, hp2⟩
    have hP2 : Hid (Pure w w2) := hP1.out.trans hp2
    have R2 := Lib.hid (R1.out.to hp2)
    clear hp2 hP1 H1 R1 e0 e1 ef
    have e0 := R2.out.c0
    have e1 := R2.out.c1
    have ef := R2.out.fr
    go_wp2_with fail
    exact bodyPost_ret (v := .tuple #[.agg #[.int .i64 0, .int .i64 0], .int .i64 (checkB b)]) (by simp [results, Tryd.results37, go_sem, e0, e1]) rfl ⟨by rw [lotsC_bad hck, apQ_eE b hck], (hP2.out.setCell (fun h => HG.out h) _).setCell (fun h => HG.out h) _⟩
end Go.Proofs.YtmedkmbfggphdaaDoor
