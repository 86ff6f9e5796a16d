/- The reference: the walk of IsTruth. -/
import Derived.Test.YtmedkmbfggphdaaDoorM19
import Derived.Test.YtmedkmbfggphdaaDoorT0
import Derived.Test.YtmedkmbfggphdaaDoorK4
set_option linter.unusedSimpArgs false
set_option linter.unusedVariables false
set_option linter.constructorNameAsVariable false
namespace Go.Proofs.YtmedkmbfggphdaaDoor
open Go.RowKit

/-- All of the first n numbers are within the limits of a sharpness. -/
def sharpTo (f : Nat → Int) (n : Nat) : Bool := (List.range n).all fun i => decide (0 ≤ f i) && decide (f i ≤ 1000)
theorem sharpTo_succ (f : Nat → Int) (n : Nat) : sharpTo f (n + 1) = (sharpTo f n && (decide (0 ≤ f n) && decide (f n ≤ 1000))) := by simp [sharpTo, List.range_succ]
theorem sharpTo_false {f : Nat → Int} {n k : Nat} (hk : k < n) (h : (decide (0 ≤ f k) && decide (f k ≤ 1000)) = false) : sharpTo f n = false := by
  simp only [sharpTo, List.all_eq_false, List.mem_range]
  exact ⟨k, hk, by rw [h]; simp⟩
theorem sharpTo_at {f : Nat → Int} {n k : Nat} (h : sharpTo f n = true) (hk : k < n) : 0 ≤ f k ∧ f k ≤ 1000 := by
  have := List.all_eq_true.1 h k (by simpa using hk)
  simpa using this
/-- What is asked of taste k. -/
def tOk (b : BK) (f g : Nat → Int) (k : Nat) : Bool :=
  decide (0 ≤ g k) && (decide (g k ≤ 600) && ((bif (b.at' k).1 then decide (g k = 0) else decide (b.lo ≤ g k - g (k - 1)) && decide (g k - g (k - 1) ≤ b.hi)) &&
    (decide ((b.at' k).2.lo ≤ f (b.at' k).2.lot.toNat - g k) && decide (f (b.at' k).2.lot.toNat - g k ≤ (b.at' k).2.hi))))
def tiredTo (b : BK) (f g : Nat → Int) (n : Nat) : Bool := (List.range n).all (tOk b f g)
theorem tiredTo_succ (b : BK) (f g : Nat → Int) (n : Nat) : tiredTo b f g (n + 1) = (tiredTo b f g n && tOk b f g n) := by simp [tiredTo, List.range_succ]
theorem tiredTo_false {b : BK} {f g : Nat → Int} {n k : Nat} (hk : k < n) (h : tOk b f g k = false) : tiredTo b f g n = false := by
  simp only [tiredTo, List.all_eq_false, List.mem_range]
  exact ⟨k, hk, by rw [h]; simp⟩
theorem tiredTo_at {b : BK} {f g : Nat → Int} {n k : Nat} (h : tiredTo b f g n = true) (hk : k < n) : tOk b f g k = true := List.all_eq_true.1 h k (by simpa using hk)
def isT (b : BK) (f g : Nat → Int) (n : Nat) : Bool := sharpTo f n && tiredTo b f g b.total

theorem isT_truth (b : BK) (hv : b.Valid) (xs ys : List Int) (hL : b.lots = xs.length) : isT b (nthI xs) (nthI ys) xs.length = true ↔ Truth b xs.length (numN xs ys) := by
  have hlo0 := hv.lo0
  have hhi := hv.hi50
  have h12 := hv.tot
  have hlot : ∀ q, (b.at' q).2.lot.toNat < xs.length := fun q => by
    have := (b.at_ok hv q).lot0
    have := (b.at_ok hv q).lot1
    omega
  have prev : ∀ q, q < b.total → (b.at' q).1 = false → 1 ≤ q := fun q hq h => by
    by_cases e : q = 0
    · subst e; rw [b.fst_zero hv (by omega)] at h; cases h
    · omega
  constructor
  · intro h
    unfold isT at h
    rw [Bool.and_eq_true] at h
    obtain ⟨h1, h2⟩ := h
    refine ⟨fun i hi => ?_, fun q hq h => ?_, fun q hq h => ?_, fun q hq => ?_⟩
    · rw [numN_lot _ _ _ hi, numN_zero]; have := sharpTo_at h1 hi; omega
    · have ht := tiredTo_at h2 hq
      unfold tOk at ht
      rw [h] at ht
      simp only [cond_true, Bool.and_eq_true, decide_eq_true_eq] at ht
      rw [numN_taste, numN_zero]; omega
    · have ht := tiredTo_at h2 hq
      unfold tOk at ht
      rw [h] at ht
      simp only [cond_false, Bool.and_eq_true, decide_eq_true_eq] at ht
      have h1 := prev q hq h
      rw [show xs.length + q = 1 + xs.length + (q - 1) by omega, numN_taste, numN_taste]; omega
    · have ht := tiredTo_at h2 hq
      unfold tOk at ht
      simp only [Bool.and_eq_true, decide_eq_true_eq] at ht
      rw [numN_taste, numN_lot _ _ _ (hlot q)]; omega
  · intro h
    have near : ∀ q, q < b.total → 0 ≤ nthI ys q ∧ nthI ys q ≤ 50 * (q : Int) := fun q => by
      induction q with
      | zero =>
        intro hq
        have := h.one 0 hq (b.fst_zero hv hq)
        rw [numN_taste, numN_zero] at this
        omega
      | succ q ih =>
        intro hq
        have ih := ih (by omega)
        cases hf : (b.at' (q + 1)).1 with
        | true =>
          have := h.one (q + 1) hq hf
          rw [numN_taste, numN_zero] at this
          omega
        | false =>
          have := h.nxt (q + 1) hq hf
          rw [show xs.length + (q + 1) = 1 + xs.length + q by omega, numN_taste, numN_taste] at this
          omega
    unfold isT
    rw [Bool.and_eq_true]
    constructor
    · refine List.all_eq_true.2 fun i hi => ?_
      have hi : i < xs.length := by simpa using hi
      have := h.lot i hi
      rw [numN_lot _ _ _ hi, numN_zero] at this
      simp only [Bool.and_eq_true, decide_eq_true_eq]; omega
    · refine List.all_eq_true.2 fun q hq => ?_
      have hq : q < b.total := by simpa using hq
      have hn := near q hq
      have hs := h.say q hq
      rw [numN_taste, numN_lot _ _ _ (hlot q)] at hs
      unfold tOk
      cases hf : (b.at' q).1 with
      | true =>
        have := h.one q hq hf
        rw [numN_taste, numN_zero] at this
        simp only [cond_true, Bool.and_eq_true, decide_eq_true_eq]; omega
      | false =>
        have h1 := prev q hq hf
        have := h.nxt q hq hf
        rw [show xs.length + q = 1 + xs.length + (q - 1) by omega, numN_taste, numN_taste] at this
        simp only [cond_false, Bool.and_eq_true, decide_eq_true_eq]; omega
/-- The program's test and the reference's say the same. -/
theorem isT_allows (b : BK) (hv : b.Valid) (xs ys : List Int) (hL : b.lots = xs.length) (hx : In64 xs) (hy : In64 ys) : isT b (nthI xs) (nthI ys) xs.length = allowsTo b xs ys b.rgN := by
  rw [Bool.eq_iff_iff, isT_truth b hv xs ys hL, allows_iff b hv xs ys hL hx hy, b.truth_iff hv xs.length hL]

set_option maxRecDepth 20000 in
set_option maxHeartbeats 20000000 in
theorem IsTruth_any (w : World) (b : BK) (p q r : Option Addr) (cap n c dc : Nat) (f g : Nat → Int) (hv : b.Valid) (hb : BookAt w.heap.size w p b) (hL : b.lots = n) (hq : Row w.heap.size w q n fun k => .int .i64 (f k)) (hr : Row w.heap.size w r b.total fun k => .int .i64 (g k)) :
    Calls Tryd.prog 66 #[bookV b p cap, .slice q n c, .slice r b.total dc] w fun e w' => e = .returned (.bool (isT b f g n)) ∧ Pure w w' := by
  have hl1 := hv.lots1
  have hl6 := hv.lots6
  have h12 := hv.tot
  have hmx : Tryd.prog.follows .mixedOrders = true := by kernel_rfl
  have HLn : Hid (b.lots = n) := hL
  have HR : Hid (Row w.heap.size w r b.total fun k => .int .i64 (g k)) := hr
  clear hL hr
  go_enter Tryd.func66, Tryd.ntmps66
  go_wp2_with fail
  obtain ⟨X, hX⟩ : ∃ X, w.alloc (.cells (bookC b p cap) 26) = X := ⟨_, rfl⟩
  have hP : Hid (Pure w X) := by rw [← hX]; exact (Diff.refl w).alloc _
  have hX1 : BoxB w.heap.size b p cap X := by rw [← hX]; exact BoxB.new w b p cap 26
  rw [hX]
  clear hX
  have HB := Lib.hid hX1
  obtain ⟨c0, c1, c2, c3, cl⟩ := hX1
  go_wp2_with fail
  refine (Tastes_flat X b p cap hv.small hv.pos ((hb.diff hP.out (Nat.le_refl _) (fun _ _ => id)).mono hP.out.size)).mono ?_
  rintro e w1 ⟨u, rfl, hfl, hp1⟩
  have hP1 : Hid (Pure w w1) := hP.out.trans hp1
  have HB1 := Lib.hid (HB.out.pure hp1)
  have HHB : Hid (BookAt w.heap.size w p b) := hb
  have HQ : Hid (Row w.heap.size w q n fun k => .int .i64 (f k)) := hq
  clear c0 c1 c2 c3 cl HB hp1 hP hb hq
  obtain ⟨pu, cu, rfl, hcell⟩ := hfl
  have HC := Lib.hid hcell
  clear hcell
  obtain ⟨t, ht⟩ : ∃ t, b.total = t := ⟨_, rfl⟩
  have HT := Lib.hid ht
  rw [ht] at h12 ⊢
  clear ht
  obtain ⟨gb, hgb⟩ : ∃ gb, w.heap.size = gb := ⟨_, rfl⟩
  rw [hgb] at HB1 ⊢
  clear hgb
  have hn6 : n ≤ 6 := by have := HLn.out; omega
  have first1 : Hid (∀ (k : Nat) (W : World), k < t → Pure w1 W → Calls Tryd.prog 93 #[.agg #[.int .i64 b.lo, .int .i64 b.hi, .int .i64 b.lots, .slice p b.n cap], .int .i64 (k : Int)] W fun e w' => e = .returned (.bool (b.at' k).1) ∧ Pure W w') := fun k W hk hW => by
    refine (IsFirst_any W b p cap (k : Int) hv.small ((HHB.out.diff (hP1.out.trans hW) (Nat.le_refl _) (fun _ _ => id)).mono (hP1.out.trans hW).size)).mono ?_
    rintro e w' ⟨rfl, h⟩
    exact ⟨by rw [firstTo_at b hv k (by rw [HT.out]; exact hk)], h⟩
  go_wp2_with fail
  go_loopw [8] (fun i wr => ∃ k : Nat, k ≤ n ∧ i = .int .i64 k ∧ Hid (sharpTo f k = true) ∧ Hid (Pure w1 wr)) (fun i _ => n - (intOf i).toNat)
  case atStart => exact ⟨0, Nat.zero_le _, rfl, rfl, Diff.refl _⟩
  case round =>
    obtain ⟨k, hk, rfl, HS, HPr⟩ := hrel
    by_cases hkn : k < n
    · obtain ⟨qb, qo, rfl, hqb, zq⟩ := HQ.out k hkn
      have yq := ((pcell (hP1.out.trans HPr.out)).1 _ _ hqb).trans zq
      have hki : (k : Int) < n := by omega
      have hk0 : (0 : Int) ≤ k := by omega
      clear zq
      by_cases h0 : f k < 0
      · have H0 : Hid (isT b f g n = false) := by show _ = _; unfold isT; rw [sharpTo_false hkn (by rw [decide_eq_false (by omega)]; rfl)]; rfl
        go_wp2_with fail
        exact bodyPost_ret (v := .bool false) (by simp [results, Tryd.results66, go_sem]) rfl ⟨by rw [H0.out], hP1.out.trans HPr.out⟩
      · by_cases h1 : 1000 < f k
        · have H0 : Hid (isT b f g n = false) := by show _ = _; unfold isT; rw [sharpTo_false hkn (by rw [decide_eq_false (p := f k ≤ 1000) (by omega)]; simp)]; rfl
          go_wp2_with fail
          exact bodyPost_ret (v := .bool false) (by simp [results, Tryd.results66, go_sem]) rfl ⟨by rw [H0.out], hP1.out.trans HPr.out⟩
        · have H1 : Hid (sharpTo f (k + 1) = true) := by show _ = _; rw [sharpTo_succ, HS.out, decide_eq_true (by omega), decide_eq_true (by omega)]; rfl
          go_wp2_with fail
          exact ⟨⟨k + 1, by omega, by push_cast; rfl, H1, HPr.out⟩, by simp only [intOf]; omega⟩
    · obtain rfl : n = k := by omega
      have HS' := Lib.hid HS.out
      obtain ⟨W0, hW0⟩ : ∃ W, wr = W := ⟨_, rfl⟩
      rw [hW0] at HPr ⊢
      have HPW := Lib.hid HPr.out
      clear hW0 HPr wr
      go_wp2_with fail
      go_loopw [9] (fun i wr => ∃ k : Nat, k ≤ t ∧ i = .int .i64 k ∧ Hid (tiredTo b f g k = true) ∧ Hid (Pure W0 wr)) (fun i _ => t - (intOf i).toNat)
      case atStart => exact ⟨0, Nat.zero_le _, rfl, rfl, Diff.refl _⟩
      case round =>
        obtain ⟨k, hk, rfl, HS, HPr⟩ := hrel
        by_cases hkt : k < t
        · have HWr : Hid (Pure w1 wr) := HPW.out.trans HPr.out
          obtain ⟨rb, ro, rfl, hrb, zr⟩ := HR.out k (by rw [HT.out]; exact hkt)
          have yr := ((pcell (hP1.out.trans HWr.out)).1 _ _ hrb).trans zr
          obtain ⟨c0, c1, c2, c3, cl⟩ := HB1.out.pure HWr.out
          have hki : (k : Int) < t := by omega
          have hk0 : (0 : Int) ≤ k := by omega
          have bad : Hid (tOk b f g k = false → isT b f g n = false) := fun h => by unfold isT; rw [tiredTo_false (by rw [HT.out]; exact hkt) h, Bool.and_false]
          clear zr
          by_cases h0 : g k < 0
          · have H0 : Hid (isT b f g n = false) := bad.out (by unfold tOk; rw [decide_eq_false (by omega)]; rfl)
            go_wp2_with fail
            exact bodyPost_ret (v := .bool false) (by simp [results, Tryd.results66, go_sem]) rfl ⟨by rw [H0.out], hP1.out.trans HWr.out⟩
          · by_cases h1 : 600 < g k
            · have H0 : Hid (isT b f g n = false) := bad.out (by unfold tOk; rw [decide_eq_false (p := g k ≤ 600) (by omega)]; simp)
              go_wp2_with fail
              exact bodyPost_ret (v := .bool false) (by simp [results, Tryd.results66, go_sem]) rfl ⟨by rw [H0.out], hP1.out.trans HWr.out⟩
            · have h600 : g k ≤ 600 := by omega
              have h00 : 0 ≤ g k := by omega
              clear h0 h1
              go_wp2_with fail
              refine (first1.out k wr hkt HWr.out).mono ?_
              rintro e w5 ⟨rfl, hp5⟩
              have H5 : Hid (Pure w1 w5) := HWr.out.trans hp5
              have yr5 := ((pcell (hP1.out.trans H5.out)).1 _ _ hrb).trans (show w.cell? _ = _ from (((pcell (hP1.out.trans HWr.out)).1 _ _ hrb).symm.trans yr))
              have HP5r := Lib.hid hp5
              clear c0 c1 c2 c3 cl yr hp5
              obtain ⟨c0, c1, c2, c3, cl⟩ := HB1.out.pure H5.out
              cases hf : (b.at' k).1 with
              | true =>
                have HF := Lib.hid hf
                clear hf
                by_cases hz : g k = 0
                · have HZ := Lib.hid hz
                  have hz1 : (g k != 0) = false := by simp [hz]
                  clear hz
                  go_wp2_with fail
                  have hrb5 : rb < w5.heap.size := Nat.lt_of_lt_of_le hrb (hP1.out.trans H5.out).size
                  refine reg_invW (fun d a W => a = { tmps := #[bookV b p cap, Value.slice q n c, Value.slice (some { block := rb, off := ro }) t dc, Value.pointer (some { block := gb, off := 0 }), undef, undef, u6, Value.slice pu t cu, Value.int IntKind.i64 (n : Int), Value.int IntKind.i64 (k : Int), u10, Value.agg #[Value.int IntKind.i64 b.lo, Value.int IntKind.i64 b.hi, Value.int IntKind.i64 b.lots, Value.slice p b.n cap], Value.slice pu t cu, Value.int IntKind.i64 (n : Int), Value.slice q n c, Value.int IntKind.i64 (n : Int), Value.bool false, u17, u18, u19, u20, u21, u22, u23, u24, u25, u26, u27, u28, u29, u30, Value.int IntKind.i64 (k : Int), Value.slice pu t cu, Value.int IntKind.i64 ↑t, Value.bool true, u35, u36, Value.slice (some { block := rb, off := ro }) t dc, Value.int IntKind.i64 (k : Int), Value.pointer (some { block := rb, off := ro + k }), Value.int IntKind.i64 (g k), Value.bool (decide (g k < 0)), Value.bool (decide (g k < 0)), Value.slice (some { block := rb, off := ro }) t dc, Value.int IntKind.i64 (k : Int), Value.pointer (some { block := rb, off := ro + k }), Value.int IntKind.i64 (g k), Value.bool (decide (600 < g k)), Value.bool (decide (g k < 0) || decide (600 < g k)), Value.agg #[Value.int IntKind.i64 b.lo, Value.int IntKind.i64 b.hi, Value.int IntKind.i64 b.lots, Value.slice p b.n cap], Value.int IntKind.i64 (k : Int), Value.bool true, Value.bool true, Value.slice (some { block := rb, off := ro }) t dc, Value.int IntKind.i64 (k : Int), Value.pointer (some { block := rb, off := ro + k }), Value.int IntKind.i64 (g k), Value.bool false, Value.bool false, (bif d 0 then Value.agg #[Value.int IntKind.i64 b.lo, Value.int IntKind.i64 b.hi, Value.int IntKind.i64 b.lots, Value.slice p b.n cap] else u59), (bif d 1 then Value.int IntKind.i64 (k : Int) else u60), (bif d 2 then Value.bool true else u61), (bif d 3 then Value.bool false else u62), (bif d 4 then Value.bool false else u63), (bif d 5 then undef else u64), (bif d 6 then undef else u65), (bif d 7 then undef else u66), (bif d 8 then undef else u67), (bif d 9 then undef else u68), (bif d 10 then undef else u69), (bif d 11 then undef else u70), (bif d 12 then undef else u71), (bif d 13 then undef else u72), (bif d 14 then undef else u73), (bif d 15 then undef else u74), (bif d 16 then undef else u75), (bif d 17 then undef else u76), (bif d 18 then undef else u77), (bif d 19 then undef else u78), (bif d 20 then undef else u79), (bif d 21 then undef else u80), (bif d 22 then undef else u81), (bif d 23 then undef else u82), (bif d 24 then undef else u83), (bif d 25 then undef else u84), (bif d 26 then undef else u85), (bif d 27 then undef else u86), (bif d 28 then undef else u87), (bif d 29 then undef else u88), (bif d 30 then undef else u89), (bif d 31 then undef else u90), (bif d 32 then undef else u91), (bif d 33 then undef else u92), (bif d 34 then undef else u93), (bif d 35 then Value.bool false else u94), u95, u96, u97, u98, u99, u100, u101, u102, u103, u104, u105, u106, u107, u108, u109, u110, u111, u112, u113, u114, u115, u116, u117, u118, u119, u120, u121, u122, u123, u124, u125], defers := [] } ∧ Hid (Pure w5 W)) hmx (by kernel_rfl) ?_ ?_ ?_
                  · exact ⟨rfl, (Diff.refl w5).drew⟩
                  · refine ⟨?_, ?_, ?_, ?_, ?_, ?_, ?_, ?_, ?_, ?_, ?_, ?_, ?_, ?_, ?_, ?_, ?_, ?_, ?_, ?_, ?_, ?_, ?_, ?_, ?_, ?_, ?_, ?_, ?_, ?_, ?_, ?_, ?_, ?_, ?_, ?_, trivial⟩
                    · rintro d a W hdi hdep hcl ⟨rfl, hw⟩ K hK
                      have E := hcl.facts 0 hdi rfl hdep [] [2, 3, 4, 5, 6, 7, 8, 9, 10, 11, 12, 13, 14, 15, 16, 17, 18, 19, 20, 21, 22, 23, 24, 25, 26, 27, 28, 29, 30, 31, 32, 33, 34, 35] (by kernel_rfl) (by kernel_rfl)
                      simp only [AllT, AllF] at E
                      clear hdi hdep hcl
                      obtain ⟨c0, c1, c2, c3, -⟩ := HB1.out.pure (H5.out.trans hw.out)
                      go_simp
                      exact hK _ _ ⟨by simp [upd, E], hw⟩
                    · rintro d a W hdi hdep hcl ⟨rfl, hw⟩ K hK
                      have E := hcl.facts 1 hdi rfl hdep [] [2, 3, 4, 5, 6, 7, 8, 9, 10, 11, 12, 13, 14, 15, 16, 17, 18, 19, 20, 21, 22, 23, 24, 25, 26, 27, 28, 29, 30, 31, 32, 33, 34, 35] (by kernel_rfl) (by kernel_rfl)
                      simp only [AllT, AllF] at E
                      clear hdi hdep hcl
                      go_simp
                      exact hK _ _ ⟨by simp [upd, E], hw⟩
                    · rintro d a W hdi hdep hcl ⟨rfl, hw⟩ K hK
                      have E := hcl.facts 2 hdi rfl hdep [0, 1] [3, 4, 5, 6, 7, 8, 9, 10, 11, 12, 13, 14, 15, 16, 17, 18, 19, 20, 21, 22, 23, 24, 25, 26, 27, 28, 29, 30, 31, 32, 33, 34, 35] (by kernel_rfl) (by kernel_rfl)
                      simp only [AllT, AllF] at E
                      clear hdi hdep hcl
                      go_simp
                      refine (first1.out k W hkt (H5.out.trans hw.out)).mono ?_
                      rintro e w6 ⟨rfl, hp6⟩
                      rw [HF.out]
                      exact hK _ _ ⟨by simp [upd, E], hw.out.trans hp6⟩
                    · rintro d a W hdi hdep hcl ⟨rfl, hw⟩ K hK
                      have E := hcl.facts 3 hdi rfl hdep [0, 1, 2] [4, 5, 6, 7, 8, 9, 10, 11, 12, 13, 14, 15, 16, 17, 18, 19, 20, 21, 22, 23, 24, 25, 26, 27, 28, 29, 30, 31, 32, 33, 34, 35] (by kernel_rfl) (by kernel_rfl)
                      simp only [AllT, AllF] at E
                      clear hdi hdep hcl
                      go_simp
                      exact hK _ _ ⟨by simp [upd, E], hw⟩
                    · rintro d a W hdi hdep hcl ⟨rfl, hw⟩ K hK
                      have E := hcl.facts 4 hdi rfl hdep [0, 1, 2, 3] [5, 6, 7, 8, 9, 10, 11, 12, 13, 14, 15, 16, 17, 18, 19, 20, 21, 22, 23, 24, 25, 26, 27, 28, 29, 30, 31, 32, 33, 34, 35] (by kernel_rfl) (by kernel_rfl)
                      simp only [AllT, AllF] at E
                      clear hdi hdep hcl
                      go_simp
                      exact hK _ _ ⟨by simp [upd, E], hw⟩
                    · rintro d a W hdi hdep hcl ⟨rfl, hw⟩ K hK
                      have E := hcl.facts 5 hdi rfl hdep [0, 1, 2, 3, 4] [7, 8, 14, 18, 19, 20, 21, 22, 23, 24, 25, 26, 27, 28, 29, 30, 31, 32, 33, 34, 35] (by kernel_rfl) (by kernel_rfl)
                      simp only [AllT, AllF] at E
                      clear hdi hdep hcl
                      go_simp
                      exact hK _ _ ⟨by simp [upd, E], hw⟩
                    · rintro d a W hdi hdep hcl ⟨rfl, hw⟩ K hK
                      have E := hcl.facts 6 hdi rfl hdep [0, 1, 2, 3, 4] [7, 8, 14, 18, 19, 20, 21, 22, 23, 24, 25, 26, 27, 28, 29, 30, 31, 32, 33, 34, 35] (by kernel_rfl) (by kernel_rfl)
                      simp only [AllT, AllF] at E
                      clear hdi hdep hcl
                      go_simp
                      exact hK _ _ ⟨by simp [upd, E], hw⟩
                    · rintro d a W hdi hdep hcl ⟨rfl, hw⟩ K hK
                      have E := hcl.facts 7 hdi rfl hdep [0, 1, 2, 3, 4, 5, 6] [8, 14, 18, 19, 20, 21, 22, 23, 24, 25, 26, 27, 28, 29, 30, 31, 32, 33, 34, 35] (by kernel_rfl) (by kernel_rfl)
                      simp only [AllT, AllF] at E
                      clear hdi hdep hcl
                      go_simp
                      exact hK _ _ ⟨by simp [upd, E], hw⟩
                    · rintro d a W hdi hdep hcl ⟨rfl, hw⟩ K hK
                      have E := hcl.facts 8 hdi rfl hdep [0, 1, 2, 3, 4, 5, 6, 7] [14, 18, 19, 20, 21, 22, 23, 24, 25, 26, 27, 28, 29, 30, 31, 32, 33, 34, 35] (by kernel_rfl) (by kernel_rfl)
                      simp only [AllT, AllF] at E
                      clear hdi hdep hcl
                      go_simp
                      exact hK _ _ ⟨by simp [upd, E], hw⟩
                    · rintro d a W hdi hdep hcl ⟨rfl, hw⟩ K hK
                      have E := hcl.facts 9 hdi rfl hdep [0, 1, 2, 3, 4] [12, 13, 14, 18, 19, 20, 21, 22, 23, 24, 25, 26, 27, 28, 29, 30, 31, 32, 33, 34, 35] (by kernel_rfl) (by kernel_rfl)
                      simp only [AllT, AllF] at E
                      clear hdi hdep hcl
                      go_simp
                      exact hK _ _ ⟨by simp [upd, E], hw⟩
                    · rintro d a W hdi hdep hcl ⟨rfl, hw⟩ K hK
                      have E := hcl.facts 10 hdi rfl hdep [0, 1, 2, 3, 4] [11, 12, 13, 14, 18, 19, 20, 21, 22, 23, 24, 25, 26, 27, 28, 29, 30, 31, 32, 33, 34, 35] (by kernel_rfl) (by kernel_rfl)
                      simp only [AllT, AllF] at E
                      clear hdi hdep hcl
                      go_simp
                      exact hK _ _ ⟨by simp [upd, E], hw⟩
                    · rintro d a W hdi hdep hcl ⟨rfl, hw⟩ K hK
                      have E := hcl.facts 11 hdi rfl hdep [0, 1, 2, 3, 4, 10] [12, 13, 14, 18, 19, 20, 21, 22, 23, 24, 25, 26, 27, 28, 29, 30, 31, 32, 33, 34, 35] (by kernel_rfl) (by kernel_rfl)
                      simp only [AllT, AllF] at E
                      clear hdi hdep hcl
                      go_simp
                      exact hK _ _ ⟨by simp [upd, E], hw⟩
                    · rintro d a W hdi hdep hcl ⟨rfl, hw⟩ K hK
                      have E := hcl.facts 12 hdi rfl hdep [0, 1, 2, 3, 4, 9, 10, 11] [13, 14, 18, 19, 20, 21, 22, 23, 24, 25, 26, 27, 28, 29, 30, 31, 32, 33, 34, 35] (by kernel_rfl) (by kernel_rfl)
                      simp only [AllT, AllF] at E
                      clear hdi hdep hcl
                      go_simp
                      exact hK _ _ ⟨by simp [upd, E], hw⟩
                    · rintro d a W hdi hdep hcl ⟨rfl, hw⟩ K hK
                      have E := hcl.facts 13 hdi rfl hdep [0, 1, 2, 3, 4, 9, 10, 11, 12] [14, 18, 19, 20, 21, 22, 23, 24, 25, 26, 27, 28, 29, 30, 31, 32, 33, 34, 35] (by kernel_rfl) (by kernel_rfl)
                      simp only [AllT, AllF] at E
                      clear hdi hdep hcl
                      go_simp
                      exact hK _ _ ⟨by simp [upd, E], hw⟩
                    · rintro d a W hdi hdep hcl ⟨rfl, hw⟩ K hK
                      have E := hcl.facts 14 hdi rfl hdep [0, 1, 2, 3, 4, 5, 6, 7, 8, 9, 10, 11, 12, 13] [18, 19, 20, 21, 22, 23, 24, 25, 26, 27, 28, 29, 30, 31, 32, 33, 34, 35] (by kernel_rfl) (by kernel_rfl)
                      simp only [AllT, AllF] at E
                      clear hdi hdep hcl
                      go_simp
                      exact hK _ _ ⟨by simp [upd, E], hw⟩
                    · rintro d a W hdi hdep hcl ⟨rfl, hw⟩ K hK
                      have E := hcl.facts 15 hdi rfl hdep [0, 1, 2, 3, 4] [16, 17, 18, 19, 20, 21, 22, 23, 24, 25, 26, 27, 28, 29, 30, 31, 32, 33, 34, 35] (by kernel_rfl) (by kernel_rfl)
                      simp only [AllT, AllF] at E
                      clear hdi hdep hcl
                      go_simp
                      exact hK _ _ ⟨by simp [upd, E], hw⟩
                    · rintro d a W hdi hdep hcl ⟨rfl, hw⟩ K hK
                      have E := hcl.facts 16 hdi rfl hdep [0, 1, 2, 3, 4, 15] [17, 18, 19, 20, 21, 22, 23, 24, 25, 26, 27, 28, 29, 30, 31, 32, 33, 34, 35] (by kernel_rfl) (by kernel_rfl)
                      simp only [AllT, AllF] at E
                      clear hdi hdep hcl
                      go_simp
                      exact hK _ _ ⟨by simp [upd, E], hw⟩
                    · rintro d a W hdi hdep hcl ⟨rfl, hw⟩ K hK
                      have E := hcl.facts 17 hdi rfl hdep [0, 1, 2, 3, 4, 15, 16] [18, 19, 20, 21, 22, 23, 24, 25, 26, 27, 28, 29, 30, 31, 32, 33, 34, 35] (by kernel_rfl) (by kernel_rfl)
                      simp only [AllT, AllF] at E
                      clear hdi hdep hcl
                      go_simp
                      exact hK _ _ ⟨by simp [upd, E], hw⟩
                    · rintro d a W hdi hdep hcl ⟨rfl, hw⟩ K hK
                      have E := hcl.facts 18 hdi rfl hdep [0, 1, 2, 3, 4, 5, 6, 7, 8, 9, 10, 11, 12, 13, 14, 15, 16, 17] [19, 20, 21, 22, 23, 24, 25, 26, 27, 28, 29, 30, 31, 32, 33, 34, 35] (by kernel_rfl) (by kernel_rfl)
                      simp only [AllT, AllF] at E
                      clear hdi hdep hcl
                      go_simp
                      exact hK _ _ ⟨by simp [upd, E], hw⟩
                    · rintro d a W hdi hdep hcl ⟨rfl, hw⟩ K hK
                      have E := hcl.facts 19 hdi rfl hdep [0, 1, 2, 3, 4, 5, 6, 7, 8, 9, 10, 11, 12, 13, 14, 15, 16, 17, 18] [20, 21, 22, 23, 24, 25, 26, 27, 28, 29, 30, 31, 32, 33, 34, 35] (by kernel_rfl) (by kernel_rfl)
                      simp only [AllT, AllF] at E
                      clear hdi hdep hcl
                      go_simp
                      exact hK _ _ ⟨by simp [upd, E], hw⟩
                    · rintro d a W hdi hdep hcl ⟨rfl, hw⟩ K hK
                      have E := hcl.facts 20 hdi rfl hdep [0, 1, 2, 3, 4, 5, 6, 7, 8, 9, 10, 11, 12, 13, 14, 15, 16, 17, 18, 19] [22, 23, 29, 33, 34, 35] (by kernel_rfl) (by kernel_rfl)
                      simp only [AllT, AllF] at E
                      clear hdi hdep hcl
                      go_simp
                      exact hK _ _ ⟨by simp [upd, E], hw⟩
                    · rintro d a W hdi hdep hcl ⟨rfl, hw⟩ K hK
                      have E := hcl.facts 21 hdi rfl hdep [0, 1, 2, 3, 4, 5, 6, 7, 8, 9, 10, 11, 12, 13, 14, 15, 16, 17, 18, 19] [22, 23, 29, 33, 34, 35] (by kernel_rfl) (by kernel_rfl)
                      simp only [AllT, AllF] at E
                      clear hdi hdep hcl
                      go_simp
                      exact hK _ _ ⟨by simp [upd, E], hw⟩
                    · rintro d a W hdi hdep hcl ⟨rfl, hw⟩ K hK
                      have E := hcl.facts 22 hdi rfl hdep [0, 1, 2, 3, 4, 5, 6, 7, 8, 9, 10, 11, 12, 13, 14, 15, 16, 17, 18, 19, 20, 21] [23, 29, 33, 34, 35] (by kernel_rfl) (by kernel_rfl)
                      simp only [AllT, AllF] at E
                      clear hdi hdep hcl
                      go_simp
                      exact hK _ _ ⟨by simp [upd, E], hw⟩
                    · rintro d a W hdi hdep hcl ⟨rfl, hw⟩ K hK
                      have E := hcl.facts 23 hdi rfl hdep [0, 1, 2, 3, 4, 5, 6, 7, 8, 9, 10, 11, 12, 13, 14, 15, 16, 17, 18, 19, 20, 21, 22] [29, 33, 34, 35] (by kernel_rfl) (by kernel_rfl)
                      simp only [AllT, AllF] at E
                      clear hdi hdep hcl
                      go_simp
                      exact hK _ _ ⟨by simp [upd, E], hw⟩
                    · rintro d a W hdi hdep hcl ⟨rfl, hw⟩ K hK
                      have E := hcl.facts 24 hdi rfl hdep [0, 1, 2, 3, 4, 5, 6, 7, 8, 9, 10, 11, 12, 13, 14, 15, 16, 17, 18, 19] [27, 28, 29, 33, 34, 35] (by kernel_rfl) (by kernel_rfl)
                      simp only [AllT, AllF] at E
                      clear hdi hdep hcl
                      go_simp
                      exact hK _ _ ⟨by simp [upd, E], hw⟩
                    · rintro d a W hdi hdep hcl ⟨rfl, hw⟩ K hK
                      have E := hcl.facts 25 hdi rfl hdep [0, 1, 2, 3, 4, 5, 6, 7, 8, 9, 10, 11, 12, 13, 14, 15, 16, 17, 18, 19] [26, 27, 28, 29, 33, 34, 35] (by kernel_rfl) (by kernel_rfl)
                      simp only [AllT, AllF] at E
                      clear hdi hdep hcl
                      go_simp
                      exact hK _ _ ⟨by simp [upd, E], hw⟩
                    · rintro d a W hdi hdep hcl ⟨rfl, hw⟩ K hK
                      have E := hcl.facts 26 hdi rfl hdep [0, 1, 2, 3, 4, 5, 6, 7, 8, 9, 10, 11, 12, 13, 14, 15, 16, 17, 18, 19, 25] [27, 28, 29, 33, 34, 35] (by kernel_rfl) (by kernel_rfl)
                      simp only [AllT, AllF] at E
                      clear hdi hdep hcl
                      go_simp
                      exact hK _ _ ⟨by simp [upd, E], hw⟩
                    · rintro d a W hdi hdep hcl ⟨rfl, hw⟩ K hK
                      have E := hcl.facts 27 hdi rfl hdep [0, 1, 2, 3, 4, 5, 6, 7, 8, 9, 10, 11, 12, 13, 14, 15, 16, 17, 18, 19, 24, 25, 26] [28, 29, 33, 34, 35] (by kernel_rfl) (by kernel_rfl)
                      simp only [AllT, AllF] at E
                      clear hdi hdep hcl
                      go_simp
                      exact hK _ _ ⟨by simp [upd, E], hw⟩
                    · rintro d a W hdi hdep hcl ⟨rfl, hw⟩ K hK
                      have E := hcl.facts 28 hdi rfl hdep [0, 1, 2, 3, 4, 5, 6, 7, 8, 9, 10, 11, 12, 13, 14, 15, 16, 17, 18, 19, 24, 25, 26, 27] [29, 33, 34, 35] (by kernel_rfl) (by kernel_rfl)
                      simp only [AllT, AllF] at E
                      clear hdi hdep hcl
                      go_simp
                      exact hK _ _ ⟨by simp [upd, E], hw⟩
                    · rintro d a W hdi hdep hcl ⟨rfl, hw⟩ K hK
                      have E := hcl.facts 29 hdi rfl hdep [0, 1, 2, 3, 4, 5, 6, 7, 8, 9, 10, 11, 12, 13, 14, 15, 16, 17, 18, 19, 20, 21, 22, 23, 24, 25, 26, 27, 28] [33, 34, 35] (by kernel_rfl) (by kernel_rfl)
                      simp only [AllT, AllF] at E
                      clear hdi hdep hcl
                      go_simp
                      exact hK _ _ ⟨by simp [upd, E], hw⟩
                    · rintro d a W hdi hdep hcl ⟨rfl, hw⟩ K hK
                      have E := hcl.facts 30 hdi rfl hdep [0, 1, 2, 3, 4, 5, 6, 7, 8, 9, 10, 11, 12, 13, 14, 15, 16, 17, 18, 19] [31, 32, 33, 34, 35] (by kernel_rfl) (by kernel_rfl)
                      simp only [AllT, AllF] at E
                      clear hdi hdep hcl
                      go_simp
                      exact hK _ _ ⟨by simp [upd, E], hw⟩
                    · rintro d a W hdi hdep hcl ⟨rfl, hw⟩ K hK
                      have E := hcl.facts 31 hdi rfl hdep [0, 1, 2, 3, 4, 5, 6, 7, 8, 9, 10, 11, 12, 13, 14, 15, 16, 17, 18, 19, 30] [32, 33, 34, 35] (by kernel_rfl) (by kernel_rfl)
                      simp only [AllT, AllF] at E
                      clear hdi hdep hcl
                      go_simp
                      exact hK _ _ ⟨by simp [upd, E], hw⟩
                    · rintro d a W hdi hdep hcl ⟨rfl, hw⟩ K hK
                      have E := hcl.facts 32 hdi rfl hdep [0, 1, 2, 3, 4, 5, 6, 7, 8, 9, 10, 11, 12, 13, 14, 15, 16, 17, 18, 19, 30, 31] [33, 34, 35] (by kernel_rfl) (by kernel_rfl)
                      simp only [AllT, AllF] at E
                      clear hdi hdep hcl
                      go_simp
                      exact hK _ _ ⟨by simp [upd, E], hw⟩
                    · rintro d a W hdi hdep hcl ⟨rfl, hw⟩ K hK
                      have E := hcl.facts 33 hdi rfl hdep [0, 1, 2, 3, 4, 5, 6, 7, 8, 9, 10, 11, 12, 13, 14, 15, 16, 17, 18, 19, 20, 21, 22, 23, 24, 25, 26, 27, 28, 29, 30, 31, 32] [34, 35] (by kernel_rfl) (by kernel_rfl)
                      simp only [AllT, AllF] at E
                      clear hdi hdep hcl
                      go_simp
                      exact hK _ _ ⟨by simp [upd, E], hw⟩
                    · rintro d a W hdi hdep hcl ⟨rfl, hw⟩ K hK
                      have E := hcl.facts 34 hdi rfl hdep [0, 1, 2, 3, 4, 5, 6, 7, 8, 9, 10, 11, 12, 13, 14, 15, 16, 17, 18, 19, 20, 21, 22, 23, 24, 25, 26, 27, 28, 29, 30, 31, 32, 33] [35] (by kernel_rfl) (by kernel_rfl)
                      simp only [AllT, AllF] at E
                      clear hdi hdep hcl
                      go_simp
                      exact hK _ _ ⟨by simp [upd, E], hw⟩
                    · rintro d a W hdi hdep hcl ⟨rfl, hw⟩ K hK
                      have E := hcl.facts 35 hdi rfl hdep [0, 1, 2, 3, 4, 5, 6, 7, 8, 9, 10, 11, 12, 13, 14, 15, 16, 17, 18, 19, 20, 21, 22, 23, 24, 25, 26, 27, 28, 29, 30, 31, 32, 33, 34] [] (by kernel_rfl) (by kernel_rfl)
                      simp only [AllT, AllF] at E
                      clear hdi hdep hcl
                      go_simp
                      exact hK _ _ ⟨by simp [upd, E], hw⟩
                  · rintro d a W hall ⟨rfl, hw⟩
                    have E := AllT.all hall [0, 1, 2, 3, 4, 5, 6, 7, 8, 9, 10, 11, 12, 13, 14, 15, 16, 17, 18, 19, 20, 21, 22, 23, 24, 25, 26, 27, 28, 29, 30, 31, 32, 33, 34, 35] (by kernel_rfl)
                    simp only [AllT] at E
                    simp only [E, cond_true] at hw ⊢
                    clear E hall
                    go_wp2_with fail
                    have HW5 : Hid (Pure w1 W) := H5.out.trans hw.out
                    obtain ⟨fb, hpu, hfb, z1, z2, z3⟩ := HC.out k (by rw [HT.out]; exact hkt)
                    subst hpu
                    have u1 := ((pcell HW5.out).1 _ _ hfb).trans z1
                    have u2 := ((pcell HW5.out).1 _ _ hfb).trans z2
                    have u3 := ((pcell HW5.out).1 _ _ hfb).trans z3
                    have hok := b.at_ok hv k
                    have l0 := hok.lot0
                    have l1 := hok.lot1
                    obtain ⟨lt, hlt⟩ := Int.eq_ofNat_of_zero_le l0
                    have hltn : lt < n := by have := HLn.out; omega
                    have HLT : Hid ((b.at' k).2.lot.toNat = lt) := by show _ = _; omega
                    rw [hlt] at u1
                    obtain ⟨qb, qo, rfl, hqb, zq⟩ := HQ.out lt hltn
                    have x1 := ((pcell (hP1.out.trans HW5.out)).1 _ _ hqb).trans zq
                    have yrW := ((pcell hw.out).1 _ _ hrb5).trans yr5
                    have hfl := sharpTo_at HS'.out hltn
                    obtain ⟨xx, hxx⟩ : ∃ x, f lt - g k = x := ⟨_, rfl⟩
                    have hwx : IntKind.i64.wrap (f lt - g k) = xx := by rw [hxx]; exact IntWalk.i64_in _ (by omega)
                    obtain ⟨slo, hslo⟩ : ∃ x, (b.at' k).2.lo = x := ⟨_, rfl⟩
                    obtain ⟨shi, hshi⟩ : ∃ x, (b.at' k).2.hi = x := ⟨_, rfl⟩
                    have HO : Hid (tOk b f g k = (decide (slo ≤ xx) && decide (xx ≤ shi))) := by
                      show _ = _
                      unfold tOk
                      rw [HF.out, HLT.out, decide_eq_true h00, decide_eq_true h600, cond_true, decide_eq_true HZ.out]
                      simp only [Bool.true_and]
                      rw [hxx, hslo, hshi]
                    have hli : (lt : Int) < n := by omega
                    have hl0 : (0 : Int) ≤ lt := by omega
                    rw [hslo] at u2
                    rw [hshi] at u3
                    obtain ⟨vf, hvf⟩ : ∃ x, f lt = x := ⟨_, rfl⟩
                    obtain ⟨vg, hvg⟩ : ∃ x, g k = x := ⟨_, rfl⟩
                    have x1' : W.cell? ⟨qb, qo + lt, none⟩ = some (.int .i64 vf) := by rw [x1, ← hvf]
                    clear z1 z2 z3 hok l0 l1 hlt zq hxx hslo hshi x1 hvg
                    rw [hvf] at hwx hfl
                    clear hvf c0 c1 c2 c3 cl
                    go_region
                    have HWd : Hid (Pure w1 W.drew) := HW5.out.trans (Diff.refl _).drew
                    have HDr : Hid (Pure W W.drew) := (Diff.refl _).drew
                    have u2d : W.drew.cell? ⟨fb, k * 3 + 1, none⟩ = some (.int .i64 slo) := u2
                    have u3d : W.drew.cell? ⟨fb, k * 3 + 2, none⟩ = some (.int .i64 shi) := u3
                    obtain ⟨Wd, hWd⟩ : ∃ v, W.drew = v := ⟨_, rfl⟩
                    rw [hWd] at HWd HDr u2d u3d ⊢
                    clear hWd u1 u2 u3 x1' yrW
                    by_cases g1 : xx < slo
                    · have H0 : Hid (isT b f g n = false) := bad.out (by rw [HO.out, decide_eq_false (p := slo ≤ xx) (by omega)]; rfl)
                      go_wp2_with fail
                      exact bodyPost_ret (v := .bool false) (by simp [results, Tryd.results66, go_sem]) rfl ⟨by rw [H0.out], hP1.out.trans HWd.out⟩
                    · by_cases g2 : shi < xx
                      · have H0 : Hid (isT b f g n = false) := bad.out (by rw [HO.out, decide_eq_false (p := xx ≤ shi) (by omega)]; simp)
                        go_wp2_with fail
                        exact bodyPost_ret (v := .bool false) (by simp [results, Tryd.results66, go_sem]) rfl ⟨by rw [H0.out], hP1.out.trans HWd.out⟩
                      · have H1 : Hid (tiredTo b f g (k + 1) = true) := by show _ = _; rw [tiredTo_succ, HS.out, HO.out, decide_eq_true (p := slo ≤ xx) (by omega), decide_eq_true (p := xx ≤ shi) (by omega)]; rfl
                        have HPd : Hid (Pure W0 Wd) := HPr.out.trans (HP5r.out.trans (hw.out.trans HDr.out))
                        go_wp2_with fail
                        exact ⟨⟨k + 1, by omega, by push_cast; rfl, H1, HPd.out⟩, by simp only [intOf]; omega⟩
                · have H0 : Hid (isT b f g n = false) := bad.out (by unfold tOk; rw [HF.out, cond_true, decide_eq_false (p := g k = 0) hz]; simp)
                  have hz1 : (g k != 0) = true := by simp [hz]
                  clear hz
                  go_wp2_with fail
                  exact bodyPost_ret (v := .bool false) (by simp [results, Tryd.results66, go_sem]) rfl ⟨by rw [H0.out], hP1.out.trans H5.out⟩
              | false =>
                have HF := Lib.hid hf
                clear hf
                go_wp2_with fail
                have hk1 : 1 ≤ k := by
                  by_cases e : k = 0
                  · subst e; have := b.fst_zero hv (by rw [HT.out]; exact hkt); rw [HF.out] at this; cases this
                  · omega
                obtain ⟨rb', ro', he, -, zq⟩ := HR.out (k - 1) (by rw [HT.out]; omega)
                cases he
                have yq5 := ((pcell (hP1.out.trans H5.out)).1 _ _ hrb).trans zq
                have hrb5 : rb < w5.heap.size := Nat.lt_of_lt_of_le hrb (hP1.out.trans H5.out).size
                have hpv : 0 ≤ g (k - 1) ∧ g (k - 1) ≤ 600 := by
                  have := tiredTo_at HS.out (k := k - 1) (by omega)
                  unfold tOk at this
                  simp only [Bool.and_eq_true, decide_eq_true_eq] at this
                  exact ⟨this.1, this.2.1⟩
                obtain ⟨dd, hdd⟩ : ∃ d, g k - g (k - 1) = d := ⟨_, rfl⟩
                have HD := Lib.hid hdd
                have hwr : IntKind.i64.wrap (g k - g (k - 1)) = dd := by rw [hdd]; exact IntWalk.i64_in _ (by omega)
                have hwk : IntKind.i64.wrap ((k : Int) - 1) = (k : Int) - 1 := IntWalk.i64_in _ (by omega)
                have htk : ((k : Int) - 1).toNat = k - 1 := by omega
                have hk10 : 0 ≤ (k : Int) - 1 := by omega
                have hk1i : (1 : Int) ≤ k := by omega
                have hk1j : (k : Int) < t + 1 := by omega
                have hk1t : (k : Int) - 1 < t := by omega
                clear hdd zq hpv
                by_cases h1 : dd < b.lo
                · have H0 : Hid (isT b f g n = false) := bad.out (by unfold tOk; rw [HF.out, cond_false, HD.out, decide_eq_false (p := b.lo ≤ dd) (by omega)]; simp)
                  refine reg_invW (fun d a W => a = { tmps := #[bookV b p cap, Value.slice q n c, Value.slice (some { block := rb, off := ro }) t dc, Value.pointer (some { block := gb, off := 0 }), undef, undef, u6, Value.slice pu t cu, Value.int IntKind.i64 (n : Int), Value.int IntKind.i64 (k : Int), u10, Value.agg #[Value.int IntKind.i64 b.lo, Value.int IntKind.i64 b.hi, Value.int IntKind.i64 b.lots, Value.slice p b.n cap], Value.slice pu t cu, Value.int IntKind.i64 (n : Int), Value.slice q n c, Value.int IntKind.i64 (n : Int), Value.bool false, u17, u18, u19, u20, u21, u22, u23, u24, u25, u26, u27, u28, u29, u30, Value.int IntKind.i64 (k : Int), Value.slice pu t cu, Value.int IntKind.i64 ↑t, Value.bool true, u35, u36, Value.slice (some { block := rb, off := ro }) t dc, Value.int IntKind.i64 (k : Int), Value.pointer (some { block := rb, off := ro + k }), Value.int IntKind.i64 (g k), Value.bool (decide (g k < 0)), Value.bool (decide (g k < 0)), Value.slice (some { block := rb, off := ro }) t dc, Value.int IntKind.i64 (k : Int), Value.pointer (some { block := rb, off := ro + k }), Value.int IntKind.i64 (g k), Value.bool (decide (600 < g k)), Value.bool (decide (g k < 0) || decide (600 < g k)), Value.agg #[Value.int IntKind.i64 b.lo, Value.int IntKind.i64 b.hi, Value.int IntKind.i64 b.lots, Value.slice p b.n cap], Value.int IntKind.i64 (k : Int), Value.bool false, Value.bool false, undef, undef, undef, undef, undef, Value.bool false, (bif d 0 then Value.agg #[Value.int IntKind.i64 b.lo, Value.int IntKind.i64 b.hi, Value.int IntKind.i64 b.lots, Value.slice p b.n cap] else u59), (bif d 1 then Value.int IntKind.i64 (k : Int) else u60), (bif d 2 then Value.bool false else u61), (bif d 3 then Value.bool true else u62), (bif d 4 then Value.bool true else u63), (bif d 5 then Value.slice (some { block := rb, off := ro }) t dc else u64), (bif d 6 then Value.int IntKind.i64 (k : Int) else u65), (bif d 7 then Value.pointer (some { block := rb, off := ro + k }) else u66), (bif d 8 then Value.int IntKind.i64 (g k) else u67), (bif d 9 then Value.slice (some { block := rb, off := ro }) t dc else u68), (bif d 10 then Value.int IntKind.i64 (k : Int) else u69), (bif d 11 then Value.int IntKind.i64 ((k : Int) - 1) else u70), (bif d 12 then Value.pointer (some { block := rb, off := ro + (k - 1) }) else u71), (bif d 13 then Value.int IntKind.i64 (g (k - 1)) else u72), (bif d 14 then Value.int IntKind.i64 (dd) else u73), (bif d 15 then Value.pointer (some { block := gb, off := 0 }) else u74), (bif d 16 then Value.pointer (some { block := gb, off := 0 }) else u75), (bif d 17 then Value.int IntKind.i64 (b.lo) else u76), (bif d 18 then Value.bool true else u77), (bif d 19 then Value.bool true else u78), (bif d 20 then undef else u79), (bif d 21 then undef else u80), (bif d 22 then undef else u81), (bif d 23 then undef else u82), (bif d 24 then undef else u83), (bif d 25 then undef else u84), (bif d 26 then undef else u85), (bif d 27 then undef else u86), (bif d 28 then undef else u87), (bif d 29 then undef else u88), (bif d 30 then undef else u89), (bif d 31 then undef else u90), (bif d 32 then undef else u91), (bif d 33 then undef else u92), (bif d 34 then Value.bool true else u93), (bif d 35 then Value.bool true else u94), u95, u96, u97, u98, u99, u100, u101, u102, u103, u104, u105, u106, u107, u108, u109, u110, u111, u112, u113, u114, u115, u116, u117, u118, u119, u120, u121, u122, u123, u124, u125], defers := [] } ∧ Hid (Pure w5 W)) hmx (by kernel_rfl) ?_ ?_ ?_
                  · exact ⟨rfl, (Diff.refl w5).drew⟩
                  · refine ⟨?_, ?_, ?_, ?_, ?_, ?_, ?_, ?_, ?_, ?_, ?_, ?_, ?_, ?_, ?_, ?_, ?_, ?_, ?_, ?_, ?_, ?_, ?_, ?_, ?_, ?_, ?_, ?_, ?_, ?_, ?_, ?_, ?_, ?_, ?_, ?_, trivial⟩
                    · rintro d a W hdi hdep hcl ⟨rfl, hw⟩ K hK
                      have E := hcl.facts 0 hdi rfl hdep [] [2, 3, 4, 5, 6, 7, 8, 9, 10, 11, 12, 13, 14, 15, 16, 17, 18, 19, 20, 21, 22, 23, 24, 25, 26, 27, 28, 29, 30, 31, 32, 33, 34, 35] (by kernel_rfl) (by kernel_rfl)
                      simp only [AllT, AllF] at E
                      clear hdi hdep hcl
                      obtain ⟨c0, c1, c2, c3, -⟩ := HB1.out.pure (H5.out.trans hw.out)
                      go_simp
                      exact hK _ _ ⟨by simp [upd, E], hw⟩
                    · rintro d a W hdi hdep hcl ⟨rfl, hw⟩ K hK
                      have E := hcl.facts 1 hdi rfl hdep [] [2, 3, 4, 5, 6, 7, 8, 9, 10, 11, 12, 13, 14, 15, 16, 17, 18, 19, 20, 21, 22, 23, 24, 25, 26, 27, 28, 29, 30, 31, 32, 33, 34, 35] (by kernel_rfl) (by kernel_rfl)
                      simp only [AllT, AllF] at E
                      clear hdi hdep hcl
                      go_simp
                      exact hK _ _ ⟨by simp [upd, E], hw⟩
                    · rintro d a W hdi hdep hcl ⟨rfl, hw⟩ K hK
                      have E := hcl.facts 2 hdi rfl hdep [0, 1] [3, 4, 5, 6, 7, 8, 9, 10, 11, 12, 13, 14, 15, 16, 17, 18, 19, 20, 21, 22, 23, 24, 25, 26, 27, 28, 29, 30, 31, 32, 33, 34, 35] (by kernel_rfl) (by kernel_rfl)
                      simp only [AllT, AllF] at E
                      clear hdi hdep hcl
                      go_simp
                      refine (first1.out k W hkt (H5.out.trans hw.out)).mono ?_
                      rintro e w6 ⟨rfl, hp6⟩
                      rw [HF.out]
                      exact hK _ _ ⟨by simp [upd, E], hw.out.trans hp6⟩
                    · rintro d a W hdi hdep hcl ⟨rfl, hw⟩ K hK
                      have E := hcl.facts 3 hdi rfl hdep [0, 1, 2] [4, 5, 6, 7, 8, 9, 10, 11, 12, 13, 14, 15, 16, 17, 18, 19, 20, 21, 22, 23, 24, 25, 26, 27, 28, 29, 30, 31, 32, 33, 34, 35] (by kernel_rfl) (by kernel_rfl)
                      simp only [AllT, AllF] at E
                      clear hdi hdep hcl
                      go_simp
                      exact hK _ _ ⟨by simp [upd, E], hw⟩
                    · rintro d a W hdi hdep hcl ⟨rfl, hw⟩ K hK
                      have E := hcl.facts 4 hdi rfl hdep [0, 1, 2, 3] [5, 6, 7, 8, 9, 10, 11, 12, 13, 14, 15, 16, 17, 18, 19, 20, 21, 22, 23, 24, 25, 26, 27, 28, 29, 30, 31, 32, 33, 34, 35] (by kernel_rfl) (by kernel_rfl)
                      simp only [AllT, AllF] at E
                      clear hdi hdep hcl
                      go_simp
                      exact hK _ _ ⟨by simp [upd, E], hw⟩
                    · rintro d a W hdi hdep hcl ⟨rfl, hw⟩ K hK
                      have E := hcl.facts 5 hdi rfl hdep [0, 1, 2, 3, 4] [7, 8, 14, 18, 19, 20, 21, 22, 23, 24, 25, 26, 27, 28, 29, 30, 31, 32, 33, 34, 35] (by kernel_rfl) (by kernel_rfl)
                      simp only [AllT, AllF] at E
                      clear hdi hdep hcl
                      go_simp
                      exact hK _ _ ⟨by simp [upd, E], hw⟩
                    · rintro d a W hdi hdep hcl ⟨rfl, hw⟩ K hK
                      have E := hcl.facts 6 hdi rfl hdep [0, 1, 2, 3, 4] [7, 8, 14, 18, 19, 20, 21, 22, 23, 24, 25, 26, 27, 28, 29, 30, 31, 32, 33, 34, 35] (by kernel_rfl) (by kernel_rfl)
                      simp only [AllT, AllF] at E
                      clear hdi hdep hcl
                      go_simp
                      exact hK _ _ ⟨by simp [upd, E], hw⟩
                    · rintro d a W hdi hdep hcl ⟨rfl, hw⟩ K hK
                      have E := hcl.facts 7 hdi rfl hdep [0, 1, 2, 3, 4, 5, 6] [8, 14, 18, 19, 20, 21, 22, 23, 24, 25, 26, 27, 28, 29, 30, 31, 32, 33, 34, 35] (by kernel_rfl) (by kernel_rfl)
                      simp only [AllT, AllF] at E
                      clear hdi hdep hcl
                      go_simp
                      exact hK _ _ ⟨by simp [upd, E], hw⟩
                    · rintro d a W hdi hdep hcl ⟨rfl, hw⟩ K hK
                      have E := hcl.facts 8 hdi rfl hdep [0, 1, 2, 3, 4, 5, 6, 7] [14, 18, 19, 20, 21, 22, 23, 24, 25, 26, 27, 28, 29, 30, 31, 32, 33, 34, 35] (by kernel_rfl) (by kernel_rfl)
                      simp only [AllT, AllF] at E
                      clear hdi hdep hcl
                      have z := ((pcell hw.out).1 _ _ hrb5).trans yr5
                      go_simp
                      exact hK _ _ ⟨by simp [upd, E], hw⟩
                    · rintro d a W hdi hdep hcl ⟨rfl, hw⟩ K hK
                      have E := hcl.facts 9 hdi rfl hdep [0, 1, 2, 3, 4] [12, 13, 14, 18, 19, 20, 21, 22, 23, 24, 25, 26, 27, 28, 29, 30, 31, 32, 33, 34, 35] (by kernel_rfl) (by kernel_rfl)
                      simp only [AllT, AllF] at E
                      clear hdi hdep hcl
                      go_simp
                      exact hK _ _ ⟨by simp [upd, E], hw⟩
                    · rintro d a W hdi hdep hcl ⟨rfl, hw⟩ K hK
                      have E := hcl.facts 10 hdi rfl hdep [0, 1, 2, 3, 4] [11, 12, 13, 14, 18, 19, 20, 21, 22, 23, 24, 25, 26, 27, 28, 29, 30, 31, 32, 33, 34, 35] (by kernel_rfl) (by kernel_rfl)
                      simp only [AllT, AllF] at E
                      clear hdi hdep hcl
                      go_simp
                      exact hK _ _ ⟨by simp [upd, E], hw⟩
                    · rintro d a W hdi hdep hcl ⟨rfl, hw⟩ K hK
                      have E := hcl.facts 11 hdi rfl hdep [0, 1, 2, 3, 4, 10] [12, 13, 14, 18, 19, 20, 21, 22, 23, 24, 25, 26, 27, 28, 29, 30, 31, 32, 33, 34, 35] (by kernel_rfl) (by kernel_rfl)
                      simp only [AllT, AllF] at E
                      clear hdi hdep hcl
                      go_simp
                      exact hK _ _ ⟨by simp [upd, E], hw⟩
                    · rintro d a W hdi hdep hcl ⟨rfl, hw⟩ K hK
                      have E := hcl.facts 12 hdi rfl hdep [0, 1, 2, 3, 4, 9, 10, 11] [13, 14, 18, 19, 20, 21, 22, 23, 24, 25, 26, 27, 28, 29, 30, 31, 32, 33, 34, 35] (by kernel_rfl) (by kernel_rfl)
                      simp only [AllT, AllF] at E
                      clear hdi hdep hcl
                      go_simp
                      exact hK _ _ ⟨by simp [upd, E], hw⟩
                    · rintro d a W hdi hdep hcl ⟨rfl, hw⟩ K hK
                      have E := hcl.facts 13 hdi rfl hdep [0, 1, 2, 3, 4, 9, 10, 11, 12] [14, 18, 19, 20, 21, 22, 23, 24, 25, 26, 27, 28, 29, 30, 31, 32, 33, 34, 35] (by kernel_rfl) (by kernel_rfl)
                      simp only [AllT, AllF] at E
                      clear hdi hdep hcl
                      have z := ((pcell hw.out).1 _ _ hrb5).trans yq5
                      go_simp
                      exact hK _ _ ⟨by simp [upd, E], hw⟩
                    · rintro d a W hdi hdep hcl ⟨rfl, hw⟩ K hK
                      have E := hcl.facts 14 hdi rfl hdep [0, 1, 2, 3, 4, 5, 6, 7, 8, 9, 10, 11, 12, 13] [18, 19, 20, 21, 22, 23, 24, 25, 26, 27, 28, 29, 30, 31, 32, 33, 34, 35] (by kernel_rfl) (by kernel_rfl)
                      simp only [AllT, AllF] at E
                      clear hdi hdep hcl
                      go_simp
                      exact hK _ _ ⟨by simp [upd, E], hw⟩
                    · rintro d a W hdi hdep hcl ⟨rfl, hw⟩ K hK
                      have E := hcl.facts 15 hdi rfl hdep [0, 1, 2, 3, 4] [16, 17, 18, 19, 20, 21, 22, 23, 24, 25, 26, 27, 28, 29, 30, 31, 32, 33, 34, 35] (by kernel_rfl) (by kernel_rfl)
                      simp only [AllT, AllF] at E
                      clear hdi hdep hcl
                      go_simp
                      exact hK _ _ ⟨by simp [upd, E], hw⟩
                    · rintro d a W hdi hdep hcl ⟨rfl, hw⟩ K hK
                      have E := hcl.facts 16 hdi rfl hdep [0, 1, 2, 3, 4, 15] [17, 18, 19, 20, 21, 22, 23, 24, 25, 26, 27, 28, 29, 30, 31, 32, 33, 34, 35] (by kernel_rfl) (by kernel_rfl)
                      simp only [AllT, AllF] at E
                      clear hdi hdep hcl
                      go_simp
                      exact hK _ _ ⟨by simp [upd, E], hw⟩
                    · rintro d a W hdi hdep hcl ⟨rfl, hw⟩ K hK
                      have E := hcl.facts 17 hdi rfl hdep [0, 1, 2, 3, 4, 15, 16] [18, 19, 20, 21, 22, 23, 24, 25, 26, 27, 28, 29, 30, 31, 32, 33, 34, 35] (by kernel_rfl) (by kernel_rfl)
                      simp only [AllT, AllF] at E
                      clear hdi hdep hcl
                      obtain ⟨c0, c1, c2, c3, -⟩ := HB1.out.pure (H5.out.trans hw.out)
                      go_simp
                      exact hK _ _ ⟨by simp [upd, E], hw⟩
                    · rintro d a W hdi hdep hcl ⟨rfl, hw⟩ K hK
                      have E := hcl.facts 18 hdi rfl hdep [0, 1, 2, 3, 4, 5, 6, 7, 8, 9, 10, 11, 12, 13, 14, 15, 16, 17] [19, 20, 21, 22, 23, 24, 25, 26, 27, 28, 29, 30, 31, 32, 33, 34, 35] (by kernel_rfl) (by kernel_rfl)
                      simp only [AllT, AllF] at E
                      clear hdi hdep hcl
                      go_simp
                      exact hK _ _ ⟨by simp [upd, E], hw⟩
                    · rintro d a W hdi hdep hcl ⟨rfl, hw⟩ K hK
                      have E := hcl.facts 19 hdi rfl hdep [0, 1, 2, 3, 4, 5, 6, 7, 8, 9, 10, 11, 12, 13, 14, 15, 16, 17, 18] [20, 21, 22, 23, 24, 25, 26, 27, 28, 29, 30, 31, 32, 33, 34, 35] (by kernel_rfl) (by kernel_rfl)
                      simp only [AllT, AllF] at E
                      clear hdi hdep hcl
                      go_simp
                      exact hK _ _ ⟨by simp [upd, E], hw⟩
                    · rintro d a W hdi hdep hcl ⟨rfl, hw⟩ K hK
                      have E := hcl.facts 20 hdi rfl hdep [0, 1, 2, 3, 4, 5, 6, 7, 8, 9, 10, 11, 12, 13, 14, 15, 16, 17, 18, 19] [22, 23, 29, 33, 34, 35] (by kernel_rfl) (by kernel_rfl)
                      simp only [AllT, AllF] at E
                      clear hdi hdep hcl
                      go_simp
                      exact hK _ _ ⟨by simp [upd, E], hw⟩
                    · rintro d a W hdi hdep hcl ⟨rfl, hw⟩ K hK
                      have E := hcl.facts 21 hdi rfl hdep [0, 1, 2, 3, 4, 5, 6, 7, 8, 9, 10, 11, 12, 13, 14, 15, 16, 17, 18, 19] [22, 23, 29, 33, 34, 35] (by kernel_rfl) (by kernel_rfl)
                      simp only [AllT, AllF] at E
                      clear hdi hdep hcl
                      go_simp
                      exact hK _ _ ⟨by simp [upd, E], hw⟩
                    · rintro d a W hdi hdep hcl ⟨rfl, hw⟩ K hK
                      have E := hcl.facts 22 hdi rfl hdep [0, 1, 2, 3, 4, 5, 6, 7, 8, 9, 10, 11, 12, 13, 14, 15, 16, 17, 18, 19, 20, 21] [23, 29, 33, 34, 35] (by kernel_rfl) (by kernel_rfl)
                      simp only [AllT, AllF] at E
                      clear hdi hdep hcl
                      go_simp
                      exact hK _ _ ⟨by simp [upd, E], hw⟩
                    · rintro d a W hdi hdep hcl ⟨rfl, hw⟩ K hK
                      have E := hcl.facts 23 hdi rfl hdep [0, 1, 2, 3, 4, 5, 6, 7, 8, 9, 10, 11, 12, 13, 14, 15, 16, 17, 18, 19, 20, 21, 22] [29, 33, 34, 35] (by kernel_rfl) (by kernel_rfl)
                      simp only [AllT, AllF] at E
                      clear hdi hdep hcl
                      have z := ((pcell hw.out).1 _ _ hrb5).trans yr5
                      go_simp
                      exact hK _ _ ⟨by simp [upd, E], hw⟩
                    · rintro d a W hdi hdep hcl ⟨rfl, hw⟩ K hK
                      have E := hcl.facts 24 hdi rfl hdep [0, 1, 2, 3, 4, 5, 6, 7, 8, 9, 10, 11, 12, 13, 14, 15, 16, 17, 18, 19] [27, 28, 29, 33, 34, 35] (by kernel_rfl) (by kernel_rfl)
                      simp only [AllT, AllF] at E
                      clear hdi hdep hcl
                      go_simp
                      exact hK _ _ ⟨by simp [upd, E], hw⟩
                    · rintro d a W hdi hdep hcl ⟨rfl, hw⟩ K hK
                      have E := hcl.facts 25 hdi rfl hdep [0, 1, 2, 3, 4, 5, 6, 7, 8, 9, 10, 11, 12, 13, 14, 15, 16, 17, 18, 19] [26, 27, 28, 29, 33, 34, 35] (by kernel_rfl) (by kernel_rfl)
                      simp only [AllT, AllF] at E
                      clear hdi hdep hcl
                      go_simp
                      exact hK _ _ ⟨by simp [upd, E], hw⟩
                    · rintro d a W hdi hdep hcl ⟨rfl, hw⟩ K hK
                      have E := hcl.facts 26 hdi rfl hdep [0, 1, 2, 3, 4, 5, 6, 7, 8, 9, 10, 11, 12, 13, 14, 15, 16, 17, 18, 19, 25] [27, 28, 29, 33, 34, 35] (by kernel_rfl) (by kernel_rfl)
                      simp only [AllT, AllF] at E
                      clear hdi hdep hcl
                      go_simp
                      exact hK _ _ ⟨by simp [upd, E], hw⟩
                    · rintro d a W hdi hdep hcl ⟨rfl, hw⟩ K hK
                      have E := hcl.facts 27 hdi rfl hdep [0, 1, 2, 3, 4, 5, 6, 7, 8, 9, 10, 11, 12, 13, 14, 15, 16, 17, 18, 19, 24, 25, 26] [28, 29, 33, 34, 35] (by kernel_rfl) (by kernel_rfl)
                      simp only [AllT, AllF] at E
                      clear hdi hdep hcl
                      go_simp
                      exact hK _ _ ⟨by simp [upd, E], hw⟩
                    · rintro d a W hdi hdep hcl ⟨rfl, hw⟩ K hK
                      have E := hcl.facts 28 hdi rfl hdep [0, 1, 2, 3, 4, 5, 6, 7, 8, 9, 10, 11, 12, 13, 14, 15, 16, 17, 18, 19, 24, 25, 26, 27] [29, 33, 34, 35] (by kernel_rfl) (by kernel_rfl)
                      simp only [AllT, AllF] at E
                      clear hdi hdep hcl
                      have z := ((pcell hw.out).1 _ _ hrb5).trans yq5
                      go_simp
                      exact hK _ _ ⟨by simp [upd, E], hw⟩
                    · rintro d a W hdi hdep hcl ⟨rfl, hw⟩ K hK
                      have E := hcl.facts 29 hdi rfl hdep [0, 1, 2, 3, 4, 5, 6, 7, 8, 9, 10, 11, 12, 13, 14, 15, 16, 17, 18, 19, 20, 21, 22, 23, 24, 25, 26, 27, 28] [33, 34, 35] (by kernel_rfl) (by kernel_rfl)
                      simp only [AllT, AllF] at E
                      clear hdi hdep hcl
                      go_simp
                      exact hK _ _ ⟨by simp [upd, E], hw⟩
                    · rintro d a W hdi hdep hcl ⟨rfl, hw⟩ K hK
                      have E := hcl.facts 30 hdi rfl hdep [0, 1, 2, 3, 4, 5, 6, 7, 8, 9, 10, 11, 12, 13, 14, 15, 16, 17, 18, 19] [31, 32, 33, 34, 35] (by kernel_rfl) (by kernel_rfl)
                      simp only [AllT, AllF] at E
                      clear hdi hdep hcl
                      go_simp
                      exact hK _ _ ⟨by simp [upd, E], hw⟩
                    · rintro d a W hdi hdep hcl ⟨rfl, hw⟩ K hK
                      have E := hcl.facts 31 hdi rfl hdep [0, 1, 2, 3, 4, 5, 6, 7, 8, 9, 10, 11, 12, 13, 14, 15, 16, 17, 18, 19, 30] [32, 33, 34, 35] (by kernel_rfl) (by kernel_rfl)
                      simp only [AllT, AllF] at E
                      clear hdi hdep hcl
                      go_simp
                      exact hK _ _ ⟨by simp [upd, E], hw⟩
                    · rintro d a W hdi hdep hcl ⟨rfl, hw⟩ K hK
                      have E := hcl.facts 32 hdi rfl hdep [0, 1, 2, 3, 4, 5, 6, 7, 8, 9, 10, 11, 12, 13, 14, 15, 16, 17, 18, 19, 30, 31] [33, 34, 35] (by kernel_rfl) (by kernel_rfl)
                      simp only [AllT, AllF] at E
                      clear hdi hdep hcl
                      obtain ⟨c0, c1, c2, c3, -⟩ := HB1.out.pure (H5.out.trans hw.out)
                      go_simp
                      exact hK _ _ ⟨by simp [upd, E], hw⟩
                    · rintro d a W hdi hdep hcl ⟨rfl, hw⟩ K hK
                      have E := hcl.facts 33 hdi rfl hdep [0, 1, 2, 3, 4, 5, 6, 7, 8, 9, 10, 11, 12, 13, 14, 15, 16, 17, 18, 19, 20, 21, 22, 23, 24, 25, 26, 27, 28, 29, 30, 31, 32] [34, 35] (by kernel_rfl) (by kernel_rfl)
                      simp only [AllT, AllF] at E
                      clear hdi hdep hcl
                      go_simp
                      exact hK _ _ ⟨by simp [upd, E], hw⟩
                    · rintro d a W hdi hdep hcl ⟨rfl, hw⟩ K hK
                      have E := hcl.facts 34 hdi rfl hdep [0, 1, 2, 3, 4, 5, 6, 7, 8, 9, 10, 11, 12, 13, 14, 15, 16, 17, 18, 19, 20, 21, 22, 23, 24, 25, 26, 27, 28, 29, 30, 31, 32, 33] [35] (by kernel_rfl) (by kernel_rfl)
                      simp only [AllT, AllF] at E
                      clear hdi hdep hcl
                      go_simp
                      exact hK _ _ ⟨by simp [upd, E], hw⟩
                    · rintro d a W hdi hdep hcl ⟨rfl, hw⟩ K hK
                      have E := hcl.facts 35 hdi rfl hdep [0, 1, 2, 3, 4, 5, 6, 7, 8, 9, 10, 11, 12, 13, 14, 15, 16, 17, 18, 19, 20, 21, 22, 23, 24, 25, 26, 27, 28, 29, 30, 31, 32, 33, 34] [] (by kernel_rfl) (by kernel_rfl)
                      simp only [AllT, AllF] at E
                      clear hdi hdep hcl
                      go_simp
                      exact hK _ _ ⟨by simp [upd, E], hw⟩
                  · rintro d a W hall ⟨rfl, hw⟩
                    have E := AllT.all hall [0, 1, 2, 3, 4, 5, 6, 7, 8, 9, 10, 11, 12, 13, 14, 15, 16, 17, 18, 19, 20, 21, 22, 23, 24, 25, 26, 27, 28, 29, 30, 31, 32, 33, 34, 35] (by kernel_rfl)
                    simp only [AllT] at E
                    simp only [E, cond_true] at hw ⊢
                    clear E hall
                    go_wp2_with fail
                    exact bodyPost_ret (v := .bool false) (by simp [results, Tryd.results66, go_sem]) rfl ⟨by rw [H0.out], hP1.out.trans (H5.out.trans hw.out)⟩
                · by_cases h2 : b.hi < dd
                  · have H0 : Hid (isT b f g n = false) := bad.out (by unfold tOk; rw [HF.out, cond_false, HD.out, decide_eq_false (p := dd ≤ b.hi) (by omega)]; simp)
                    refine reg_invW (fun d a W => a = { tmps := #[bookV b p cap, Value.slice q n c, Value.slice (some { block := rb, off := ro }) t dc, Value.pointer (some { block := gb, off := 0 }), undef, undef, u6, Value.slice pu t cu, Value.int IntKind.i64 (n : Int), Value.int IntKind.i64 (k : Int), u10, Value.agg #[Value.int IntKind.i64 b.lo, Value.int IntKind.i64 b.hi, Value.int IntKind.i64 b.lots, Value.slice p b.n cap], Value.slice pu t cu, Value.int IntKind.i64 (n : Int), Value.slice q n c, Value.int IntKind.i64 (n : Int), Value.bool false, u17, u18, u19, u20, u21, u22, u23, u24, u25, u26, u27, u28, u29, u30, Value.int IntKind.i64 (k : Int), Value.slice pu t cu, Value.int IntKind.i64 ↑t, Value.bool true, u35, u36, Value.slice (some { block := rb, off := ro }) t dc, Value.int IntKind.i64 (k : Int), Value.pointer (some { block := rb, off := ro + k }), Value.int IntKind.i64 (g k), Value.bool (decide (g k < 0)), Value.bool (decide (g k < 0)), Value.slice (some { block := rb, off := ro }) t dc, Value.int IntKind.i64 (k : Int), Value.pointer (some { block := rb, off := ro + k }), Value.int IntKind.i64 (g k), Value.bool (decide (600 < g k)), Value.bool (decide (g k < 0) || decide (600 < g k)), Value.agg #[Value.int IntKind.i64 b.lo, Value.int IntKind.i64 b.hi, Value.int IntKind.i64 b.lots, Value.slice p b.n cap], Value.int IntKind.i64 (k : Int), Value.bool false, Value.bool false, undef, undef, undef, undef, undef, Value.bool false, (bif d 0 then Value.agg #[Value.int IntKind.i64 b.lo, Value.int IntKind.i64 b.hi, Value.int IntKind.i64 b.lots, Value.slice p b.n cap] else u59), (bif d 1 then Value.int IntKind.i64 (k : Int) else u60), (bif d 2 then Value.bool false else u61), (bif d 3 then Value.bool true else u62), (bif d 4 then Value.bool true else u63), (bif d 5 then Value.slice (some { block := rb, off := ro }) t dc else u64), (bif d 6 then Value.int IntKind.i64 (k : Int) else u65), (bif d 7 then Value.pointer (some { block := rb, off := ro + k }) else u66), (bif d 8 then Value.int IntKind.i64 (g k) else u67), (bif d 9 then Value.slice (some { block := rb, off := ro }) t dc else u68), (bif d 10 then Value.int IntKind.i64 (k : Int) else u69), (bif d 11 then Value.int IntKind.i64 ((k : Int) - 1) else u70), (bif d 12 then Value.pointer (some { block := rb, off := ro + (k - 1) }) else u71), (bif d 13 then Value.int IntKind.i64 (g (k - 1)) else u72), (bif d 14 then Value.int IntKind.i64 (dd) else u73), (bif d 15 then Value.pointer (some { block := gb, off := 0 }) else u74), (bif d 16 then Value.pointer (some { block := gb, off := 0 }) else u75), (bif d 17 then Value.int IntKind.i64 (b.lo) else u76), (bif d 18 then Value.bool false else u77), (bif d 19 then Value.bool false else u78), (bif d 20 then Value.slice (some { block := rb, off := ro }) t dc else u79), (bif d 21 then Value.int IntKind.i64 (k : Int) else u80), (bif d 22 then Value.pointer (some { block := rb, off := ro + k }) else u81), (bif d 23 then Value.int IntKind.i64 (g k) else u82), (bif d 24 then Value.slice (some { block := rb, off := ro }) t dc else u83), (bif d 25 then Value.int IntKind.i64 (k : Int) else u84), (bif d 26 then Value.int IntKind.i64 ((k : Int) - 1) else u85), (bif d 27 then Value.pointer (some { block := rb, off := ro + (k - 1) }) else u86), (bif d 28 then Value.int IntKind.i64 (g (k - 1)) else u87), (bif d 29 then Value.int IntKind.i64 (dd) else u88), (bif d 30 then Value.pointer (some { block := gb, off := 0 }) else u89), (bif d 31 then Value.pointer (some { block := gb, off := 1 }) else u90), (bif d 32 then Value.int IntKind.i64 (b.hi) else u91), (bif d 33 then Value.bool true else u92), (bif d 34 then Value.bool true else u93), (bif d 35 then Value.bool true else u94), u95, u96, u97, u98, u99, u100, u101, u102, u103, u104, u105, u106, u107, u108, u109, u110, u111, u112, u113, u114, u115, u116, u117, u118, u119, u120, u121, u122, u123, u124, u125], defers := [] } ∧ Hid (Pure w5 W)) hmx (by kernel_rfl) ?_ ?_ ?_
                    · exact ⟨rfl, (Diff.refl w5).drew⟩
                    · refine ⟨?_, ?_, ?_, ?_, ?_, ?_, ?_, ?_, ?_, ?_, ?_, ?_, ?_, ?_, ?_, ?_, ?_, ?_, ?_, ?_, ?_, ?_, ?_, ?_, ?_, ?_, ?_, ?_, ?_, ?_, ?_, ?_, ?_, ?_, ?_, ?_, trivial⟩
                      · rintro d a W hdi hdep hcl ⟨rfl, hw⟩ K hK
                        have E := hcl.facts 0 hdi rfl hdep [] [2, 3, 4, 5, 6, 7, 8, 9, 10, 11, 12, 13, 14, 15, 16, 17, 18, 19, 20, 21, 22, 23, 24, 25, 26, 27, 28, 29, 30, 31, 32, 33, 34, 35] (by kernel_rfl) (by kernel_rfl)
                        simp only [AllT, AllF] at E
                        clear hdi hdep hcl
                        obtain ⟨c0, c1, c2, c3, -⟩ := HB1.out.pure (H5.out.trans hw.out)
                        go_simp
                        exact hK _ _ ⟨by simp [upd, E], hw⟩
                      · rintro d a W hdi hdep hcl ⟨rfl, hw⟩ K hK
                        have E := hcl.facts 1 hdi rfl hdep [] [2, 3, 4, 5, 6, 7, 8, 9, 10, 11, 12, 13, 14, 15, 16, 17, 18, 19, 20, 21, 22, 23, 24, 25, 26, 27, 28, 29, 30, 31, 32, 33, 34, 35] (by kernel_rfl) (by kernel_rfl)
                        simp only [AllT, AllF] at E
                        clear hdi hdep hcl
                        go_simp
                        exact hK _ _ ⟨by simp [upd, E], hw⟩
                      · rintro d a W hdi hdep hcl ⟨rfl, hw⟩ K hK
                        have E := hcl.facts 2 hdi rfl hdep [0, 1] [3, 4, 5, 6, 7, 8, 9, 10, 11, 12, 13, 14, 15, 16, 17, 18, 19, 20, 21, 22, 23, 24, 25, 26, 27, 28, 29, 30, 31, 32, 33, 34, 35] (by kernel_rfl) (by kernel_rfl)
                        simp only [AllT, AllF] at E
                        clear hdi hdep hcl
                        go_simp
                        refine (first1.out k W hkt (H5.out.trans hw.out)).mono ?_
                        rintro e w6 ⟨rfl, hp6⟩
                        rw [HF.out]
                        exact hK _ _ ⟨by simp [upd, E], hw.out.trans hp6⟩
                      · rintro d a W hdi hdep hcl ⟨rfl, hw⟩ K hK
                        have E := hcl.facts 3 hdi rfl hdep [0, 1, 2] [4, 5, 6, 7, 8, 9, 10, 11, 12, 13, 14, 15, 16, 17, 18, 19, 20, 21, 22, 23, 24, 25, 26, 27, 28, 29, 30, 31, 32, 33, 34, 35] (by kernel_rfl) (by kernel_rfl)
                        simp only [AllT, AllF] at E
                        clear hdi hdep hcl
                        go_simp
                        exact hK _ _ ⟨by simp [upd, E], hw⟩
                      · rintro d a W hdi hdep hcl ⟨rfl, hw⟩ K hK
                        have E := hcl.facts 4 hdi rfl hdep [0, 1, 2, 3] [5, 6, 7, 8, 9, 10, 11, 12, 13, 14, 15, 16, 17, 18, 19, 20, 21, 22, 23, 24, 25, 26, 27, 28, 29, 30, 31, 32, 33, 34, 35] (by kernel_rfl) (by kernel_rfl)
                        simp only [AllT, AllF] at E
                        clear hdi hdep hcl
                        go_simp
                        exact hK _ _ ⟨by simp [upd, E], hw⟩
                      · rintro d a W hdi hdep hcl ⟨rfl, hw⟩ K hK
                        have E := hcl.facts 5 hdi rfl hdep [0, 1, 2, 3, 4] [7, 8, 14, 18, 19, 20, 21, 22, 23, 24, 25, 26, 27, 28, 29, 30, 31, 32, 33, 34, 35] (by kernel_rfl) (by kernel_rfl)
                        simp only [AllT, AllF] at E
                        clear hdi hdep hcl
                        go_simp
                        exact hK _ _ ⟨by simp [upd, E], hw⟩
                      · rintro d a W hdi hdep hcl ⟨rfl, hw⟩ K hK
                        have E := hcl.facts 6 hdi rfl hdep [0, 1, 2, 3, 4] [7, 8, 14, 18, 19, 20, 21, 22, 23, 24, 25, 26, 27, 28, 29, 30, 31, 32, 33, 34, 35] (by kernel_rfl) (by kernel_rfl)
                        simp only [AllT, AllF] at E
                        clear hdi hdep hcl
                        go_simp
                        exact hK _ _ ⟨by simp [upd, E], hw⟩
                      · rintro d a W hdi hdep hcl ⟨rfl, hw⟩ K hK
                        have E := hcl.facts 7 hdi rfl hdep [0, 1, 2, 3, 4, 5, 6] [8, 14, 18, 19, 20, 21, 22, 23, 24, 25, 26, 27, 28, 29, 30, 31, 32, 33, 34, 35] (by kernel_rfl) (by kernel_rfl)
                        simp only [AllT, AllF] at E
                        clear hdi hdep hcl
                        go_simp
                        exact hK _ _ ⟨by simp [upd, E], hw⟩
                      · rintro d a W hdi hdep hcl ⟨rfl, hw⟩ K hK
                        have E := hcl.facts 8 hdi rfl hdep [0, 1, 2, 3, 4, 5, 6, 7] [14, 18, 19, 20, 21, 22, 23, 24, 25, 26, 27, 28, 29, 30, 31, 32, 33, 34, 35] (by kernel_rfl) (by kernel_rfl)
                        simp only [AllT, AllF] at E
                        clear hdi hdep hcl
                        have z := ((pcell hw.out).1 _ _ hrb5).trans yr5
                        go_simp
                        exact hK _ _ ⟨by simp [upd, E], hw⟩
                      · rintro d a W hdi hdep hcl ⟨rfl, hw⟩ K hK
                        have E := hcl.facts 9 hdi rfl hdep [0, 1, 2, 3, 4] [12, 13, 14, 18, 19, 20, 21, 22, 23, 24, 25, 26, 27, 28, 29, 30, 31, 32, 33, 34, 35] (by kernel_rfl) (by kernel_rfl)
                        simp only [AllT, AllF] at E
                        clear hdi hdep hcl
                        go_simp
                        exact hK _ _ ⟨by simp [upd, E], hw⟩
                      · rintro d a W hdi hdep hcl ⟨rfl, hw⟩ K hK
                        have E := hcl.facts 10 hdi rfl hdep [0, 1, 2, 3, 4] [11, 12, 13, 14, 18, 19, 20, 21, 22, 23, 24, 25, 26, 27, 28, 29, 30, 31, 32, 33, 34, 35] (by kernel_rfl) (by kernel_rfl)
                        simp only [AllT, AllF] at E
                        clear hdi hdep hcl
                        go_simp
                        exact hK _ _ ⟨by simp [upd, E], hw⟩
                      · rintro d a W hdi hdep hcl ⟨rfl, hw⟩ K hK
                        have E := hcl.facts 11 hdi rfl hdep [0, 1, 2, 3, 4, 10] [12, 13, 14, 18, 19, 20, 21, 22, 23, 24, 25, 26, 27, 28, 29, 30, 31, 32, 33, 34, 35] (by kernel_rfl) (by kernel_rfl)
                        simp only [AllT, AllF] at E
                        clear hdi hdep hcl
                        go_simp
                        exact hK _ _ ⟨by simp [upd, E], hw⟩
                      · rintro d a W hdi hdep hcl ⟨rfl, hw⟩ K hK
                        have E := hcl.facts 12 hdi rfl hdep [0, 1, 2, 3, 4, 9, 10, 11] [13, 14, 18, 19, 20, 21, 22, 23, 24, 25, 26, 27, 28, 29, 30, 31, 32, 33, 34, 35] (by kernel_rfl) (by kernel_rfl)
                        simp only [AllT, AllF] at E
                        clear hdi hdep hcl
                        go_simp
                        exact hK _ _ ⟨by simp [upd, E], hw⟩
                      · rintro d a W hdi hdep hcl ⟨rfl, hw⟩ K hK
                        have E := hcl.facts 13 hdi rfl hdep [0, 1, 2, 3, 4, 9, 10, 11, 12] [14, 18, 19, 20, 21, 22, 23, 24, 25, 26, 27, 28, 29, 30, 31, 32, 33, 34, 35] (by kernel_rfl) (by kernel_rfl)
                        simp only [AllT, AllF] at E
                        clear hdi hdep hcl
                        have z := ((pcell hw.out).1 _ _ hrb5).trans yq5
                        go_simp
                        exact hK _ _ ⟨by simp [upd, E], hw⟩
                      · rintro d a W hdi hdep hcl ⟨rfl, hw⟩ K hK
                        have E := hcl.facts 14 hdi rfl hdep [0, 1, 2, 3, 4, 5, 6, 7, 8, 9, 10, 11, 12, 13] [18, 19, 20, 21, 22, 23, 24, 25, 26, 27, 28, 29, 30, 31, 32, 33, 34, 35] (by kernel_rfl) (by kernel_rfl)
                        simp only [AllT, AllF] at E
                        clear hdi hdep hcl
                        go_simp
                        exact hK _ _ ⟨by simp [upd, E], hw⟩
                      · rintro d a W hdi hdep hcl ⟨rfl, hw⟩ K hK
                        have E := hcl.facts 15 hdi rfl hdep [0, 1, 2, 3, 4] [16, 17, 18, 19, 20, 21, 22, 23, 24, 25, 26, 27, 28, 29, 30, 31, 32, 33, 34, 35] (by kernel_rfl) (by kernel_rfl)
                        simp only [AllT, AllF] at E
                        clear hdi hdep hcl
                        go_simp
                        exact hK _ _ ⟨by simp [upd, E], hw⟩
                      · rintro d a W hdi hdep hcl ⟨rfl, hw⟩ K hK
                        have E := hcl.facts 16 hdi rfl hdep [0, 1, 2, 3, 4, 15] [17, 18, 19, 20, 21, 22, 23, 24, 25, 26, 27, 28, 29, 30, 31, 32, 33, 34, 35] (by kernel_rfl) (by kernel_rfl)
                        simp only [AllT, AllF] at E
                        clear hdi hdep hcl
                        go_simp
                        exact hK _ _ ⟨by simp [upd, E], hw⟩
                      · rintro d a W hdi hdep hcl ⟨rfl, hw⟩ K hK
                        have E := hcl.facts 17 hdi rfl hdep [0, 1, 2, 3, 4, 15, 16] [18, 19, 20, 21, 22, 23, 24, 25, 26, 27, 28, 29, 30, 31, 32, 33, 34, 35] (by kernel_rfl) (by kernel_rfl)
                        simp only [AllT, AllF] at E
                        clear hdi hdep hcl
                        obtain ⟨c0, c1, c2, c3, -⟩ := HB1.out.pure (H5.out.trans hw.out)
                        go_simp
                        exact hK _ _ ⟨by simp [upd, E], hw⟩
                      · rintro d a W hdi hdep hcl ⟨rfl, hw⟩ K hK
                        have E := hcl.facts 18 hdi rfl hdep [0, 1, 2, 3, 4, 5, 6, 7, 8, 9, 10, 11, 12, 13, 14, 15, 16, 17] [19, 20, 21, 22, 23, 24, 25, 26, 27, 28, 29, 30, 31, 32, 33, 34, 35] (by kernel_rfl) (by kernel_rfl)
                        simp only [AllT, AllF] at E
                        clear hdi hdep hcl
                        go_simp
                        exact hK _ _ ⟨by simp [upd, E], hw⟩
                      · rintro d a W hdi hdep hcl ⟨rfl, hw⟩ K hK
                        have E := hcl.facts 19 hdi rfl hdep [0, 1, 2, 3, 4, 5, 6, 7, 8, 9, 10, 11, 12, 13, 14, 15, 16, 17, 18] [20, 21, 22, 23, 24, 25, 26, 27, 28, 29, 30, 31, 32, 33, 34, 35] (by kernel_rfl) (by kernel_rfl)
                        simp only [AllT, AllF] at E
                        clear hdi hdep hcl
                        go_simp
                        exact hK _ _ ⟨by simp [upd, E], hw⟩
                      · rintro d a W hdi hdep hcl ⟨rfl, hw⟩ K hK
                        have E := hcl.facts 20 hdi rfl hdep [0, 1, 2, 3, 4, 5, 6, 7, 8, 9, 10, 11, 12, 13, 14, 15, 16, 17, 18, 19] [22, 23, 29, 33, 34, 35] (by kernel_rfl) (by kernel_rfl)
                        simp only [AllT, AllF] at E
                        clear hdi hdep hcl
                        go_simp
                        exact hK _ _ ⟨by simp [upd, E], hw⟩
                      · rintro d a W hdi hdep hcl ⟨rfl, hw⟩ K hK
                        have E := hcl.facts 21 hdi rfl hdep [0, 1, 2, 3, 4, 5, 6, 7, 8, 9, 10, 11, 12, 13, 14, 15, 16, 17, 18, 19] [22, 23, 29, 33, 34, 35] (by kernel_rfl) (by kernel_rfl)
                        simp only [AllT, AllF] at E
                        clear hdi hdep hcl
                        go_simp
                        exact hK _ _ ⟨by simp [upd, E], hw⟩
                      · rintro d a W hdi hdep hcl ⟨rfl, hw⟩ K hK
                        have E := hcl.facts 22 hdi rfl hdep [0, 1, 2, 3, 4, 5, 6, 7, 8, 9, 10, 11, 12, 13, 14, 15, 16, 17, 18, 19, 20, 21] [23, 29, 33, 34, 35] (by kernel_rfl) (by kernel_rfl)
                        simp only [AllT, AllF] at E
                        clear hdi hdep hcl
                        go_simp
                        exact hK _ _ ⟨by simp [upd, E], hw⟩
                      · rintro d a W hdi hdep hcl ⟨rfl, hw⟩ K hK
                        have E := hcl.facts 23 hdi rfl hdep [0, 1, 2, 3, 4, 5, 6, 7, 8, 9, 10, 11, 12, 13, 14, 15, 16, 17, 18, 19, 20, 21, 22] [29, 33, 34, 35] (by kernel_rfl) (by kernel_rfl)
                        simp only [AllT, AllF] at E
                        clear hdi hdep hcl
                        have z := ((pcell hw.out).1 _ _ hrb5).trans yr5
                        go_simp
                        exact hK _ _ ⟨by simp [upd, E], hw⟩
                      · rintro d a W hdi hdep hcl ⟨rfl, hw⟩ K hK
                        have E := hcl.facts 24 hdi rfl hdep [0, 1, 2, 3, 4, 5, 6, 7, 8, 9, 10, 11, 12, 13, 14, 15, 16, 17, 18, 19] [27, 28, 29, 33, 34, 35] (by kernel_rfl) (by kernel_rfl)
                        simp only [AllT, AllF] at E
                        clear hdi hdep hcl
                        go_simp
                        exact hK _ _ ⟨by simp [upd, E], hw⟩
                      · rintro d a W hdi hdep hcl ⟨rfl, hw⟩ K hK
                        have E := hcl.facts 25 hdi rfl hdep [0, 1, 2, 3, 4, 5, 6, 7, 8, 9, 10, 11, 12, 13, 14, 15, 16, 17, 18, 19] [26, 27, 28, 29, 33, 34, 35] (by kernel_rfl) (by kernel_rfl)
                        simp only [AllT, AllF] at E
                        clear hdi hdep hcl
                        go_simp
                        exact hK _ _ ⟨by simp [upd, E], hw⟩
                      · rintro d a W hdi hdep hcl ⟨rfl, hw⟩ K hK
                        have E := hcl.facts 26 hdi rfl hdep [0, 1, 2, 3, 4, 5, 6, 7, 8, 9, 10, 11, 12, 13, 14, 15, 16, 17, 18, 19, 25] [27, 28, 29, 33, 34, 35] (by kernel_rfl) (by kernel_rfl)
                        simp only [AllT, AllF] at E
                        clear hdi hdep hcl
                        go_simp
                        exact hK _ _ ⟨by simp [upd, E], hw⟩
                      · rintro d a W hdi hdep hcl ⟨rfl, hw⟩ K hK
                        have E := hcl.facts 27 hdi rfl hdep [0, 1, 2, 3, 4, 5, 6, 7, 8, 9, 10, 11, 12, 13, 14, 15, 16, 17, 18, 19, 24, 25, 26] [28, 29, 33, 34, 35] (by kernel_rfl) (by kernel_rfl)
                        simp only [AllT, AllF] at E
                        clear hdi hdep hcl
                        go_simp
                        exact hK _ _ ⟨by simp [upd, E], hw⟩
                      · rintro d a W hdi hdep hcl ⟨rfl, hw⟩ K hK
                        have E := hcl.facts 28 hdi rfl hdep [0, 1, 2, 3, 4, 5, 6, 7, 8, 9, 10, 11, 12, 13, 14, 15, 16, 17, 18, 19, 24, 25, 26, 27] [29, 33, 34, 35] (by kernel_rfl) (by kernel_rfl)
                        simp only [AllT, AllF] at E
                        clear hdi hdep hcl
                        have z := ((pcell hw.out).1 _ _ hrb5).trans yq5
                        go_simp
                        exact hK _ _ ⟨by simp [upd, E], hw⟩
                      · rintro d a W hdi hdep hcl ⟨rfl, hw⟩ K hK
                        have E := hcl.facts 29 hdi rfl hdep [0, 1, 2, 3, 4, 5, 6, 7, 8, 9, 10, 11, 12, 13, 14, 15, 16, 17, 18, 19, 20, 21, 22, 23, 24, 25, 26, 27, 28] [33, 34, 35] (by kernel_rfl) (by kernel_rfl)
                        simp only [AllT, AllF] at E
                        clear hdi hdep hcl
                        go_simp
                        exact hK _ _ ⟨by simp [upd, E], hw⟩
                      · rintro d a W hdi hdep hcl ⟨rfl, hw⟩ K hK
                        have E := hcl.facts 30 hdi rfl hdep [0, 1, 2, 3, 4, 5, 6, 7, 8, 9, 10, 11, 12, 13, 14, 15, 16, 17, 18, 19] [31, 32, 33, 34, 35] (by kernel_rfl) (by kernel_rfl)
                        simp only [AllT, AllF] at E
                        clear hdi hdep hcl
                        go_simp
                        exact hK _ _ ⟨by simp [upd, E], hw⟩
                      · rintro d a W hdi hdep hcl ⟨rfl, hw⟩ K hK
                        have E := hcl.facts 31 hdi rfl hdep [0, 1, 2, 3, 4, 5, 6, 7, 8, 9, 10, 11, 12, 13, 14, 15, 16, 17, 18, 19, 30] [32, 33, 34, 35] (by kernel_rfl) (by kernel_rfl)
                        simp only [AllT, AllF] at E
                        clear hdi hdep hcl
                        go_simp
                        exact hK _ _ ⟨by simp [upd, E], hw⟩
                      · rintro d a W hdi hdep hcl ⟨rfl, hw⟩ K hK
                        have E := hcl.facts 32 hdi rfl hdep [0, 1, 2, 3, 4, 5, 6, 7, 8, 9, 10, 11, 12, 13, 14, 15, 16, 17, 18, 19, 30, 31] [33, 34, 35] (by kernel_rfl) (by kernel_rfl)
                        simp only [AllT, AllF] at E
                        clear hdi hdep hcl
                        obtain ⟨c0, c1, c2, c3, -⟩ := HB1.out.pure (H5.out.trans hw.out)
                        go_simp
                        exact hK _ _ ⟨by simp [upd, E], hw⟩
                      · rintro d a W hdi hdep hcl ⟨rfl, hw⟩ K hK
                        have E := hcl.facts 33 hdi rfl hdep [0, 1, 2, 3, 4, 5, 6, 7, 8, 9, 10, 11, 12, 13, 14, 15, 16, 17, 18, 19, 20, 21, 22, 23, 24, 25, 26, 27, 28, 29, 30, 31, 32] [34, 35] (by kernel_rfl) (by kernel_rfl)
                        simp only [AllT, AllF] at E
                        clear hdi hdep hcl
                        go_simp
                        exact hK _ _ ⟨by simp [upd, E], hw⟩
                      · rintro d a W hdi hdep hcl ⟨rfl, hw⟩ K hK
                        have E := hcl.facts 34 hdi rfl hdep [0, 1, 2, 3, 4, 5, 6, 7, 8, 9, 10, 11, 12, 13, 14, 15, 16, 17, 18, 19, 20, 21, 22, 23, 24, 25, 26, 27, 28, 29, 30, 31, 32, 33] [35] (by kernel_rfl) (by kernel_rfl)
                        simp only [AllT, AllF] at E
                        clear hdi hdep hcl
                        go_simp
                        exact hK _ _ ⟨by simp [upd, E], hw⟩
                      · rintro d a W hdi hdep hcl ⟨rfl, hw⟩ K hK
                        have E := hcl.facts 35 hdi rfl hdep [0, 1, 2, 3, 4, 5, 6, 7, 8, 9, 10, 11, 12, 13, 14, 15, 16, 17, 18, 19, 20, 21, 22, 23, 24, 25, 26, 27, 28, 29, 30, 31, 32, 33, 34] [] (by kernel_rfl) (by kernel_rfl)
                        simp only [AllT, AllF] at E
                        clear hdi hdep hcl
                        go_simp
                        exact hK _ _ ⟨by simp [upd, E], hw⟩
                    · rintro d a W hall ⟨rfl, hw⟩
                      have E := AllT.all hall [0, 1, 2, 3, 4, 5, 6, 7, 8, 9, 10, 11, 12, 13, 14, 15, 16, 17, 18, 19, 20, 21, 22, 23, 24, 25, 26, 27, 28, 29, 30, 31, 32, 33, 34, 35] (by kernel_rfl)
                      simp only [AllT] at E
                      simp only [E, cond_true] at hw ⊢
                      clear E hall
                      go_wp2_with fail
                      exact bodyPost_ret (v := .bool false) (by simp [results, Tryd.results66, go_sem]) rfl ⟨by rw [H0.out], hP1.out.trans (H5.out.trans hw.out)⟩
                  · skip
                    refine reg_invW (fun d a W => a = { tmps := #[bookV b p cap, Value.slice q n c, Value.slice (some { block := rb, off := ro }) t dc, Value.pointer (some { block := gb, off := 0 }), undef, undef, u6, Value.slice pu t cu, Value.int IntKind.i64 (n : Int), Value.int IntKind.i64 (k : Int), u10, Value.agg #[Value.int IntKind.i64 b.lo, Value.int IntKind.i64 b.hi, Value.int IntKind.i64 b.lots, Value.slice p b.n cap], Value.slice pu t cu, Value.int IntKind.i64 (n : Int), Value.slice q n c, Value.int IntKind.i64 (n : Int), Value.bool false, u17, u18, u19, u20, u21, u22, u23, u24, u25, u26, u27, u28, u29, u30, Value.int IntKind.i64 (k : Int), Value.slice pu t cu, Value.int IntKind.i64 ↑t, Value.bool true, u35, u36, Value.slice (some { block := rb, off := ro }) t dc, Value.int IntKind.i64 (k : Int), Value.pointer (some { block := rb, off := ro + k }), Value.int IntKind.i64 (g k), Value.bool (decide (g k < 0)), Value.bool (decide (g k < 0)), Value.slice (some { block := rb, off := ro }) t dc, Value.int IntKind.i64 (k : Int), Value.pointer (some { block := rb, off := ro + k }), Value.int IntKind.i64 (g k), Value.bool (decide (600 < g k)), Value.bool (decide (g k < 0) || decide (600 < g k)), Value.agg #[Value.int IntKind.i64 b.lo, Value.int IntKind.i64 b.hi, Value.int IntKind.i64 b.lots, Value.slice p b.n cap], Value.int IntKind.i64 (k : Int), Value.bool false, Value.bool false, undef, undef, undef, undef, undef, Value.bool false, (bif d 0 then Value.agg #[Value.int IntKind.i64 b.lo, Value.int IntKind.i64 b.hi, Value.int IntKind.i64 b.lots, Value.slice p b.n cap] else u59), (bif d 1 then Value.int IntKind.i64 (k : Int) else u60), (bif d 2 then Value.bool false else u61), (bif d 3 then Value.bool true else u62), (bif d 4 then Value.bool true else u63), (bif d 5 then Value.slice (some { block := rb, off := ro }) t dc else u64), (bif d 6 then Value.int IntKind.i64 (k : Int) else u65), (bif d 7 then Value.pointer (some { block := rb, off := ro + k }) else u66), (bif d 8 then Value.int IntKind.i64 (g k) else u67), (bif d 9 then Value.slice (some { block := rb, off := ro }) t dc else u68), (bif d 10 then Value.int IntKind.i64 (k : Int) else u69), (bif d 11 then Value.int IntKind.i64 ((k : Int) - 1) else u70), (bif d 12 then Value.pointer (some { block := rb, off := ro + (k - 1) }) else u71), (bif d 13 then Value.int IntKind.i64 (g (k - 1)) else u72), (bif d 14 then Value.int IntKind.i64 (dd) else u73), (bif d 15 then Value.pointer (some { block := gb, off := 0 }) else u74), (bif d 16 then Value.pointer (some { block := gb, off := 0 }) else u75), (bif d 17 then Value.int IntKind.i64 (b.lo) else u76), (bif d 18 then Value.bool false else u77), (bif d 19 then Value.bool false else u78), (bif d 20 then Value.slice (some { block := rb, off := ro }) t dc else u79), (bif d 21 then Value.int IntKind.i64 (k : Int) else u80), (bif d 22 then Value.pointer (some { block := rb, off := ro + k }) else u81), (bif d 23 then Value.int IntKind.i64 (g k) else u82), (bif d 24 then Value.slice (some { block := rb, off := ro }) t dc else u83), (bif d 25 then Value.int IntKind.i64 (k : Int) else u84), (bif d 26 then Value.int IntKind.i64 ((k : Int) - 1) else u85), (bif d 27 then Value.pointer (some { block := rb, off := ro + (k - 1) }) else u86), (bif d 28 then Value.int IntKind.i64 (g (k - 1)) else u87), (bif d 29 then Value.int IntKind.i64 (dd) else u88), (bif d 30 then Value.pointer (some { block := gb, off := 0 }) else u89), (bif d 31 then Value.pointer (some { block := gb, off := 1 }) else u90), (bif d 32 then Value.int IntKind.i64 (b.hi) else u91), (bif d 33 then Value.bool false else u92), (bif d 34 then Value.bool false else u93), (bif d 35 then Value.bool false else u94), u95, u96, u97, u98, u99, u100, u101, u102, u103, u104, u105, u106, u107, u108, u109, u110, u111, u112, u113, u114, u115, u116, u117, u118, u119, u120, u121, u122, u123, u124, u125], defers := [] } ∧ Hid (Pure w5 W)) hmx (by kernel_rfl) ?_ ?_ ?_
                    · exact ⟨rfl, (Diff.refl w5).drew⟩
                    · refine ⟨?_, ?_, ?_, ?_, ?_, ?_, ?_, ?_, ?_, ?_, ?_, ?_, ?_, ?_, ?_, ?_, ?_, ?_, ?_, ?_, ?_, ?_, ?_, ?_, ?_, ?_, ?_, ?_, ?_, ?_, ?_, ?_, ?_, ?_, ?_, ?_, trivial⟩
                      · rintro d a W hdi hdep hcl ⟨rfl, hw⟩ K hK
                        have E := hcl.facts 0 hdi rfl hdep [] [2, 3, 4, 5, 6, 7, 8, 9, 10, 11, 12, 13, 14, 15, 16, 17, 18, 19, 20, 21, 22, 23, 24, 25, 26, 27, 28, 29, 30, 31, 32, 33, 34, 35] (by kernel_rfl) (by kernel_rfl)
                        simp only [AllT, AllF] at E
                        clear hdi hdep hcl
                        obtain ⟨c0, c1, c2, c3, -⟩ := HB1.out.pure (H5.out.trans hw.out)
                        go_simp
                        exact hK _ _ ⟨by simp [upd, E], hw⟩
                      · rintro d a W hdi hdep hcl ⟨rfl, hw⟩ K hK
                        have E := hcl.facts 1 hdi rfl hdep [] [2, 3, 4, 5, 6, 7, 8, 9, 10, 11, 12, 13, 14, 15, 16, 17, 18, 19, 20, 21, 22, 23, 24, 25, 26, 27, 28, 29, 30, 31, 32, 33, 34, 35] (by kernel_rfl) (by kernel_rfl)
                        simp only [AllT, AllF] at E
                        clear hdi hdep hcl
                        go_simp
                        exact hK _ _ ⟨by simp [upd, E], hw⟩
                      · rintro d a W hdi hdep hcl ⟨rfl, hw⟩ K hK
                        have E := hcl.facts 2 hdi rfl hdep [0, 1] [3, 4, 5, 6, 7, 8, 9, 10, 11, 12, 13, 14, 15, 16, 17, 18, 19, 20, 21, 22, 23, 24, 25, 26, 27, 28, 29, 30, 31, 32, 33, 34, 35] (by kernel_rfl) (by kernel_rfl)
                        simp only [AllT, AllF] at E
                        clear hdi hdep hcl
                        go_simp
                        refine (first1.out k W hkt (H5.out.trans hw.out)).mono ?_
                        rintro e w6 ⟨rfl, hp6⟩
                        rw [HF.out]
                        exact hK _ _ ⟨by simp [upd, E], hw.out.trans hp6⟩
                      · rintro d a W hdi hdep hcl ⟨rfl, hw⟩ K hK
                        have E := hcl.facts 3 hdi rfl hdep [0, 1, 2] [4, 5, 6, 7, 8, 9, 10, 11, 12, 13, 14, 15, 16, 17, 18, 19, 20, 21, 22, 23, 24, 25, 26, 27, 28, 29, 30, 31, 32, 33, 34, 35] (by kernel_rfl) (by kernel_rfl)
                        simp only [AllT, AllF] at E
                        clear hdi hdep hcl
                        go_simp
                        exact hK _ _ ⟨by simp [upd, E], hw⟩
                      · rintro d a W hdi hdep hcl ⟨rfl, hw⟩ K hK
                        have E := hcl.facts 4 hdi rfl hdep [0, 1, 2, 3] [5, 6, 7, 8, 9, 10, 11, 12, 13, 14, 15, 16, 17, 18, 19, 20, 21, 22, 23, 24, 25, 26, 27, 28, 29, 30, 31, 32, 33, 34, 35] (by kernel_rfl) (by kernel_rfl)
                        simp only [AllT, AllF] at E
                        clear hdi hdep hcl
                        go_simp
                        exact hK _ _ ⟨by simp [upd, E], hw⟩
                      · rintro d a W hdi hdep hcl ⟨rfl, hw⟩ K hK
                        have E := hcl.facts 5 hdi rfl hdep [0, 1, 2, 3, 4] [7, 8, 14, 18, 19, 20, 21, 22, 23, 24, 25, 26, 27, 28, 29, 30, 31, 32, 33, 34, 35] (by kernel_rfl) (by kernel_rfl)
                        simp only [AllT, AllF] at E
                        clear hdi hdep hcl
                        go_simp
                        exact hK _ _ ⟨by simp [upd, E], hw⟩
                      · rintro d a W hdi hdep hcl ⟨rfl, hw⟩ K hK
                        have E := hcl.facts 6 hdi rfl hdep [0, 1, 2, 3, 4] [7, 8, 14, 18, 19, 20, 21, 22, 23, 24, 25, 26, 27, 28, 29, 30, 31, 32, 33, 34, 35] (by kernel_rfl) (by kernel_rfl)
                        simp only [AllT, AllF] at E
                        clear hdi hdep hcl
                        go_simp
                        exact hK _ _ ⟨by simp [upd, E], hw⟩
                      · rintro d a W hdi hdep hcl ⟨rfl, hw⟩ K hK
                        have E := hcl.facts 7 hdi rfl hdep [0, 1, 2, 3, 4, 5, 6] [8, 14, 18, 19, 20, 21, 22, 23, 24, 25, 26, 27, 28, 29, 30, 31, 32, 33, 34, 35] (by kernel_rfl) (by kernel_rfl)
                        simp only [AllT, AllF] at E
                        clear hdi hdep hcl
                        go_simp
                        exact hK _ _ ⟨by simp [upd, E], hw⟩
                      · rintro d a W hdi hdep hcl ⟨rfl, hw⟩ K hK
                        have E := hcl.facts 8 hdi rfl hdep [0, 1, 2, 3, 4, 5, 6, 7] [14, 18, 19, 20, 21, 22, 23, 24, 25, 26, 27, 28, 29, 30, 31, 32, 33, 34, 35] (by kernel_rfl) (by kernel_rfl)
                        simp only [AllT, AllF] at E
                        clear hdi hdep hcl
                        have z := ((pcell hw.out).1 _ _ hrb5).trans yr5
                        go_simp
                        exact hK _ _ ⟨by simp [upd, E], hw⟩
                      · rintro d a W hdi hdep hcl ⟨rfl, hw⟩ K hK
                        have E := hcl.facts 9 hdi rfl hdep [0, 1, 2, 3, 4] [12, 13, 14, 18, 19, 20, 21, 22, 23, 24, 25, 26, 27, 28, 29, 30, 31, 32, 33, 34, 35] (by kernel_rfl) (by kernel_rfl)
                        simp only [AllT, AllF] at E
                        clear hdi hdep hcl
                        go_simp
                        exact hK _ _ ⟨by simp [upd, E], hw⟩
                      · rintro d a W hdi hdep hcl ⟨rfl, hw⟩ K hK
                        have E := hcl.facts 10 hdi rfl hdep [0, 1, 2, 3, 4] [11, 12, 13, 14, 18, 19, 20, 21, 22, 23, 24, 25, 26, 27, 28, 29, 30, 31, 32, 33, 34, 35] (by kernel_rfl) (by kernel_rfl)
                        simp only [AllT, AllF] at E
                        clear hdi hdep hcl
                        go_simp
                        exact hK _ _ ⟨by simp [upd, E], hw⟩
                      · rintro d a W hdi hdep hcl ⟨rfl, hw⟩ K hK
                        have E := hcl.facts 11 hdi rfl hdep [0, 1, 2, 3, 4, 10] [12, 13, 14, 18, 19, 20, 21, 22, 23, 24, 25, 26, 27, 28, 29, 30, 31, 32, 33, 34, 35] (by kernel_rfl) (by kernel_rfl)
                        simp only [AllT, AllF] at E
                        clear hdi hdep hcl
                        go_simp
                        exact hK _ _ ⟨by simp [upd, E], hw⟩
                      · rintro d a W hdi hdep hcl ⟨rfl, hw⟩ K hK
                        have E := hcl.facts 12 hdi rfl hdep [0, 1, 2, 3, 4, 9, 10, 11] [13, 14, 18, 19, 20, 21, 22, 23, 24, 25, 26, 27, 28, 29, 30, 31, 32, 33, 34, 35] (by kernel_rfl) (by kernel_rfl)
                        simp only [AllT, AllF] at E
                        clear hdi hdep hcl
                        go_simp
                        exact hK _ _ ⟨by simp [upd, E], hw⟩
                      · rintro d a W hdi hdep hcl ⟨rfl, hw⟩ K hK
                        have E := hcl.facts 13 hdi rfl hdep [0, 1, 2, 3, 4, 9, 10, 11, 12] [14, 18, 19, 20, 21, 22, 23, 24, 25, 26, 27, 28, 29, 30, 31, 32, 33, 34, 35] (by kernel_rfl) (by kernel_rfl)
                        simp only [AllT, AllF] at E
                        clear hdi hdep hcl
                        have z := ((pcell hw.out).1 _ _ hrb5).trans yq5
                        go_simp
                        exact hK _ _ ⟨by simp [upd, E], hw⟩
                      · rintro d a W hdi hdep hcl ⟨rfl, hw⟩ K hK
                        have E := hcl.facts 14 hdi rfl hdep [0, 1, 2, 3, 4, 5, 6, 7, 8, 9, 10, 11, 12, 13] [18, 19, 20, 21, 22, 23, 24, 25, 26, 27, 28, 29, 30, 31, 32, 33, 34, 35] (by kernel_rfl) (by kernel_rfl)
                        simp only [AllT, AllF] at E
                        clear hdi hdep hcl
                        go_simp
                        exact hK _ _ ⟨by simp [upd, E], hw⟩
                      · rintro d a W hdi hdep hcl ⟨rfl, hw⟩ K hK
                        have E := hcl.facts 15 hdi rfl hdep [0, 1, 2, 3, 4] [16, 17, 18, 19, 20, 21, 22, 23, 24, 25, 26, 27, 28, 29, 30, 31, 32, 33, 34, 35] (by kernel_rfl) (by kernel_rfl)
                        simp only [AllT, AllF] at E
                        clear hdi hdep hcl
                        go_simp
                        exact hK _ _ ⟨by simp [upd, E], hw⟩
                      · rintro d a W hdi hdep hcl ⟨rfl, hw⟩ K hK
                        have E := hcl.facts 16 hdi rfl hdep [0, 1, 2, 3, 4, 15] [17, 18, 19, 20, 21, 22, 23, 24, 25, 26, 27, 28, 29, 30, 31, 32, 33, 34, 35] (by kernel_rfl) (by kernel_rfl)
                        simp only [AllT, AllF] at E
                        clear hdi hdep hcl
                        go_simp
                        exact hK _ _ ⟨by simp [upd, E], hw⟩
                      · rintro d a W hdi hdep hcl ⟨rfl, hw⟩ K hK
                        have E := hcl.facts 17 hdi rfl hdep [0, 1, 2, 3, 4, 15, 16] [18, 19, 20, 21, 22, 23, 24, 25, 26, 27, 28, 29, 30, 31, 32, 33, 34, 35] (by kernel_rfl) (by kernel_rfl)
                        simp only [AllT, AllF] at E
                        clear hdi hdep hcl
                        obtain ⟨c0, c1, c2, c3, -⟩ := HB1.out.pure (H5.out.trans hw.out)
                        go_simp
                        exact hK _ _ ⟨by simp [upd, E], hw⟩
                      · rintro d a W hdi hdep hcl ⟨rfl, hw⟩ K hK
                        have E := hcl.facts 18 hdi rfl hdep [0, 1, 2, 3, 4, 5, 6, 7, 8, 9, 10, 11, 12, 13, 14, 15, 16, 17] [19, 20, 21, 22, 23, 24, 25, 26, 27, 28, 29, 30, 31, 32, 33, 34, 35] (by kernel_rfl) (by kernel_rfl)
                        simp only [AllT, AllF] at E
                        clear hdi hdep hcl
                        go_simp
                        exact hK _ _ ⟨by simp [upd, E], hw⟩
                      · rintro d a W hdi hdep hcl ⟨rfl, hw⟩ K hK
                        have E := hcl.facts 19 hdi rfl hdep [0, 1, 2, 3, 4, 5, 6, 7, 8, 9, 10, 11, 12, 13, 14, 15, 16, 17, 18] [20, 21, 22, 23, 24, 25, 26, 27, 28, 29, 30, 31, 32, 33, 34, 35] (by kernel_rfl) (by kernel_rfl)
                        simp only [AllT, AllF] at E
                        clear hdi hdep hcl
                        go_simp
                        exact hK _ _ ⟨by simp [upd, E], hw⟩
                      · rintro d a W hdi hdep hcl ⟨rfl, hw⟩ K hK
                        have E := hcl.facts 20 hdi rfl hdep [0, 1, 2, 3, 4, 5, 6, 7, 8, 9, 10, 11, 12, 13, 14, 15, 16, 17, 18, 19] [22, 23, 29, 33, 34, 35] (by kernel_rfl) (by kernel_rfl)
                        simp only [AllT, AllF] at E
                        clear hdi hdep hcl
                        go_simp
                        exact hK _ _ ⟨by simp [upd, E], hw⟩
                      · rintro d a W hdi hdep hcl ⟨rfl, hw⟩ K hK
                        have E := hcl.facts 21 hdi rfl hdep [0, 1, 2, 3, 4, 5, 6, 7, 8, 9, 10, 11, 12, 13, 14, 15, 16, 17, 18, 19] [22, 23, 29, 33, 34, 35] (by kernel_rfl) (by kernel_rfl)
                        simp only [AllT, AllF] at E
                        clear hdi hdep hcl
                        go_simp
                        exact hK _ _ ⟨by simp [upd, E], hw⟩
                      · rintro d a W hdi hdep hcl ⟨rfl, hw⟩ K hK
                        have E := hcl.facts 22 hdi rfl hdep [0, 1, 2, 3, 4, 5, 6, 7, 8, 9, 10, 11, 12, 13, 14, 15, 16, 17, 18, 19, 20, 21] [23, 29, 33, 34, 35] (by kernel_rfl) (by kernel_rfl)
                        simp only [AllT, AllF] at E
                        clear hdi hdep hcl
                        go_simp
                        exact hK _ _ ⟨by simp [upd, E], hw⟩
                      · rintro d a W hdi hdep hcl ⟨rfl, hw⟩ K hK
                        have E := hcl.facts 23 hdi rfl hdep [0, 1, 2, 3, 4, 5, 6, 7, 8, 9, 10, 11, 12, 13, 14, 15, 16, 17, 18, 19, 20, 21, 22] [29, 33, 34, 35] (by kernel_rfl) (by kernel_rfl)
                        simp only [AllT, AllF] at E
                        clear hdi hdep hcl
                        have z := ((pcell hw.out).1 _ _ hrb5).trans yr5
                        go_simp
                        exact hK _ _ ⟨by simp [upd, E], hw⟩
                      · rintro d a W hdi hdep hcl ⟨rfl, hw⟩ K hK
                        have E := hcl.facts 24 hdi rfl hdep [0, 1, 2, 3, 4, 5, 6, 7, 8, 9, 10, 11, 12, 13, 14, 15, 16, 17, 18, 19] [27, 28, 29, 33, 34, 35] (by kernel_rfl) (by kernel_rfl)
                        simp only [AllT, AllF] at E
                        clear hdi hdep hcl
                        go_simp
                        exact hK _ _ ⟨by simp [upd, E], hw⟩
                      · rintro d a W hdi hdep hcl ⟨rfl, hw⟩ K hK
                        have E := hcl.facts 25 hdi rfl hdep [0, 1, 2, 3, 4, 5, 6, 7, 8, 9, 10, 11, 12, 13, 14, 15, 16, 17, 18, 19] [26, 27, 28, 29, 33, 34, 35] (by kernel_rfl) (by kernel_rfl)
                        simp only [AllT, AllF] at E
                        clear hdi hdep hcl
                        go_simp
                        exact hK _ _ ⟨by simp [upd, E], hw⟩
                      · rintro d a W hdi hdep hcl ⟨rfl, hw⟩ K hK
                        have E := hcl.facts 26 hdi rfl hdep [0, 1, 2, 3, 4, 5, 6, 7, 8, 9, 10, 11, 12, 13, 14, 15, 16, 17, 18, 19, 25] [27, 28, 29, 33, 34, 35] (by kernel_rfl) (by kernel_rfl)
                        simp only [AllT, AllF] at E
                        clear hdi hdep hcl
                        go_simp
                        exact hK _ _ ⟨by simp [upd, E], hw⟩
                      · rintro d a W hdi hdep hcl ⟨rfl, hw⟩ K hK
                        have E := hcl.facts 27 hdi rfl hdep [0, 1, 2, 3, 4, 5, 6, 7, 8, 9, 10, 11, 12, 13, 14, 15, 16, 17, 18, 19, 24, 25, 26] [28, 29, 33, 34, 35] (by kernel_rfl) (by kernel_rfl)
                        simp only [AllT, AllF] at E
                        clear hdi hdep hcl
                        go_simp
                        exact hK _ _ ⟨by simp [upd, E], hw⟩
                      · rintro d a W hdi hdep hcl ⟨rfl, hw⟩ K hK
                        have E := hcl.facts 28 hdi rfl hdep [0, 1, 2, 3, 4, 5, 6, 7, 8, 9, 10, 11, 12, 13, 14, 15, 16, 17, 18, 19, 24, 25, 26, 27] [29, 33, 34, 35] (by kernel_rfl) (by kernel_rfl)
                        simp only [AllT, AllF] at E
                        clear hdi hdep hcl
                        have z := ((pcell hw.out).1 _ _ hrb5).trans yq5
                        go_simp
                        exact hK _ _ ⟨by simp [upd, E], hw⟩
                      · rintro d a W hdi hdep hcl ⟨rfl, hw⟩ K hK
                        have E := hcl.facts 29 hdi rfl hdep [0, 1, 2, 3, 4, 5, 6, 7, 8, 9, 10, 11, 12, 13, 14, 15, 16, 17, 18, 19, 20, 21, 22, 23, 24, 25, 26, 27, 28] [33, 34, 35] (by kernel_rfl) (by kernel_rfl)
                        simp only [AllT, AllF] at E
                        clear hdi hdep hcl
                        go_simp
                        exact hK _ _ ⟨by simp [upd, E], hw⟩
                      · rintro d a W hdi hdep hcl ⟨rfl, hw⟩ K hK
                        have E := hcl.facts 30 hdi rfl hdep [0, 1, 2, 3, 4, 5, 6, 7, 8, 9, 10, 11, 12, 13, 14, 15, 16, 17, 18, 19] [31, 32, 33, 34, 35] (by kernel_rfl) (by kernel_rfl)
                        simp only [AllT, AllF] at E
                        clear hdi hdep hcl
                        go_simp
                        exact hK _ _ ⟨by simp [upd, E], hw⟩
                      · rintro d a W hdi hdep hcl ⟨rfl, hw⟩ K hK
                        have E := hcl.facts 31 hdi rfl hdep [0, 1, 2, 3, 4, 5, 6, 7, 8, 9, 10, 11, 12, 13, 14, 15, 16, 17, 18, 19, 30] [32, 33, 34, 35] (by kernel_rfl) (by kernel_rfl)
                        simp only [AllT, AllF] at E
                        clear hdi hdep hcl
                        go_simp
                        exact hK _ _ ⟨by simp [upd, E], hw⟩
                      · rintro d a W hdi hdep hcl ⟨rfl, hw⟩ K hK
                        have E := hcl.facts 32 hdi rfl hdep [0, 1, 2, 3, 4, 5, 6, 7, 8, 9, 10, 11, 12, 13, 14, 15, 16, 17, 18, 19, 30, 31] [33, 34, 35] (by kernel_rfl) (by kernel_rfl)
                        simp only [AllT, AllF] at E
                        clear hdi hdep hcl
                        obtain ⟨c0, c1, c2, c3, -⟩ := HB1.out.pure (H5.out.trans hw.out)
                        go_simp
                        exact hK _ _ ⟨by simp [upd, E], hw⟩
                      · rintro d a W hdi hdep hcl ⟨rfl, hw⟩ K hK
                        have E := hcl.facts 33 hdi rfl hdep [0, 1, 2, 3, 4, 5, 6, 7, 8, 9, 10, 11, 12, 13, 14, 15, 16, 17, 18, 19, 20, 21, 22, 23, 24, 25, 26, 27, 28, 29, 30, 31, 32] [34, 35] (by kernel_rfl) (by kernel_rfl)
                        simp only [AllT, AllF] at E
                        clear hdi hdep hcl
                        go_simp
                        exact hK _ _ ⟨by simp [upd, E], hw⟩
                      · rintro d a W hdi hdep hcl ⟨rfl, hw⟩ K hK
                        have E := hcl.facts 34 hdi rfl hdep [0, 1, 2, 3, 4, 5, 6, 7, 8, 9, 10, 11, 12, 13, 14, 15, 16, 17, 18, 19, 20, 21, 22, 23, 24, 25, 26, 27, 28, 29, 30, 31, 32, 33] [35] (by kernel_rfl) (by kernel_rfl)
                        simp only [AllT, AllF] at E
                        clear hdi hdep hcl
                        go_simp
                        exact hK _ _ ⟨by simp [upd, E], hw⟩
                      · rintro d a W hdi hdep hcl ⟨rfl, hw⟩ K hK
                        have E := hcl.facts 35 hdi rfl hdep [0, 1, 2, 3, 4, 5, 6, 7, 8, 9, 10, 11, 12, 13, 14, 15, 16, 17, 18, 19, 20, 21, 22, 23, 24, 25, 26, 27, 28, 29, 30, 31, 32, 33, 34] [] (by kernel_rfl) (by kernel_rfl)
                        simp only [AllT, AllF] at E
                        clear hdi hdep hcl
                        go_simp
                        exact hK _ _ ⟨by simp [upd, E], hw⟩
                    · rintro d a W hall ⟨rfl, hw⟩
                      have E := AllT.all hall [0, 1, 2, 3, 4, 5, 6, 7, 8, 9, 10, 11, 12, 13, 14, 15, 16, 17, 18, 19, 20, 21, 22, 23, 24, 25, 26, 27, 28, 29, 30, 31, 32, 33, 34, 35] (by kernel_rfl)
                      simp only [AllT] at E
                      simp only [E, cond_true] at hw ⊢
                      clear E hall
                      go_wp2_with fail
                      have HW5 : Hid (Pure w1 W) := H5.out.trans hw.out
                      obtain ⟨fb, hpu, hfb, z1, z2, z3⟩ := HC.out k (by rw [HT.out]; exact hkt)
                      subst hpu
                      have u1 := ((pcell HW5.out).1 _ _ hfb).trans z1
                      have u2 := ((pcell HW5.out).1 _ _ hfb).trans z2
                      have u3 := ((pcell HW5.out).1 _ _ hfb).trans z3
                      have hok := b.at_ok hv k
                      have l0 := hok.lot0
                      have l1 := hok.lot1
                      obtain ⟨lt, hlt⟩ := Int.eq_ofNat_of_zero_le l0
                      have hltn : lt < n := by have := HLn.out; omega
                      have HLT : Hid ((b.at' k).2.lot.toNat = lt) := by show _ = _; omega
                      rw [hlt] at u1
                      obtain ⟨qb, qo, rfl, hqb, zq⟩ := HQ.out lt hltn
                      have x1 := ((pcell (hP1.out.trans HW5.out)).1 _ _ hqb).trans zq
                      have yrW := ((pcell hw.out).1 _ _ hrb5).trans yr5
                      have hfl := sharpTo_at HS'.out hltn
                      obtain ⟨xx, hxx⟩ : ∃ x, f lt - g k = x := ⟨_, rfl⟩
                      have hwx : IntKind.i64.wrap (f lt - g k) = xx := by rw [hxx]; exact IntWalk.i64_in _ (by omega)
                      obtain ⟨slo, hslo⟩ : ∃ x, (b.at' k).2.lo = x := ⟨_, rfl⟩
                      obtain ⟨shi, hshi⟩ : ∃ x, (b.at' k).2.hi = x := ⟨_, rfl⟩
                      have HO : Hid (tOk b f g k = (decide (slo ≤ xx) && decide (xx ≤ shi))) := by
                        show _ = _
                        unfold tOk
                        rw [HF.out, HLT.out, decide_eq_true h00, decide_eq_true h600, cond_false, HD.out, decide_eq_true (p := b.lo ≤ dd) (by omega), decide_eq_true (p := dd ≤ b.hi) (by omega)]
                        simp only [Bool.true_and]
                        rw [hxx, hslo, hshi]
                      have hli : (lt : Int) < n := by omega
                      have hl0 : (0 : Int) ≤ lt := by omega
                      rw [hslo] at u2
                      rw [hshi] at u3
                      obtain ⟨vf, hvf⟩ : ∃ x, f lt = x := ⟨_, rfl⟩
                      obtain ⟨vg, hvg⟩ : ∃ x, g k = x := ⟨_, rfl⟩
                      have x1' : W.cell? ⟨qb, qo + lt, none⟩ = some (.int .i64 vf) := by rw [x1, ← hvf]
                      clear z1 z2 z3 hok l0 l1 hlt zq hxx hslo hshi x1 hvg
                      rw [hvf] at hwx hfl
                      clear hvf c0 c1 c2 c3 cl
                      go_region
                      have HWd : Hid (Pure w1 W.drew) := HW5.out.trans (Diff.refl _).drew
                      have HDr : Hid (Pure W W.drew) := (Diff.refl _).drew
                      have u2d : W.drew.cell? ⟨fb, k * 3 + 1, none⟩ = some (.int .i64 slo) := u2
                      have u3d : W.drew.cell? ⟨fb, k * 3 + 2, none⟩ = some (.int .i64 shi) := u3
                      obtain ⟨Wd, hWd⟩ : ∃ v, W.drew = v := ⟨_, rfl⟩
                      rw [hWd] at HWd HDr u2d u3d ⊢
                      clear hWd u1 u2 u3 x1' yrW
                      by_cases g1 : xx < slo
                      · have H0 : Hid (isT b f g n = false) := bad.out (by rw [HO.out, decide_eq_false (p := slo ≤ xx) (by omega)]; rfl)
                        go_wp2_with fail
                        exact bodyPost_ret (v := .bool false) (by simp [results, Tryd.results66, go_sem]) rfl ⟨by rw [H0.out], hP1.out.trans HWd.out⟩
                      · by_cases g2 : shi < xx
                        · have H0 : Hid (isT b f g n = false) := bad.out (by rw [HO.out, decide_eq_false (p := xx ≤ shi) (by omega)]; simp)
                          go_wp2_with fail
                          exact bodyPost_ret (v := .bool false) (by simp [results, Tryd.results66, go_sem]) rfl ⟨by rw [H0.out], hP1.out.trans HWd.out⟩
                        · have H1 : Hid (tiredTo b f g (k + 1) = true) := by show _ = _; rw [tiredTo_succ, HS.out, HO.out, decide_eq_true (p := slo ≤ xx) (by omega), decide_eq_true (p := xx ≤ shi) (by omega)]; rfl
                          have HPd : Hid (Pure W0 Wd) := HPr.out.trans (HP5r.out.trans (hw.out.trans HDr.out))
                          go_wp2_with fail
                          exact ⟨⟨k + 1, by omega, by push_cast; rfl, H1, HPd.out⟩, by simp only [intOf]; omega⟩
        · obtain rfl : t = k := by omega
          have H0 : Hid (isT b f g n = true) := by show _ = _; unfold isT; rw [HS'.out, HT.out, HS.out]; rfl
          go_wp2_with fail
          exact bodyPost_ret (v := .bool true) (by simp [results, Tryd.results66, go_sem]) rfl ⟨by rw [H0.out], hP1.out.trans (HPW.out.trans HPr.out)⟩
end Go.Proofs.YtmedkmbfggphdaaDoor
