/- TasteReached: each number of a Span is had by some truth, and none beyond its ends. The walk of the law, for any book in memory and any numbers. -/
import Derived.Test.YtmedkmbfggphdaaDoorSc
import Derived.Test.YtmedkmbfggphdaaDoorCd
import Derived.Test.YtmedkmbfggphdaaDoorT11a
import Derived.Test.YtmedkmbfggphdaaDoorU3
import Derived.Test.YtmedkmbfggphdaaDoorN6
set_option linter.unusedSimpArgs false
set_option linter.unusedVariables false
set_option linter.constructorNameAsVariable false
namespace Go.Proofs.YtmedkmbfggphdaaDoor
open Go.RowKit

set_option maxRecDepth 20000 in
set_option maxHeartbeats 16000000 in
theorem ReachedLaw_any (w : World) (b : BK) (p : Option Addr) (cap : Nat) (x2 x3 : Int) (hb : BookAt w.heap.size w p b) (hx2 : (Lit.int .u8 x2).wf = true) (hx3 : (Lit.int .u16 x3).wf = true) (hg : Gl w) :
    Calls Tryd.prog 10 #[bookV b p cap, .int .u8 x2, .int .u16 x3] w fun e w' => e = .returned (.bool true) ∧ Pure w w' := by
  have hmx : Tryd.prog.follows .mixedOrders = true := by kernel_rfl
  have hb2 := Go.bounds_u8 hx2
  have hb3 := Go.bounds_u16 hx3
  clear hx2 hx3
  have HB := Lib.hid hb
  have HG := Lib.hid hg
  clear hb hg
  go_enter Tryd.func10, Tryd.ntmps10
  go_wp2_with fail
  obtain ⟨X, hX⟩ : ∃ X, w.alloc (.cells (bookC b p cap) 26) = X := ⟨_, rfl⟩
  have hP : Hid (Pure w X) := by rw [← hX]; exact (Diff.refl w).alloc _
  have hX1 : BoxB w.heap.size b p cap X := by rw [← hX]; exact BoxB.new w b p cap 26
  obtain ⟨g0, hg0⟩ : ∃ g, w.heap.size = g := ⟨_, rfl⟩
  rw [hX]
  rw [hg0] at hX1 ⊢
  clear hX hg0
  have H0 := Lib.hid hX1
  obtain ⟨c0, c1', c2', c3, cl⟩ := hX1
  refine (fine_any X b p cap (HB.out.to hP.out)).mono ?_
  rintro e w1 ⟨rfl, hp1⟩
  have hP1 : Hid (Pure w w1) := hP.out.trans hp1
  have HA1 := Lib.hid (H0.out.pure hp1)
  clear c0 c1' c2' c3 cl hp1 hP H0
  obtain ⟨za0, za1, za2, za3, zal⟩ := HA1.out
  cases hfine : fineB b with
  | false =>
    go_wp2_with fail
    refine (Works_any w1 (HG.out.to hP1.out)).mono ?_
    rintro e w2 ⟨rfl, hp2⟩
    have hP2 : Hid (Pure w w2) := hP1.out.trans hp2
    clear hp2
    go_wp2_with fail
    exact bodyPost_ret (v := .bool true) (by simp [results, Tryd.results10, go_sem]) rfl ⟨rfl, hP2.out⟩
  | true =>
    obtain ⟨hs, hck⟩ := fineB_iff.1 hfine
    have hv := checkB_valid hck
    have HCK := Lib.hid hck
    clear hck hfine
    have HB1 := Lib.hid (HB.out.to hP1.out)
    have HG1 := Lib.hid (HG.out.to hP1.out)
    clear HB HG
    have hl1 := hv.lots1
    have hl6 := hv.lots6
    obtain ⟨N, hN⟩ := Int.eq_ofNat_of_zero_le (show 0 ≤ b.lots by omega)
    have hN1 : 1 ≤ N := by omega
    have hN6 : N ≤ 6 := by omega
    obtain ⟨A, hA⟩ := Int.eq_ofNat_of_zero_le (show 0 ≤ x2 % b.lots from Int.emod_nonneg _ (by omega))
    have hAN : A < N := by have := Int.emod_lt_of_pos x2 (show 0 < b.lots by omega); omega
    have hlz : ¬ b.lots = 0 := by omega
    have HLN := Lib.hid hN
    have HS := Lib.hid hs
    have HAA := Lib.hid hA
    clear hN hA hs
    by_cases hn4 : b.n < 4
    · have hn4i : ¬ (4 : Int) ≤ b.n := by omega
      go_wp2_with fail
      refine (Tastes_flat w1 b p cap HS.out hv.pos HB1.out).mono ?_
      rintro e w2 ⟨u, rfl, hfl, hp⟩
      obtain ⟨tp0, tc0, rfl, -⟩ := hfl
      have hP2 : Hid (Pure w w2) := hP1.out.trans hp
      have HA2 := Lib.hid (HA1.out.pure hp)
      have HB2 := Lib.hid (HB1.out.to hp)
      have HG2 := Lib.hid (HG1.out.to hp)
      clear hp hP1 HA1 za0 za1 za2 za3 zal HB1 HG1
      obtain ⟨za0, za1, za2, za3, zal⟩ := HA2.out
      by_cases ht12 : b.total < 12
      · have ht12i : ¬ (12 : Int) ≤ b.total := by omega
        go_wp2_with fail
        rw [HAA.out]
        cases hno : noneB b.es with
        | true =>
          have HNO := Lib.hid hno
          clear hno
          refine (spans_any w2 b p cap HS.out HCK.out HB2.out HG2.out).mono ?_
          rintro e w3 ⟨hq, hp⟩
          have he := hq.one HNO.out
          subst he
          clear hq
          have hP3 : Hid (Pure w w3) := hP2.out.trans hp
          have HA3 := Lib.hid (HA2.out.pure hp)
          have HB3 := Lib.hid (HB2.out.to hp)
          have HG3 := Lib.hid (HG2.out.to hp)
          clear hp hP2 HA2 za0 za1 za2 za3 zal HB2 HG2
          obtain ⟨za0, za1, za2, za3, zal⟩ := HA3.out
          go_wp2_with fail
          refine (Works_any w3 HG3.out).mono ?_
          rintro e w4 ⟨rfl, hp⟩
          have hP4 : Hid (Pure w w4) := hP3.out.trans hp
          have HA4 := Lib.hid (HA3.out.pure hp)
          have HB4 := Lib.hid (HB3.out.to hp)
          have HG4 := Lib.hid (HG3.out.to hp)
          clear hp hP3 HA3 za0 za1 za2 za3 zal HB3 HG3
          obtain ⟨za0, za1, za2, za3, zal⟩ := HA4.out
          go_wp2_with fail
          exact bodyPost_ret (v := .bool true) (by simp [results, Tryd.results10, go_sem]) rfl ⟨rfl, hP4.out⟩
        | false =>
          have HNO := Lib.hid hno
          clear hno
          refine (spans_any w2 b p cap HS.out HCK.out HB2.out HG2.out).mono ?_
          rintro e w3 ⟨hq, hp⟩
          obtain ⟨sq, sc, rfl, hsp⟩ := hq.two HNO.out HLN.out
          clear hq
          have hP3 : Hid (Pure w w3) := hP2.out.trans hp
          have HA3 := Lib.hid (HA2.out.pure hp)
          have HB3 := Lib.hid (HB2.out.to hp)
          have HG3 := Lib.hid (HG2.out.to hp)
          have HSP3 := Lib.hid (hsp)
          clear hp hP2 HA2 za0 za1 za2 za3 zal HB2 HG2
          obtain ⟨za0, za1, za2, za3, zal⟩ := HA3.out
          clear hsp
          obtain ⟨sg, hsq, hsg, -, -⟩ := HSP3.out A hAN
          subst hsq
          clear hsg
          have hse := span_in b hv HNO.out N HLN.out A hAN
          obtain ⟨sl, hsl⟩ : ∃ x, endV b false (1 + A) = x := ⟨_, rfl⟩
          obtain ⟨sh, hsh⟩ : ∃ x, endV b true (1 + A) = x := ⟨_, rfl⟩
          rw [hsl, hsh] at hse
          have HY : Hid (∀ W, Pure w3 W → W.cell? ⟨sg, A * 2, none⟩ = some (.int .i64 sl) ∧ W.cell? ⟨sg, A * 2 + 1, none⟩ = some (.int .i64 sh)) := fun W hp => by
            obtain ⟨sg', hsq, -, y0, y1⟩ := HSP3.out.to hp A hAN
            cases hsq
            rw [← hsl, ← hsh]
            exact ⟨y0, y1⟩
          have HSL := Lib.hid hsl
          have HSH := Lib.hid hsh
          obtain ⟨hs0, hs1, hs2⟩ := hse
          clear hsl hsh
          have hr0 : 0 ≤ x3 % (sh - sl + 1) := Int.emod_nonneg _ (by omega)
          have hr1 : x3 % (sh - sl + 1) < sh - sl + 1 := Int.emod_lt_of_pos _ (by omega)
          have hrt : x3.tmod (sh - sl + 1) = x3 % (sh - sl + 1) := Int.tmod_eq_emod_of_nonneg (by omega)
          obtain ⟨rr, hrr⟩ : ∃ x, x3 % (sh - sl + 1) = x := ⟨_, rfl⟩
          rw [hrr] at hr0 hr1 hrt
          obtain ⟨v, hvv⟩ : ∃ x, sl + rr = x := ⟨_, rfl⟩
          have hv0 : sl ≤ v := by omega
          have hv1 : v ≤ sh := by omega
          have HVV := Lib.hid hvv
          have HRT := Lib.hid hrt
          have HRR := Lib.hid hrr
          clear hrr hvv hrt
          go_wp2_with fail
          refine reg_invW (fun d a W => a = { tmps := #[bookV b p cap, Value.int IntKind.u8 x2, Value.int IntKind.u16 x3, Value.pointer (some { block := g0, off := 0 }), undef, undef, Value.bool false, Value.int IntKind.i64 (A : Int), Value.slice (some { block := sg, off := 0 }) N sc, Value.bool true, Value.bool true, (bif d 21 then Value.int IntKind.i64 (v) else undef), undef, undef, undef, undef, undef, Value.agg #[Value.int IntKind.i64 b.lo, Value.int IntKind.i64 b.hi, Value.int IntKind.i64 b.lots, Value.slice p b.n cap], Value.bool true, Value.bool false, Value.bool false, Value.pointer (some { block := g0, off := 3 }), Value.slice p b.n cap, Value.int IntKind.i64 (b.n : Int), Value.bool (decide (4 ≤ (b.n : Int))), Value.bool (decide (4 ≤ (b.n : Int))), Value.bool (decide (4 ≤ (b.n : Int))), Value.agg #[Value.int IntKind.i64 b.lo, Value.int IntKind.i64 b.hi, Value.int IntKind.i64 b.lots, Value.slice p b.n cap], Value.slice tp0 b.total tc0, Value.int IntKind.i64 (b.total : Int), Value.bool (decide (12 ≤ (b.total : Int))), Value.bool (decide (4 ≤ (b.n : Int)) || decide (12 ≤ (b.total : Int))), undef, Value.int IntKind.u8 x2, Value.int IntKind.i64 x2, Value.pointer (some { block := g0, off := 2 }), Value.int IntKind.i64 b.lots, Value.int IntKind.i64 (A : Int), Value.tuple #[Value.slice (some { block := sg, off := 0 }) N sc, Value.bool true, Value.bool true], Value.agg #[Value.int IntKind.i64 b.lo, Value.int IntKind.i64 b.hi, Value.int IntKind.i64 b.lots, Value.slice p b.n cap], Value.tuple #[Value.slice (some { block := sg, off := 0 }) N sc, Value.bool true, Value.bool true], Value.slice (some { block := sg, off := 0 }) N sc, Value.bool true, Value.bool true, Value.bool true, Value.bool false, Value.bool true, Value.bool false, undef, (bif d 0 then Value.slice (some { block := sg, off := 0 }) N sc else undef), (bif d 1 then Value.int IntKind.i64 ((A : Int)) else undef), (bif d 2 then Value.pointer (some { block := sg, off := A * 2 }) else undef), (bif d 3 then Value.pointer (some { block := sg, off := A * 2 }) else undef), (bif d 4 then Value.int IntKind.i64 (sl) else undef), (bif d 5 then Value.int IntKind.u16 x3 else undef), (bif d 6 then Value.int IntKind.i64 (x3) else undef), (bif d 7 then Value.slice (some { block := sg, off := 0 }) N sc else undef), (bif d 8 then Value.int IntKind.i64 ((A : Int)) else undef), (bif d 9 then Value.pointer (some { block := sg, off := A * 2 }) else undef), (bif d 10 then Value.pointer (some { block := sg, off := A * 2 + 1 }) else undef), (bif d 11 then Value.int IntKind.i64 (sh) else undef), (bif d 12 then Value.slice (some { block := sg, off := 0 }) N sc else undef), (bif d 13 then Value.int IntKind.i64 ((A : Int)) else undef), (bif d 14 then Value.pointer (some { block := sg, off := A * 2 }) else undef), (bif d 15 then Value.pointer (some { block := sg, off := A * 2 }) else undef), (bif d 16 then Value.int IntKind.i64 (sl) else undef), (bif d 17 then Value.int IntKind.i64 (sh - sl) else undef), (bif d 18 then Value.int IntKind.i64 (sh - sl + 1) else undef), (bif d 19 then Value.int IntKind.i64 (rr) else undef), (bif d 20 then Value.int IntKind.i64 (v) else undef), undef, undef, undef, undef, undef, undef, undef, undef, undef, undef, undef, undef, undef, undef, undef, undef, undef, undef, undef, undef, undef, undef, undef, undef, undef, undef, undef, undef, undef, undef, undef, undef, undef, undef, undef, undef, undef, undef, undef, undef, undef, undef, undef, undef, undef, undef, undef, undef, undef, undef, undef, undef, undef, undef, undef, undef, undef, undef, undef, undef, undef, undef, undef, undef, undef, undef, undef, undef, undef, undef, undef, undef, undef, undef, undef, undef, undef, undef, undef, undef, undef, undef, undef, undef, undef, undef, undef, undef, undef, undef, undef, undef, undef, undef, undef, undef, undef, undef, undef, undef, undef, undef, undef, undef, undef, undef, undef, undef, undef, undef], defers := [] } ∧ Hid (Pure w3 W)) hmx (by kernel_rfl) ?_ ?_ ?_
          · exact ⟨rfl, (Diff.refl w3).drew⟩
          · refine ⟨?_, ?_, ?_, ?_, ?_, ?_, ?_, ?_, ?_, ?_, ?_, ?_, ?_, ?_, ?_, ?_, ?_, ?_, ?_, ?_, ?_, ?_, trivial⟩
            · rintro d a W hdi hdep hcl ⟨rfl, hw⟩ K hK
              have E := hcl.facts 0 hdi rfl hdep [] [2, 3, 4, 20, 21] (by kernel_rfl) (by kernel_rfl)
              simp only [AllT, AllF] at E
              clear hdi hdep hcl
              go_simp
              exact hK _ _ ⟨by simp [upd, E], hw⟩
            · rintro d a W hdi hdep hcl ⟨rfl, hw⟩ K hK
              have E := hcl.facts 1 hdi rfl hdep [] [2, 3, 4, 20, 21] (by kernel_rfl) (by kernel_rfl)
              simp only [AllT, AllF] at E
              clear hdi hdep hcl
              go_simp
              exact hK _ _ ⟨by simp [upd, E], hw⟩
            · rintro d a W hdi hdep hcl ⟨rfl, hw⟩ K hK
              have E := hcl.facts 2 hdi rfl hdep [0, 1] [3, 4, 20, 21] (by kernel_rfl) (by kernel_rfl)
              simp only [AllT, AllF] at E
              clear hdi hdep hcl
              go_simp
              exact hK _ _ ⟨by simp [upd, E], hw⟩
            · rintro d a W hdi hdep hcl ⟨rfl, hw⟩ K hK
              have E := hcl.facts 3 hdi rfl hdep [0, 1, 2] [4, 20, 21] (by kernel_rfl) (by kernel_rfl)
              simp only [AllT, AllF] at E
              clear hdi hdep hcl
              go_simp
              exact hK _ _ ⟨by simp [upd, E], hw⟩
            · rintro d a W hdi hdep hcl ⟨rfl, hw⟩ K hK
              have E := hcl.facts 4 hdi rfl hdep [0, 1, 2, 3] [20, 21] (by kernel_rfl) (by kernel_rfl)
              simp only [AllT, AllF] at E
              clear hdi hdep hcl
              have y0 := (HY.out _ hw.out).1
              go_simp
              exact hK _ _ ⟨by simp [upd, E], hw⟩
            · rintro d a W hdi hdep hcl ⟨rfl, hw⟩ K hK
              have E := hcl.facts 5 hdi rfl hdep [] [6, 19, 20, 21] (by kernel_rfl) (by kernel_rfl)
              simp only [AllT, AllF] at E
              clear hdi hdep hcl
              go_simp
              exact hK _ _ ⟨by simp [upd, E], hw⟩
            · rintro d a W hdi hdep hcl ⟨rfl, hw⟩ K hK
              have E := hcl.facts 6 hdi rfl hdep [5] [19, 20, 21] (by kernel_rfl) (by kernel_rfl)
              simp only [AllT, AllF] at E
              clear hdi hdep hcl
              have hwx : IntKind.i64.wrap x3 = x3 := IntWalk.i64_in _ (by omega)
              go_simp
              exact hK _ _ ⟨by simp [upd, E], hw⟩
            · rintro d a W hdi hdep hcl ⟨rfl, hw⟩ K hK
              have E := hcl.facts 7 hdi rfl hdep [] [9, 10, 11, 17, 18, 19, 20, 21] (by kernel_rfl) (by kernel_rfl)
              simp only [AllT, AllF] at E
              clear hdi hdep hcl
              go_simp
              exact hK _ _ ⟨by simp [upd, E], hw⟩
            · rintro d a W hdi hdep hcl ⟨rfl, hw⟩ K hK
              have E := hcl.facts 8 hdi rfl hdep [] [9, 10, 11, 17, 18, 19, 20, 21] (by kernel_rfl) (by kernel_rfl)
              simp only [AllT, AllF] at E
              clear hdi hdep hcl
              go_simp
              exact hK _ _ ⟨by simp [upd, E], hw⟩
            · rintro d a W hdi hdep hcl ⟨rfl, hw⟩ K hK
              have E := hcl.facts 9 hdi rfl hdep [7, 8] [10, 11, 17, 18, 19, 20, 21] (by kernel_rfl) (by kernel_rfl)
              simp only [AllT, AllF] at E
              clear hdi hdep hcl
              go_simp
              exact hK _ _ ⟨by simp [upd, E], hw⟩
            · rintro d a W hdi hdep hcl ⟨rfl, hw⟩ K hK
              have E := hcl.facts 10 hdi rfl hdep [7, 8, 9] [11, 17, 18, 19, 20, 21] (by kernel_rfl) (by kernel_rfl)
              simp only [AllT, AllF] at E
              clear hdi hdep hcl
              go_simp
              exact hK _ _ ⟨by simp [upd, E], hw⟩
            · rintro d a W hdi hdep hcl ⟨rfl, hw⟩ K hK
              have E := hcl.facts 11 hdi rfl hdep [7, 8, 9, 10] [17, 18, 19, 20, 21] (by kernel_rfl) (by kernel_rfl)
              simp only [AllT, AllF] at E
              clear hdi hdep hcl
              have y1 := (HY.out _ hw.out).2
              go_simp
              exact hK _ _ ⟨by simp [upd, E], hw⟩
            · rintro d a W hdi hdep hcl ⟨rfl, hw⟩ K hK
              have E := hcl.facts 12 hdi rfl hdep [] [14, 15, 16, 17, 18, 19, 20, 21] (by kernel_rfl) (by kernel_rfl)
              simp only [AllT, AllF] at E
              clear hdi hdep hcl
              go_simp
              exact hK _ _ ⟨by simp [upd, E], hw⟩
            · rintro d a W hdi hdep hcl ⟨rfl, hw⟩ K hK
              have E := hcl.facts 13 hdi rfl hdep [] [14, 15, 16, 17, 18, 19, 20, 21] (by kernel_rfl) (by kernel_rfl)
              simp only [AllT, AllF] at E
              clear hdi hdep hcl
              go_simp
              exact hK _ _ ⟨by simp [upd, E], hw⟩
            · rintro d a W hdi hdep hcl ⟨rfl, hw⟩ K hK
              have E := hcl.facts 14 hdi rfl hdep [12, 13] [15, 16, 17, 18, 19, 20, 21] (by kernel_rfl) (by kernel_rfl)
              simp only [AllT, AllF] at E
              clear hdi hdep hcl
              go_simp
              exact hK _ _ ⟨by simp [upd, E], hw⟩
            · rintro d a W hdi hdep hcl ⟨rfl, hw⟩ K hK
              have E := hcl.facts 15 hdi rfl hdep [12, 13, 14] [16, 17, 18, 19, 20, 21] (by kernel_rfl) (by kernel_rfl)
              simp only [AllT, AllF] at E
              clear hdi hdep hcl
              go_simp
              exact hK _ _ ⟨by simp [upd, E], hw⟩
            · rintro d a W hdi hdep hcl ⟨rfl, hw⟩ K hK
              have E := hcl.facts 16 hdi rfl hdep [12, 13, 14, 15] [17, 18, 19, 20, 21] (by kernel_rfl) (by kernel_rfl)
              simp only [AllT, AllF] at E
              clear hdi hdep hcl
              have y0 := (HY.out _ hw.out).1
              go_simp
              exact hK _ _ ⟨by simp [upd, E], hw⟩
            · rintro d a W hdi hdep hcl ⟨rfl, hw⟩ K hK
              have E := hcl.facts 17 hdi rfl hdep [7, 8, 9, 10, 11, 12, 13, 14, 15, 16] [18, 19, 20, 21] (by kernel_rfl) (by kernel_rfl)
              simp only [AllT, AllF] at E
              clear hdi hdep hcl
              have hwx : IntKind.i64.wrap (sh - sl) = sh - sl := IntWalk.i64_in _ (by omega)
              go_simp
              exact hK _ _ ⟨by simp [upd, E], hw⟩
            · rintro d a W hdi hdep hcl ⟨rfl, hw⟩ K hK
              have E := hcl.facts 18 hdi rfl hdep [7, 8, 9, 10, 11, 12, 13, 14, 15, 16, 17] [19, 20, 21] (by kernel_rfl) (by kernel_rfl)
              simp only [AllT, AllF] at E
              clear hdi hdep hcl
              have hwx : IntKind.i64.wrap (sh - sl + 1) = sh - sl + 1 := IntWalk.i64_in _ (by omega)
              go_simp
              exact hK _ _ ⟨by simp [upd, E], hw⟩
            · rintro d a W hdi hdep hcl ⟨rfl, hw⟩ K hK
              have E := hcl.facts 19 hdi rfl hdep [5, 6, 7, 8, 9, 10, 11, 12, 13, 14, 15, 16, 17, 18] [20, 21] (by kernel_rfl) (by kernel_rfl)
              simp only [AllT, AllF] at E
              clear hdi hdep hcl
              have hz : ¬ sh - sl + 1 = 0 := by omega
              have hrt := HRT.out
              have hwx : IntKind.i64.wrap rr = rr := IntWalk.i64_in _ (by omega)
              go_simp
              exact hK _ _ ⟨by simp [upd, E], hw⟩
            · rintro d a W hdi hdep hcl ⟨rfl, hw⟩ K hK
              have E := hcl.facts 20 hdi rfl hdep [0, 1, 2, 3, 4, 5, 6, 7, 8, 9, 10, 11, 12, 13, 14, 15, 16, 17, 18, 19] [21] (by kernel_rfl) (by kernel_rfl)
              simp only [AllT, AllF] at E
              clear hdi hdep hcl
              have hwx : IntKind.i64.wrap (sl + rr) = v := by rw [HVV.out]; exact IntWalk.i64_in _ (by omega)
              go_simp
              exact hK _ _ ⟨by simp [upd, E], hw⟩
            · rintro d a W hdi hdep hcl ⟨rfl, hw⟩ K hK
              have E := hcl.facts 21 hdi rfl hdep [0, 1, 2, 3, 4, 5, 6, 7, 8, 9, 10, 11, 12, 13, 14, 15, 16, 17, 18, 19, 20] [] (by kernel_rfl) (by kernel_rfl)
              simp only [AllT, AllF] at E
              clear hdi hdep hcl
              go_simp
              exact hK _ _ ⟨by simp [upd, E], hw⟩
          · rintro d a W hall ⟨rfl, hw⟩
            have E := AllT.all hall [0, 1, 2, 3, 4, 5, 6, 7, 8, 9, 10, 11, 12, 13, 14, 15, 16, 17, 18, 19, 20, 21] (by kernel_rfl)
            simp only [AllT] at E
            simp only [E, cond_true] at hw ⊢
            clear E hall
            obtain ⟨w4, hww⟩ : ∃ v, W = v := ⟨_, rfl⟩
            rw [hww] at hw ⊢
            have hp : Pure w3 w4 := hw.out
            clear hw hww W d
            clear za0 za1 za2 za3 zal
            have hP4 : Hid (Pure w w4) := hP3.out.trans hp
            have HA4 := Lib.hid (HA3.out.pure hp)
            have HB4 := Lib.hid (HB3.out.to hp)
            have HG4 := Lib.hid (HG3.out.to hp)
            have HSP4 := Lib.hid (HSP3.out.to hp)
            clear hp hP3 HA3 HB3 HG3 HSP3
            obtain ⟨za0, za1, za2, za3, zal⟩ := HA4.out
            go_wp2_with fail
            refine (same_any w4 b p cap HS.out hv HB4.out).mono ?_
            rintro e ws ⟨v0, rfl, hsam, hps⟩
            obtain ⟨vq, vc, rfl⟩ := hsam.form
            clear za0 za1 za2 za3 zal
            go_wp2_with fail
            have hv4 : b.n ≤ 4 := by omega
            obtain ⟨hva, hna, hea, heb, hle⟩ := reach_in b hv N HLN.out hn4 ht12 HNO.out A hAN v (by rw [HSL.out]; exact hv0) (by rw [HSH.out]; exact hv1)
            obtain ⟨b1, hb1⟩ : ∃ x, b.add A v v = x := ⟨_, rfl⟩
            have HB1 := Lib.hid hb1
            rw [hb1] at hva hna hea heb hle
            have HNA := Lib.hid hna
            have HEA := Lib.hid hea
            have HEB := Lib.hid heb
            have HLE := Lib.hid hle
            have HCA := Lib.hid (valid_check hva)
            have HSA : Hid b1.Small := by show BK.Small b1; rw [← hb1]; exact add_small HS.out hn4 _ _ _
            have HLA : Hid (b1.lots = N) := by show _ = _; rw [← hb1]; exact HLN.out
            have HM1 : Hid (b1.m b.n = 1) := by show _ = _; rw [← hb1]; exact add_mn
            obtain ⟨wb, hwb⟩ : ∃ V, ws.alloc (.cells #[.int .i64 b.lo, .int .i64 b.hi, .int .i64 b.lots, .slice vq b.n vc] 26) = V := ⟨_, rfl⟩
            have HC : Hid (wb.heap[ws.heap.size]? = some (.cells #[.int .i64 b1.lo, .int .i64 b1.hi, .int .i64 b1.lots, .slice vq b.n vc] 26 (0, 0))) := by show _ = _; rw [← hwb, ← hb1]; exact World.alloc_heap_new _ _
            have hpb : Pure ws wb := by rw [← hwb]; exact (Diff.refl _).alloc _
            have HT : Hid (SamI w4.heap.size wb (.slice vq b.n vc) b1 b.n) := by show SamI _ _ _ _ _; rw [← hb1]; exact (hsam.pure hpb).congr fun j hj => ⟨add_m hj, add_t hj⟩
            have hfar := fun x h => SamI.far hsam (x := x) h
            obtain ⟨gx, hgx⟩ : ∃ g, ws.heap.size = g := ⟨_, rfl⟩
            rw [hwb]
            rw [hgx] at HC hfar ⊢
            have hgx4 : w4.heap.size ≤ gx := by have := hps.size; omega
            have hgxb : gx < wb.heap.size := (Array.getElem?_eq_some_iff.1 HC.out).1
            have hne : some gx ≠ (Value.slice vq b.n vc).ownBlock := fun e => by have := (hfar gx e).2; omega
            have HNE := Lib.hid hne
            have HPB : Hid (Pure w4 wb) := hps.trans hpb
            have HFAR := Lib.hid hfar
            clear hb1 hva hna hea heb hle hwb hgx hsam hps hpb hfar hne
            go_wp2_with fail
            refine reg_invW (fun d a W => ∃ (eb G2 c2 ib : Nat) (v' : Value), a = { tmps := #[bookV b p cap, Value.int IntKind.u8 x2, Value.int IntKind.u16 x3, Value.pointer (some { block := g0, off := 0 }), undef, undef, Value.bool false, Value.int IntKind.i64 (A : Int), Value.slice (some { block := sg, off := 0 }) N sc, Value.bool true, Value.bool true, Value.int IntKind.i64 v, Value.pointer (some { block := gx, off := 0 }), undef, undef, undef, undef, Value.agg #[Value.int IntKind.i64 b.lo, Value.int IntKind.i64 b.hi, Value.int IntKind.i64 b.lots, Value.slice p b.n cap], Value.bool true, Value.bool false, Value.bool false, Value.pointer (some { block := g0, off := 3 }), Value.slice p b.n cap, Value.int IntKind.i64 (b.n : Int), Value.bool (decide (4 ≤ (b.n : Int))), Value.bool (decide (4 ≤ (b.n : Int))), Value.bool (decide (4 ≤ (b.n : Int))), Value.agg #[Value.int IntKind.i64 b.lo, Value.int IntKind.i64 b.hi, Value.int IntKind.i64 b.lots, Value.slice p b.n cap], Value.slice tp0 b.total tc0, Value.int IntKind.i64 (b.total : Int), Value.bool (decide (12 ≤ (b.total : Int))), Value.bool (decide (4 ≤ (b.n : Int)) || decide (12 ≤ (b.total : Int))), undef, Value.int IntKind.u8 x2, Value.int IntKind.i64 x2, Value.pointer (some { block := g0, off := 2 }), Value.int IntKind.i64 b.lots, Value.int IntKind.i64 (A : Int), Value.tuple #[Value.slice (some { block := sg, off := 0 }) N sc, Value.bool true, Value.bool true], Value.agg #[Value.int IntKind.i64 b.lo, Value.int IntKind.i64 b.hi, Value.int IntKind.i64 b.lots, Value.slice p b.n cap], Value.tuple #[Value.slice (some { block := sg, off := 0 }) N sc, Value.bool true, Value.bool true], Value.slice (some { block := sg, off := 0 }) N sc, Value.bool true, Value.bool true, Value.bool true, Value.bool false, Value.bool true, Value.bool false, undef, Value.slice (some { block := sg, off := 0 }) N sc, Value.int IntKind.i64 (A : Int), Value.pointer (some { block := sg, off := A * 2 }), Value.pointer (some { block := sg, off := A * 2 }), Value.int IntKind.i64 sl, Value.int IntKind.u16 x3, Value.int IntKind.i64 x3, Value.slice (some { block := sg, off := 0 }) N sc, Value.int IntKind.i64 (A : Int), Value.pointer (some { block := sg, off := A * 2 }), Value.pointer (some { block := sg, off := A * 2 + 1 }), Value.int IntKind.i64 sh, Value.slice (some { block := sg, off := 0 }) N sc, Value.int IntKind.i64 (A : Int), Value.pointer (some { block := sg, off := A * 2 }), Value.pointer (some { block := sg, off := A * 2 }), Value.int IntKind.i64 sl, Value.int IntKind.i64 (sh - sl), Value.int IntKind.i64 (sh - sl + 1), Value.int IntKind.i64 rr, Value.int IntKind.i64 v, Value.agg #[Value.int IntKind.i64 b.lo, Value.int IntKind.i64 b.hi, Value.int IntKind.i64 b.lots, Value.slice p b.n cap], Value.agg #[Value.int IntKind.i64 b.lo, Value.int IntKind.i64 b.hi, Value.int IntKind.i64 b.lots, Value.slice vq b.n vc], (bif d 0 then Value.pointer (some { block := gx, off := 3 }) else undef), (bif d 1 then Value.slice vq b.n vc else undef), (bif d 2 then Value.int IntKind.i64 ((A : Int)) else undef), (bif d 3 then Value.int IntKind.i64 (v) else undef), (bif d 4 then Value.int IntKind.i64 (v) else undef), (bif d 5 then Value.slice (some { block := eb, off := 0 }) 3 3 else undef), (bif d 6 then Value.slice (some { block := G2, off := 0 }) 1 c2 else undef), (bif d 7 then Value.slice (some { block := ib, off := 0 }) 1 1 else undef), (bif d 8 then v' else undef), (bif d 9 then Value.pointer (some { block := gx, off := 3 }) else undef), undef, undef, undef, undef, undef, undef, undef, undef, undef, undef, undef, undef, undef, undef, undef, undef, undef, undef, undef, undef, undef, undef, undef, undef, undef, undef, undef, undef, undef, undef, undef, undef, undef, undef, undef, undef, undef, undef, undef, undef, undef, undef, undef, undef, undef, undef, undef, undef, undef, undef, undef, undef, undef, undef, undef, undef, undef, undef, undef, undef, undef, undef, undef, undef, undef, undef, undef, undef, undef, undef, undef, undef, undef, undef, undef, undef, undef, undef, undef, undef, undef, undef, undef, undef, undef, undef, undef, undef, undef, undef, undef, undef, undef, undef, undef, undef, undef, undef], defers := [] } ∧ Hid (SR2 w4.heap.size b1 b.n gx (.slice vq b.n vc) wb (.cells #[.int .i64 (A : Int), .int .i64 v, .int .i64 v] 3 (0, 0)) eb G2 c2 ib v' (d 5) (d 6) (d 7) (d 8) (d 10) W)) hmx (by kernel_rfl) ?_ ?_ ?_
            · exact ⟨0, 0, 0, 0, undef, rfl, SR2.start _ _ _ _ _ _ _ _ _ _ _ _⟩
            · refine ⟨?_, ?_, ?_, ?_, ?_, ?_, ?_, ?_, ?_, ?_, ?_, trivial⟩
              · rintro d a W hdi hdep hcl ⟨eb, G2, c2, ib, v', rfl, hw⟩ K hK
                have E := hcl.facts 0 hdi rfl hdep [] [1, 8, 9, 10] (by kernel_rfl) (by kernel_rfl)
                simp only [AllT, AllF] at E
                clear hdi hdep hcl
                go_simp
                refine hK _ _ ⟨eb, G2, c2, ib, v', by simp [upd, E], ?_⟩
                first | exact hw | simpa [upd, E] using hw
              · rintro d a W hdi hdep hcl ⟨eb, G2, c2, ib, v', rfl, hw⟩ K hK
                have E := hcl.facts 1 hdi rfl hdep [0] [8, 9, 10] (by kernel_rfl) (by kernel_rfl)
                simp only [AllT, AllF] at E
                clear hdi hdep hcl
                have hp := hw.out.p (by simp [E])
                have o3 : W.cell? ⟨gx, 3, none⟩ = some (.slice vq b.n vc) := ((pcell hp).1 _ _ hgxb).trans (by rw [cell_of_row wb _ _ _ _ _ HC.out]; rfl)
                clear hp
                go_simp
                refine hK _ _ ⟨eb, G2, c2, ib, v', by simp [upd, E], ?_⟩
                first | exact hw | simpa [upd, E] using hw
              · rintro d a W hdi hdep hcl ⟨eb, G2, c2, ib, v', rfl, hw⟩ K hK
                have E := hcl.facts 2 hdi rfl hdep [] [5, 6, 7, 8, 9, 10] (by kernel_rfl) (by kernel_rfl)
                simp only [AllT, AllF] at E
                clear hdi hdep hcl
                go_simp
                refine hK _ _ ⟨eb, G2, c2, ib, v', by simp [upd, E], ?_⟩
                first | exact hw | simpa [upd, E] using hw
              · rintro d a W hdi hdep hcl ⟨eb, G2, c2, ib, v', rfl, hw⟩ K hK
                have E := hcl.facts 3 hdi rfl hdep [] [5, 6, 7, 8, 9, 10] (by kernel_rfl) (by kernel_rfl)
                simp only [AllT, AllF] at E
                clear hdi hdep hcl
                go_simp
                refine hK _ _ ⟨eb, G2, c2, ib, v', by simp [upd, E], ?_⟩
                first | exact hw | simpa [upd, E] using hw
              · rintro d a W hdi hdep hcl ⟨eb, G2, c2, ib, v', rfl, hw⟩ K hK
                have E := hcl.facts 4 hdi rfl hdep [] [5, 6, 7, 8, 9, 10] (by kernel_rfl) (by kernel_rfl)
                simp only [AllT, AllF] at E
                clear hdi hdep hcl
                go_simp
                refine hK _ _ ⟨eb, G2, c2, ib, v', by simp [upd, E], ?_⟩
                first | exact hw | simpa [upd, E] using hw
              · rintro d a W hdi hdep hcl ⟨eb, G2, c2, ib, v', rfl, hw⟩ K hK
                have E := hcl.facts 5 hdi rfl hdep [2, 3, 4] [6, 7, 8, 9, 10] (by kernel_rfl) (by kernel_rfl)
                simp only [AllT, AllF] at E
                clear hdi hdep hcl
                have h := hw.out
                rw [show d 5 = false by simp [E], show d 6 = false by simp [E], show d 7 = false by simp [E], show d 8 = false by simp [E], show d 10 = false by simp [E]] at h
                go_simp
                exact hK _ _ ⟨W.heap.size, G2, c2, ib, v', by simp [upd, E], by rw [show upd d 5 5 = true by simp [upd, E], show upd d 5 6 = false by simp [upd, E], show upd d 5 7 = false by simp [upd, E], show upd d 5 8 = false by simp [upd, E], show upd d 5 10 = false by simp [upd, E]]; exact h.list⟩
              · rintro d a W hdi hdep hcl ⟨eb, G2, c2, ib, v', rfl, hw⟩ K hK
                have E := hcl.facts 6 hdi rfl hdep [2, 3, 4, 5] [7, 8, 9, 10] (by kernel_rfl) (by kernel_rfl)
                simp only [AllT, AllF] at E
                clear hdi hdep hcl
                have h := hw.out
                rw [show d 5 = true by simp [E], show d 6 = false by simp [E], show d 7 = false by simp [E], show d 8 = false by simp [E], show d 10 = false by simp [E]] at h
                go_simp
                refine (sit_one W eb b A v v (h.e rfl rfl).2).mono ?_
                rintro e w99 ⟨G', c', rfl, hs', hp6⟩
                rw [HB1.out] at hs'
                exact hK _ _ ⟨eb, G', c', ib, v', by simp [upd, E], by rw [show upd d 6 5 = true by simp [upd, E], show upd d 6 6 = true by simp [upd, E], show upd d 6 7 = false by simp [upd, E], show upd d 6 8 = false by simp [upd, E], show upd d 6 10 = false by simp [upd, E]]; exact h.made hp6 hs'⟩
              · rintro d a W hdi hdep hcl ⟨eb, G2, c2, ib, v', rfl, hw⟩ K hK
                have E := hcl.facts 7 hdi rfl hdep [2, 3, 4, 5, 6] [8, 9, 10] (by kernel_rfl) (by kernel_rfl)
                simp only [AllT, AllF] at E
                clear hdi hdep hcl
                have h := hw.out
                rw [show d 5 = true by simp [E], show d 6 = true by simp [E], show d 7 = false by simp [E], show d 8 = false by simp [E], show d 10 = false by simp [E]] at h
                have h' := h.box
                rw [HM1.out] at h'
                go_simp
                exact hK _ _ ⟨eb, G2, c2, W.heap.size, v', by simp [upd, E], by rw [show upd d 7 5 = true by simp [upd, E], show upd d 7 6 = true by simp [upd, E], show upd d 7 7 = true by simp [upd, E], show upd d 7 8 = false by simp [upd, E], show upd d 7 10 = false by simp [upd, E]]; exact h'⟩
              · rintro d a W hdi hdep hcl ⟨eb, G2, c2, ib, v', rfl, hw⟩ K hK
                have E := hcl.facts 8 hdi rfl hdep [0, 1, 2, 3, 4, 5, 6, 7] [9, 10] (by kernel_rfl) (by kernel_rfl)
                simp only [AllT, AllF] at E
                clear hdi hdep hcl
                have h := hw.out
                rw [show d 5 = true by simp [E], show d 6 = true by simp [E], show d 7 = true by simp [E], show d 8 = false by simp [E], show d 10 = false by simp [E]] at h
                obtain ⟨v1, w', hr, h'⟩ := h.push HT.out (by omega) HPB.out.size
                refine Eq.mpr (if_pos rfl) ?_
                refine operW_append (.tmp 73) (.tmp 79) 24 rfl (.slice vq b.n vc) (.slice (some ⟨ib, 0, none⟩) 1 1) (by simp [Act.eval, upd, E]) (by simp [Act.eval, upd, E]) v1 w' hr ?_
                exact hK _ _ ⟨eb, G2, c2, ib, v1, by simp [Act.put, upd, E], by rw [show upd d 8 5 = true by simp [upd, E], show upd d 8 6 = true by simp [upd, E], show upd d 8 7 = true by simp [upd, E], show upd d 8 8 = true by simp [upd, E], show upd d 8 10 = false by simp [upd, E]]; exact h'⟩
              · rintro d a W hdi hdep hcl ⟨eb, G2, c2, ib, v', rfl, hw⟩ K hK
                have E := hcl.facts 9 hdi rfl hdep [0, 1, 2, 3, 4, 5, 6, 7, 8] [10] (by kernel_rfl) (by kernel_rfl)
                simp only [AllT, AllF] at E
                clear hdi hdep hcl
                go_simp
                refine hK _ _ ⟨eb, G2, c2, ib, v', by simp [upd, E], ?_⟩
                first | exact hw | simpa [upd, E] using hw
              · rintro d a W hdi hdep hcl ⟨eb, G2, c2, ib, v', rfl, hw⟩ K hK
                have E := hcl.facts 10 hdi rfl hdep [0, 1, 2, 3, 4, 5, 6, 7, 8, 9] [] (by kernel_rfl) (by kernel_rfl)
                simp only [AllT, AllF] at E
                clear hdi hdep hcl
                have h := hw.out
                rw [show d 5 = true by simp [E], show d 6 = true by simp [E], show d 7 = true by simp [E], show d 8 = true by simp [E], show d 10 = false by simp [E]] at h
                have hlt : gx < W.heap.size := Nat.lt_of_lt_of_le hgxb (h.z rfl).2.size
                have hblk := h.blk hgxb HNE.out HC.out
                have o3 : W.cell? ⟨gx, 3, none⟩ = some (.slice vq b.n vc) := by rw [cell_of_row W _ _ _ _ _ hblk]; rfl
                have fo : ∀ o, W.frozen? ⟨gx, o, none⟩ = false := fun o => frozen_of_row W _ o _ _ hblk
                have HH := Lib.hid (h.store hgxb HNE.out HC.out)
                clear hblk hlt
                obtain ⟨uq, uc, rfl⟩ := (h.z rfl).1.form
                clear h
                go_simp
                refine hK _ _ ⟨eb, G2, c2, ib, .slice uq (b.n + 1) uc, by simp [upd, E], ?_⟩
                rw [show upd d 10 5 = true by simp [upd, E], show upd d 10 6 = true by simp [upd, E], show upd d 10 7 = true by simp [upd, E], show upd d 10 8 = true by simp [upd, E], show upd d 10 10 = true by simp [upd, E]]
                exact HH.out
            · rintro d a W hall ⟨eb, G2, c2, ib, v', rfl, hw⟩
              have E := AllT.all hall [0, 1, 2, 3, 4, 5, 6, 7, 8, 9, 10] (by kernel_rfl)
              simp only [AllT] at E
              simp only [E, cond_true] at hw ⊢
              clear E hall
              have h := hw.out
              have hp : Pure w4 W := HPB.out.trans' (h.z rfl).2 (fun x hx e => by
                rcases e with e | e
                · have := e.2; omega
                · have := (HFAR.out x e).1; omega)
              obtain ⟨uq, uc, rfl⟩ := (h.z rfl).1.form
              have HT5 := Lib.hid (h.z rfl).1
              have HK5 : Hid (BlkAt gx (.cells #[.int .i64 b.lo, .int .i64 b.hi, .int .i64 b.lots, .slice uq (b.n + 1) uc] 26 (0, 0)) W) := by have := h.y rfl; rw [← HB1.out] at this; exact this
              obtain ⟨w5, hw5⟩ : ∃ V, W = V := ⟨_, rfl⟩
              rw [hw5] at hp HT5 HK5 ⊢
              clear hw h hw5 W d
              obtain ⟨go, ugo⟩ : ∃ go, uq = some ⟨go, 0, none⟩ := by obtain ⟨go, gk, ck, F, h1, -⟩ := HT5.out.sit (j := 0) (by omega); exact ⟨go, h1⟩
              subst ugo
              have hP5 : Hid (Pure w w5) := hP4.out.trans hp
              have HA5 := Lib.hid (HA4.out.pure hp)
              have HB5 := Lib.hid (HB4.out.to hp)
              have HG5 := Lib.hid (HG4.out.to hp)
              have HSP5 := Lib.hid (HSP4.out.to hp)
              have HQ5 : Hid (PureB w4 w5) := ⟨hp⟩
              have HN1 : Hid (b1.n = b.n + 1) := by show _ = _; rw [← HB1.out]; rfl
              have HX5 : Hid (BoxB gx b1 (some ⟨go, 0, none⟩) uc w5) := by show BoxB _ _ _ _ _; rw [← HB1.out]; exact BoxB.of (T := 26) HK5.out
              have hgo : w4.heap.size ≤ go := (HT5.out.far (x := go) rfl).1
              have HGO := Lib.hid hgo
              clear hp hgo
              have HR5 : Hid (BookAt w5.heap.size w5 (some ⟨go, 0, none⟩) b1) := by have := HT5.out; exact SamI.book (B := w4.heap.size) (c := uc) (by rw [HN1.out]; exact this)
              obtain ⟨za0, za1, za2, za3, zal⟩ := HA5.out
              obtain ⟨zx0, zx1, zx2, zx3, zxl⟩ := HX5.out
              go_wp2_with fail
              refine (spans_any w5 b1 (some ⟨go, 0, none⟩) uc HSA.out HCA.out HR5.out HG5.out).mono ?_
              rintro e w6 ⟨hq, hp⟩
              obtain ⟨rq, rc, rfl, hsp⟩ := hq.two HNA.out HLA.out
              clear hq
              have hP6 : Hid (Pure w w6) := hP5.out.trans hp
              have HA6 := Lib.hid (HA5.out.pure hp)
              have HX6 := Lib.hid (HX5.out.pure hp)
              have HG6 := Lib.hid (HG5.out.to hp)
              have HB6 := Lib.hid (HB5.out.to hp)
              have HSP6 := Lib.hid (HSP5.out.to hp)
              have HQ6 := Lib.hid (HQ5.out.to hp)
              have HT6 := Lib.hid (HT5.out.to hp)
              have HK6 := Lib.hid (HK5.out.to hp)
              have HR6 := Lib.hid (HR5.out.to hp)
              have HSX6 := Lib.hid (hsp)
              clear hp hP5 HA5 HX5 za0 za1 za2 za3 zal zx0 zx1 zx2 zx3 zxl HG5 HB5 HSP5 HQ5 HT5 HK5 HR5
              obtain ⟨za0, za1, za2, za3, zal⟩ := HA6.out
              obtain ⟨zx0, zx1, zx2, zx3, zxl⟩ := HX6.out
              clear hsp
              obtain ⟨rg, hsq, hrg, -, -⟩ := HSX6.out A hAN
              subst hsq
              clear hrg
              go_wp2_with fail
              refine reg_invW (fun d a W => a = { tmps := #[bookV b p cap, Value.int IntKind.u8 x2, Value.int IntKind.u16 x3, Value.pointer (some { block := g0, off := 0 }), undef, undef, Value.bool false, Value.int IntKind.i64 (A : Int), Value.slice (some { block := sg, off := 0 }) N sc, Value.bool true, Value.bool true, Value.int IntKind.i64 v, Value.pointer (some { block := gx, off := 0 }), Value.slice (some { block := rg, off := 0 }) N rc, undef, undef, undef, Value.agg #[Value.int IntKind.i64 b.lo, Value.int IntKind.i64 b.hi, Value.int IntKind.i64 b.lots, Value.slice p b.n cap], Value.bool true, Value.bool false, Value.bool false, Value.pointer (some { block := g0, off := 3 }), Value.slice p b.n cap, Value.int IntKind.i64 (b.n : Int), Value.bool (decide (4 ≤ (b.n : Int))), Value.bool (decide (4 ≤ (b.n : Int))), Value.bool (decide (4 ≤ (b.n : Int))), Value.agg #[Value.int IntKind.i64 b.lo, Value.int IntKind.i64 b.hi, Value.int IntKind.i64 b.lots, Value.slice p b.n cap], Value.slice tp0 b.total tc0, Value.int IntKind.i64 (b.total : Int), Value.bool (decide (12 ≤ (b.total : Int))), Value.bool (decide (4 ≤ (b.n : Int)) || decide (12 ≤ (b.total : Int))), undef, Value.int IntKind.u8 x2, Value.int IntKind.i64 x2, Value.pointer (some { block := g0, off := 2 }), Value.int IntKind.i64 b.lots, Value.int IntKind.i64 (A : Int), Value.tuple #[Value.slice (some { block := sg, off := 0 }) N sc, Value.bool true, Value.bool true], Value.agg #[Value.int IntKind.i64 b.lo, Value.int IntKind.i64 b.hi, Value.int IntKind.i64 b.lots, Value.slice p b.n cap], Value.tuple #[Value.slice (some { block := sg, off := 0 }) N sc, Value.bool true, Value.bool true], Value.slice (some { block := sg, off := 0 }) N sc, Value.bool true, Value.bool true, Value.bool true, Value.bool false, Value.bool true, Value.bool false, undef, Value.slice (some { block := sg, off := 0 }) N sc, Value.int IntKind.i64 (A : Int), Value.pointer (some { block := sg, off := A * 2 }), Value.pointer (some { block := sg, off := A * 2 }), Value.int IntKind.i64 sl, Value.int IntKind.u16 x3, Value.int IntKind.i64 x3, Value.slice (some { block := sg, off := 0 }) N sc, Value.int IntKind.i64 (A : Int), Value.pointer (some { block := sg, off := A * 2 }), Value.pointer (some { block := sg, off := A * 2 + 1 }), Value.int IntKind.i64 sh, Value.slice (some { block := sg, off := 0 }) N sc, Value.int IntKind.i64 (A : Int), Value.pointer (some { block := sg, off := A * 2 }), Value.pointer (some { block := sg, off := A * 2 }), Value.int IntKind.i64 sl, Value.int IntKind.i64 (sh - sl), Value.int IntKind.i64 (sh - sl + 1), Value.int IntKind.i64 rr, Value.int IntKind.i64 v, Value.agg #[Value.int IntKind.i64 b.lo, Value.int IntKind.i64 b.hi, Value.int IntKind.i64 b.lots, Value.slice p b.n cap], Value.agg #[Value.int IntKind.i64 b.lo, Value.int IntKind.i64 b.hi, Value.int IntKind.i64 b.lots, Value.slice vq b.n vc], Value.pointer (some { block := gx, off := 3 }), Value.slice vq b.n vc, Value.int IntKind.i64 (A : Int), Value.int IntKind.i64 v, Value.int IntKind.i64 v, Value.slice (some { block := eb, off := 0 }) 3 3, Value.slice (some { block := G2, off := 0 }) 1 c2, Value.slice (some { block := ib, off := 0 }) 1 1, Value.slice (some { block := go, off := 0 }) (b.n + 1) uc, Value.pointer (some { block := gx, off := 3 }), Value.tuple #[Value.slice (some { block := rg, off := 0 }) N rc, Value.bool true, Value.bool true], Value.agg #[Value.int IntKind.i64 b1.lo, Value.int IntKind.i64 b1.hi, Value.int IntKind.i64 b1.lots, Value.slice (some { block := go, off := 0 }) b1.n uc], Value.tuple #[Value.slice (some { block := rg, off := 0 }) N rc, Value.bool true, Value.bool true], Value.slice (some { block := rg, off := 0 }) N rc, Value.bool true, Value.bool true, (bif d 0 then Value.bool true else undef), (bif d 1 then Value.bool false else undef), (bif d 2 then Value.bool false else undef), (bif d 3 then Value.bool true else undef), (bif d 4 then Value.bool false else undef), (bif d 5 then Value.bool false else undef), (bif d 6 then Value.bool false else undef), (bif d 7 then Value.slice (some { block := rg, off := 0 }) N rc else undef), (bif d 8 then Value.int IntKind.i64 ((A : Int)) else undef), (bif d 9 then Value.pointer (some { block := rg, off := A * 2 }) else undef), (bif d 10 then Value.agg #[Value.int IntKind.i64 v, Value.int IntKind.i64 v] else undef), (bif d 11 then Value.int IntKind.i64 (v) else undef), (bif d 12 then Value.int IntKind.i64 (v) else undef), (bif d 13 then Value.agg #[Value.int IntKind.i64 v, Value.int IntKind.i64 v] else undef), (bif d 14 then Value.bool false else undef), (bif d 15 then Value.bool false else undef), (bif d 16 then Value.bool false else undef), (bif d 17 then Value.slice (some { block := rg, off := 0 }) N rc else undef), (bif d 18 then Value.slice (some { block := sg, off := 0 }) N sc else undef), (bif d 19 then Value.bool true else undef), (bif d 20 then Value.bool false else undef), (bif d 21 then Value.bool false else undef), undef, undef, undef, undef, undef, undef, undef, undef, undef, undef, undef, undef, undef, undef, undef, undef, undef, undef, undef, undef, undef, undef, undef, undef, undef, undef, undef, undef, undef, undef, undef, undef, undef, undef, undef, undef, undef, undef, undef, undef, undef, undef, undef, undef, undef, undef, undef, undef, undef, undef, undef, undef, undef, undef, undef, undef, undef, undef, undef, undef, undef, undef, undef, undef, undef, undef, undef, undef, undef, undef], defers := [] } ∧ Hid (Pure w6 W)) hmx (by kernel_rfl) ?_ ?_ ?_
              · exact ⟨rfl, (Diff.refl w6).drew⟩
              · refine ⟨?_, ?_, ?_, ?_, ?_, ?_, ?_, ?_, ?_, ?_, ?_, ?_, ?_, ?_, ?_, ?_, ?_, ?_, ?_, ?_, ?_, ?_, trivial⟩
                · rintro d a W hdi hdep hcl ⟨rfl, hw⟩ K hK
                  have E := hcl.facts 0 hdi rfl hdep [] [1, 2, 3, 4, 5, 6, 7, 8, 9, 10, 11, 12, 13, 14, 15, 16, 17, 18, 19, 20, 21] (by kernel_rfl) (by kernel_rfl)
                  simp only [AllT, AllF] at E
                  clear hdi hdep hcl
                  go_simp
                  exact hK _ _ ⟨by simp [upd, E], hw⟩
                · rintro d a W hdi hdep hcl ⟨rfl, hw⟩ K hK
                  have E := hcl.facts 1 hdi rfl hdep [0] [2, 3, 4, 5, 6, 7, 8, 9, 10, 11, 12, 13, 14, 15, 16, 17, 18, 19, 20, 21] (by kernel_rfl) (by kernel_rfl)
                  simp only [AllT, AllF] at E
                  clear hdi hdep hcl
                  go_simp
                  exact hK _ _ ⟨by simp [upd, E], hw⟩
                · rintro d a W hdi hdep hcl ⟨rfl, hw⟩ K hK
                  have E := hcl.facts 2 hdi rfl hdep [0, 1] [3, 4, 5, 6, 7, 8, 9, 10, 11, 12, 13, 14, 15, 16, 17, 18, 19, 20, 21] (by kernel_rfl) (by kernel_rfl)
                  simp only [AllT, AllF] at E
                  clear hdi hdep hcl
                  go_simp
                  exact hK _ _ ⟨by simp [upd, E], hw⟩
                · rintro d a W hdi hdep hcl ⟨rfl, hw⟩ K hK
                  have E := hcl.facts 3 hdi rfl hdep [0, 1, 2] [4, 5, 6, 7, 8, 9, 10, 11, 12, 13, 14, 15, 16, 17, 18, 19, 20, 21] (by kernel_rfl) (by kernel_rfl)
                  simp only [AllT, AllF] at E
                  clear hdi hdep hcl
                  go_simp
                  exact hK _ _ ⟨by simp [upd, E], hw⟩
                · rintro d a W hdi hdep hcl ⟨rfl, hw⟩ K hK
                  have E := hcl.facts 4 hdi rfl hdep [0, 1, 2, 3] [5, 6, 7, 8, 9, 10, 11, 12, 13, 14, 15, 16, 17, 18, 19, 20, 21] (by kernel_rfl) (by kernel_rfl)
                  simp only [AllT, AllF] at E
                  clear hdi hdep hcl
                  go_simp
                  exact hK _ _ ⟨by simp [upd, E], hw⟩
                · rintro d a W hdi hdep hcl ⟨rfl, hw⟩ K hK
                  have E := hcl.facts 5 hdi rfl hdep [0, 1, 2, 3, 4] [6, 7, 8, 9, 10, 11, 12, 13, 14, 15, 16, 17, 18, 19, 20, 21] (by kernel_rfl) (by kernel_rfl)
                  simp only [AllT, AllF] at E
                  clear hdi hdep hcl
                  go_simp
                  exact hK _ _ ⟨by simp [upd, E], hw⟩
                · rintro d a W hdi hdep hcl ⟨rfl, hw⟩ K hK
                  have E := hcl.facts 6 hdi rfl hdep [0, 1, 2, 3, 4, 5] [7, 8, 9, 10, 11, 12, 13, 14, 15, 16, 17, 18, 19, 20, 21] (by kernel_rfl) (by kernel_rfl)
                  simp only [AllT, AllF] at E
                  clear hdi hdep hcl
                  go_simp
                  exact hK _ _ ⟨by simp [upd, E], hw⟩
                · rintro d a W hdi hdep hcl ⟨rfl, hw⟩ K hK
                  have E := hcl.facts 7 hdi rfl hdep [0, 1, 2, 3, 4, 5, 6] [9, 10, 14, 15, 16, 17, 18, 19, 20, 21] (by kernel_rfl) (by kernel_rfl)
                  simp only [AllT, AllF] at E
                  clear hdi hdep hcl
                  go_simp
                  exact hK _ _ ⟨by simp [upd, E], hw⟩
                · rintro d a W hdi hdep hcl ⟨rfl, hw⟩ K hK
                  have E := hcl.facts 8 hdi rfl hdep [0, 1, 2, 3, 4, 5, 6] [9, 10, 14, 15, 16, 17, 18, 19, 20, 21] (by kernel_rfl) (by kernel_rfl)
                  simp only [AllT, AllF] at E
                  clear hdi hdep hcl
                  go_simp
                  exact hK _ _ ⟨by simp [upd, E], hw⟩
                · rintro d a W hdi hdep hcl ⟨rfl, hw⟩ K hK
                  have E := hcl.facts 9 hdi rfl hdep [0, 1, 2, 3, 4, 5, 6, 7, 8] [10, 14, 15, 16, 17, 18, 19, 20, 21] (by kernel_rfl) (by kernel_rfl)
                  simp only [AllT, AllF] at E
                  clear hdi hdep hcl
                  go_simp
                  exact hK _ _ ⟨by simp [upd, E], hw⟩
                · rintro d a W hdi hdep hcl ⟨rfl, hw⟩ K hK
                  have E := hcl.facts 10 hdi rfl hdep [0, 1, 2, 3, 4, 5, 6, 7, 8, 9] [14, 15, 16, 17, 18, 19, 20, 21] (by kernel_rfl) (by kernel_rfl)
                  simp only [AllT, AllF] at E
                  clear hdi hdep hcl
                  obtain ⟨sg', hsq, -, y0, y1⟩ := HSX6.out.to hw.out A hAN
                  cases hsq
                  rw [HEA.out] at y0
                  rw [HEB.out] at y1
                  go_simp
                  exact hK _ _ ⟨by simp [upd, E], hw⟩
                · rintro d a W hdi hdep hcl ⟨rfl, hw⟩ K hK
                  have E := hcl.facts 11 hdi rfl hdep [0, 1, 2, 3, 4, 5, 6] [13, 14, 15, 16, 17, 18, 19, 20, 21] (by kernel_rfl) (by kernel_rfl)
                  simp only [AllT, AllF] at E
                  clear hdi hdep hcl
                  go_simp
                  exact hK _ _ ⟨by simp [upd, E], hw⟩
                · rintro d a W hdi hdep hcl ⟨rfl, hw⟩ K hK
                  have E := hcl.facts 12 hdi rfl hdep [0, 1, 2, 3, 4, 5, 6] [13, 14, 15, 16, 17, 18, 19, 20, 21] (by kernel_rfl) (by kernel_rfl)
                  simp only [AllT, AllF] at E
                  clear hdi hdep hcl
                  go_simp
                  exact hK _ _ ⟨by simp [upd, E], hw⟩
                · rintro d a W hdi hdep hcl ⟨rfl, hw⟩ K hK
                  have E := hcl.facts 13 hdi rfl hdep [0, 1, 2, 3, 4, 5, 6, 11, 12] [14, 15, 16, 17, 18, 19, 20, 21] (by kernel_rfl) (by kernel_rfl)
                  simp only [AllT, AllF] at E
                  clear hdi hdep hcl
                  go_simp
                  refine (to_any _ _ _).mono ?_
                  rintro e w99 ⟨rfl, hp6⟩
                  exact hK _ _ ⟨by simp [upd, E], hw.out.trans hp6⟩
                · rintro d a W hdi hdep hcl ⟨rfl, hw⟩ K hK
                  have E := hcl.facts 14 hdi rfl hdep [0, 1, 2, 3, 4, 5, 6, 7, 8, 9, 10, 11, 12, 13] [15, 16, 17, 18, 19, 20, 21] (by kernel_rfl) (by kernel_rfl)
                  simp only [AllT, AllF] at E
                  clear hdi hdep hcl
                  go_simp
                  exact hK _ _ ⟨by simp [upd, E], hw⟩
                · rintro d a W hdi hdep hcl ⟨rfl, hw⟩ K hK
                  have E := hcl.facts 15 hdi rfl hdep [0, 1, 2, 3, 4, 5, 6, 7, 8, 9, 10, 11, 12, 13, 14] [16, 17, 18, 19, 20, 21] (by kernel_rfl) (by kernel_rfl)
                  simp only [AllT, AllF] at E
                  clear hdi hdep hcl
                  go_simp
                  exact hK _ _ ⟨by simp [upd, E], hw⟩
                · rintro d a W hdi hdep hcl ⟨rfl, hw⟩ K hK
                  have E := hcl.facts 16 hdi rfl hdep [0, 1, 2, 3, 4, 5, 6, 7, 8, 9, 10, 11, 12, 13, 14, 15] [17, 18, 19, 20, 21] (by kernel_rfl) (by kernel_rfl)
                  simp only [AllT, AllF] at E
                  clear hdi hdep hcl
                  go_simp
                  exact hK _ _ ⟨by simp [upd, E], hw⟩
                · rintro d a W hdi hdep hcl ⟨rfl, hw⟩ K hK
                  have E := hcl.facts 17 hdi rfl hdep [0, 1, 2, 3, 4, 5, 6, 7, 8, 9, 10, 11, 12, 13, 14, 15, 16] [19, 20, 21] (by kernel_rfl) (by kernel_rfl)
                  simp only [AllT, AllF] at E
                  clear hdi hdep hcl
                  go_simp
                  exact hK _ _ ⟨by simp [upd, E], hw⟩
                · rintro d a W hdi hdep hcl ⟨rfl, hw⟩ K hK
                  have E := hcl.facts 18 hdi rfl hdep [0, 1, 2, 3, 4, 5, 6, 7, 8, 9, 10, 11, 12, 13, 14, 15, 16] [19, 20, 21] (by kernel_rfl) (by kernel_rfl)
                  simp only [AllT, AllF] at E
                  clear hdi hdep hcl
                  go_simp
                  exact hK _ _ ⟨by simp [upd, E], hw⟩
                · rintro d a W hdi hdep hcl ⟨rfl, hw⟩ K hK
                  have E := hcl.facts 19 hdi rfl hdep [0, 1, 2, 3, 4, 5, 6, 7, 8, 9, 10, 11, 12, 13, 14, 15, 16, 17, 18] [20, 21] (by kernel_rfl) (by kernel_rfl)
                  simp only [AllT, AllF] at E
                  clear hdi hdep hcl
                  go_simp
                  refine (within_true W N (some ⟨rg, 0, none⟩) (some ⟨sg, 0, none⟩) rc sc _ _ _ _ (by omega) (HSX6.out.to hw.out).rg (HSP6.out.to hw.out).rg (fun i hi => HLE.out i hi)).mono ?_
                  rintro e w99 ⟨rfl, hp6⟩
                  exact hK _ _ ⟨by simp [upd, E], hw.out.trans hp6⟩
                · rintro d a W hdi hdep hcl ⟨rfl, hw⟩ K hK
                  have E := hcl.facts 20 hdi rfl hdep [0, 1, 2, 3, 4, 5, 6, 7, 8, 9, 10, 11, 12, 13, 14, 15, 16, 17, 18, 19] [21] (by kernel_rfl) (by kernel_rfl)
                  simp only [AllT, AllF] at E
                  clear hdi hdep hcl
                  go_simp
                  exact hK _ _ ⟨by simp [upd, E], hw⟩
                · rintro d a W hdi hdep hcl ⟨rfl, hw⟩ K hK
                  have E := hcl.facts 21 hdi rfl hdep [0, 1, 2, 3, 4, 5, 6, 7, 8, 9, 10, 11, 12, 13, 14, 15, 16, 17, 18, 19, 20] [] (by kernel_rfl) (by kernel_rfl)
                  simp only [AllT, AllF] at E
                  clear hdi hdep hcl
                  go_simp
                  exact hK _ _ ⟨by simp [upd, E], hw⟩
              · rintro d a W hall ⟨rfl, hw⟩
                have E := AllT.all hall [0, 1, 2, 3, 4, 5, 6, 7, 8, 9, 10, 11, 12, 13, 14, 15, 16, 17, 18, 19, 20, 21] (by kernel_rfl)
                simp only [AllT] at E
                simp only [E, cond_true] at hw ⊢
                clear E hall
                obtain ⟨w7, hww⟩ : ∃ v, W = v := ⟨_, rfl⟩
                rw [hww] at hw ⊢
                have hp : Pure w6 w7 := hw.out
                clear hw hww W d
                clear za0 za1 za2 za3 zal
                clear zx0 zx1 zx2 zx3 zxl
                have hP7 : Hid (Pure w w7) := hP6.out.trans hp
                have HA7 := Lib.hid (HA6.out.pure hp)
                have HX7 := Lib.hid (HX6.out.pure hp)
                have HG7 := Lib.hid (HG6.out.to hp)
                have HB7 := Lib.hid (HB6.out.to hp)
                have HSP7 := Lib.hid (HSP6.out.to hp)
                have HQ7 := Lib.hid (HQ6.out.to hp)
                have HT7 := Lib.hid (HT6.out.to hp)
                have HK7 := Lib.hid (HK6.out.to hp)
                have HR7 := Lib.hid (HR6.out.to hp)
                have HSX7 := Lib.hid (HSX6.out.to hp)
                clear hp hP6 HA6 HX6 HG6 HB6 HSP6 HQ6 HT6 HK6 HR6 HSX6
                clear HSX7 HNA HEA HEB HLE HCA HSA HLA
                obtain ⟨za0, za1, za2, za3, zal⟩ := HA7.out
                obtain ⟨zx0, zx1, zx2, zx3, zxl⟩ := HX7.out
                go_wp2_with fail
                have HB_b1 := HB1
                obtain ⟨hvb, hnb⟩ := reach_out b hv N HLN.out hn4 ht12 HNO.out A hAN (-1000) (sl - 1) (by omega) (by omega) (by omega) (.inl (by rw [HSL.out]; omega))
                obtain ⟨b2, hb2⟩ : ∃ x, b.add A (-1000) (sl - 1) = x := ⟨_, rfl⟩
                have HB_b2 := Lib.hid hb2
                rw [hb2] at hvb hnb
                have HN_b2 := Lib.hid hnb
                have HC_b2 := Lib.hid (valid_check hvb)
                have HS_b2 : Hid (BK.Small b2) := by show BK.Small b2; rw [← hb2]; exact add_small HS.out hn4 _ _ _
                have HM_b2 : Hid (BK.m b2 b.n = 1) := by show _ = _; rw [← hb2]; exact add_mn
                have HE_b2 : Hid (∀ j, j < b.n → BK.m b2 j = BK.m b1 j ∧ BK.t b2 j = BK.t b1 j) := fun j hj => by rw [← hb2, ← HB_b1.out, add_m hj, add_m hj, add_t hj, add_t hj]; exact ⟨rfl, rfl⟩
                clear hb2 hvb hnb
                have hi0 : (0 : Int) ≤ b.n := by omega
                have hi1 : (b.n : Int) < (b.n : Int) + 1 := by omega
                clear za0 za1 za2 za3 zal
                clear zx0 zx1 zx2 zx3 zxl
                refine reg_invW (fun d a W => ∃ (eb15 G15x c15x : Nat), a = { tmps := #[bookV b p cap, Value.int IntKind.u8 x2, Value.int IntKind.u16 x3, Value.pointer (some { block := g0, off := 0 }), undef, undef, Value.bool false, Value.int IntKind.i64 (A : Int), Value.slice (some { block := sg, off := 0 }) N sc, Value.bool true, Value.bool true, Value.int IntKind.i64 v, Value.pointer (some { block := gx, off := 0 }), Value.slice (some { block := rg, off := 0 }) N rc, undef, undef, undef, Value.agg #[Value.int IntKind.i64 b.lo, Value.int IntKind.i64 b.hi, Value.int IntKind.i64 b.lots, Value.slice p b.n cap], Value.bool true, Value.bool false, Value.bool false, Value.pointer (some { block := g0, off := 3 }), Value.slice p b.n cap, Value.int IntKind.i64 (b.n : Int), Value.bool (decide (4 ≤ (b.n : Int))), Value.bool (decide (4 ≤ (b.n : Int))), Value.bool (decide (4 ≤ (b.n : Int))), Value.agg #[Value.int IntKind.i64 b.lo, Value.int IntKind.i64 b.hi, Value.int IntKind.i64 b.lots, Value.slice p b.n cap], Value.slice tp0 b.total tc0, Value.int IntKind.i64 (b.total : Int), Value.bool (decide (12 ≤ (b.total : Int))), Value.bool (decide (4 ≤ (b.n : Int)) || decide (12 ≤ (b.total : Int))), undef, Value.int IntKind.u8 x2, Value.int IntKind.i64 x2, Value.pointer (some { block := g0, off := 2 }), Value.int IntKind.i64 b.lots, Value.int IntKind.i64 (A : Int), Value.tuple #[Value.slice (some { block := sg, off := 0 }) N sc, Value.bool true, Value.bool true], Value.agg #[Value.int IntKind.i64 b.lo, Value.int IntKind.i64 b.hi, Value.int IntKind.i64 b.lots, Value.slice p b.n cap], Value.tuple #[Value.slice (some { block := sg, off := 0 }) N sc, Value.bool true, Value.bool true], Value.slice (some { block := sg, off := 0 }) N sc, Value.bool true, Value.bool true, Value.bool true, Value.bool false, Value.bool true, Value.bool false, undef, Value.slice (some { block := sg, off := 0 }) N sc, Value.int IntKind.i64 (A : Int), Value.pointer (some { block := sg, off := A * 2 }), Value.pointer (some { block := sg, off := A * 2 }), Value.int IntKind.i64 sl, Value.int IntKind.u16 x3, Value.int IntKind.i64 x3, Value.slice (some { block := sg, off := 0 }) N sc, Value.int IntKind.i64 (A : Int), Value.pointer (some { block := sg, off := A * 2 }), Value.pointer (some { block := sg, off := A * 2 + 1 }), Value.int IntKind.i64 sh, Value.slice (some { block := sg, off := 0 }) N sc, Value.int IntKind.i64 (A : Int), Value.pointer (some { block := sg, off := A * 2 }), Value.pointer (some { block := sg, off := A * 2 }), Value.int IntKind.i64 sl, Value.int IntKind.i64 (sh - sl), Value.int IntKind.i64 (sh - sl + 1), Value.int IntKind.i64 rr, Value.int IntKind.i64 v, Value.agg #[Value.int IntKind.i64 b.lo, Value.int IntKind.i64 b.hi, Value.int IntKind.i64 b.lots, Value.slice p b.n cap], Value.agg #[Value.int IntKind.i64 b.lo, Value.int IntKind.i64 b.hi, Value.int IntKind.i64 b.lots, Value.slice vq b.n vc], Value.pointer (some { block := gx, off := 3 }), Value.slice vq b.n vc, Value.int IntKind.i64 (A : Int), Value.int IntKind.i64 v, Value.int IntKind.i64 v, Value.slice (some { block := eb, off := 0 }) 3 3, Value.slice (some { block := G2, off := 0 }) 1 c2, Value.slice (some { block := ib, off := 0 }) 1 1, Value.slice (some { block := go, off := 0 }) (b.n + 1) uc, Value.pointer (some { block := gx, off := 3 }), Value.tuple #[Value.slice (some { block := rg, off := 0 }) N rc, Value.bool true, Value.bool true], Value.agg #[Value.int IntKind.i64 b1.lo, Value.int IntKind.i64 b1.hi, Value.int IntKind.i64 b1.lots, Value.slice (some { block := go, off := 0 }) b1.n uc], Value.tuple #[Value.slice (some { block := rg, off := 0 }) N rc, Value.bool true, Value.bool true], Value.slice (some { block := rg, off := 0 }) N rc, Value.bool true, Value.bool true, Value.bool true, Value.bool false, Value.bool false, Value.bool true, Value.bool false, Value.bool false, Value.bool false, Value.slice (some { block := rg, off := 0 }) N rc, Value.int IntKind.i64 (A : Int), Value.pointer (some { block := rg, off := A * 2 }), Value.agg #[Value.int IntKind.i64 v, Value.int IntKind.i64 v], Value.int IntKind.i64 v, Value.int IntKind.i64 v, Value.agg #[Value.int IntKind.i64 v, Value.int IntKind.i64 v], Value.bool false, Value.bool false, Value.bool false, Value.slice (some { block := rg, off := 0 }) N rc, Value.slice (some { block := sg, off := 0 }) N sc, Value.bool true, Value.bool false, Value.bool false, (bif d 0 then Value.pointer (some { block := gx, off := 3 }) else undef), (bif d 1 then Value.slice (some { block := go, off := 0 }) (b.n + 1) uc else undef), (bif d 2 then Value.pointer (some { block := gx, off := 3 }) else undef), (bif d 3 then Value.slice (some { block := go, off := 0 }) (b.n + 1) uc else undef), (bif d 4 then Value.int IntKind.i64 ((b.n : Int) + 1) else undef), (bif d 5 then Value.int IntKind.i64 ((b.n : Int)) else undef), (bif d 6 then Value.int IntKind.i64 ((A : Int)) else undef), (bif d 7 then Value.slice (some { block := sg, off := 0 }) N sc else undef), (bif d 8 then Value.int IntKind.i64 ((A : Int)) else undef), (bif d 9 then Value.pointer (some { block := sg, off := A * 2 }) else undef), (bif d 10 then Value.pointer (some { block := sg, off := A * 2 }) else undef), (bif d 11 then Value.int IntKind.i64 (sl) else undef), (bif d 12 then Value.int IntKind.i64 (sl - 1) else undef), (bif d 13 then Value.slice (some { block := eb15, off := 0 }) 3 3 else undef), (bif d 14 then Value.slice (some { block := G15x, off := 0 }) 1 c15x else undef), (bif d 15 then Value.pointer (some { block := go, off := b.n }) else undef), undef, undef, undef, undef, undef, undef, undef, undef, undef, undef, undef, undef, undef, undef, undef, undef, undef, undef, undef, undef, undef, undef, undef, undef, undef, undef, undef, undef, undef, undef, undef, undef, undef, undef, undef, undef, undef, undef, undef, undef, undef, undef, undef, undef, undef, undef, undef, undef, undef, undef, undef, undef, undef, undef], defers := [] } ∧ Hid (RQ w4.heap.size go b.n uc b1 b2 w7 (.cells #[.int .i64 (A : Int), .int .i64 (-1000), .int .i64 (sl - 1)] 3 (0, 0)) eb15 G15x c15x (d 13) (d 14) (d 16) W)) hmx (by kernel_rfl) ?_ ?_ ?_
                · exact ⟨0, 0, 0, rfl, RQ.start _ _ _ _ _ _ _ _ _ _ _⟩
                · refine ⟨?_, ?_, ?_, ?_, ?_, ?_, ?_, ?_, ?_, ?_, ?_, ?_, ?_, ?_, ?_, ?_, ?_, trivial⟩
                  · rintro d a W hdi hdep hcl ⟨eb15, G15x, c15x, rfl, hw⟩ K hK
                    have E := hcl.facts 0 hdi rfl hdep [] [1, 15, 16] (by kernel_rfl) (by kernel_rfl)
                    simp only [AllT, AllF] at E
                    clear hdi hdep hcl
                    go_simp
                    refine hK _ _ ⟨eb15, G15x, c15x, by simp [upd, E], ?_⟩
                    first | exact hw | simpa [upd, E] using hw
                  · rintro d a W hdi hdep hcl ⟨eb15, G15x, c15x, rfl, hw⟩ K hK
                    have E := hcl.facts 1 hdi rfl hdep [0] [15, 16] (by kernel_rfl) (by kernel_rfl)
                    simp only [AllT, AllF] at E
                    clear hdi hdep hcl
                    have hp := hw.out.p (by simp [E])
                    have o3 : W.cell? ⟨gx, 3, none⟩ = some (.slice (some ⟨go, 0, none⟩) (b.n + 1) uc) := by rw [cell_of_row W _ _ _ _ _ (HK7.out.to hp)]; rfl
                    clear hp
                    go_simp
                    refine hK _ _ ⟨eb15, G15x, c15x, by simp [upd, E], ?_⟩
                    first | exact hw | simpa [upd, E] using hw
                  · rintro d a W hdi hdep hcl ⟨eb15, G15x, c15x, rfl, hw⟩ K hK
                    have E := hcl.facts 2 hdi rfl hdep [] [3, 4, 5, 15, 16] (by kernel_rfl) (by kernel_rfl)
                    simp only [AllT, AllF] at E
                    clear hdi hdep hcl
                    go_simp
                    refine hK _ _ ⟨eb15, G15x, c15x, by simp [upd, E], ?_⟩
                    first | exact hw | simpa [upd, E] using hw
                  · rintro d a W hdi hdep hcl ⟨eb15, G15x, c15x, rfl, hw⟩ K hK
                    have E := hcl.facts 3 hdi rfl hdep [2] [4, 5, 15, 16] (by kernel_rfl) (by kernel_rfl)
                    simp only [AllT, AllF] at E
                    clear hdi hdep hcl
                    have hp := hw.out.p (by simp [E])
                    have o3 : W.cell? ⟨gx, 3, none⟩ = some (.slice (some ⟨go, 0, none⟩) (b.n + 1) uc) := by rw [cell_of_row W _ _ _ _ _ (HK7.out.to hp)]; rfl
                    clear hp
                    go_simp
                    refine hK _ _ ⟨eb15, G15x, c15x, by simp [upd, E], ?_⟩
                    first | exact hw | simpa [upd, E] using hw
                  · rintro d a W hdi hdep hcl ⟨eb15, G15x, c15x, rfl, hw⟩ K hK
                    have E := hcl.facts 4 hdi rfl hdep [2, 3] [5, 15, 16] (by kernel_rfl) (by kernel_rfl)
                    simp only [AllT, AllF] at E
                    clear hdi hdep hcl
                    have hcc : ((b.n + 1 : Nat) : Int) = (b.n : Int) + 1 := by omega
                    go_simp
                    refine hK _ _ ⟨eb15, G15x, c15x, by simp [upd, E], ?_⟩
                    first | exact hw | simpa [upd, E] using hw
                  · rintro d a W hdi hdep hcl ⟨eb15, G15x, c15x, rfl, hw⟩ K hK
                    have E := hcl.facts 5 hdi rfl hdep [2, 3, 4] [15, 16] (by kernel_rfl) (by kernel_rfl)
                    simp only [AllT, AllF] at E
                    clear hdi hdep hcl
                    have hwx : IntKind.i64.wrap (b.n : Int) = (b.n : Int) := IntWalk.i64_in _ (by omega)
                    go_simp
                    refine hK _ _ ⟨eb15, G15x, c15x, by simp [upd, E], ?_⟩
                    first | exact hw | simpa [upd, E] using hw
                  · rintro d a W hdi hdep hcl ⟨eb15, G15x, c15x, rfl, hw⟩ K hK
                    have E := hcl.facts 6 hdi rfl hdep [] [13, 14, 15, 16] (by kernel_rfl) (by kernel_rfl)
                    simp only [AllT, AllF] at E
                    clear hdi hdep hcl
                    go_simp
                    refine hK _ _ ⟨eb15, G15x, c15x, by simp [upd, E], ?_⟩
                    first | exact hw | simpa [upd, E] using hw
                  · rintro d a W hdi hdep hcl ⟨eb15, G15x, c15x, rfl, hw⟩ K hK
                    have E := hcl.facts 7 hdi rfl hdep [] [9, 10, 11, 12, 13, 14, 15, 16] (by kernel_rfl) (by kernel_rfl)
                    simp only [AllT, AllF] at E
                    clear hdi hdep hcl
                    go_simp
                    refine hK _ _ ⟨eb15, G15x, c15x, by simp [upd, E], ?_⟩
                    first | exact hw | simpa [upd, E] using hw
                  · rintro d a W hdi hdep hcl ⟨eb15, G15x, c15x, rfl, hw⟩ K hK
                    have E := hcl.facts 8 hdi rfl hdep [] [9, 10, 11, 12, 13, 14, 15, 16] (by kernel_rfl) (by kernel_rfl)
                    simp only [AllT, AllF] at E
                    clear hdi hdep hcl
                    go_simp
                    refine hK _ _ ⟨eb15, G15x, c15x, by simp [upd, E], ?_⟩
                    first | exact hw | simpa [upd, E] using hw
                  · rintro d a W hdi hdep hcl ⟨eb15, G15x, c15x, rfl, hw⟩ K hK
                    have E := hcl.facts 9 hdi rfl hdep [7, 8] [10, 11, 12, 13, 14, 15, 16] (by kernel_rfl) (by kernel_rfl)
                    simp only [AllT, AllF] at E
                    clear hdi hdep hcl
                    go_simp
                    refine hK _ _ ⟨eb15, G15x, c15x, by simp [upd, E], ?_⟩
                    first | exact hw | simpa [upd, E] using hw
                  · rintro d a W hdi hdep hcl ⟨eb15, G15x, c15x, rfl, hw⟩ K hK
                    have E := hcl.facts 10 hdi rfl hdep [7, 8, 9] [11, 12, 13, 14, 15, 16] (by kernel_rfl) (by kernel_rfl)
                    simp only [AllT, AllF] at E
                    clear hdi hdep hcl
                    go_simp
                    refine hK _ _ ⟨eb15, G15x, c15x, by simp [upd, E], ?_⟩
                    first | exact hw | simpa [upd, E] using hw
                  · rintro d a W hdi hdep hcl ⟨eb15, G15x, c15x, rfl, hw⟩ K hK
                    have E := hcl.facts 11 hdi rfl hdep [7, 8, 9, 10] [12, 13, 14, 15, 16] (by kernel_rfl) (by kernel_rfl)
                    simp only [AllT, AllF] at E
                    clear hdi hdep hcl
                    have hp := hw.out.p (by simp [E])
                    obtain ⟨sg', hsq, -, y0, y1⟩ := HSP7.out.to hp A hAN
                    cases hsq
                    rw [HSL.out] at y0
                    rw [HSH.out] at y1
                    clear hp
                    go_simp
                    refine hK _ _ ⟨eb15, G15x, c15x, by simp [upd, E], ?_⟩
                    first | exact hw | simpa [upd, E] using hw
                  · rintro d a W hdi hdep hcl ⟨eb15, G15x, c15x, rfl, hw⟩ K hK
                    have E := hcl.facts 12 hdi rfl hdep [7, 8, 9, 10, 11] [13, 14, 15, 16] (by kernel_rfl) (by kernel_rfl)
                    simp only [AllT, AllF] at E
                    clear hdi hdep hcl
                    have hwx : IntKind.i64.wrap (sl - 1) = sl - 1 := IntWalk.i64_in _ (by omega)
                    go_simp
                    refine hK _ _ ⟨eb15, G15x, c15x, by simp [upd, E], ?_⟩
                    first | exact hw | simpa [upd, E] using hw
                  · rintro d a W hdi hdep hcl ⟨eb15, G15x, c15x, rfl, hw⟩ K hK
                    have E := hcl.facts 13 hdi rfl hdep [6, 7, 8, 9, 10, 11, 12] [14, 15, 16] (by kernel_rfl) (by kernel_rfl)
                    simp only [AllT, AllF] at E
                    clear hdi hdep hcl
                    have h := hw.out
                    rw [show d 13 = false by simp [E], show d 14 = false by simp [E], show d 16 = false by simp [E]] at h
                    go_simp
                    exact hK _ _ ⟨W.heap.size, G15x, c15x, by simp [upd, E], by rw [show upd d 13 13 = true by simp [upd, E], show upd d 13 14 = false by simp [upd, E], show upd d 13 16 = false by simp [upd, E]]; exact h.list⟩
                  · rintro d a W hdi hdep hcl ⟨eb15, G15x, c15x, rfl, hw⟩ K hK
                    have E := hcl.facts 14 hdi rfl hdep [6, 7, 8, 9, 10, 11, 12, 13] [15, 16] (by kernel_rfl) (by kernel_rfl)
                    simp only [AllT, AllF] at E
                    clear hdi hdep hcl
                    have h := hw.out
                    rw [show d 13 = true by simp [E], show d 14 = false by simp [E], show d 16 = false by simp [E]] at h
                    go_simp
                    refine (sit_one W eb15 b A (-1000) (sl - 1) (h.e rfl rfl).2).mono ?_
                    rintro e w99 ⟨G', c', rfl, hs', hp6⟩
                    rw [HB_b2.out] at hs'
                    exact hK _ _ ⟨eb15, G', c', by simp [upd, E], by rw [show upd d 14 13 = true by simp [upd, E], show upd d 14 14 = true by simp [upd, E], show upd d 14 16 = false by simp [upd, E]]; exact h.made hp6 hs'⟩
                  · rintro d a W hdi hdep hcl ⟨eb15, G15x, c15x, rfl, hw⟩ K hK
                    have E := hcl.facts 15 hdi rfl hdep [0, 1, 2, 3, 4, 5, 6, 7, 8, 9, 10, 11, 12, 13, 14] [16] (by kernel_rfl) (by kernel_rfl)
                    simp only [AllT, AllF] at E
                    clear hdi hdep hcl
                    go_simp
                    refine hK _ _ ⟨eb15, G15x, c15x, by simp [upd, E], ?_⟩
                    first | exact hw | simpa [upd, E] using hw
                  · rintro d a W hdi hdep hcl ⟨eb15, G15x, c15x, rfl, hw⟩ K hK
                    have E := hcl.facts 16 hdi rfl hdep [0, 1, 2, 3, 4, 5, 6, 7, 8, 9, 10, 11, 12, 13, 14, 15] [] (by kernel_rfl) (by kernel_rfl)
                    simp only [AllT, AllF] at E
                    clear hdi hdep hcl
                    have h := hw.out
                    rw [show d 13 = true by simp [E], show d 14 = true by simp [E], show d 16 = false by simp [E]] at h
                    have hp := h.p rfl
                    obtain ⟨go', gk', ck', F', e1, e2, e3, e4, -⟩ := (HT7.out.to hp).sit (j := b.n) (by omega)
                    cases e1
                    have fo : ∀ o, W.frozen? ⟨go, o, none⟩ = false := fun o => (HT7.out.to hp).frz o
                    have h' := h.store HT7.out HQ7.out.p.size HE_b2.out
                    rw [HM_b2.out] at h'
                    have HH := Lib.hid h'
                    clear h h' hp e3
                    go_simp
                    refine hK _ _ ⟨eb15, G15x, c15x, by simp [upd, E], ?_⟩
                    rw [show upd d 16 13 = true by simp [upd, E], show upd d 16 14 = true by simp [upd, E], show upd d 16 16 = true by simp [upd, E]]
                    exact HH.out
                · rintro d a W hall ⟨eb15, G15x, c15x, rfl, hw⟩
                  have E := AllT.all hall [0, 1, 2, 3, 4, 5, 6, 7, 8, 9, 10, 11, 12, 13, 14, 15, 16] (by kernel_rfl)
                  simp only [AllT] at E
                  simp only [E, cond_true] at hw ⊢
                  clear E hall
                  have h := hw.out
                  have hy := h.y rfl
                  have hp : Pure w4 W := HQ7.out.p.trans' hy.2 (fun x hx e => by have e' : x = go := e; have := HGO.out; omega)
                  have HT8 := Lib.hid hy.1
                  have HK8 : Hid (BlkAt gx (.cells #[.int .i64 b.lo, .int .i64 b.hi, .int .i64 b.lots, .slice (some ⟨go, 0, none⟩) (b.n + 1) uc] 26 (0, 0)) W) := (hy.2.block gx HK7.out.lt (fun e => HT7.out.notBox HK7.out e)).trans HK7.out
                  obtain ⟨w8, hw5⟩ : ∃ V, W = V := ⟨_, rfl⟩
                  rw [hw5] at hp HT8 HK8 ⊢
                  clear hw h hy hw5 W d hi0 hi1
                  have hP8 : Hid (Pure w w8) := hP4.out.trans hp
                  have HA8 := Lib.hid (HA4.out.pure hp)
                  have HB8 := Lib.hid (HB4.out.to hp)
                  have HG8 := Lib.hid (HG4.out.to hp)
                  have HSP8 := Lib.hid (HSP4.out.to hp)
                  have HQ8 : Hid (PureB w4 w8) := ⟨hp⟩
                  have HX8 : Hid (BoxB gx b2 (some ⟨go, 0, none⟩) uc w8) := by show BoxB _ _ _ _ _; rw [← HB_b2.out]; exact BoxB.of (T := 26) HK8.out
                  have HR8 : Hid (BookAt w8.heap.size w8 (some ⟨go, 0, none⟩) b2) := by have := HT8.out; rw [← HB_b2.out] at this; show BookAt _ _ _ _; rw [← HB_b2.out]; exact SamI.book (B := w4.heap.size) (c := uc) this
                  clear hp HT7 HK7
                  obtain ⟨za0, za1, za2, za3, zal⟩ := HA8.out
                  obtain ⟨zx0, zx1, zx2, zx3, zxl⟩ := HX8.out
                  obtain ⟨sg', hsq, -, y0, y1⟩ := HSP8.out A hAN
                  cases hsq
                  rw [HSL.out] at y0
                  rw [HSH.out] at y1
                  have hgt : -1000 < sl := by omega
                  go_wp2_with fail
                  clear y0 y1 hgt
                  refine (spans_any w8 b2 (some ⟨go, 0, none⟩) uc HS_b2.out HC_b2.out HR8.out HG8.out).mono ?_
                  rintro e w9 ⟨hq, hp⟩
                  have he := hq.one HN_b2.out
                  subst he
                  clear hq
                  have hP9 : Hid (Pure w w9) := hP8.out.trans hp
                  have HA9 := Lib.hid (HA8.out.pure hp)
                  have HX9 := Lib.hid (HX8.out.pure hp)
                  have HG9 := Lib.hid (HG8.out.to hp)
                  have HB9 := Lib.hid (HB8.out.to hp)
                  have HSP9 := Lib.hid (HSP8.out.to hp)
                  have HQ9 := Lib.hid (HQ8.out.to hp)
                  have HT9 := Lib.hid (HT8.out.to hp)
                  have HK9 := Lib.hid (HK8.out.to hp)
                  have HR9 := Lib.hid (HR8.out.to hp)
                  clear hp hP8 HA8 HX8 za0 za1 za2 za3 zal zx0 zx1 zx2 zx3 zxl HG8 HB8 HSP8 HQ8 HT8 HK8 HR8
                  obtain ⟨za0, za1, za2, za3, zal⟩ := HA9.out
                  obtain ⟨zx0, zx1, zx2, zx3, zxl⟩ := HX9.out
                  obtain ⟨sg', hsq, -, y0, y1⟩ := HSP9.out A hAN
                  cases hsq
                  rw [HSL.out] at y0
                  rw [HSH.out] at y1
                  by_cases hsh : 1000 ≤ sh
                  · go_wp2_with fail
                    clear y0 y1
                    refine (Works_any w9 HG9.out).mono ?_
                    rintro e w10 ⟨rfl, hp⟩
                    have hP10 : Hid (Pure w w10) := hP9.out.trans hp
                    have HA10 := Lib.hid (HA9.out.pure hp)
                    have HX10 := Lib.hid (HX9.out.pure hp)
                    have HG10 := Lib.hid (HG9.out.to hp)
                    have HB10 := Lib.hid (HB9.out.to hp)
                    have HSP10 := Lib.hid (HSP9.out.to hp)
                    have HQ10 := Lib.hid (HQ9.out.to hp)
                    have HT10 := Lib.hid (HT9.out.to hp)
                    have HK10 := Lib.hid (HK9.out.to hp)
                    have HR10 := Lib.hid (HR9.out.to hp)
                    clear hp hP9 HA9 HX9 za0 za1 za2 za3 zal zx0 zx1 zx2 zx3 zxl HG9 HB9 HSP9 HQ9 HT9 HK9 HR9
                    obtain ⟨za0, za1, za2, za3, zal⟩ := HA10.out
                    obtain ⟨zx0, zx1, zx2, zx3, zxl⟩ := HX10.out
                    go_wp2_with fail
                    exact bodyPost_ret (v := .bool true) (by simp [results, Tryd.results10, go_sem]) rfl ⟨rfl, hP10.out⟩
                  · go_wp2_with fail
                    clear y0 y1
                    obtain ⟨hvb, hnb⟩ := reach_out b hv N HLN.out hn4 ht12 HNO.out A hAN (sh + 1) (1000) (by omega) (by omega) (by omega) (.inr (by rw [HSH.out]; omega))
                    obtain ⟨b3, hb2⟩ : ∃ x, b.add A (sh + 1) (1000) = x := ⟨_, rfl⟩
                    have HB_b3 := Lib.hid hb2
                    rw [hb2] at hvb hnb
                    have HN_b3 := Lib.hid hnb
                    have HC_b3 := Lib.hid (valid_check hvb)
                    have HS_b3 : Hid (BK.Small b3) := by show BK.Small b3; rw [← hb2]; exact add_small HS.out hn4 _ _ _
                    have HM_b3 : Hid (BK.m b3 b.n = 1) := by show _ = _; rw [← hb2]; exact add_mn
                    have HE_b3 : Hid (∀ j, j < b.n → BK.m b3 j = BK.m b2 j ∧ BK.t b3 j = BK.t b2 j) := fun j hj => by rw [← hb2, ← HB_b2.out, add_m hj, add_m hj, add_t hj, add_t hj]; exact ⟨rfl, rfl⟩
                    clear hb2 hvb hnb
                    have hi0 : (0 : Int) ≤ b.n := by omega
                    have hi1 : (b.n : Int) < (b.n : Int) + 1 := by omega
                    clear za0 za1 za2 za3 zal
                    clear zx0 zx1 zx2 zx3 zxl
                    refine reg_invW (fun d a W => ∃ (eb22 G22x c22x : Nat), a = { tmps := #[bookV b p cap, Value.int IntKind.u8 x2, Value.int IntKind.u16 x3, Value.pointer (some { block := g0, off := 0 }), undef, undef, Value.bool false, Value.int IntKind.i64 (A : Int), Value.slice (some { block := sg, off := 0 }) N sc, Value.bool true, Value.bool true, Value.int IntKind.i64 v, Value.pointer (some { block := gx, off := 0 }), Value.slice (some { block := rg, off := 0 }) N rc, Value.slice none 0 0, Value.bool false, Value.bool true, Value.agg #[Value.int IntKind.i64 b.lo, Value.int IntKind.i64 b.hi, Value.int IntKind.i64 b.lots, Value.slice p b.n cap], Value.bool true, Value.bool false, Value.bool false, Value.pointer (some { block := g0, off := 3 }), Value.slice p b.n cap, Value.int IntKind.i64 (b.n : Int), Value.bool (decide (4 ≤ (b.n : Int))), Value.bool (decide (4 ≤ (b.n : Int))), Value.bool (decide (4 ≤ (b.n : Int))), Value.agg #[Value.int IntKind.i64 b.lo, Value.int IntKind.i64 b.hi, Value.int IntKind.i64 b.lots, Value.slice p b.n cap], Value.slice tp0 b.total tc0, Value.int IntKind.i64 (b.total : Int), Value.bool (decide (12 ≤ (b.total : Int))), Value.bool (decide (4 ≤ (b.n : Int)) || decide (12 ≤ (b.total : Int))), undef, Value.int IntKind.u8 x2, Value.int IntKind.i64 x2, Value.pointer (some { block := g0, off := 2 }), Value.int IntKind.i64 b.lots, Value.int IntKind.i64 (A : Int), Value.tuple #[Value.slice (some { block := sg, off := 0 }) N sc, Value.bool true, Value.bool true], Value.agg #[Value.int IntKind.i64 b.lo, Value.int IntKind.i64 b.hi, Value.int IntKind.i64 b.lots, Value.slice p b.n cap], Value.tuple #[Value.slice (some { block := sg, off := 0 }) N sc, Value.bool true, Value.bool true], Value.slice (some { block := sg, off := 0 }) N sc, Value.bool true, Value.bool true, Value.bool true, Value.bool false, Value.bool true, Value.bool false, undef, Value.slice (some { block := sg, off := 0 }) N sc, Value.int IntKind.i64 (A : Int), Value.pointer (some { block := sg, off := A * 2 }), Value.pointer (some { block := sg, off := A * 2 }), Value.int IntKind.i64 sl, Value.int IntKind.u16 x3, Value.int IntKind.i64 x3, Value.slice (some { block := sg, off := 0 }) N sc, Value.int IntKind.i64 (A : Int), Value.pointer (some { block := sg, off := A * 2 }), Value.pointer (some { block := sg, off := A * 2 + 1 }), Value.int IntKind.i64 sh, Value.slice (some { block := sg, off := 0 }) N sc, Value.int IntKind.i64 (A : Int), Value.pointer (some { block := sg, off := A * 2 }), Value.pointer (some { block := sg, off := A * 2 }), Value.int IntKind.i64 sl, Value.int IntKind.i64 (sh - sl), Value.int IntKind.i64 (sh - sl + 1), Value.int IntKind.i64 rr, Value.int IntKind.i64 v, Value.agg #[Value.int IntKind.i64 b.lo, Value.int IntKind.i64 b.hi, Value.int IntKind.i64 b.lots, Value.slice p b.n cap], Value.agg #[Value.int IntKind.i64 b.lo, Value.int IntKind.i64 b.hi, Value.int IntKind.i64 b.lots, Value.slice vq b.n vc], Value.pointer (some { block := gx, off := 3 }), Value.slice vq b.n vc, Value.int IntKind.i64 (A : Int), Value.int IntKind.i64 v, Value.int IntKind.i64 v, Value.slice (some { block := eb, off := 0 }) 3 3, Value.slice (some { block := G2, off := 0 }) 1 c2, Value.slice (some { block := ib, off := 0 }) 1 1, Value.slice (some { block := go, off := 0 }) (b.n + 1) uc, Value.pointer (some { block := gx, off := 3 }), Value.tuple #[Value.slice (some { block := rg, off := 0 }) N rc, Value.bool true, Value.bool true], Value.agg #[Value.int IntKind.i64 b1.lo, Value.int IntKind.i64 b1.hi, Value.int IntKind.i64 b1.lots, Value.slice (some { block := go, off := 0 }) b1.n uc], Value.tuple #[Value.slice (some { block := rg, off := 0 }) N rc, Value.bool true, Value.bool true], Value.slice (some { block := rg, off := 0 }) N rc, Value.bool true, Value.bool true, Value.bool true, Value.bool false, Value.bool false, Value.bool true, Value.bool false, Value.bool false, Value.bool false, Value.slice (some { block := rg, off := 0 }) N rc, Value.int IntKind.i64 (A : Int), Value.pointer (some { block := rg, off := A * 2 }), Value.agg #[Value.int IntKind.i64 v, Value.int IntKind.i64 v], Value.int IntKind.i64 v, Value.int IntKind.i64 v, Value.agg #[Value.int IntKind.i64 v, Value.int IntKind.i64 v], Value.bool false, Value.bool false, Value.bool false, Value.slice (some { block := rg, off := 0 }) N rc, Value.slice (some { block := sg, off := 0 }) N sc, Value.bool true, Value.bool false, Value.bool false, Value.pointer (some { block := gx, off := 3 }), Value.slice (some { block := go, off := 0 }) (b.n + 1) uc, Value.pointer (some { block := gx, off := 3 }), Value.slice (some { block := go, off := 0 }) (b.n + 1) uc, Value.int IntKind.i64 ((b.n : Int) + 1), Value.int IntKind.i64 (b.n : Int), Value.int IntKind.i64 (A : Int), Value.slice (some { block := sg, off := 0 }) N sc, Value.int IntKind.i64 (A : Int), Value.pointer (some { block := sg, off := A * 2 }), Value.pointer (some { block := sg, off := A * 2 }), Value.int IntKind.i64 sl, Value.int IntKind.i64 (sl - 1), Value.slice (some { block := eb15, off := 0 }) 3 3, Value.slice (some { block := G15x, off := 0 }) 1 c15x, Value.pointer (some { block := go, off := b.n }), Value.slice (some { block := sg, off := 0 }) N sc, Value.int IntKind.i64 (A : Int), Value.pointer (some { block := sg, off := A * 2 }), Value.pointer (some { block := sg, off := A * 2 }), Value.int IntKind.i64 sl, Value.bool true, Value.tuple #[Value.slice none 0 0, Value.bool false, Value.bool true], Value.agg #[Value.int IntKind.i64 b2.lo, Value.int IntKind.i64 b2.hi, Value.int IntKind.i64 b2.lots, Value.slice (some { block := go, off := 0 }) b2.n uc], Value.tuple #[Value.slice none 0 0, Value.bool false, Value.bool true], Value.slice none 0 0, Value.bool false, Value.bool true, Value.bool true, Value.bool false, Value.bool false, Value.bool false, Value.bool false, Value.slice (some { block := sg, off := 0 }) N sc, Value.int IntKind.i64 (A : Int), Value.pointer (some { block := sg, off := A * 2 }), Value.pointer (some { block := sg, off := A * 2 + 1 }), Value.int IntKind.i64 sh, Value.bool (decide (1000 ≤ sh)), undef, (bif d 0 then Value.pointer (some { block := gx, off := 3 }) else undef), (bif d 1 then Value.slice (some { block := go, off := 0 }) (b.n + 1) uc else undef), (bif d 2 then Value.pointer (some { block := gx, off := 3 }) else undef), (bif d 3 then Value.slice (some { block := go, off := 0 }) (b.n + 1) uc else undef), (bif d 4 then Value.int IntKind.i64 ((b.n : Int) + 1) else undef), (bif d 5 then Value.int IntKind.i64 ((b.n : Int)) else undef), (bif d 6 then Value.int IntKind.i64 ((A : Int)) else undef), (bif d 7 then Value.slice (some { block := sg, off := 0 }) N sc else undef), (bif d 8 then Value.int IntKind.i64 ((A : Int)) else undef), (bif d 9 then Value.pointer (some { block := sg, off := A * 2 }) else undef), (bif d 10 then Value.pointer (some { block := sg, off := A * 2 + 1 }) else undef), (bif d 11 then Value.int IntKind.i64 (sh) else undef), (bif d 12 then Value.int IntKind.i64 (sh + 1) else undef), (bif d 13 then Value.slice (some { block := eb22, off := 0 }) 3 3 else undef), (bif d 14 then Value.slice (some { block := G22x, off := 0 }) 1 c22x else undef), (bif d 15 then Value.pointer (some { block := go, off := b.n }) else undef), undef, undef, undef, undef, undef, undef, undef, undef, undef, undef, undef, undef, undef, undef], defers := [] } ∧ Hid (RQ w4.heap.size go b.n uc b2 b3 w9 (.cells #[.int .i64 (A : Int), .int .i64 (sh + 1), .int .i64 (1000)] 3 (0, 0)) eb22 G22x c22x (d 13) (d 14) (d 16) W)) hmx (by kernel_rfl) ?_ ?_ ?_
                    · exact ⟨0, 0, 0, rfl, RQ.start _ _ _ _ _ _ _ _ _ _ _⟩
                    · refine ⟨?_, ?_, ?_, ?_, ?_, ?_, ?_, ?_, ?_, ?_, ?_, ?_, ?_, ?_, ?_, ?_, ?_, trivial⟩
                      · rintro d a W hdi hdep hcl ⟨eb22, G22x, c22x, rfl, hw⟩ K hK
                        have E := hcl.facts 0 hdi rfl hdep [] [1, 15, 16] (by kernel_rfl) (by kernel_rfl)
                        simp only [AllT, AllF] at E
                        clear hdi hdep hcl
                        go_simp
                        refine hK _ _ ⟨eb22, G22x, c22x, by simp [upd, E], ?_⟩
                        first | exact hw | simpa [upd, E] using hw
                      · rintro d a W hdi hdep hcl ⟨eb22, G22x, c22x, rfl, hw⟩ K hK
                        have E := hcl.facts 1 hdi rfl hdep [0] [15, 16] (by kernel_rfl) (by kernel_rfl)
                        simp only [AllT, AllF] at E
                        clear hdi hdep hcl
                        have hp := hw.out.p (by simp [E])
                        have o3 : W.cell? ⟨gx, 3, none⟩ = some (.slice (some ⟨go, 0, none⟩) (b.n + 1) uc) := by rw [cell_of_row W _ _ _ _ _ (HK9.out.to hp)]; rfl
                        clear hp
                        go_simp
                        refine hK _ _ ⟨eb22, G22x, c22x, by simp [upd, E], ?_⟩
                        first | exact hw | simpa [upd, E] using hw
                      · rintro d a W hdi hdep hcl ⟨eb22, G22x, c22x, rfl, hw⟩ K hK
                        have E := hcl.facts 2 hdi rfl hdep [] [3, 4, 5, 15, 16] (by kernel_rfl) (by kernel_rfl)
                        simp only [AllT, AllF] at E
                        clear hdi hdep hcl
                        go_simp
                        refine hK _ _ ⟨eb22, G22x, c22x, by simp [upd, E], ?_⟩
                        first | exact hw | simpa [upd, E] using hw
                      · rintro d a W hdi hdep hcl ⟨eb22, G22x, c22x, rfl, hw⟩ K hK
                        have E := hcl.facts 3 hdi rfl hdep [2] [4, 5, 15, 16] (by kernel_rfl) (by kernel_rfl)
                        simp only [AllT, AllF] at E
                        clear hdi hdep hcl
                        have hp := hw.out.p (by simp [E])
                        have o3 : W.cell? ⟨gx, 3, none⟩ = some (.slice (some ⟨go, 0, none⟩) (b.n + 1) uc) := by rw [cell_of_row W _ _ _ _ _ (HK9.out.to hp)]; rfl
                        clear hp
                        go_simp
                        refine hK _ _ ⟨eb22, G22x, c22x, by simp [upd, E], ?_⟩
                        first | exact hw | simpa [upd, E] using hw
                      · rintro d a W hdi hdep hcl ⟨eb22, G22x, c22x, rfl, hw⟩ K hK
                        have E := hcl.facts 4 hdi rfl hdep [2, 3] [5, 15, 16] (by kernel_rfl) (by kernel_rfl)
                        simp only [AllT, AllF] at E
                        clear hdi hdep hcl
                        have hcc : ((b.n + 1 : Nat) : Int) = (b.n : Int) + 1 := by omega
                        go_simp
                        refine hK _ _ ⟨eb22, G22x, c22x, by simp [upd, E], ?_⟩
                        first | exact hw | simpa [upd, E] using hw
                      · rintro d a W hdi hdep hcl ⟨eb22, G22x, c22x, rfl, hw⟩ K hK
                        have E := hcl.facts 5 hdi rfl hdep [2, 3, 4] [15, 16] (by kernel_rfl) (by kernel_rfl)
                        simp only [AllT, AllF] at E
                        clear hdi hdep hcl
                        have hwx : IntKind.i64.wrap (b.n : Int) = (b.n : Int) := IntWalk.i64_in _ (by omega)
                        go_simp
                        refine hK _ _ ⟨eb22, G22x, c22x, by simp [upd, E], ?_⟩
                        first | exact hw | simpa [upd, E] using hw
                      · rintro d a W hdi hdep hcl ⟨eb22, G22x, c22x, rfl, hw⟩ K hK
                        have E := hcl.facts 6 hdi rfl hdep [] [13, 14, 15, 16] (by kernel_rfl) (by kernel_rfl)
                        simp only [AllT, AllF] at E
                        clear hdi hdep hcl
                        go_simp
                        refine hK _ _ ⟨eb22, G22x, c22x, by simp [upd, E], ?_⟩
                        first | exact hw | simpa [upd, E] using hw
                      · rintro d a W hdi hdep hcl ⟨eb22, G22x, c22x, rfl, hw⟩ K hK
                        have E := hcl.facts 7 hdi rfl hdep [] [9, 10, 11, 12, 13, 14, 15, 16] (by kernel_rfl) (by kernel_rfl)
                        simp only [AllT, AllF] at E
                        clear hdi hdep hcl
                        go_simp
                        refine hK _ _ ⟨eb22, G22x, c22x, by simp [upd, E], ?_⟩
                        first | exact hw | simpa [upd, E] using hw
                      · rintro d a W hdi hdep hcl ⟨eb22, G22x, c22x, rfl, hw⟩ K hK
                        have E := hcl.facts 8 hdi rfl hdep [] [9, 10, 11, 12, 13, 14, 15, 16] (by kernel_rfl) (by kernel_rfl)
                        simp only [AllT, AllF] at E
                        clear hdi hdep hcl
                        go_simp
                        refine hK _ _ ⟨eb22, G22x, c22x, by simp [upd, E], ?_⟩
                        first | exact hw | simpa [upd, E] using hw
                      · rintro d a W hdi hdep hcl ⟨eb22, G22x, c22x, rfl, hw⟩ K hK
                        have E := hcl.facts 9 hdi rfl hdep [7, 8] [10, 11, 12, 13, 14, 15, 16] (by kernel_rfl) (by kernel_rfl)
                        simp only [AllT, AllF] at E
                        clear hdi hdep hcl
                        go_simp
                        refine hK _ _ ⟨eb22, G22x, c22x, by simp [upd, E], ?_⟩
                        first | exact hw | simpa [upd, E] using hw
                      · rintro d a W hdi hdep hcl ⟨eb22, G22x, c22x, rfl, hw⟩ K hK
                        have E := hcl.facts 10 hdi rfl hdep [7, 8, 9] [11, 12, 13, 14, 15, 16] (by kernel_rfl) (by kernel_rfl)
                        simp only [AllT, AllF] at E
                        clear hdi hdep hcl
                        go_simp
                        refine hK _ _ ⟨eb22, G22x, c22x, by simp [upd, E], ?_⟩
                        first | exact hw | simpa [upd, E] using hw
                      · rintro d a W hdi hdep hcl ⟨eb22, G22x, c22x, rfl, hw⟩ K hK
                        have E := hcl.facts 11 hdi rfl hdep [7, 8, 9, 10] [12, 13, 14, 15, 16] (by kernel_rfl) (by kernel_rfl)
                        simp only [AllT, AllF] at E
                        clear hdi hdep hcl
                        have hp := hw.out.p (by simp [E])
                        obtain ⟨sg', hsq, -, y0, y1⟩ := HSP9.out.to hp A hAN
                        cases hsq
                        rw [HSL.out] at y0
                        rw [HSH.out] at y1
                        clear hp
                        go_simp
                        refine hK _ _ ⟨eb22, G22x, c22x, by simp [upd, E], ?_⟩
                        first | exact hw | simpa [upd, E] using hw
                      · rintro d a W hdi hdep hcl ⟨eb22, G22x, c22x, rfl, hw⟩ K hK
                        have E := hcl.facts 12 hdi rfl hdep [7, 8, 9, 10, 11] [13, 14, 15, 16] (by kernel_rfl) (by kernel_rfl)
                        simp only [AllT, AllF] at E
                        clear hdi hdep hcl
                        have hwx : IntKind.i64.wrap (sh + 1) = sh + 1 := IntWalk.i64_in _ (by omega)
                        go_simp
                        refine hK _ _ ⟨eb22, G22x, c22x, by simp [upd, E], ?_⟩
                        first | exact hw | simpa [upd, E] using hw
                      · rintro d a W hdi hdep hcl ⟨eb22, G22x, c22x, rfl, hw⟩ K hK
                        have E := hcl.facts 13 hdi rfl hdep [6, 7, 8, 9, 10, 11, 12] [14, 15, 16] (by kernel_rfl) (by kernel_rfl)
                        simp only [AllT, AllF] at E
                        clear hdi hdep hcl
                        have h := hw.out
                        rw [show d 13 = false by simp [E], show d 14 = false by simp [E], show d 16 = false by simp [E]] at h
                        go_simp
                        exact hK _ _ ⟨W.heap.size, G22x, c22x, by simp [upd, E], by rw [show upd d 13 13 = true by simp [upd, E], show upd d 13 14 = false by simp [upd, E], show upd d 13 16 = false by simp [upd, E]]; exact h.list⟩
                      · rintro d a W hdi hdep hcl ⟨eb22, G22x, c22x, rfl, hw⟩ K hK
                        have E := hcl.facts 14 hdi rfl hdep [6, 7, 8, 9, 10, 11, 12, 13] [15, 16] (by kernel_rfl) (by kernel_rfl)
                        simp only [AllT, AllF] at E
                        clear hdi hdep hcl
                        have h := hw.out
                        rw [show d 13 = true by simp [E], show d 14 = false by simp [E], show d 16 = false by simp [E]] at h
                        go_simp
                        refine (sit_one W eb22 b A (sh + 1) (1000) (h.e rfl rfl).2).mono ?_
                        rintro e w99 ⟨G', c', rfl, hs', hp6⟩
                        rw [HB_b3.out] at hs'
                        exact hK _ _ ⟨eb22, G', c', by simp [upd, E], by rw [show upd d 14 13 = true by simp [upd, E], show upd d 14 14 = true by simp [upd, E], show upd d 14 16 = false by simp [upd, E]]; exact h.made hp6 hs'⟩
                      · rintro d a W hdi hdep hcl ⟨eb22, G22x, c22x, rfl, hw⟩ K hK
                        have E := hcl.facts 15 hdi rfl hdep [0, 1, 2, 3, 4, 5, 6, 7, 8, 9, 10, 11, 12, 13, 14] [16] (by kernel_rfl) (by kernel_rfl)
                        simp only [AllT, AllF] at E
                        clear hdi hdep hcl
                        go_simp
                        refine hK _ _ ⟨eb22, G22x, c22x, by simp [upd, E], ?_⟩
                        first | exact hw | simpa [upd, E] using hw
                      · rintro d a W hdi hdep hcl ⟨eb22, G22x, c22x, rfl, hw⟩ K hK
                        have E := hcl.facts 16 hdi rfl hdep [0, 1, 2, 3, 4, 5, 6, 7, 8, 9, 10, 11, 12, 13, 14, 15] [] (by kernel_rfl) (by kernel_rfl)
                        simp only [AllT, AllF] at E
                        clear hdi hdep hcl
                        have h := hw.out
                        rw [show d 13 = true by simp [E], show d 14 = true by simp [E], show d 16 = false by simp [E]] at h
                        have hp := h.p rfl
                        obtain ⟨go', gk', ck', F', e1, e2, e3, e4, -⟩ := (HT9.out.to hp).sit (j := b.n) (by omega)
                        cases e1
                        have fo : ∀ o, W.frozen? ⟨go, o, none⟩ = false := fun o => (HT9.out.to hp).frz o
                        have h' := h.store HT9.out HQ9.out.p.size HE_b3.out
                        rw [HM_b3.out] at h'
                        have HH := Lib.hid h'
                        clear h h' hp e3
                        go_simp
                        refine hK _ _ ⟨eb22, G22x, c22x, by simp [upd, E], ?_⟩
                        rw [show upd d 16 13 = true by simp [upd, E], show upd d 16 14 = true by simp [upd, E], show upd d 16 16 = true by simp [upd, E]]
                        exact HH.out
                    · rintro d a W hall ⟨eb22, G22x, c22x, rfl, hw⟩
                      have E := AllT.all hall [0, 1, 2, 3, 4, 5, 6, 7, 8, 9, 10, 11, 12, 13, 14, 15, 16] (by kernel_rfl)
                      simp only [AllT] at E
                      simp only [E, cond_true] at hw ⊢
                      clear E hall
                      have h := hw.out
                      have hy := h.y rfl
                      have hp : Pure w4 W := HQ9.out.p.trans' hy.2 (fun x hx e => by have e' : x = go := e; have := HGO.out; omega)
                      have HT10 := Lib.hid hy.1
                      have HK10 : Hid (BlkAt gx (.cells #[.int .i64 b.lo, .int .i64 b.hi, .int .i64 b.lots, .slice (some ⟨go, 0, none⟩) (b.n + 1) uc] 26 (0, 0)) W) := (hy.2.block gx HK9.out.lt (fun e => HT9.out.notBox HK9.out e)).trans HK9.out
                      obtain ⟨w10, hw5⟩ : ∃ V, W = V := ⟨_, rfl⟩
                      rw [hw5] at hp HT10 HK10 ⊢
                      clear hw h hy hw5 W d hi0 hi1
                      have hP10 : Hid (Pure w w10) := hP4.out.trans hp
                      have HA10 := Lib.hid (HA4.out.pure hp)
                      have HB10 := Lib.hid (HB4.out.to hp)
                      have HG10 := Lib.hid (HG4.out.to hp)
                      have HSP10 := Lib.hid (HSP4.out.to hp)
                      have HQ10 : Hid (PureB w4 w10) := ⟨hp⟩
                      have HX10 : Hid (BoxB gx b3 (some ⟨go, 0, none⟩) uc w10) := by show BoxB _ _ _ _ _; rw [← HB_b3.out]; exact BoxB.of (T := 26) HK10.out
                      have HR10 : Hid (BookAt w10.heap.size w10 (some ⟨go, 0, none⟩) b3) := by have := HT10.out; rw [← HB_b3.out] at this; show BookAt _ _ _ _; rw [← HB_b3.out]; exact SamI.book (B := w4.heap.size) (c := uc) this
                      clear hp HT9 HK9
                      obtain ⟨za0, za1, za2, za3, zal⟩ := HA10.out
                      obtain ⟨zx0, zx1, zx2, zx3, zxl⟩ := HX10.out
                      go_wp2_with fail
                      refine (spans_any w10 b3 (some ⟨go, 0, none⟩) uc HS_b3.out HC_b3.out HR10.out HG10.out).mono ?_
                      rintro e w11 ⟨hq, hp⟩
                      have he := hq.one HN_b3.out
                      subst he
                      clear hq
                      have hP11 : Hid (Pure w w11) := hP10.out.trans hp
                      have HA11 := Lib.hid (HA10.out.pure hp)
                      have HX11 := Lib.hid (HX10.out.pure hp)
                      have HG11 := Lib.hid (HG10.out.to hp)
                      have HB11 := Lib.hid (HB10.out.to hp)
                      have HSP11 := Lib.hid (HSP10.out.to hp)
                      have HQ11 := Lib.hid (HQ10.out.to hp)
                      have HT11 := Lib.hid (HT10.out.to hp)
                      have HK11 := Lib.hid (HK10.out.to hp)
                      have HR11 := Lib.hid (HR10.out.to hp)
                      clear hp hP10 HA10 HX10 za0 za1 za2 za3 zal zx0 zx1 zx2 zx3 zxl HG10 HB10 HSP10 HQ10 HT10 HK10 HR10
                      obtain ⟨za0, za1, za2, za3, zal⟩ := HA11.out
                      obtain ⟨zx0, zx1, zx2, zx3, zxl⟩ := HX11.out
                      go_wp2_with fail
                      refine (Works_any w11 HG11.out).mono ?_
                      rintro e w12 ⟨rfl, hp⟩
                      have hP12 : Hid (Pure w w12) := hP11.out.trans hp
                      have HA12 := Lib.hid (HA11.out.pure hp)
                      have HX12 := Lib.hid (HX11.out.pure hp)
                      have HG12 := Lib.hid (HG11.out.to hp)
                      have HB12 := Lib.hid (HB11.out.to hp)
                      have HSP12 := Lib.hid (HSP11.out.to hp)
                      have HQ12 := Lib.hid (HQ11.out.to hp)
                      have HT12 := Lib.hid (HT11.out.to hp)
                      have HK12 := Lib.hid (HK11.out.to hp)
                      have HR12 := Lib.hid (HR11.out.to hp)
                      clear hp hP11 HA11 HX11 za0 za1 za2 za3 zal zx0 zx1 zx2 zx3 zxl HG11 HB11 HSP11 HQ11 HT11 HK11 HR11
                      obtain ⟨za0, za1, za2, za3, zal⟩ := HA12.out
                      obtain ⟨zx0, zx1, zx2, zx3, zxl⟩ := HX12.out
                      go_wp2_with fail
                      exact bodyPost_ret (v := .bool true) (by simp [results, Tryd.results10, go_sem]) rfl ⟨rfl, hP12.out⟩
      · have ht12i : (12 : Int) ≤ b.total := by omega
        go_wp2_with fail
        refine (Works_any w2 HG2.out).mono ?_
        rintro e w99 ⟨rfl, hp99⟩
        go_wp2_with fail
        exact bodyPost_ret (v := .bool true) (by simp [results, Tryd.results10, go_sem]) rfl ⟨rfl, hP2.out.trans hp99⟩
    · have hn4i : (4 : Int) ≤ b.n := by omega
      go_wp2_with fail
      refine (Works_any w1 HG1.out).mono ?_
      rintro e w99 ⟨rfl, hp99⟩
      go_wp2_with fail
      exact bodyPost_ret (v := .bool true) (by simp [results, Tryd.results10, go_sem]) rfl ⟨rfl, hP1.out.trans hp99⟩
end Go.Proofs.YtmedkmbfggphdaaDoor
