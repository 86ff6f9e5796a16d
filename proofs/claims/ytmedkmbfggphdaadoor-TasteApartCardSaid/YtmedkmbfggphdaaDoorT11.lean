/- TasteApart: how far two lots are apart, the other way round, is the opposite; a lot and itself are not apart; the Spans go together with it. The walk of the law, for any book in memory and any numbers. -/
import Derived.Test.YtmedkmbfggphdaaDoorT11a
set_option linter.unusedSimpArgs false
set_option linter.unusedVariables false
set_option linter.constructorNameAsVariable false
namespace Go.Proofs.YtmedkmbfggphdaaDoor
open Go.RowKit

set_option maxRecDepth 20000 in
set_option maxHeartbeats 16000000 in
theorem ApartLaw_any (w : World) (b : BK) (p : Option Addr) (cap : Nat) (x2 x3 : Int) (hb : BookAt w.heap.size w p b) (hx2 : (Lit.int .u8 x2).wf = true) (hx3 : (Lit.int .u8 x3).wf = true) (hg : Gl w) :
    Calls Tryd.prog 12 #[bookV b p cap, .int .u8 x2, .int .u8 x3] w fun e w' => e = .returned (.bool true) ∧ Pure w w' := by
  have hmx : Tryd.prog.follows .mixedOrders = true := by kernel_rfl
  have hb2 := Go.bounds_u8 hx2
  have hb3 := Go.bounds_u8 hx3
  clear hx2 hx3
  have HB := Lib.hid hb
  have HG := Lib.hid hg
  clear hb hg
  go_enter Tryd.func12, Tryd.ntmps12
  go_wp2_with fail
  obtain ⟨X, hX⟩ : ∃ X, w.alloc (.cells (bookC b p cap) 26) = X := ⟨_, rfl⟩
  have hP : Hid (Pure w X) := by rw [← hX]; exact (Diff.refl w).alloc _
  have hX1 : BoxB w.heap.size b p cap X := by rw [← hX]; exact BoxB.new w b p cap 26
  obtain ⟨g0, hg0⟩ : ∃ g, w.heap.size = g := ⟨_, rfl⟩
  rw [hX]
  rw [hg0] at hX1 ⊢
  clear hX hg0
  have H0 := Lib.hid hX1
  obtain ⟨c0, c1', c2', c3, cl⟩ := hX1
  refine (fine_any X b p cap (HB.out.to hP.out)).mono ?_
  rintro e w1 ⟨rfl, hp1⟩
  have hP1 : Hid (Pure w w1) := hP.out.trans hp1
  have HA1 := Lib.hid (H0.out.pure hp1)
  clear c0 c1' c2' c3 cl hp1 hP H0
  obtain ⟨za0, za1, za2, za3, zal⟩ := HA1.out
  cases hfine : fineB b with
  | false =>
    go_wp2_with fail
    refine (Works_any w1 (HG.out.to hP1.out)).mono ?_
    rintro e w2 ⟨rfl, hp2⟩
    have hP2 : Hid (Pure w w2) := hP1.out.trans hp2
    clear hp2
    go_wp2_with fail
    exact bodyPost_ret (v := .bool true) (by simp [results, Tryd.results12, go_sem]) rfl ⟨rfl, hP2.out⟩
  | true =>
    obtain ⟨hs, hck⟩ := fineB_iff.1 hfine
    have hv := checkB_valid hck
    have HCK := Lib.hid hck
    clear hck hfine
    have HB1 := Lib.hid (HB.out.to hP1.out)
    have HG1 := Lib.hid (HG.out.to hP1.out)
    clear HB HG
    have hl1 := hv.lots1
    have hl6 := hv.lots6
    obtain ⟨N, hN⟩ := Int.eq_ofNat_of_zero_le (show 0 ≤ b.lots by omega)
    have hN1 : 1 ≤ N := by omega
    have hN6 : N ≤ 6 := by omega
    obtain ⟨A, hA⟩ := Int.eq_ofNat_of_zero_le (show 0 ≤ x2.tmod (N : Int) from Int.tmod_nonneg _ (by omega))
    have hAN : A < N := by have := Int.tmod_lt_of_pos x2 (show (0 : Int) < N by omega); omega
    obtain ⟨Z, hZ⟩ := Int.eq_ofNat_of_zero_le (show 0 ≤ x3.tmod (N : Int) from Int.tmod_nonneg _ (by omega))
    have hZN : Z < N := by have := Int.tmod_lt_of_pos x3 (show (0 : Int) < N by omega); omega
    have HLN := Lib.hid hN
    have HT2 := Lib.hid (lotsC_in2 HCK.out hN hAN hZN)
    have HT3 := Lib.hid (lotsC_in2 HCK.out hN hZN hAN)
    have HT4 := Lib.hid (lotsC_in2 HCK.out hN hAN hAN)
    go_wp2_with fail
    rw [hN] at za2
    clear hN
    have hN0 : ¬ (N : Int) = 0 := by omega
    have hNz : ¬ N = 0 := by omega
    have hwx2 : IntKind.i64.wrap x2 = x2 := IntWalk.i64_in _ (by omega)
    have hwx3 : IntKind.i64.wrap x3 = x3 := IntWalk.i64_in _ (by omega)
    have hwA : IntKind.i64.wrap (A : Int) = A := IntWalk.i64_in _ (by omega)
    have hwZ : IntKind.i64.wrap (Z : Int) = Z := IntWalk.i64_in _ (by omega)
    refine reg_invW (fun d a W => a = { tmps := #[bookV b p cap, Value.int IntKind.u8 x2, Value.int IntKind.u8 x3, Value.pointer (some { block := g0, off := 0 }), undef, undef, Value.bool false, (bif d 10 then Value.int IntKind.i64 ((A : Int)) else undef), (bif d 11 then Value.int IntKind.i64 ((Z : Int)) else undef), undef, undef, undef, undef, undef, undef, undef, undef, undef, Value.agg #[Value.int IntKind.i64 b.lo, Value.int IntKind.i64 b.hi, Value.int IntKind.i64 (N : Int), Value.slice p b.n cap], Value.bool true, Value.bool false, undef, (bif d 0 then Value.int IntKind.u8 x2 else undef), (bif d 1 then Value.int IntKind.i64 (x2) else undef), (bif d 2 then Value.pointer (some { block := g0, off := 2 }) else undef), (bif d 3 then Value.int IntKind.i64 ((N : Int)) else undef), (bif d 4 then Value.int IntKind.i64 ((A : Int)) else undef), (bif d 5 then Value.int IntKind.u8 x3 else undef), (bif d 6 then Value.int IntKind.i64 (x3) else undef), (bif d 7 then Value.pointer (some { block := g0, off := 2 }) else undef), (bif d 8 then Value.int IntKind.i64 ((N : Int)) else undef), (bif d 9 then Value.int IntKind.i64 ((Z : Int)) else undef), undef, undef, undef, undef, undef, undef, undef, undef, undef, undef, undef, undef, undef, undef, undef, undef, undef, undef, undef, undef, undef, undef, undef, undef, undef, undef, undef, undef, undef, undef, undef, undef, undef, undef, undef, undef, undef, undef, undef, undef, undef, undef, undef, undef, undef, undef, undef, undef, undef, undef, undef, undef, undef, undef, undef, undef, undef, undef, undef, undef, undef, undef, undef, undef, undef, undef, undef, undef, undef, undef, undef, undef, undef, undef, undef, undef, undef, undef, undef, undef, undef, undef, undef, undef, undef, undef, undef, undef, undef, undef, undef, undef, undef, undef, undef, undef, undef, undef, undef, undef, undef, undef, undef, undef, undef, undef, undef, undef, undef, undef, undef, undef, undef, undef, undef, undef, undef, undef, undef, undef, undef, undef, undef, undef, undef, undef, undef, undef, undef, undef, undef, undef, undef, undef, undef, undef, undef, undef, undef, undef, undef, undef, undef, undef, undef, undef, undef, undef, undef, undef, undef, undef], defers := [] } ∧ Hid (Pure w1 W)) hmx (by kernel_rfl) ?_ ?_ ?_
    · exact ⟨rfl, (Diff.refl w1).drew⟩
    · refine ⟨?_, ?_, ?_, ?_, ?_, ?_, ?_, ?_, ?_, ?_, ?_, ?_, trivial⟩
      · rintro d a W hdi hdep hcl ⟨rfl, hw⟩ K hK
        have E := hcl.facts 0 hdi rfl hdep [] [1, 4, 10, 11] (by kernel_rfl) (by kernel_rfl)
        simp only [AllT, AllF] at E
        clear hdi hdep hcl
        go_simp
        exact hK _ _ ⟨by simp [upd, E], hw⟩
      · rintro d a W hdi hdep hcl ⟨rfl, hw⟩ K hK
        have E := hcl.facts 1 hdi rfl hdep [0] [4, 10, 11] (by kernel_rfl) (by kernel_rfl)
        simp only [AllT, AllF] at E
        clear hdi hdep hcl
        go_simp
        exact hK _ _ ⟨by simp [upd, E], hw⟩
      · rintro d a W hdi hdep hcl ⟨rfl, hw⟩ K hK
        have E := hcl.facts 2 hdi rfl hdep [] [3, 4, 10, 11] (by kernel_rfl) (by kernel_rfl)
        simp only [AllT, AllF] at E
        clear hdi hdep hcl
        go_simp
        exact hK _ _ ⟨by simp [upd, E], hw⟩
      · rintro d a W hdi hdep hcl ⟨rfl, hw⟩ K hK
        have E := hcl.facts 3 hdi rfl hdep [2] [4, 10, 11] (by kernel_rfl) (by kernel_rfl)
        simp only [AllT, AllF] at E
        clear hdi hdep hcl
        have z := ((pcell hw.out).1 _ _ zal).trans za2
        go_simp
        exact hK _ _ ⟨by simp [upd, E], hw⟩
      · rintro d a W hdi hdep hcl ⟨rfl, hw⟩ K hK
        have E := hcl.facts 4 hdi rfl hdep [0, 1, 2, 3] [10, 11] (by kernel_rfl) (by kernel_rfl)
        simp only [AllT, AllF] at E
        clear hdi hdep hcl
        go_simp
        exact hK _ _ ⟨by simp [upd, E], hw⟩
      · rintro d a W hdi hdep hcl ⟨rfl, hw⟩ K hK
        have E := hcl.facts 5 hdi rfl hdep [] [6, 9, 11] (by kernel_rfl) (by kernel_rfl)
        simp only [AllT, AllF] at E
        clear hdi hdep hcl
        go_simp
        exact hK _ _ ⟨by simp [upd, E], hw⟩
      · rintro d a W hdi hdep hcl ⟨rfl, hw⟩ K hK
        have E := hcl.facts 6 hdi rfl hdep [5] [9, 11] (by kernel_rfl) (by kernel_rfl)
        simp only [AllT, AllF] at E
        clear hdi hdep hcl
        go_simp
        exact hK _ _ ⟨by simp [upd, E], hw⟩
      · rintro d a W hdi hdep hcl ⟨rfl, hw⟩ K hK
        have E := hcl.facts 7 hdi rfl hdep [] [8, 9, 11] (by kernel_rfl) (by kernel_rfl)
        simp only [AllT, AllF] at E
        clear hdi hdep hcl
        go_simp
        exact hK _ _ ⟨by simp [upd, E], hw⟩
      · rintro d a W hdi hdep hcl ⟨rfl, hw⟩ K hK
        have E := hcl.facts 8 hdi rfl hdep [7] [9, 11] (by kernel_rfl) (by kernel_rfl)
        simp only [AllT, AllF] at E
        clear hdi hdep hcl
        have z := ((pcell hw.out).1 _ _ zal).trans za2
        go_simp
        exact hK _ _ ⟨by simp [upd, E], hw⟩
      · rintro d a W hdi hdep hcl ⟨rfl, hw⟩ K hK
        have E := hcl.facts 9 hdi rfl hdep [5, 6, 7, 8] [11] (by kernel_rfl) (by kernel_rfl)
        simp only [AllT, AllF] at E
        clear hdi hdep hcl
        go_simp
        exact hK _ _ ⟨by simp [upd, E], hw⟩
      · rintro d a W hdi hdep hcl ⟨rfl, hw⟩ K hK
        have E := hcl.facts 10 hdi rfl hdep [0, 1, 2, 3, 4] [11] (by kernel_rfl) (by kernel_rfl)
        simp only [AllT, AllF] at E
        clear hdi hdep hcl
        go_simp
        exact hK _ _ ⟨by simp [upd, E], hw⟩
      · rintro d a W hdi hdep hcl ⟨rfl, hw⟩ K hK
        have E := hcl.facts 11 hdi rfl hdep [0, 1, 2, 3, 4, 5, 6, 7, 8, 9, 10] [] (by kernel_rfl) (by kernel_rfl)
        simp only [AllT, AllF] at E
        clear hdi hdep hcl
        go_simp
        exact hK _ _ ⟨by simp [upd, E], hw⟩
    · rintro d a W hall ⟨rfl, hw⟩
      have E := AllT.all hall [0, 1, 2, 3, 4, 5, 6, 7, 8, 9, 10, 11] (by kernel_rfl)
      simp only [AllT] at E
      simp only [E, cond_true] at hw ⊢
      clear E hall
      obtain ⟨w2, hww⟩ : ∃ v, W = v := ⟨_, rfl⟩
      rw [hww] at hw ⊢
      have hp : Pure w1 w2 := hw.out
      clear hw hww W d
      clear za0 za1 za2 za3 zal
      have hP2 : Hid (Pure w w2) := hP1.out.trans hp
      have HA2 := Lib.hid (HA1.out.pure hp)
      have HB2 := Lib.hid (HB1.out.to hp)
      have HG2 := Lib.hid (HG1.out.to hp)
      clear hp hP1 HA1 HB1 HG1
      clear hA hZ hwx2 hwx3 hb2 hb3 hwA hwZ
      obtain ⟨za0, za1, za2, za3, zal⟩ := HA2.out
      go_wp2_with fail
      cases hno : noneB b.es with
      | true =>
        have HNO := Lib.hid hno
        clear hno
        refine (spans_any w2 b p cap hs HCK.out HB2.out HG2.out).mono ?_
        rintro e w3 ⟨hq, hp⟩
        have he := hq.one HNO.out
        subst he
        clear hq
        have hP3 : Hid (Pure w w3) := hP2.out.trans hp
        have HA3 := Lib.hid (HA2.out.pure hp)
        have HB3 := Lib.hid (HB2.out.to hp)
        have HG3 := Lib.hid (HG2.out.to hp)
        clear hp hP2 HA2 za0 za1 za2 za3 zal HB2 HG2
        obtain ⟨za0, za1, za2, za3, zal⟩ := HA3.out
        go_wp2_with fail
        refine (Apart_any w3 b p cap A Z hs HB3.out HG3.out).mono ?_
        rintro e w4 ⟨rfl, hp⟩
        rw [HT2.out, Int.toNat_natCast, Int.toNat_natCast, apQ_eN b HNO.out]
        have hP4 : Hid (Pure w w4) := hP3.out.trans hp
        have HA4 := Lib.hid (HA3.out.pure hp)
        have HB4 := Lib.hid (HB3.out.to hp)
        have HG4 := Lib.hid (HG3.out.to hp)
        clear hp hP3 HA3 za0 za1 za2 za3 zal HB3 HG3
        obtain ⟨za0, za1, za2, za3, zal⟩ := HA4.out
        go_wp2_with fail
        obtain ⟨w5, hw5⟩ : ∃ v, w4.alloc (.cells #[.int .i64 0, .int .i64 0] 23) = v := ⟨_, rfl⟩
        have hp : Pure w4 w5 := by rw [← hw5]; exact (Diff.refl _).alloc _
        have hx : RgAt w4.heap.size 0 0 w5 := by rw [← hw5]; exact RgAt.new _ _ _
        obtain ⟨gs, hgs⟩ : ∃ g, w4.heap.size = g := ⟨_, rfl⟩
        rw [hw5]
        rw [hgs] at hx ⊢
        clear hw5 hgs
        clear za0 za1 za2 za3 zal
        have hP5 : Hid (Pure w w5) := hP4.out.trans hp
        have HA5 := Lib.hid (HA4.out.pure hp)
        have HB5 := Lib.hid (HB4.out.to hp)
        have HG5 := Lib.hid (HG4.out.to hp)
        have Ks5 := Lib.hid (hx)
        clear hp hP4 HA4 HB4 HG4
        clear hx
        obtain ⟨za0, za1, za2, za3, zal⟩ := HA5.out
        go_wp2_with fail
        refine (Apart_any w5 b p cap Z A hs HB5.out HG5.out).mono ?_
        rintro e w6 ⟨rfl, hp⟩
        rw [HT3.out, Int.toNat_natCast, Int.toNat_natCast, apQ_eN b HNO.out]
        have hP6 : Hid (Pure w w6) := hP5.out.trans hp
        have HA6 := Lib.hid (HA5.out.pure hp)
        have HB6 := Lib.hid (HB5.out.to hp)
        have HG6 := Lib.hid (HG5.out.to hp)
        have Ks6 := Lib.hid (Ks5.out.to hp)
        clear hp hP5 HA5 za0 za1 za2 za3 zal HB5 HG5 Ks5
        obtain ⟨za0, za1, za2, za3, zal⟩ := HA6.out
        go_wp2_with fail
        obtain ⟨w7, hw7⟩ : ∃ v, w6.alloc (.cells #[.int .i64 0, .int .i64 0] 23) = v := ⟨_, rfl⟩
        have hp : Pure w6 w7 := by rw [← hw7]; exact (Diff.refl _).alloc _
        have hx : RgAt w6.heap.size 0 0 w7 := by rw [← hw7]; exact RgAt.new _ _ _
        obtain ⟨gt, hgt⟩ : ∃ g, w6.heap.size = g := ⟨_, rfl⟩
        rw [hw7]
        rw [hgt] at hx ⊢
        clear hw7 hgt
        clear za0 za1 za2 za3 zal
        have hP7 : Hid (Pure w w7) := hP6.out.trans hp
        have HA7 := Lib.hid (HA6.out.pure hp)
        have HB7 := Lib.hid (HB6.out.to hp)
        have HG7 := Lib.hid (HG6.out.to hp)
        have Ks7 := Lib.hid (Ks6.out.to hp)
        have Kt7 := Lib.hid (hx)
        clear hp hP6 HA6 HB6 HG6 Ks6
        clear hx
        obtain ⟨za0, za1, za2, za3, zal⟩ := HA7.out
        go_wp2_with fail
        refine (Apart_any w7 b p cap A A hs HB7.out HG7.out).mono ?_
        rintro e w8 ⟨rfl, hp⟩
        rw [HT4.out, Int.toNat_natCast, apQ_eN b HNO.out]
        have hP8 : Hid (Pure w w8) := hP7.out.trans hp
        have HA8 := Lib.hid (HA7.out.pure hp)
        have HB8 := Lib.hid (HB7.out.to hp)
        have HG8 := Lib.hid (HG7.out.to hp)
        have Ks8 := Lib.hid (Ks7.out.to hp)
        have Kt8 := Lib.hid (Kt7.out.to hp)
        clear hp hP7 HA7 za0 za1 za2 za3 zal HB7 HG7 Ks7 Kt7
        obtain ⟨za0, za1, za2, za3, zal⟩ := HA8.out
        go_wp2_with fail
        obtain ⟨w9, hw9⟩ : ∃ v, w8.alloc (.cells #[.int .i64 0, .int .i64 0] 23) = v := ⟨_, rfl⟩
        have hp : Pure w8 w9 := by rw [← hw9]; exact (Diff.refl _).alloc _
        have hx : RgAt w8.heap.size 0 0 w9 := by rw [← hw9]; exact RgAt.new _ _ _
        obtain ⟨gu, hgu⟩ : ∃ g, w8.heap.size = g := ⟨_, rfl⟩
        rw [hw9]
        rw [hgu] at hx ⊢
        clear hw9 hgu
        clear za0 za1 za2 za3 zal
        have hP9 : Hid (Pure w w9) := hP8.out.trans hp
        have HA9 := Lib.hid (HA8.out.pure hp)
        have HB9 := Lib.hid (HB8.out.to hp)
        have HG9 := Lib.hid (HG8.out.to hp)
        have Ks9 := Lib.hid (Ks8.out.to hp)
        have Kt9 := Lib.hid (Kt8.out.to hp)
        have Ku9 := Lib.hid (hx)
        clear hp hP8 HA8 HB8 HG8 Ks8 Kt8
        clear hx
        obtain ⟨za0, za1, za2, za3, zal⟩ := HA9.out
        go_wp2_with fail
        refine (Works_any w9 HG9.out).mono ?_
        rintro e w10 ⟨rfl, hp⟩
        have hP10 : Hid (Pure w w10) := hP9.out.trans hp
        have HA10 := Lib.hid (HA9.out.pure hp)
        have HB10 := Lib.hid (HB9.out.to hp)
        have HG10 := Lib.hid (HG9.out.to hp)
        have Ks10 := Lib.hid (Ks9.out.to hp)
        have Kt10 := Lib.hid (Kt9.out.to hp)
        have Ku10 := Lib.hid (Ku9.out.to hp)
        clear hp hP9 HA9 za0 za1 za2 za3 zal HB9 HG9 Ks9 Kt9 Ku9
        obtain ⟨za0, za1, za2, za3, zal⟩ := HA10.out
        go_wp2_with fail
        exact bodyPost_ret (v := .bool true) (by simp [results, Tryd.results12, go_sem]) rfl ⟨rfl, hP10.out⟩
      | false =>
        have HNO := Lib.hid hno
        clear hno
        obtain ⟨xl, xh, t1, t2, t3, m1, m2, m3, m4, m5, m6, m7⟩ := apart_facts b HCK.out HNO.out HLN.out hAN hZN
        have HQ1 := Lib.hid t1
        have HQ2 := Lib.hid t2
        have HQ3 := Lib.hid t3
        have HM := Lib.hid (And.intro m1 (And.intro m2 (And.intro m3 (And.intro m4 (And.intro m5 (And.intro m6 m7))))))
        clear t1 t2 t3 m1 m2 m3 m4 m5 m6 m7
        refine (spans_any w2 b p cap hs HCK.out HB2.out HG2.out).mono ?_
        rintro e w3 ⟨hq, hp⟩
        obtain ⟨sq, sc, rfl, hsp⟩ := hq.two HNO.out HLN.out
        clear hq
        have hP3 : Hid (Pure w w3) := hP2.out.trans hp
        have HA3 := Lib.hid (HA2.out.pure hp)
        have HB3 := Lib.hid (HB2.out.to hp)
        have HG3 := Lib.hid (HG2.out.to hp)
        have SP3 := Lib.hid (hsp)
        clear hp hP2 HA2 za0 za1 za2 za3 zal HB2 HG2
        obtain ⟨za0, za1, za2, za3, zal⟩ := HA3.out
        clear hsp
        go_wp2_with fail
        refine (Apart_any w3 b p cap A Z hs HB3.out HG3.out).mono ?_
        rintro e w4 ⟨rfl, hp⟩
        rw [HT2.out, Int.toNat_natCast, Int.toNat_natCast, HQ1.out]
        have hP4 : Hid (Pure w w4) := hP3.out.trans hp
        have HA4 := Lib.hid (HA3.out.pure hp)
        have HB4 := Lib.hid (HB3.out.to hp)
        have HG4 := Lib.hid (HG3.out.to hp)
        have SP4 := Lib.hid (SP3.out.to hp)
        clear hp hP3 HA3 za0 za1 za2 za3 zal HB3 HG3 SP3
        obtain ⟨za0, za1, za2, za3, zal⟩ := HA4.out
        go_wp2_with fail
        obtain ⟨w5, hw5⟩ : ∃ v, w4.alloc (.cells #[.int .i64 xl, .int .i64 xh] 23) = v := ⟨_, rfl⟩
        have hp : Pure w4 w5 := by rw [← hw5]; exact (Diff.refl _).alloc _
        have hx : RgAt w4.heap.size xl xh w5 := by rw [← hw5]; exact RgAt.new _ _ _
        obtain ⟨gs, hgs⟩ : ∃ g, w4.heap.size = g := ⟨_, rfl⟩
        rw [hw5]
        rw [hgs] at hx ⊢
        clear hw5 hgs
        clear za0 za1 za2 za3 zal
        have hP5 : Hid (Pure w w5) := hP4.out.trans hp
        have HA5 := Lib.hid (HA4.out.pure hp)
        have HB5 := Lib.hid (HB4.out.to hp)
        have HG5 := Lib.hid (HG4.out.to hp)
        have SP5 := Lib.hid (SP4.out.to hp)
        have Ks5 := Lib.hid (hx)
        clear hp hP4 HA4 HB4 HG4 SP4
        clear hx
        obtain ⟨za0, za1, za2, za3, zal⟩ := HA5.out
        go_wp2_with fail
        refine (Apart_any w5 b p cap Z A hs HB5.out HG5.out).mono ?_
        rintro e w6 ⟨rfl, hp⟩
        rw [HT3.out, Int.toNat_natCast, Int.toNat_natCast, HQ2.out]
        have hP6 : Hid (Pure w w6) := hP5.out.trans hp
        have HA6 := Lib.hid (HA5.out.pure hp)
        have HB6 := Lib.hid (HB5.out.to hp)
        have HG6 := Lib.hid (HG5.out.to hp)
        have SP6 := Lib.hid (SP5.out.to hp)
        have Ks6 := Lib.hid (Ks5.out.to hp)
        clear hp hP5 HA5 za0 za1 za2 za3 zal HB5 HG5 SP5 Ks5
        obtain ⟨za0, za1, za2, za3, zal⟩ := HA6.out
        go_wp2_with fail
        obtain ⟨w7, hw7⟩ : ∃ v, w6.alloc (.cells #[.int .i64 (-xh), .int .i64 (-xl)] 23) = v := ⟨_, rfl⟩
        have hp : Pure w6 w7 := by rw [← hw7]; exact (Diff.refl _).alloc _
        have hx : RgAt w6.heap.size (-xh) (-xl) w7 := by rw [← hw7]; exact RgAt.new _ _ _
        obtain ⟨gt, hgt⟩ : ∃ g, w6.heap.size = g := ⟨_, rfl⟩
        rw [hw7]
        rw [hgt] at hx ⊢
        clear hw7 hgt
        clear za0 za1 za2 za3 zal
        have hP7 : Hid (Pure w w7) := hP6.out.trans hp
        have HA7 := Lib.hid (HA6.out.pure hp)
        have HB7 := Lib.hid (HB6.out.to hp)
        have HG7 := Lib.hid (HG6.out.to hp)
        have SP7 := Lib.hid (SP6.out.to hp)
        have Ks7 := Lib.hid (Ks6.out.to hp)
        have Kt7 := Lib.hid (hx)
        clear hp hP6 HA6 HB6 HG6 SP6 Ks6
        clear hx
        obtain ⟨za0, za1, za2, za3, zal⟩ := HA7.out
        go_wp2_with fail
        refine (Apart_any w7 b p cap A A hs HB7.out HG7.out).mono ?_
        rintro e w8 ⟨rfl, hp⟩
        rw [HT4.out, Int.toNat_natCast, HQ3.out]
        have hP8 : Hid (Pure w w8) := hP7.out.trans hp
        have HA8 := Lib.hid (HA7.out.pure hp)
        have HB8 := Lib.hid (HB7.out.to hp)
        have HG8 := Lib.hid (HG7.out.to hp)
        have SP8 := Lib.hid (SP7.out.to hp)
        have Ks8 := Lib.hid (Ks7.out.to hp)
        have Kt8 := Lib.hid (Kt7.out.to hp)
        clear hp hP7 HA7 za0 za1 za2 za3 zal HB7 HG7 SP7 Ks7 Kt7
        obtain ⟨za0, za1, za2, za3, zal⟩ := HA8.out
        go_wp2_with fail
        obtain ⟨w9, hw9⟩ : ∃ v, w8.alloc (.cells #[.int .i64 0, .int .i64 0] 23) = v := ⟨_, rfl⟩
        have hp : Pure w8 w9 := by rw [← hw9]; exact (Diff.refl _).alloc _
        have hx : RgAt w8.heap.size 0 0 w9 := by rw [← hw9]; exact RgAt.new _ _ _
        obtain ⟨gu, hgu⟩ : ∃ g, w8.heap.size = g := ⟨_, rfl⟩
        rw [hw9]
        rw [hgu] at hx ⊢
        clear hw9 hgu
        clear za0 za1 za2 za3 zal
        have hP9 : Hid (Pure w w9) := hP8.out.trans hp
        have HA9 := Lib.hid (HA8.out.pure hp)
        have HB9 := Lib.hid (HB8.out.to hp)
        have HG9 := Lib.hid (HG8.out.to hp)
        have SP9 := Lib.hid (SP8.out.to hp)
        have Ks9 := Lib.hid (Ks8.out.to hp)
        have Kt9 := Lib.hid (Kt8.out.to hp)
        have Ku9 := Lib.hid (hx)
        clear hp hP8 HA8 HB8 HG8 SP8 Ks8 Kt8
        clear hx
        obtain ⟨za0, za1, za2, za3, zal⟩ := HA9.out
        go_wp2_with fail
        have hm := HM.out
        have q1 : -1000 ≤ xl := hm.1
        have q2 : xh ≤ 1000 := hm.2.1
        have q3 : xl ≤ xh := hm.2.2.1
        clear hm
        have hwn1 : IntKind.i64.wrap (-xh) = -xh := IntWalk.i64_in _ (by omega)
        have hwn2 : IntKind.i64.wrap (-xl) = -xl := IntWalk.i64_in _ (by omega)
        refine reg_invW (fun d a W => a = { tmps := #[bookV b p cap, Value.int IntKind.u8 x2, Value.int IntKind.u8 x3, Value.pointer (some { block := g0, off := 0 }), undef, undef, Value.bool false, Value.int IntKind.i64 (A : Int), Value.int IntKind.i64 (Z : Int), Value.slice sq N sc, Value.bool true, Value.bool true, Value.pointer (some { block := gs, off := 0 }), Value.int IntKind.i64 0, Value.pointer (some { block := gt, off := 0 }), Value.int IntKind.i64 0, Value.pointer (some { block := gu, off := 0 }), Value.int IntKind.i64 0, Value.agg #[Value.int IntKind.i64 b.lo, Value.int IntKind.i64 b.hi, Value.int IntKind.i64 (N : Int), Value.slice p b.n cap], Value.bool true, Value.bool false, undef, Value.int IntKind.u8 x2, Value.int IntKind.i64 x2, Value.pointer (some { block := g0, off := 2 }), Value.int IntKind.i64 (N : Int), Value.int IntKind.i64 (A : Int), Value.int IntKind.u8 x3, Value.int IntKind.i64 x3, Value.pointer (some { block := g0, off := 2 }), Value.int IntKind.i64 (N : Int), Value.int IntKind.i64 (Z : Int), Value.tuple #[Value.slice sq N sc, Value.bool true, Value.bool true], Value.agg #[Value.int IntKind.i64 b.lo, Value.int IntKind.i64 b.hi, Value.int IntKind.i64 b.lots, Value.slice p b.n cap], Value.tuple #[Value.slice sq N sc, Value.bool true, Value.bool true], Value.slice sq N sc, Value.bool true, Value.bool true, Value.tuple #[Value.agg #[Value.int IntKind.i64 xl, Value.int IntKind.i64 xh], Value.int IntKind.i64 0], Value.agg #[Value.int IntKind.i64 b.lo, Value.int IntKind.i64 b.hi, Value.int IntKind.i64 b.lots, Value.slice p b.n cap], Value.int IntKind.i64 (A : Int), Value.int IntKind.i64 (Z : Int), Value.tuple #[Value.agg #[Value.int IntKind.i64 xl, Value.int IntKind.i64 xh], Value.int IntKind.i64 0], Value.agg #[Value.int IntKind.i64 xl, Value.int IntKind.i64 xh], Value.int IntKind.i64 0, Value.tuple #[Value.agg #[Value.int IntKind.i64 (-xh), Value.int IntKind.i64 (-xl)], Value.int IntKind.i64 0], Value.agg #[Value.int IntKind.i64 b.lo, Value.int IntKind.i64 b.hi, Value.int IntKind.i64 b.lots, Value.slice p b.n cap], Value.int IntKind.i64 (Z : Int), Value.int IntKind.i64 (A : Int), Value.tuple #[Value.agg #[Value.int IntKind.i64 (-xh), Value.int IntKind.i64 (-xl)], Value.int IntKind.i64 0], Value.agg #[Value.int IntKind.i64 (-xh), Value.int IntKind.i64 (-xl)], Value.int IntKind.i64 0, Value.tuple #[Value.agg #[Value.int IntKind.i64 0, Value.int IntKind.i64 0], Value.int IntKind.i64 0], Value.agg #[Value.int IntKind.i64 b.lo, Value.int IntKind.i64 b.hi, Value.int IntKind.i64 b.lots, Value.slice p b.n cap], Value.int IntKind.i64 (A : Int), Value.int IntKind.i64 (A : Int), Value.tuple #[Value.agg #[Value.int IntKind.i64 0, Value.int IntKind.i64 0], Value.int IntKind.i64 0], Value.agg #[Value.int IntKind.i64 0, Value.int IntKind.i64 0], Value.int IntKind.i64 0, Value.bool true, Value.bool false, Value.bool true, Value.bool false, undef, undef, undef, undef, undef, undef, undef, undef, undef, undef, undef, undef, undef, (bif d 0 then Value.int IntKind.i64 (0) else undef), (bif d 1 then Value.bool false else undef), (bif d 2 then Value.bool false else undef), (bif d 3 then Value.int IntKind.i64 (0) else undef), (bif d 4 then Value.bool false else undef), (bif d 5 then Value.bool false else undef), (bif d 6 then Value.bool false else undef), (bif d 7 then Value.int IntKind.i64 (0) else undef), (bif d 8 then Value.bool false else undef), (bif d 9 then Value.bool false else undef), (bif d 10 then Value.bool false else undef), (bif d 11 then Value.agg #[Value.int IntKind.i64 0, Value.int IntKind.i64 0] else undef), (bif d 12 then Value.agg #[Value.int IntKind.i64 0, Value.int IntKind.i64 0] else undef), (bif d 13 then Value.bool false else undef), (bif d 14 then Value.bool false else undef), (bif d 15 then Value.bool false else undef), (bif d 16 then Value.pointer (some { block := gs, off := 0 }) else undef), (bif d 17 then Value.int IntKind.i64 (xl) else undef), (bif d 18 then Value.bool false else undef), (bif d 19 then Value.bool false else undef), (bif d 20 then Value.bool false else undef), (bif d 21 then Value.pointer (some { block := gs, off := 1 }) else undef), (bif d 22 then Value.int IntKind.i64 (xh) else undef), (bif d 23 then Value.bool false else undef), (bif d 24 then Value.bool false else undef), (bif d 25 then Value.bool false else undef), (bif d 26 then Value.pointer (some { block := gs, off := 0 }) else undef), (bif d 27 then Value.int IntKind.i64 (xl) else undef), (bif d 28 then Value.pointer (some { block := gs, off := 1 }) else undef), (bif d 29 then Value.int IntKind.i64 (xh) else undef), (bif d 30 then Value.bool false else undef), (bif d 31 then Value.bool false else undef), (bif d 32 then Value.bool false else undef), (bif d 33 then Value.agg #[Value.int IntKind.i64 (-xh), Value.int IntKind.i64 (-xl)] else undef), (bif d 34 then Value.pointer (some { block := gs, off := 1 }) else undef), (bif d 35 then Value.int IntKind.i64 (xh) else undef), (bif d 36 then Value.int IntKind.i64 (-xh) else undef), (bif d 37 then Value.pointer (some { block := gs, off := 0 }) else undef), (bif d 38 then Value.int IntKind.i64 (xl) else undef), (bif d 39 then Value.int IntKind.i64 (-xl) else undef), (bif d 40 then Value.agg #[Value.int IntKind.i64 (-xh), Value.int IntKind.i64 (-xl)] else undef), (bif d 41 then Value.bool false else undef), (bif d 42 then Value.bool false else undef), undef, undef, undef, undef, undef, undef, undef, undef, undef, undef, undef, undef, undef, undef, undef, undef, undef, undef, undef, undef, undef, undef, undef, undef, undef, undef, undef, undef, undef, undef, undef, undef, undef, undef, undef, undef, undef, undef, undef, undef, undef, undef, undef, undef, undef, undef, undef, undef, undef, undef, undef, undef, undef, undef, undef, undef, undef, undef, undef, undef, undef, undef, undef, undef, undef], defers := [] } ∧ Hid (Pure w9 W)) hmx (by kernel_rfl) ?_ ?_ ?_
        · exact ⟨rfl, (Diff.refl w9).drew⟩
        · refine ⟨?_, ?_, ?_, ?_, ?_, ?_, ?_, ?_, ?_, ?_, ?_, ?_, ?_, ?_, ?_, ?_, ?_, ?_, ?_, ?_, ?_, ?_, ?_, ?_, ?_, ?_, ?_, ?_, ?_, ?_, ?_, ?_, ?_, ?_, ?_, ?_, ?_, ?_, ?_, ?_, ?_, ?_, ?_, trivial⟩
          · rintro d a W hdi hdep hcl ⟨rfl, hw⟩ K hK
            have E := hcl.facts 0 hdi rfl hdep [] [1, 2, 3, 4, 5, 6, 7, 8, 9, 10, 11, 12, 13, 14, 15, 16, 17, 18, 19, 20, 21, 22, 23, 24, 25, 26, 27, 28, 29, 30, 31, 32, 33, 34, 35, 36, 37, 38, 39, 40, 41, 42] (by kernel_rfl) (by kernel_rfl)
            simp only [AllT, AllF] at E
            clear hdi hdep hcl
            go_simp
            exact hK _ _ ⟨by simp [upd, E, q1, q2, q3], hw⟩
          · rintro d a W hdi hdep hcl ⟨rfl, hw⟩ K hK
            have E := hcl.facts 1 hdi rfl hdep [0] [2, 3, 4, 5, 6, 7, 8, 9, 10, 11, 12, 13, 14, 15, 16, 17, 18, 19, 20, 21, 22, 23, 24, 25, 26, 27, 28, 29, 30, 31, 32, 33, 34, 35, 36, 37, 38, 39, 40, 41, 42] (by kernel_rfl) (by kernel_rfl)
            simp only [AllT, AllF] at E
            clear hdi hdep hcl
            go_simp
            exact hK _ _ ⟨by simp [upd, E, q1, q2, q3], hw⟩
          · rintro d a W hdi hdep hcl ⟨rfl, hw⟩ K hK
            have E := hcl.facts 2 hdi rfl hdep [0, 1] [3, 4, 5, 6, 7, 8, 9, 10, 11, 12, 13, 14, 15, 16, 17, 18, 19, 20, 21, 22, 23, 24, 25, 26, 27, 28, 29, 30, 31, 32, 33, 34, 35, 36, 37, 38, 39, 40, 41, 42] (by kernel_rfl) (by kernel_rfl)
            simp only [AllT, AllF] at E
            clear hdi hdep hcl
            go_simp
            exact hK _ _ ⟨by simp [upd, E, q1, q2, q3], hw⟩
          · rintro d a W hdi hdep hcl ⟨rfl, hw⟩ K hK
            have E := hcl.facts 3 hdi rfl hdep [0, 1, 2] [4, 5, 6, 7, 8, 9, 10, 11, 12, 13, 14, 15, 16, 17, 18, 19, 20, 21, 22, 23, 24, 25, 26, 27, 28, 29, 30, 31, 32, 33, 34, 35, 36, 37, 38, 39, 40, 41, 42] (by kernel_rfl) (by kernel_rfl)
            simp only [AllT, AllF] at E
            clear hdi hdep hcl
            go_simp
            exact hK _ _ ⟨by simp [upd, E, q1, q2, q3], hw⟩
          · rintro d a W hdi hdep hcl ⟨rfl, hw⟩ K hK
            have E := hcl.facts 4 hdi rfl hdep [0, 1, 2, 3] [5, 6, 7, 8, 9, 10, 11, 12, 13, 14, 15, 16, 17, 18, 19, 20, 21, 22, 23, 24, 25, 26, 27, 28, 29, 30, 31, 32, 33, 34, 35, 36, 37, 38, 39, 40, 41, 42] (by kernel_rfl) (by kernel_rfl)
            simp only [AllT, AllF] at E
            clear hdi hdep hcl
            go_simp
            exact hK _ _ ⟨by simp [upd, E, q1, q2, q3], hw⟩
          · rintro d a W hdi hdep hcl ⟨rfl, hw⟩ K hK
            have E := hcl.facts 5 hdi rfl hdep [0, 1, 2, 3, 4] [6, 7, 8, 9, 10, 11, 12, 13, 14, 15, 16, 17, 18, 19, 20, 21, 22, 23, 24, 25, 26, 27, 28, 29, 30, 31, 32, 33, 34, 35, 36, 37, 38, 39, 40, 41, 42] (by kernel_rfl) (by kernel_rfl)
            simp only [AllT, AllF] at E
            clear hdi hdep hcl
            go_simp
            exact hK _ _ ⟨by simp [upd, E, q1, q2, q3], hw⟩
          · rintro d a W hdi hdep hcl ⟨rfl, hw⟩ K hK
            have E := hcl.facts 6 hdi rfl hdep [0, 1, 2, 3, 4, 5] [7, 8, 9, 10, 11, 12, 13, 14, 15, 16, 17, 18, 19, 20, 21, 22, 23, 24, 25, 26, 27, 28, 29, 30, 31, 32, 33, 34, 35, 36, 37, 38, 39, 40, 41, 42] (by kernel_rfl) (by kernel_rfl)
            simp only [AllT, AllF] at E
            clear hdi hdep hcl
            go_simp
            exact hK _ _ ⟨by simp [upd, E, q1, q2, q3], hw⟩
          · rintro d a W hdi hdep hcl ⟨rfl, hw⟩ K hK
            have E := hcl.facts 7 hdi rfl hdep [0, 1, 2, 3, 4, 5, 6] [8, 9, 10, 11, 12, 13, 14, 15, 16, 17, 18, 19, 20, 21, 22, 23, 24, 25, 26, 27, 28, 29, 30, 31, 32, 33, 34, 35, 36, 37, 38, 39, 40, 41, 42] (by kernel_rfl) (by kernel_rfl)
            simp only [AllT, AllF] at E
            clear hdi hdep hcl
            go_simp
            exact hK _ _ ⟨by simp [upd, E, q1, q2, q3], hw⟩
          · rintro d a W hdi hdep hcl ⟨rfl, hw⟩ K hK
            have E := hcl.facts 8 hdi rfl hdep [0, 1, 2, 3, 4, 5, 6, 7] [9, 10, 11, 12, 13, 14, 15, 16, 17, 18, 19, 20, 21, 22, 23, 24, 25, 26, 27, 28, 29, 30, 31, 32, 33, 34, 35, 36, 37, 38, 39, 40, 41, 42] (by kernel_rfl) (by kernel_rfl)
            simp only [AllT, AllF] at E
            clear hdi hdep hcl
            go_simp
            exact hK _ _ ⟨by simp [upd, E, q1, q2, q3], hw⟩
          · rintro d a W hdi hdep hcl ⟨rfl, hw⟩ K hK
            have E := hcl.facts 9 hdi rfl hdep [0, 1, 2, 3, 4, 5, 6, 7, 8] [10, 11, 12, 13, 14, 15, 16, 17, 18, 19, 20, 21, 22, 23, 24, 25, 26, 27, 28, 29, 30, 31, 32, 33, 34, 35, 36, 37, 38, 39, 40, 41, 42] (by kernel_rfl) (by kernel_rfl)
            simp only [AllT, AllF] at E
            clear hdi hdep hcl
            go_simp
            exact hK _ _ ⟨by simp [upd, E, q1, q2, q3], hw⟩
          · rintro d a W hdi hdep hcl ⟨rfl, hw⟩ K hK
            have E := hcl.facts 10 hdi rfl hdep [0, 1, 2, 3, 4, 5, 6, 7, 8, 9] [11, 12, 13, 14, 15, 16, 17, 18, 19, 20, 21, 22, 23, 24, 25, 26, 27, 28, 29, 30, 31, 32, 33, 34, 35, 36, 37, 38, 39, 40, 41, 42] (by kernel_rfl) (by kernel_rfl)
            simp only [AllT, AllF] at E
            clear hdi hdep hcl
            go_simp
            exact hK _ _ ⟨by simp [upd, E, q1, q2, q3], hw⟩
          · rintro d a W hdi hdep hcl ⟨rfl, hw⟩ K hK
            have E := hcl.facts 11 hdi rfl hdep [0, 1, 2, 3, 4, 5, 6, 7, 8, 9, 10] [13, 14, 15, 16, 17, 18, 19, 20, 21, 22, 23, 24, 25, 26, 27, 28, 29, 30, 31, 32, 33, 34, 35, 36, 37, 38, 39, 40, 41, 42] (by kernel_rfl) (by kernel_rfl)
            simp only [AllT, AllF] at E
            clear hdi hdep hcl
            have r0 := (Ku9.out.to hw.out).c0
            have r1 := (Ku9.out.to hw.out).c1
            go_simp
            exact hK _ _ ⟨by simp [upd, E, q1, q2, q3], hw⟩
          · rintro d a W hdi hdep hcl ⟨rfl, hw⟩ K hK
            have E := hcl.facts 12 hdi rfl hdep [0, 1, 2, 3, 4, 5, 6, 7, 8, 9, 10] [13, 14, 15, 16, 17, 18, 19, 20, 21, 22, 23, 24, 25, 26, 27, 28, 29, 30, 31, 32, 33, 34, 35, 36, 37, 38, 39, 40, 41, 42] (by kernel_rfl) (by kernel_rfl)
            simp only [AllT, AllF] at E
            clear hdi hdep hcl
            go_simp
            refine (to_any _ _ _).mono ?_
            rintro e w99 ⟨rfl, hp6⟩
            exact hK _ _ ⟨by simp [upd, E], hw.out.trans hp6⟩
          · rintro d a W hdi hdep hcl ⟨rfl, hw⟩ K hK
            have E := hcl.facts 13 hdi rfl hdep [0, 1, 2, 3, 4, 5, 6, 7, 8, 9, 10, 11, 12] [14, 15, 16, 17, 18, 19, 20, 21, 22, 23, 24, 25, 26, 27, 28, 29, 30, 31, 32, 33, 34, 35, 36, 37, 38, 39, 40, 41, 42] (by kernel_rfl) (by kernel_rfl)
            simp only [AllT, AllF] at E
            clear hdi hdep hcl
            go_simp
            exact hK _ _ ⟨by simp [upd, E, q1, q2, q3], hw⟩
          · rintro d a W hdi hdep hcl ⟨rfl, hw⟩ K hK
            have E := hcl.facts 14 hdi rfl hdep [0, 1, 2, 3, 4, 5, 6, 7, 8, 9, 10, 11, 12, 13] [15, 16, 17, 18, 19, 20, 21, 22, 23, 24, 25, 26, 27, 28, 29, 30, 31, 32, 33, 34, 35, 36, 37, 38, 39, 40, 41, 42] (by kernel_rfl) (by kernel_rfl)
            simp only [AllT, AllF] at E
            clear hdi hdep hcl
            go_simp
            exact hK _ _ ⟨by simp [upd, E, q1, q2, q3], hw⟩
          · rintro d a W hdi hdep hcl ⟨rfl, hw⟩ K hK
            have E := hcl.facts 15 hdi rfl hdep [0, 1, 2, 3, 4, 5, 6, 7, 8, 9, 10, 11, 12, 13, 14] [16, 17, 18, 19, 20, 21, 22, 23, 24, 25, 26, 27, 28, 29, 30, 31, 32, 33, 34, 35, 36, 37, 38, 39, 40, 41, 42] (by kernel_rfl) (by kernel_rfl)
            simp only [AllT, AllF] at E
            clear hdi hdep hcl
            go_simp
            exact hK _ _ ⟨by simp [upd, E, q1, q2, q3], hw⟩
          · rintro d a W hdi hdep hcl ⟨rfl, hw⟩ K hK
            have E := hcl.facts 16 hdi rfl hdep [0, 1, 2, 3, 4, 5, 6, 7, 8, 9, 10, 11, 12, 13, 14, 15] [17, 18, 19, 20, 21, 22, 23, 24, 25, 26, 27, 28, 29, 30, 31, 32, 33, 34, 35, 36, 37, 38, 39, 40, 41, 42] (by kernel_rfl) (by kernel_rfl)
            simp only [AllT, AllF] at E
            clear hdi hdep hcl
            go_simp
            exact hK _ _ ⟨by simp [upd, E, q1, q2, q3], hw⟩
          · rintro d a W hdi hdep hcl ⟨rfl, hw⟩ K hK
            have E := hcl.facts 17 hdi rfl hdep [0, 1, 2, 3, 4, 5, 6, 7, 8, 9, 10, 11, 12, 13, 14, 15, 16] [18, 19, 20, 21, 22, 23, 24, 25, 26, 27, 28, 29, 30, 31, 32, 33, 34, 35, 36, 37, 38, 39, 40, 41, 42] (by kernel_rfl) (by kernel_rfl)
            simp only [AllT, AllF] at E
            clear hdi hdep hcl
            have r0 := (Ks9.out.to hw.out).c0
            have r1 := (Ks9.out.to hw.out).c1
            go_simp
            exact hK _ _ ⟨by simp [upd, E, q1, q2, q3], hw⟩
          · rintro d a W hdi hdep hcl ⟨rfl, hw⟩ K hK
            have E := hcl.facts 18 hdi rfl hdep [0, 1, 2, 3, 4, 5, 6, 7, 8, 9, 10, 11, 12, 13, 14, 15, 16, 17] [19, 20, 21, 22, 23, 24, 25, 26, 27, 28, 29, 30, 31, 32, 33, 34, 35, 36, 37, 38, 39, 40, 41, 42] (by kernel_rfl) (by kernel_rfl)
            simp only [AllT, AllF] at E
            clear hdi hdep hcl
            go_simp
            exact hK _ _ ⟨by simp [upd, E, q1, q2, q3], hw⟩
          · rintro d a W hdi hdep hcl ⟨rfl, hw⟩ K hK
            have E := hcl.facts 19 hdi rfl hdep [0, 1, 2, 3, 4, 5, 6, 7, 8, 9, 10, 11, 12, 13, 14, 15, 16, 17, 18] [20, 21, 22, 23, 24, 25, 26, 27, 28, 29, 30, 31, 32, 33, 34, 35, 36, 37, 38, 39, 40, 41, 42] (by kernel_rfl) (by kernel_rfl)
            simp only [AllT, AllF] at E
            clear hdi hdep hcl
            go_simp
            exact hK _ _ ⟨by simp [upd, E, q1, q2, q3], hw⟩
          · rintro d a W hdi hdep hcl ⟨rfl, hw⟩ K hK
            have E := hcl.facts 20 hdi rfl hdep [0, 1, 2, 3, 4, 5, 6, 7, 8, 9, 10, 11, 12, 13, 14, 15, 16, 17, 18, 19] [21, 22, 23, 24, 25, 26, 27, 28, 29, 30, 31, 32, 33, 34, 35, 36, 37, 38, 39, 40, 41, 42] (by kernel_rfl) (by kernel_rfl)
            simp only [AllT, AllF] at E
            clear hdi hdep hcl
            go_simp
            exact hK _ _ ⟨by simp [upd, E, q1, q2, q3], hw⟩
          · rintro d a W hdi hdep hcl ⟨rfl, hw⟩ K hK
            have E := hcl.facts 21 hdi rfl hdep [0, 1, 2, 3, 4, 5, 6, 7, 8, 9, 10, 11, 12, 13, 14, 15, 16, 17, 18, 19, 20] [22, 23, 24, 25, 26, 27, 28, 29, 30, 31, 32, 33, 34, 35, 36, 37, 38, 39, 40, 41, 42] (by kernel_rfl) (by kernel_rfl)
            simp only [AllT, AllF] at E
            clear hdi hdep hcl
            go_simp
            exact hK _ _ ⟨by simp [upd, E, q1, q2, q3], hw⟩
          · rintro d a W hdi hdep hcl ⟨rfl, hw⟩ K hK
            have E := hcl.facts 22 hdi rfl hdep [0, 1, 2, 3, 4, 5, 6, 7, 8, 9, 10, 11, 12, 13, 14, 15, 16, 17, 18, 19, 20, 21] [23, 24, 25, 26, 27, 28, 29, 30, 31, 32, 33, 34, 35, 36, 37, 38, 39, 40, 41, 42] (by kernel_rfl) (by kernel_rfl)
            simp only [AllT, AllF] at E
            clear hdi hdep hcl
            have r0 := (Ks9.out.to hw.out).c0
            have r1 := (Ks9.out.to hw.out).c1
            go_simp
            exact hK _ _ ⟨by simp [upd, E, q1, q2, q3], hw⟩
          · rintro d a W hdi hdep hcl ⟨rfl, hw⟩ K hK
            have E := hcl.facts 23 hdi rfl hdep [0, 1, 2, 3, 4, 5, 6, 7, 8, 9, 10, 11, 12, 13, 14, 15, 16, 17, 18, 19, 20, 21, 22] [24, 25, 26, 27, 28, 29, 30, 31, 32, 33, 34, 35, 36, 37, 38, 39, 40, 41, 42] (by kernel_rfl) (by kernel_rfl)
            simp only [AllT, AllF] at E
            clear hdi hdep hcl
            go_simp
            exact hK _ _ ⟨by simp [upd, E, q1, q2, q3], hw⟩
          · rintro d a W hdi hdep hcl ⟨rfl, hw⟩ K hK
            have E := hcl.facts 24 hdi rfl hdep [0, 1, 2, 3, 4, 5, 6, 7, 8, 9, 10, 11, 12, 13, 14, 15, 16, 17, 18, 19, 20, 21, 22, 23] [25, 26, 27, 28, 29, 30, 31, 32, 33, 34, 35, 36, 37, 38, 39, 40, 41, 42] (by kernel_rfl) (by kernel_rfl)
            simp only [AllT, AllF] at E
            clear hdi hdep hcl
            go_simp
            exact hK _ _ ⟨by simp [upd, E, q1, q2, q3], hw⟩
          · rintro d a W hdi hdep hcl ⟨rfl, hw⟩ K hK
            have E := hcl.facts 25 hdi rfl hdep [0, 1, 2, 3, 4, 5, 6, 7, 8, 9, 10, 11, 12, 13, 14, 15, 16, 17, 18, 19, 20, 21, 22, 23, 24] [26, 27, 28, 29, 30, 31, 32, 33, 34, 35, 36, 37, 38, 39, 40, 41, 42] (by kernel_rfl) (by kernel_rfl)
            simp only [AllT, AllF] at E
            clear hdi hdep hcl
            go_simp
            exact hK _ _ ⟨by simp [upd, E, q1, q2, q3], hw⟩
          · rintro d a W hdi hdep hcl ⟨rfl, hw⟩ K hK
            have E := hcl.facts 26 hdi rfl hdep [0, 1, 2, 3, 4, 5, 6, 7, 8, 9, 10, 11, 12, 13, 14, 15, 16, 17, 18, 19, 20, 21, 22, 23, 24, 25] [27, 30, 31, 32, 33, 34, 35, 36, 37, 38, 39, 40, 41, 42] (by kernel_rfl) (by kernel_rfl)
            simp only [AllT, AllF] at E
            clear hdi hdep hcl
            go_simp
            exact hK _ _ ⟨by simp [upd, E, q1, q2, q3], hw⟩
          · rintro d a W hdi hdep hcl ⟨rfl, hw⟩ K hK
            have E := hcl.facts 27 hdi rfl hdep [0, 1, 2, 3, 4, 5, 6, 7, 8, 9, 10, 11, 12, 13, 14, 15, 16, 17, 18, 19, 20, 21, 22, 23, 24, 25, 26] [30, 31, 32, 33, 34, 35, 36, 37, 38, 39, 40, 41, 42] (by kernel_rfl) (by kernel_rfl)
            simp only [AllT, AllF] at E
            clear hdi hdep hcl
            have r0 := (Ks9.out.to hw.out).c0
            have r1 := (Ks9.out.to hw.out).c1
            go_simp
            exact hK _ _ ⟨by simp [upd, E, q1, q2, q3], hw⟩
          · rintro d a W hdi hdep hcl ⟨rfl, hw⟩ K hK
            have E := hcl.facts 28 hdi rfl hdep [0, 1, 2, 3, 4, 5, 6, 7, 8, 9, 10, 11, 12, 13, 14, 15, 16, 17, 18, 19, 20, 21, 22, 23, 24, 25] [29, 30, 31, 32, 33, 34, 35, 36, 37, 38, 39, 40, 41, 42] (by kernel_rfl) (by kernel_rfl)
            simp only [AllT, AllF] at E
            clear hdi hdep hcl
            go_simp
            exact hK _ _ ⟨by simp [upd, E, q1, q2, q3], hw⟩
          · rintro d a W hdi hdep hcl ⟨rfl, hw⟩ K hK
            have E := hcl.facts 29 hdi rfl hdep [0, 1, 2, 3, 4, 5, 6, 7, 8, 9, 10, 11, 12, 13, 14, 15, 16, 17, 18, 19, 20, 21, 22, 23, 24, 25, 28] [30, 31, 32, 33, 34, 35, 36, 37, 38, 39, 40, 41, 42] (by kernel_rfl) (by kernel_rfl)
            simp only [AllT, AllF] at E
            clear hdi hdep hcl
            have r0 := (Ks9.out.to hw.out).c0
            have r1 := (Ks9.out.to hw.out).c1
            go_simp
            exact hK _ _ ⟨by simp [upd, E, q1, q2, q3], hw⟩
          · rintro d a W hdi hdep hcl ⟨rfl, hw⟩ K hK
            have E := hcl.facts 30 hdi rfl hdep [0, 1, 2, 3, 4, 5, 6, 7, 8, 9, 10, 11, 12, 13, 14, 15, 16, 17, 18, 19, 20, 21, 22, 23, 24, 25, 26, 27, 28, 29] [31, 32, 33, 34, 35, 36, 37, 38, 39, 40, 41, 42] (by kernel_rfl) (by kernel_rfl)
            simp only [AllT, AllF] at E
            clear hdi hdep hcl
            go_simp
            exact hK _ _ ⟨by simp [upd, E, q1, q2, q3], hw⟩
          · rintro d a W hdi hdep hcl ⟨rfl, hw⟩ K hK
            have E := hcl.facts 31 hdi rfl hdep [0, 1, 2, 3, 4, 5, 6, 7, 8, 9, 10, 11, 12, 13, 14, 15, 16, 17, 18, 19, 20, 21, 22, 23, 24, 25, 26, 27, 28, 29, 30] [32, 33, 34, 35, 36, 37, 38, 39, 40, 41, 42] (by kernel_rfl) (by kernel_rfl)
            simp only [AllT, AllF] at E
            clear hdi hdep hcl
            go_simp
            exact hK _ _ ⟨by simp [upd, E, q1, q2, q3], hw⟩
          · rintro d a W hdi hdep hcl ⟨rfl, hw⟩ K hK
            have E := hcl.facts 32 hdi rfl hdep [0, 1, 2, 3, 4, 5, 6, 7, 8, 9, 10, 11, 12, 13, 14, 15, 16, 17, 18, 19, 20, 21, 22, 23, 24, 25, 26, 27, 28, 29, 30, 31] [33, 34, 35, 36, 37, 38, 39, 40, 41, 42] (by kernel_rfl) (by kernel_rfl)
            simp only [AllT, AllF] at E
            clear hdi hdep hcl
            go_simp
            exact hK _ _ ⟨by simp [upd, E, q1, q2, q3], hw⟩
          · rintro d a W hdi hdep hcl ⟨rfl, hw⟩ K hK
            have E := hcl.facts 33 hdi rfl hdep [0, 1, 2, 3, 4, 5, 6, 7, 8, 9, 10, 11, 12, 13, 14, 15, 16, 17, 18, 19, 20, 21, 22, 23, 24, 25, 26, 27, 28, 29, 30, 31, 32] [41, 42] (by kernel_rfl) (by kernel_rfl)
            simp only [AllT, AllF] at E
            clear hdi hdep hcl
            have r0 := (Kt9.out.to hw.out).c0
            have r1 := (Kt9.out.to hw.out).c1
            go_simp
            exact hK _ _ ⟨by simp [upd, E, q1, q2, q3], hw⟩
          · rintro d a W hdi hdep hcl ⟨rfl, hw⟩ K hK
            have E := hcl.facts 34 hdi rfl hdep [0, 1, 2, 3, 4, 5, 6, 7, 8, 9, 10, 11, 12, 13, 14, 15, 16, 17, 18, 19, 20, 21, 22, 23, 24, 25, 26, 27, 28, 29, 30, 31, 32] [35, 36, 40, 41, 42] (by kernel_rfl) (by kernel_rfl)
            simp only [AllT, AllF] at E
            clear hdi hdep hcl
            go_simp
            exact hK _ _ ⟨by simp [upd, E, q1, q2, q3], hw⟩
          · rintro d a W hdi hdep hcl ⟨rfl, hw⟩ K hK
            have E := hcl.facts 35 hdi rfl hdep [0, 1, 2, 3, 4, 5, 6, 7, 8, 9, 10, 11, 12, 13, 14, 15, 16, 17, 18, 19, 20, 21, 22, 23, 24, 25, 26, 27, 28, 29, 30, 31, 32, 34] [36, 40, 41, 42] (by kernel_rfl) (by kernel_rfl)
            simp only [AllT, AllF] at E
            clear hdi hdep hcl
            have r0 := (Ks9.out.to hw.out).c0
            have r1 := (Ks9.out.to hw.out).c1
            go_simp
            exact hK _ _ ⟨by simp [upd, E, q1, q2, q3], hw⟩
          · rintro d a W hdi hdep hcl ⟨rfl, hw⟩ K hK
            have E := hcl.facts 36 hdi rfl hdep [0, 1, 2, 3, 4, 5, 6, 7, 8, 9, 10, 11, 12, 13, 14, 15, 16, 17, 18, 19, 20, 21, 22, 23, 24, 25, 26, 27, 28, 29, 30, 31, 32, 34, 35] [40, 41, 42] (by kernel_rfl) (by kernel_rfl)
            simp only [AllT, AllF] at E
            clear hdi hdep hcl
            go_simp
            exact hK _ _ ⟨by simp [upd, E, q1, q2, q3], hw⟩
          · rintro d a W hdi hdep hcl ⟨rfl, hw⟩ K hK
            have E := hcl.facts 37 hdi rfl hdep [0, 1, 2, 3, 4, 5, 6, 7, 8, 9, 10, 11, 12, 13, 14, 15, 16, 17, 18, 19, 20, 21, 22, 23, 24, 25, 26, 27, 28, 29, 30, 31, 32] [38, 39, 40, 41, 42] (by kernel_rfl) (by kernel_rfl)
            simp only [AllT, AllF] at E
            clear hdi hdep hcl
            go_simp
            exact hK _ _ ⟨by simp [upd, E, q1, q2, q3], hw⟩
          · rintro d a W hdi hdep hcl ⟨rfl, hw⟩ K hK
            have E := hcl.facts 38 hdi rfl hdep [0, 1, 2, 3, 4, 5, 6, 7, 8, 9, 10, 11, 12, 13, 14, 15, 16, 17, 18, 19, 20, 21, 22, 23, 24, 25, 26, 27, 28, 29, 30, 31, 32, 37] [39, 40, 41, 42] (by kernel_rfl) (by kernel_rfl)
            simp only [AllT, AllF] at E
            clear hdi hdep hcl
            have r0 := (Ks9.out.to hw.out).c0
            have r1 := (Ks9.out.to hw.out).c1
            go_simp
            exact hK _ _ ⟨by simp [upd, E, q1, q2, q3], hw⟩
          · rintro d a W hdi hdep hcl ⟨rfl, hw⟩ K hK
            have E := hcl.facts 39 hdi rfl hdep [0, 1, 2, 3, 4, 5, 6, 7, 8, 9, 10, 11, 12, 13, 14, 15, 16, 17, 18, 19, 20, 21, 22, 23, 24, 25, 26, 27, 28, 29, 30, 31, 32, 37, 38] [40, 41, 42] (by kernel_rfl) (by kernel_rfl)
            simp only [AllT, AllF] at E
            clear hdi hdep hcl
            go_simp
            exact hK _ _ ⟨by simp [upd, E, q1, q2, q3], hw⟩
          · rintro d a W hdi hdep hcl ⟨rfl, hw⟩ K hK
            have E := hcl.facts 40 hdi rfl hdep [0, 1, 2, 3, 4, 5, 6, 7, 8, 9, 10, 11, 12, 13, 14, 15, 16, 17, 18, 19, 20, 21, 22, 23, 24, 25, 26, 27, 28, 29, 30, 31, 32, 34, 35, 36, 37, 38, 39] [41, 42] (by kernel_rfl) (by kernel_rfl)
            simp only [AllT, AllF] at E
            clear hdi hdep hcl
            go_simp
            refine (to_any _ _ _).mono ?_
            rintro e w99 ⟨rfl, hp6⟩
            exact hK _ _ ⟨by simp [upd, E], hw.out.trans hp6⟩
          · rintro d a W hdi hdep hcl ⟨rfl, hw⟩ K hK
            have E := hcl.facts 41 hdi rfl hdep [0, 1, 2, 3, 4, 5, 6, 7, 8, 9, 10, 11, 12, 13, 14, 15, 16, 17, 18, 19, 20, 21, 22, 23, 24, 25, 26, 27, 28, 29, 30, 31, 32, 33, 34, 35, 36, 37, 38, 39, 40] [42] (by kernel_rfl) (by kernel_rfl)
            simp only [AllT, AllF] at E
            clear hdi hdep hcl
            go_simp
            exact hK _ _ ⟨by simp [upd, E, q1, q2, q3], hw⟩
          · rintro d a W hdi hdep hcl ⟨rfl, hw⟩ K hK
            have E := hcl.facts 42 hdi rfl hdep [0, 1, 2, 3, 4, 5, 6, 7, 8, 9, 10, 11, 12, 13, 14, 15, 16, 17, 18, 19, 20, 21, 22, 23, 24, 25, 26, 27, 28, 29, 30, 31, 32, 33, 34, 35, 36, 37, 38, 39, 40, 41] [] (by kernel_rfl) (by kernel_rfl)
            simp only [AllT, AllF] at E
            clear hdi hdep hcl
            go_simp
            exact hK _ _ ⟨by simp [upd, E, q1, q2, q3], hw⟩
        · rintro d a W hall ⟨rfl, hw⟩
          have E := AllT.all hall [0, 1, 2, 3, 4, 5, 6, 7, 8, 9, 10, 11, 12, 13, 14, 15, 16, 17, 18, 19, 20, 21, 22, 23, 24, 25, 26, 27, 28, 29, 30, 31, 32, 33, 34, 35, 36, 37, 38, 39, 40, 41, 42] (by kernel_rfl)
          simp only [AllT] at E
          simp only [E, cond_true] at hw ⊢
          clear E hall
          have HW1 : Hid (Pure w9 W) := hw
          clear hw d
          obtain ⟨V, hV⟩ : ∃ V, W = V := ⟨_, rfl⟩
          rw [hV] at HW1 ⊢
          clear hV W
          go_wp2_with fail
          have hz1 := SP9.out Z hZN
          have hz2 := SP9.out A hAN
          obtain ⟨sg, hsq, hsg, yz0, yz1⟩ := hz1
          subst hsq
          obtain ⟨sg', hsq, -, ya0, ya1⟩ := hz2
          cases hsq
          have sz := span_in b hv HNO.out N HLN.out Z hZN
          have sa := span_in b hv HNO.out N HLN.out A hAN
          have hm := HM.out.2.2.2
          obtain ⟨zl, hzl⟩ : ∃ x, endV b false (1 + Z) = x := ⟨_, rfl⟩
          obtain ⟨zh, hzh⟩ : ∃ x, endV b true (1 + Z) = x := ⟨_, rfl⟩
          obtain ⟨il, hil⟩ : ∃ x, endV b false (1 + A) = x := ⟨_, rfl⟩
          obtain ⟨ih, hih⟩ : ∃ x, endV b true (1 + A) = x := ⟨_, rfl⟩
          rw [hzl] at yz0 sz
          rw [hzh] at yz1 sz
          rw [hil] at ya0 sa
          rw [hih] at ya1 sa
          rw [hzl, hzh, hil, hih] at hm
          have c1 : il - xh ≤ zl := hm.1
          have c2 : zh ≤ ih - xl := hm.2.1
          have c3 : il - zh ≤ xl := hm.2.2.1
          have c4 : xh ≤ ih - zl := hm.2.2.2
          have hws0 : IntKind.i64.wrap (il - xh) = il - xh := IntWalk.i64_in _ (by omega)
          have hws1 : IntKind.i64.wrap (ih - xl) = ih - xl := IntWalk.i64_in _ (by omega)
          have hws2 : IntKind.i64.wrap (il - zh) = il - zh := IntWalk.i64_in _ (by omega)
          have hws3 : IntKind.i64.wrap (ih - zl) = ih - zl := IntWalk.i64_in _ (by omega)
          have Hyz0 := Lib.hid yz0
          have Hyz1 := Lib.hid yz1
          have Hya0 := Lib.hid ya0
          have Hya1 := Lib.hid ya1
          have HSG := Lib.hid hsg
          have hA0 : 0 ≤ (A : Int) := by omega
          have hZ0 : 0 ≤ (Z : Int) := by omega
          have hAi : (A : Int) < N := by omega
          have hZi : (Z : Int) < N := by omega
          clear hzl hzh hil hih sz sa hm yz0 yz1 ya0 ya1 hsg
          refine reg_invW (fun d a W => a = { tmps := #[bookV b p cap, Value.int IntKind.u8 x2, Value.int IntKind.u8 x3, Value.pointer (some { block := g0, off := 0 }), undef, undef, (bif d 65 then Value.bool true else Value.bool false), Value.int IntKind.i64 (A : Int), Value.int IntKind.i64 (Z : Int), Value.slice (some { block := sg, off := 0 }) N sc, Value.bool true, Value.bool true, Value.pointer (some { block := gs, off := 0 }), Value.int IntKind.i64 0, Value.pointer (some { block := gt, off := 0 }), Value.int IntKind.i64 0, Value.pointer (some { block := gu, off := 0 }), Value.int IntKind.i64 0, Value.agg #[Value.int IntKind.i64 b.lo, Value.int IntKind.i64 b.hi, Value.int IntKind.i64 (N : Int), Value.slice p b.n cap], Value.bool true, Value.bool false, undef, Value.int IntKind.u8 x2, Value.int IntKind.i64 x2, Value.pointer (some { block := g0, off := 2 }), Value.int IntKind.i64 (N : Int), Value.int IntKind.i64 (A : Int), Value.int IntKind.u8 x3, Value.int IntKind.i64 x3, Value.pointer (some { block := g0, off := 2 }), Value.int IntKind.i64 (N : Int), Value.int IntKind.i64 (Z : Int), Value.tuple #[Value.slice (some { block := sg, off := 0 }) N sc, Value.bool true, Value.bool true], Value.agg #[Value.int IntKind.i64 b.lo, Value.int IntKind.i64 b.hi, Value.int IntKind.i64 b.lots, Value.slice p b.n cap], Value.tuple #[Value.slice (some { block := sg, off := 0 }) N sc, Value.bool true, Value.bool true], Value.slice (some { block := sg, off := 0 }) N sc, Value.bool true, Value.bool true, Value.tuple #[Value.agg #[Value.int IntKind.i64 xl, Value.int IntKind.i64 xh], Value.int IntKind.i64 0], Value.agg #[Value.int IntKind.i64 b.lo, Value.int IntKind.i64 b.hi, Value.int IntKind.i64 b.lots, Value.slice p b.n cap], Value.int IntKind.i64 (A : Int), Value.int IntKind.i64 (Z : Int), Value.tuple #[Value.agg #[Value.int IntKind.i64 xl, Value.int IntKind.i64 xh], Value.int IntKind.i64 0], Value.agg #[Value.int IntKind.i64 xl, Value.int IntKind.i64 xh], Value.int IntKind.i64 0, Value.tuple #[Value.agg #[Value.int IntKind.i64 (-xh), Value.int IntKind.i64 (-xl)], Value.int IntKind.i64 0], Value.agg #[Value.int IntKind.i64 b.lo, Value.int IntKind.i64 b.hi, Value.int IntKind.i64 b.lots, Value.slice p b.n cap], Value.int IntKind.i64 (Z : Int), Value.int IntKind.i64 (A : Int), Value.tuple #[Value.agg #[Value.int IntKind.i64 (-xh), Value.int IntKind.i64 (-xl)], Value.int IntKind.i64 0], Value.agg #[Value.int IntKind.i64 (-xh), Value.int IntKind.i64 (-xl)], Value.int IntKind.i64 0, Value.tuple #[Value.agg #[Value.int IntKind.i64 0, Value.int IntKind.i64 0], Value.int IntKind.i64 0], Value.agg #[Value.int IntKind.i64 b.lo, Value.int IntKind.i64 b.hi, Value.int IntKind.i64 b.lots, Value.slice p b.n cap], Value.int IntKind.i64 (A : Int), Value.int IntKind.i64 (A : Int), Value.tuple #[Value.agg #[Value.int IntKind.i64 0, Value.int IntKind.i64 0], Value.int IntKind.i64 0], Value.agg #[Value.int IntKind.i64 0, Value.int IntKind.i64 0], Value.int IntKind.i64 0, Value.bool true, Value.bool false, Value.bool true, Value.bool false, undef, undef, undef, undef, undef, undef, undef, undef, undef, undef, undef, undef, undef, Value.int IntKind.i64 0, Value.bool false, Value.bool false, Value.int IntKind.i64 0, Value.bool false, Value.bool false, Value.bool false, Value.int IntKind.i64 0, Value.bool false, Value.bool false, Value.bool false, Value.agg #[Value.int IntKind.i64 0, Value.int IntKind.i64 0], Value.agg #[Value.int IntKind.i64 0, Value.int IntKind.i64 0], Value.bool false, Value.bool false, Value.bool false, Value.pointer (some { block := gs, off := 0 }), Value.int IntKind.i64 xl, Value.bool false, Value.bool false, Value.bool false, Value.pointer (some { block := gs, off := 1 }), Value.int IntKind.i64 xh, Value.bool false, Value.bool false, Value.bool false, Value.pointer (some { block := gs, off := 0 }), Value.int IntKind.i64 xl, Value.pointer (some { block := gs, off := 1 }), Value.int IntKind.i64 xh, Value.bool false, Value.bool false, Value.bool false, Value.agg #[Value.int IntKind.i64 (-xh), Value.int IntKind.i64 (-xl)], Value.pointer (some { block := gs, off := 1 }), Value.int IntKind.i64 xh, Value.int IntKind.i64 (-xh), Value.pointer (some { block := gs, off := 0 }), Value.int IntKind.i64 xl, Value.int IntKind.i64 (-xl), Value.agg #[Value.int IntKind.i64 (-xh), Value.int IntKind.i64 (-xl)], Value.bool false, Value.bool false, (bif d 0 then Value.slice (some { block := sg, off := 0 }) N sc else undef), (bif d 1 then Value.int IntKind.i64 ((Z : Int)) else undef), (bif d 2 then Value.pointer (some { block := sg, off := Z * 2 }) else undef), (bif d 3 then Value.pointer (some { block := sg, off := Z * 2 }) else undef), (bif d 4 then Value.int IntKind.i64 (zl) else undef), (bif d 5 then Value.slice (some { block := sg, off := 0 }) N sc else undef), (bif d 6 then Value.int IntKind.i64 ((A : Int)) else undef), (bif d 7 then Value.pointer (some { block := sg, off := A * 2 }) else undef), (bif d 8 then Value.pointer (some { block := sg, off := A * 2 }) else undef), (bif d 9 then Value.int IntKind.i64 (il) else undef), (bif d 10 then Value.pointer (some { block := gs, off := 1 }) else undef), (bif d 11 then Value.int IntKind.i64 (xh) else undef), (bif d 12 then Value.int IntKind.i64 (il - xh) else undef), (bif d 13 then Value.bool true else undef), (bif d 14 then Value.bool true else undef), (bif d 15 then Value.slice (some { block := sg, off := 0 }) N sc else undef), (bif d 16 then Value.int IntKind.i64 ((Z : Int)) else undef), (bif d 17 then Value.pointer (some { block := sg, off := Z * 2 }) else undef), (bif d 18 then Value.pointer (some { block := sg, off := Z * 2 + 1 }) else undef), (bif d 19 then Value.int IntKind.i64 (zh) else undef), (bif d 20 then Value.slice (some { block := sg, off := 0 }) N sc else undef), (bif d 21 then Value.int IntKind.i64 ((A : Int)) else undef), (bif d 22 then Value.pointer (some { block := sg, off := A * 2 }) else undef), (bif d 23 then Value.pointer (some { block := sg, off := A * 2 + 1 }) else undef), (bif d 24 then Value.int IntKind.i64 (ih) else undef), (bif d 25 then Value.pointer (some { block := gs, off := 0 }) else undef), (bif d 26 then Value.int IntKind.i64 (xl) else undef), (bif d 27 then Value.int IntKind.i64 (ih - xl) else undef), (bif d 28 then Value.bool true else undef), (bif d 29 then Value.bool true else undef), (bif d 30 then Value.bool true else undef), (bif d 31 then Value.pointer (some { block := gs, off := 0 }) else undef), (bif d 32 then Value.int IntKind.i64 (xl) else undef), (bif d 33 then Value.slice (some { block := sg, off := 0 }) N sc else undef), (bif d 34 then Value.int IntKind.i64 ((A : Int)) else undef), (bif d 35 then Value.pointer (some { block := sg, off := A * 2 }) else undef), (bif d 36 then Value.pointer (some { block := sg, off := A * 2 }) else undef), (bif d 37 then Value.int IntKind.i64 (il) else undef), (bif d 38 then Value.slice (some { block := sg, off := 0 }) N sc else undef), (bif d 39 then Value.int IntKind.i64 ((Z : Int)) else undef), (bif d 40 then Value.pointer (some { block := sg, off := Z * 2 }) else undef), (bif d 41 then Value.pointer (some { block := sg, off := Z * 2 + 1 }) else undef), (bif d 42 then Value.int IntKind.i64 (zh) else undef), (bif d 43 then Value.int IntKind.i64 (il - zh) else undef), (bif d 44 then Value.bool true else undef), (bif d 45 then Value.bool true else undef), (bif d 46 then Value.bool true else undef), (bif d 47 then Value.pointer (some { block := gs, off := 1 }) else undef), (bif d 48 then Value.int IntKind.i64 (xh) else undef), (bif d 49 then Value.slice (some { block := sg, off := 0 }) N sc else undef), (bif d 50 then Value.int IntKind.i64 ((A : Int)) else undef), (bif d 51 then Value.pointer (some { block := sg, off := A * 2 }) else undef), (bif d 52 then Value.pointer (some { block := sg, off := A * 2 + 1 }) else undef), (bif d 53 then Value.int IntKind.i64 (ih) else undef), (bif d 54 then Value.slice (some { block := sg, off := 0 }) N sc else undef), (bif d 55 then Value.int IntKind.i64 ((Z : Int)) else undef), (bif d 56 then Value.pointer (some { block := sg, off := Z * 2 }) else undef), (bif d 57 then Value.pointer (some { block := sg, off := Z * 2 }) else undef), (bif d 58 then Value.int IntKind.i64 (zl) else undef), (bif d 59 then Value.int IntKind.i64 (ih - zl) else undef), (bif d 60 then Value.bool true else undef), (bif d 61 then Value.bool true else undef), (bif d 62 then Value.bool true else undef), (bif d 63 then Value.bool true else undef), (bif d 64 then Value.bool true else undef)], defers := [] } ∧ Hid (Pure V W)) hmx (by kernel_rfl) ?_ ?_ ?_
          · exact ⟨rfl, (Diff.refl V).drew⟩
          · refine ⟨?_, ?_, ?_, ?_, ?_, ?_, ?_, ?_, ?_, ?_, ?_, ?_, ?_, ?_, ?_, ?_, ?_, ?_, ?_, ?_, ?_, ?_, ?_, ?_, ?_, ?_, ?_, ?_, ?_, ?_, ?_, ?_, ?_, ?_, ?_, ?_, ?_, ?_, ?_, ?_, ?_, ?_, ?_, ?_, ?_, ?_, ?_, ?_, ?_, ?_, ?_, ?_, ?_, ?_, ?_, ?_, ?_, ?_, ?_, ?_, ?_, ?_, ?_, ?_, ?_, ?_, trivial⟩
            · rintro d a W hdi hdep hcl ⟨rfl, hw⟩ K hK
              have E := hcl.facts 0 hdi rfl hdep [] [2, 3, 4, 13, 14, 15, 16, 17, 18, 19, 20, 21, 22, 23, 24, 25, 26, 27, 28, 29, 30, 31, 32, 33, 34, 35, 36, 37, 38, 39, 40, 41, 42, 43, 44, 45, 46, 47, 48, 49, 50, 51, 52, 53, 54, 55, 56, 57, 58, 59, 60, 61, 62, 63, 64, 65] (by kernel_rfl) (by kernel_rfl)
              simp only [AllT, AllF] at E
              clear hdi hdep hcl
              go_simp
              exact hK _ _ ⟨by simp [upd, E, c1, c2, c3, c4], hw⟩
            · rintro d a W hdi hdep hcl ⟨rfl, hw⟩ K hK
              have E := hcl.facts 1 hdi rfl hdep [] [2, 3, 4, 13, 14, 15, 16, 17, 18, 19, 20, 21, 22, 23, 24, 25, 26, 27, 28, 29, 30, 31, 32, 33, 34, 35, 36, 37, 38, 39, 40, 41, 42, 43, 44, 45, 46, 47, 48, 49, 50, 51, 52, 53, 54, 55, 56, 57, 58, 59, 60, 61, 62, 63, 64, 65] (by kernel_rfl) (by kernel_rfl)
              simp only [AllT, AllF] at E
              clear hdi hdep hcl
              go_simp
              exact hK _ _ ⟨by simp [upd, E, c1, c2, c3, c4], hw⟩
            · rintro d a W hdi hdep hcl ⟨rfl, hw⟩ K hK
              have E := hcl.facts 2 hdi rfl hdep [0, 1] [3, 4, 13, 14, 15, 16, 17, 18, 19, 20, 21, 22, 23, 24, 25, 26, 27, 28, 29, 30, 31, 32, 33, 34, 35, 36, 37, 38, 39, 40, 41, 42, 43, 44, 45, 46, 47, 48, 49, 50, 51, 52, 53, 54, 55, 56, 57, 58, 59, 60, 61, 62, 63, 64, 65] (by kernel_rfl) (by kernel_rfl)
              simp only [AllT, AllF] at E
              clear hdi hdep hcl
              go_simp
              exact hK _ _ ⟨by simp [upd, E, c1, c2, c3, c4], hw⟩
            · rintro d a W hdi hdep hcl ⟨rfl, hw⟩ K hK
              have E := hcl.facts 3 hdi rfl hdep [0, 1, 2] [4, 13, 14, 15, 16, 17, 18, 19, 20, 21, 22, 23, 24, 25, 26, 27, 28, 29, 30, 31, 32, 33, 34, 35, 36, 37, 38, 39, 40, 41, 42, 43, 44, 45, 46, 47, 48, 49, 50, 51, 52, 53, 54, 55, 56, 57, 58, 59, 60, 61, 62, 63, 64, 65] (by kernel_rfl) (by kernel_rfl)
              simp only [AllT, AllF] at E
              clear hdi hdep hcl
              go_simp
              exact hK _ _ ⟨by simp [upd, E, c1, c2, c3, c4], hw⟩
            · rintro d a W hdi hdep hcl ⟨rfl, hw⟩ K hK
              have E := hcl.facts 4 hdi rfl hdep [0, 1, 2, 3] [13, 14, 15, 16, 17, 18, 19, 20, 21, 22, 23, 24, 25, 26, 27, 28, 29, 30, 31, 32, 33, 34, 35, 36, 37, 38, 39, 40, 41, 42, 43, 44, 45, 46, 47, 48, 49, 50, 51, 52, 53, 54, 55, 56, 57, 58, 59, 60, 61, 62, 63, 64, 65] (by kernel_rfl) (by kernel_rfl)
              simp only [AllT, AllF] at E
              clear hdi hdep hcl
              have z := ((pcell (HW1.out.trans hw.out)).1 _ _ HSG.out).trans Hyz0.out
              go_simp
              exact hK _ _ ⟨by simp [upd, E, c1, c2, c3, c4], hw⟩
            · rintro d a W hdi hdep hcl ⟨rfl, hw⟩ K hK
              have E := hcl.facts 5 hdi rfl hdep [] [7, 8, 9, 12, 13, 14, 15, 16, 17, 18, 19, 20, 21, 22, 23, 24, 25, 26, 27, 28, 29, 30, 31, 32, 33, 34, 35, 36, 37, 38, 39, 40, 41, 42, 43, 44, 45, 46, 47, 48, 49, 50, 51, 52, 53, 54, 55, 56, 57, 58, 59, 60, 61, 62, 63, 64, 65] (by kernel_rfl) (by kernel_rfl)
              simp only [AllT, AllF] at E
              clear hdi hdep hcl
              go_simp
              exact hK _ _ ⟨by simp [upd, E, c1, c2, c3, c4], hw⟩
            · rintro d a W hdi hdep hcl ⟨rfl, hw⟩ K hK
              have E := hcl.facts 6 hdi rfl hdep [] [7, 8, 9, 12, 13, 14, 15, 16, 17, 18, 19, 20, 21, 22, 23, 24, 25, 26, 27, 28, 29, 30, 31, 32, 33, 34, 35, 36, 37, 38, 39, 40, 41, 42, 43, 44, 45, 46, 47, 48, 49, 50, 51, 52, 53, 54, 55, 56, 57, 58, 59, 60, 61, 62, 63, 64, 65] (by kernel_rfl) (by kernel_rfl)
              simp only [AllT, AllF] at E
              clear hdi hdep hcl
              go_simp
              exact hK _ _ ⟨by simp [upd, E, c1, c2, c3, c4], hw⟩
            · rintro d a W hdi hdep hcl ⟨rfl, hw⟩ K hK
              have E := hcl.facts 7 hdi rfl hdep [5, 6] [8, 9, 12, 13, 14, 15, 16, 17, 18, 19, 20, 21, 22, 23, 24, 25, 26, 27, 28, 29, 30, 31, 32, 33, 34, 35, 36, 37, 38, 39, 40, 41, 42, 43, 44, 45, 46, 47, 48, 49, 50, 51, 52, 53, 54, 55, 56, 57, 58, 59, 60, 61, 62, 63, 64, 65] (by kernel_rfl) (by kernel_rfl)
              simp only [AllT, AllF] at E
              clear hdi hdep hcl
              go_simp
              exact hK _ _ ⟨by simp [upd, E, c1, c2, c3, c4], hw⟩
            · rintro d a W hdi hdep hcl ⟨rfl, hw⟩ K hK
              have E := hcl.facts 8 hdi rfl hdep [5, 6, 7] [9, 12, 13, 14, 15, 16, 17, 18, 19, 20, 21, 22, 23, 24, 25, 26, 27, 28, 29, 30, 31, 32, 33, 34, 35, 36, 37, 38, 39, 40, 41, 42, 43, 44, 45, 46, 47, 48, 49, 50, 51, 52, 53, 54, 55, 56, 57, 58, 59, 60, 61, 62, 63, 64, 65] (by kernel_rfl) (by kernel_rfl)
              simp only [AllT, AllF] at E
              clear hdi hdep hcl
              go_simp
              exact hK _ _ ⟨by simp [upd, E, c1, c2, c3, c4], hw⟩
            · rintro d a W hdi hdep hcl ⟨rfl, hw⟩ K hK
              have E := hcl.facts 9 hdi rfl hdep [5, 6, 7, 8] [12, 13, 14, 15, 16, 17, 18, 19, 20, 21, 22, 23, 24, 25, 26, 27, 28, 29, 30, 31, 32, 33, 34, 35, 36, 37, 38, 39, 40, 41, 42, 43, 44, 45, 46, 47, 48, 49, 50, 51, 52, 53, 54, 55, 56, 57, 58, 59, 60, 61, 62, 63, 64, 65] (by kernel_rfl) (by kernel_rfl)
              simp only [AllT, AllF] at E
              clear hdi hdep hcl
              have z := ((pcell (HW1.out.trans hw.out)).1 _ _ HSG.out).trans Hya0.out
              go_simp
              exact hK _ _ ⟨by simp [upd, E, c1, c2, c3, c4], hw⟩
            · rintro d a W hdi hdep hcl ⟨rfl, hw⟩ K hK
              have E := hcl.facts 10 hdi rfl hdep [] [11, 12, 13, 14, 15, 16, 17, 18, 19, 20, 21, 22, 23, 24, 25, 26, 27, 28, 29, 30, 31, 32, 33, 34, 35, 36, 37, 38, 39, 40, 41, 42, 43, 44, 45, 46, 47, 48, 49, 50, 51, 52, 53, 54, 55, 56, 57, 58, 59, 60, 61, 62, 63, 64, 65] (by kernel_rfl) (by kernel_rfl)
              simp only [AllT, AllF] at E
              clear hdi hdep hcl
              go_simp
              exact hK _ _ ⟨by simp [upd, E, c1, c2, c3, c4], hw⟩
            · rintro d a W hdi hdep hcl ⟨rfl, hw⟩ K hK
              have E := hcl.facts 11 hdi rfl hdep [10] [12, 13, 14, 15, 16, 17, 18, 19, 20, 21, 22, 23, 24, 25, 26, 27, 28, 29, 30, 31, 32, 33, 34, 35, 36, 37, 38, 39, 40, 41, 42, 43, 44, 45, 46, 47, 48, 49, 50, 51, 52, 53, 54, 55, 56, 57, 58, 59, 60, 61, 62, 63, 64, 65] (by kernel_rfl) (by kernel_rfl)
              simp only [AllT, AllF] at E
              clear hdi hdep hcl
              have r0 := (Ks9.out.to (HW1.out.trans hw.out)).c0
              have r1 := (Ks9.out.to (HW1.out.trans hw.out)).c1
              go_simp
              exact hK _ _ ⟨by simp [upd, E, c1, c2, c3, c4], hw⟩
            · rintro d a W hdi hdep hcl ⟨rfl, hw⟩ K hK
              have E := hcl.facts 12 hdi rfl hdep [5, 6, 7, 8, 9, 10, 11] [13, 14, 15, 16, 17, 18, 19, 20, 21, 22, 23, 24, 25, 26, 27, 28, 29, 30, 31, 32, 33, 34, 35, 36, 37, 38, 39, 40, 41, 42, 43, 44, 45, 46, 47, 48, 49, 50, 51, 52, 53, 54, 55, 56, 57, 58, 59, 60, 61, 62, 63, 64, 65] (by kernel_rfl) (by kernel_rfl)
              simp only [AllT, AllF] at E
              clear hdi hdep hcl
              go_simp
              exact hK _ _ ⟨by simp [upd, E, c1, c2, c3, c4], hw⟩
            · rintro d a W hdi hdep hcl ⟨rfl, hw⟩ K hK
              have E := hcl.facts 13 hdi rfl hdep [0, 1, 2, 3, 4, 5, 6, 7, 8, 9, 10, 11, 12] [14, 15, 16, 17, 18, 19, 20, 21, 22, 23, 24, 25, 26, 27, 28, 29, 30, 31, 32, 33, 34, 35, 36, 37, 38, 39, 40, 41, 42, 43, 44, 45, 46, 47, 48, 49, 50, 51, 52, 53, 54, 55, 56, 57, 58, 59, 60, 61, 62, 63, 64, 65] (by kernel_rfl) (by kernel_rfl)
              simp only [AllT, AllF] at E
              clear hdi hdep hcl
              go_simp
              exact hK _ _ ⟨by simp [upd, E, c1, c2, c3, c4], hw⟩
            · rintro d a W hdi hdep hcl ⟨rfl, hw⟩ K hK
              have E := hcl.facts 14 hdi rfl hdep [0, 1, 2, 3, 4, 5, 6, 7, 8, 9, 10, 11, 12, 13] [15, 16, 17, 18, 19, 20, 21, 22, 23, 24, 25, 26, 27, 28, 29, 30, 31, 32, 33, 34, 35, 36, 37, 38, 39, 40, 41, 42, 43, 44, 45, 46, 47, 48, 49, 50, 51, 52, 53, 54, 55, 56, 57, 58, 59, 60, 61, 62, 63, 64, 65] (by kernel_rfl) (by kernel_rfl)
              simp only [AllT, AllF] at E
              clear hdi hdep hcl
              go_simp
              exact hK _ _ ⟨by simp [upd, E, c1, c2, c3, c4], hw⟩
            · rintro d a W hdi hdep hcl ⟨rfl, hw⟩ K hK
              have E := hcl.facts 15 hdi rfl hdep [0, 1, 2, 3, 4, 5, 6, 7, 8, 9, 10, 11, 12, 13, 14] [17, 18, 19, 28, 29, 30, 31, 32, 33, 34, 35, 36, 37, 38, 39, 40, 41, 42, 43, 44, 45, 46, 47, 48, 49, 50, 51, 52, 53, 54, 55, 56, 57, 58, 59, 60, 61, 62, 63, 64, 65] (by kernel_rfl) (by kernel_rfl)
              simp only [AllT, AllF] at E
              clear hdi hdep hcl
              go_simp
              exact hK _ _ ⟨by simp [upd, E, c1, c2, c3, c4], hw⟩
            · rintro d a W hdi hdep hcl ⟨rfl, hw⟩ K hK
              have E := hcl.facts 16 hdi rfl hdep [0, 1, 2, 3, 4, 5, 6, 7, 8, 9, 10, 11, 12, 13, 14] [17, 18, 19, 28, 29, 30, 31, 32, 33, 34, 35, 36, 37, 38, 39, 40, 41, 42, 43, 44, 45, 46, 47, 48, 49, 50, 51, 52, 53, 54, 55, 56, 57, 58, 59, 60, 61, 62, 63, 64, 65] (by kernel_rfl) (by kernel_rfl)
              simp only [AllT, AllF] at E
              clear hdi hdep hcl
              go_simp
              exact hK _ _ ⟨by simp [upd, E, c1, c2, c3, c4], hw⟩
            · rintro d a W hdi hdep hcl ⟨rfl, hw⟩ K hK
              have E := hcl.facts 17 hdi rfl hdep [0, 1, 2, 3, 4, 5, 6, 7, 8, 9, 10, 11, 12, 13, 14, 15, 16] [18, 19, 28, 29, 30, 31, 32, 33, 34, 35, 36, 37, 38, 39, 40, 41, 42, 43, 44, 45, 46, 47, 48, 49, 50, 51, 52, 53, 54, 55, 56, 57, 58, 59, 60, 61, 62, 63, 64, 65] (by kernel_rfl) (by kernel_rfl)
              simp only [AllT, AllF] at E
              clear hdi hdep hcl
              go_simp
              exact hK _ _ ⟨by simp [upd, E, c1, c2, c3, c4], hw⟩
            · rintro d a W hdi hdep hcl ⟨rfl, hw⟩ K hK
              have E := hcl.facts 18 hdi rfl hdep [0, 1, 2, 3, 4, 5, 6, 7, 8, 9, 10, 11, 12, 13, 14, 15, 16, 17] [19, 28, 29, 30, 31, 32, 33, 34, 35, 36, 37, 38, 39, 40, 41, 42, 43, 44, 45, 46, 47, 48, 49, 50, 51, 52, 53, 54, 55, 56, 57, 58, 59, 60, 61, 62, 63, 64, 65] (by kernel_rfl) (by kernel_rfl)
              simp only [AllT, AllF] at E
              clear hdi hdep hcl
              go_simp
              exact hK _ _ ⟨by simp [upd, E, c1, c2, c3, c4], hw⟩
            · rintro d a W hdi hdep hcl ⟨rfl, hw⟩ K hK
              have E := hcl.facts 19 hdi rfl hdep [0, 1, 2, 3, 4, 5, 6, 7, 8, 9, 10, 11, 12, 13, 14, 15, 16, 17, 18] [28, 29, 30, 31, 32, 33, 34, 35, 36, 37, 38, 39, 40, 41, 42, 43, 44, 45, 46, 47, 48, 49, 50, 51, 52, 53, 54, 55, 56, 57, 58, 59, 60, 61, 62, 63, 64, 65] (by kernel_rfl) (by kernel_rfl)
              simp only [AllT, AllF] at E
              clear hdi hdep hcl
              have z := ((pcell (HW1.out.trans hw.out)).1 _ _ HSG.out).trans Hyz1.out
              go_simp
              exact hK _ _ ⟨by simp [upd, E, c1, c2, c3, c4], hw⟩
            · rintro d a W hdi hdep hcl ⟨rfl, hw⟩ K hK
              have E := hcl.facts 20 hdi rfl hdep [0, 1, 2, 3, 4, 5, 6, 7, 8, 9, 10, 11, 12, 13, 14] [22, 23, 24, 27, 28, 29, 30, 31, 32, 33, 34, 35, 36, 37, 38, 39, 40, 41, 42, 43, 44, 45, 46, 47, 48, 49, 50, 51, 52, 53, 54, 55, 56, 57, 58, 59, 60, 61, 62, 63, 64, 65] (by kernel_rfl) (by kernel_rfl)
              simp only [AllT, AllF] at E
              clear hdi hdep hcl
              go_simp
              exact hK _ _ ⟨by simp [upd, E, c1, c2, c3, c4], hw⟩
            · rintro d a W hdi hdep hcl ⟨rfl, hw⟩ K hK
              have E := hcl.facts 21 hdi rfl hdep [0, 1, 2, 3, 4, 5, 6, 7, 8, 9, 10, 11, 12, 13, 14] [22, 23, 24, 27, 28, 29, 30, 31, 32, 33, 34, 35, 36, 37, 38, 39, 40, 41, 42, 43, 44, 45, 46, 47, 48, 49, 50, 51, 52, 53, 54, 55, 56, 57, 58, 59, 60, 61, 62, 63, 64, 65] (by kernel_rfl) (by kernel_rfl)
              simp only [AllT, AllF] at E
              clear hdi hdep hcl
              go_simp
              exact hK _ _ ⟨by simp [upd, E, c1, c2, c3, c4], hw⟩
            · rintro d a W hdi hdep hcl ⟨rfl, hw⟩ K hK
              have E := hcl.facts 22 hdi rfl hdep [0, 1, 2, 3, 4, 5, 6, 7, 8, 9, 10, 11, 12, 13, 14, 20, 21] [23, 24, 27, 28, 29, 30, 31, 32, 33, 34, 35, 36, 37, 38, 39, 40, 41, 42, 43, 44, 45, 46, 47, 48, 49, 50, 51, 52, 53, 54, 55, 56, 57, 58, 59, 60, 61, 62, 63, 64, 65] (by kernel_rfl) (by kernel_rfl)
              simp only [AllT, AllF] at E
              clear hdi hdep hcl
              go_simp
              exact hK _ _ ⟨by simp [upd, E, c1, c2, c3, c4], hw⟩
            · rintro d a W hdi hdep hcl ⟨rfl, hw⟩ K hK
              have E := hcl.facts 23 hdi rfl hdep [0, 1, 2, 3, 4, 5, 6, 7, 8, 9, 10, 11, 12, 13, 14, 20, 21, 22] [24, 27, 28, 29, 30, 31, 32, 33, 34, 35, 36, 37, 38, 39, 40, 41, 42, 43, 44, 45, 46, 47, 48, 49, 50, 51, 52, 53, 54, 55, 56, 57, 58, 59, 60, 61, 62, 63, 64, 65] (by kernel_rfl) (by kernel_rfl)
              simp only [AllT, AllF] at E
              clear hdi hdep hcl
              go_simp
              exact hK _ _ ⟨by simp [upd, E, c1, c2, c3, c4], hw⟩
            · rintro d a W hdi hdep hcl ⟨rfl, hw⟩ K hK
              have E := hcl.facts 24 hdi rfl hdep [0, 1, 2, 3, 4, 5, 6, 7, 8, 9, 10, 11, 12, 13, 14, 20, 21, 22, 23] [27, 28, 29, 30, 31, 32, 33, 34, 35, 36, 37, 38, 39, 40, 41, 42, 43, 44, 45, 46, 47, 48, 49, 50, 51, 52, 53, 54, 55, 56, 57, 58, 59, 60, 61, 62, 63, 64, 65] (by kernel_rfl) (by kernel_rfl)
              simp only [AllT, AllF] at E
              clear hdi hdep hcl
              have z := ((pcell (HW1.out.trans hw.out)).1 _ _ HSG.out).trans Hya1.out
              go_simp
              exact hK _ _ ⟨by simp [upd, E, c1, c2, c3, c4], hw⟩
            · rintro d a W hdi hdep hcl ⟨rfl, hw⟩ K hK
              have E := hcl.facts 25 hdi rfl hdep [0, 1, 2, 3, 4, 5, 6, 7, 8, 9, 10, 11, 12, 13, 14] [26, 27, 28, 29, 30, 31, 32, 33, 34, 35, 36, 37, 38, 39, 40, 41, 42, 43, 44, 45, 46, 47, 48, 49, 50, 51, 52, 53, 54, 55, 56, 57, 58, 59, 60, 61, 62, 63, 64, 65] (by kernel_rfl) (by kernel_rfl)
              simp only [AllT, AllF] at E
              clear hdi hdep hcl
              go_simp
              exact hK _ _ ⟨by simp [upd, E, c1, c2, c3, c4], hw⟩
            · rintro d a W hdi hdep hcl ⟨rfl, hw⟩ K hK
              have E := hcl.facts 26 hdi rfl hdep [0, 1, 2, 3, 4, 5, 6, 7, 8, 9, 10, 11, 12, 13, 14, 25] [27, 28, 29, 30, 31, 32, 33, 34, 35, 36, 37, 38, 39, 40, 41, 42, 43, 44, 45, 46, 47, 48, 49, 50, 51, 52, 53, 54, 55, 56, 57, 58, 59, 60, 61, 62, 63, 64, 65] (by kernel_rfl) (by kernel_rfl)
              simp only [AllT, AllF] at E
              clear hdi hdep hcl
              have r0 := (Ks9.out.to (HW1.out.trans hw.out)).c0
              have r1 := (Ks9.out.to (HW1.out.trans hw.out)).c1
              go_simp
              exact hK _ _ ⟨by simp [upd, E, c1, c2, c3, c4], hw⟩
            · rintro d a W hdi hdep hcl ⟨rfl, hw⟩ K hK
              have E := hcl.facts 27 hdi rfl hdep [0, 1, 2, 3, 4, 5, 6, 7, 8, 9, 10, 11, 12, 13, 14, 20, 21, 22, 23, 24, 25, 26] [28, 29, 30, 31, 32, 33, 34, 35, 36, 37, 38, 39, 40, 41, 42, 43, 44, 45, 46, 47, 48, 49, 50, 51, 52, 53, 54, 55, 56, 57, 58, 59, 60, 61, 62, 63, 64, 65] (by kernel_rfl) (by kernel_rfl)
              simp only [AllT, AllF] at E
              clear hdi hdep hcl
              go_simp
              exact hK _ _ ⟨by simp [upd, E, c1, c2, c3, c4], hw⟩
            · rintro d a W hdi hdep hcl ⟨rfl, hw⟩ K hK
              have E := hcl.facts 28 hdi rfl hdep [0, 1, 2, 3, 4, 5, 6, 7, 8, 9, 10, 11, 12, 13, 14, 15, 16, 17, 18, 19, 20, 21, 22, 23, 24, 25, 26, 27] [29, 30, 31, 32, 33, 34, 35, 36, 37, 38, 39, 40, 41, 42, 43, 44, 45, 46, 47, 48, 49, 50, 51, 52, 53, 54, 55, 56, 57, 58, 59, 60, 61, 62, 63, 64, 65] (by kernel_rfl) (by kernel_rfl)
              simp only [AllT, AllF] at E
              clear hdi hdep hcl
              go_simp
              exact hK _ _ ⟨by simp [upd, E, c1, c2, c3, c4], hw⟩
            · rintro d a W hdi hdep hcl ⟨rfl, hw⟩ K hK
              have E := hcl.facts 29 hdi rfl hdep [0, 1, 2, 3, 4, 5, 6, 7, 8, 9, 10, 11, 12, 13, 14, 15, 16, 17, 18, 19, 20, 21, 22, 23, 24, 25, 26, 27, 28] [30, 31, 32, 33, 34, 35, 36, 37, 38, 39, 40, 41, 42, 43, 44, 45, 46, 47, 48, 49, 50, 51, 52, 53, 54, 55, 56, 57, 58, 59, 60, 61, 62, 63, 64, 65] (by kernel_rfl) (by kernel_rfl)
              simp only [AllT, AllF] at E
              clear hdi hdep hcl
              go_simp
              exact hK _ _ ⟨by simp [upd, E, c1, c2, c3, c4], hw⟩
            · rintro d a W hdi hdep hcl ⟨rfl, hw⟩ K hK
              have E := hcl.facts 30 hdi rfl hdep [0, 1, 2, 3, 4, 5, 6, 7, 8, 9, 10, 11, 12, 13, 14, 15, 16, 17, 18, 19, 20, 21, 22, 23, 24, 25, 26, 27, 28, 29] [31, 32, 33, 34, 35, 36, 37, 38, 39, 40, 41, 42, 43, 44, 45, 46, 47, 48, 49, 50, 51, 52, 53, 54, 55, 56, 57, 58, 59, 60, 61, 62, 63, 64, 65] (by kernel_rfl) (by kernel_rfl)
              simp only [AllT, AllF] at E
              clear hdi hdep hcl
              go_simp
              exact hK _ _ ⟨by simp [upd, E, c1, c2, c3, c4], hw⟩
            · rintro d a W hdi hdep hcl ⟨rfl, hw⟩ K hK
              have E := hcl.facts 31 hdi rfl hdep [0, 1, 2, 3, 4, 5, 6, 7, 8, 9, 10, 11, 12, 13, 14, 15, 16, 17, 18, 19, 20, 21, 22, 23, 24, 25, 26, 27, 28, 29, 30] [32, 44, 45, 46, 47, 48, 49, 50, 51, 52, 53, 54, 55, 56, 57, 58, 59, 60, 61, 62, 63, 64, 65] (by kernel_rfl) (by kernel_rfl)
              simp only [AllT, AllF] at E
              clear hdi hdep hcl
              go_simp
              exact hK _ _ ⟨by simp [upd, E, c1, c2, c3, c4], hw⟩
            · rintro d a W hdi hdep hcl ⟨rfl, hw⟩ K hK
              have E := hcl.facts 32 hdi rfl hdep [0, 1, 2, 3, 4, 5, 6, 7, 8, 9, 10, 11, 12, 13, 14, 15, 16, 17, 18, 19, 20, 21, 22, 23, 24, 25, 26, 27, 28, 29, 30, 31] [44, 45, 46, 47, 48, 49, 50, 51, 52, 53, 54, 55, 56, 57, 58, 59, 60, 61, 62, 63, 64, 65] (by kernel_rfl) (by kernel_rfl)
              simp only [AllT, AllF] at E
              clear hdi hdep hcl
              have r0 := (Ks9.out.to (HW1.out.trans hw.out)).c0
              have r1 := (Ks9.out.to (HW1.out.trans hw.out)).c1
              go_simp
              exact hK _ _ ⟨by simp [upd, E, c1, c2, c3, c4], hw⟩
            · rintro d a W hdi hdep hcl ⟨rfl, hw⟩ K hK
              have E := hcl.facts 33 hdi rfl hdep [0, 1, 2, 3, 4, 5, 6, 7, 8, 9, 10, 11, 12, 13, 14, 15, 16, 17, 18, 19, 20, 21, 22, 23, 24, 25, 26, 27, 28, 29, 30] [35, 36, 37, 43, 44, 45, 46, 47, 48, 49, 50, 51, 52, 53, 54, 55, 56, 57, 58, 59, 60, 61, 62, 63, 64, 65] (by kernel_rfl) (by kernel_rfl)
              simp only [AllT, AllF] at E
              clear hdi hdep hcl
              go_simp
              exact hK _ _ ⟨by simp [upd, E, c1, c2, c3, c4], hw⟩
            · rintro d a W hdi hdep hcl ⟨rfl, hw⟩ K hK
              have E := hcl.facts 34 hdi rfl hdep [0, 1, 2, 3, 4, 5, 6, 7, 8, 9, 10, 11, 12, 13, 14, 15, 16, 17, 18, 19, 20, 21, 22, 23, 24, 25, 26, 27, 28, 29, 30] [35, 36, 37, 43, 44, 45, 46, 47, 48, 49, 50, 51, 52, 53, 54, 55, 56, 57, 58, 59, 60, 61, 62, 63, 64, 65] (by kernel_rfl) (by kernel_rfl)
              simp only [AllT, AllF] at E
              clear hdi hdep hcl
              go_simp
              exact hK _ _ ⟨by simp [upd, E, c1, c2, c3, c4], hw⟩
            · rintro d a W hdi hdep hcl ⟨rfl, hw⟩ K hK
              have E := hcl.facts 35 hdi rfl hdep [0, 1, 2, 3, 4, 5, 6, 7, 8, 9, 10, 11, 12, 13, 14, 15, 16, 17, 18, 19, 20, 21, 22, 23, 24, 25, 26, 27, 28, 29, 30, 33, 34] [36, 37, 43, 44, 45, 46, 47, 48, 49, 50, 51, 52, 53, 54, 55, 56, 57, 58, 59, 60, 61, 62, 63, 64, 65] (by kernel_rfl) (by kernel_rfl)
              simp only [AllT, AllF] at E
              clear hdi hdep hcl
              go_simp
              exact hK _ _ ⟨by simp [upd, E, c1, c2, c3, c4], hw⟩
            · rintro d a W hdi hdep hcl ⟨rfl, hw⟩ K hK
              have E := hcl.facts 36 hdi rfl hdep [0, 1, 2, 3, 4, 5, 6, 7, 8, 9, 10, 11, 12, 13, 14, 15, 16, 17, 18, 19, 20, 21, 22, 23, 24, 25, 26, 27, 28, 29, 30, 33, 34, 35] [37, 43, 44, 45, 46, 47, 48, 49, 50, 51, 52, 53, 54, 55, 56, 57, 58, 59, 60, 61, 62, 63, 64, 65] (by kernel_rfl) (by kernel_rfl)
              simp only [AllT, AllF] at E
              clear hdi hdep hcl
              go_simp
              exact hK _ _ ⟨by simp [upd, E, c1, c2, c3, c4], hw⟩
            · rintro d a W hdi hdep hcl ⟨rfl, hw⟩ K hK
              have E := hcl.facts 37 hdi rfl hdep [0, 1, 2, 3, 4, 5, 6, 7, 8, 9, 10, 11, 12, 13, 14, 15, 16, 17, 18, 19, 20, 21, 22, 23, 24, 25, 26, 27, 28, 29, 30, 33, 34, 35, 36] [43, 44, 45, 46, 47, 48, 49, 50, 51, 52, 53, 54, 55, 56, 57, 58, 59, 60, 61, 62, 63, 64, 65] (by kernel_rfl) (by kernel_rfl)
              simp only [AllT, AllF] at E
              clear hdi hdep hcl
              have z := ((pcell (HW1.out.trans hw.out)).1 _ _ HSG.out).trans Hya0.out
              go_simp
              exact hK _ _ ⟨by simp [upd, E, c1, c2, c3, c4], hw⟩
            · rintro d a W hdi hdep hcl ⟨rfl, hw⟩ K hK
              have E := hcl.facts 38 hdi rfl hdep [0, 1, 2, 3, 4, 5, 6, 7, 8, 9, 10, 11, 12, 13, 14, 15, 16, 17, 18, 19, 20, 21, 22, 23, 24, 25, 26, 27, 28, 29, 30] [40, 41, 42, 43, 44, 45, 46, 47, 48, 49, 50, 51, 52, 53, 54, 55, 56, 57, 58, 59, 60, 61, 62, 63, 64, 65] (by kernel_rfl) (by kernel_rfl)
              simp only [AllT, AllF] at E
              clear hdi hdep hcl
              go_simp
              exact hK _ _ ⟨by simp [upd, E, c1, c2, c3, c4], hw⟩
            · rintro d a W hdi hdep hcl ⟨rfl, hw⟩ K hK
              have E := hcl.facts 39 hdi rfl hdep [0, 1, 2, 3, 4, 5, 6, 7, 8, 9, 10, 11, 12, 13, 14, 15, 16, 17, 18, 19, 20, 21, 22, 23, 24, 25, 26, 27, 28, 29, 30] [40, 41, 42, 43, 44, 45, 46, 47, 48, 49, 50, 51, 52, 53, 54, 55, 56, 57, 58, 59, 60, 61, 62, 63, 64, 65] (by kernel_rfl) (by kernel_rfl)
              simp only [AllT, AllF] at E
              clear hdi hdep hcl
              go_simp
              exact hK _ _ ⟨by simp [upd, E, c1, c2, c3, c4], hw⟩
            · rintro d a W hdi hdep hcl ⟨rfl, hw⟩ K hK
              have E := hcl.facts 40 hdi rfl hdep [0, 1, 2, 3, 4, 5, 6, 7, 8, 9, 10, 11, 12, 13, 14, 15, 16, 17, 18, 19, 20, 21, 22, 23, 24, 25, 26, 27, 28, 29, 30, 38, 39] [41, 42, 43, 44, 45, 46, 47, 48, 49, 50, 51, 52, 53, 54, 55, 56, 57, 58, 59, 60, 61, 62, 63, 64, 65] (by kernel_rfl) (by kernel_rfl)
              simp only [AllT, AllF] at E
              clear hdi hdep hcl
              go_simp
              exact hK _ _ ⟨by simp [upd, E, c1, c2, c3, c4], hw⟩
            · rintro d a W hdi hdep hcl ⟨rfl, hw⟩ K hK
              have E := hcl.facts 41 hdi rfl hdep [0, 1, 2, 3, 4, 5, 6, 7, 8, 9, 10, 11, 12, 13, 14, 15, 16, 17, 18, 19, 20, 21, 22, 23, 24, 25, 26, 27, 28, 29, 30, 38, 39, 40] [42, 43, 44, 45, 46, 47, 48, 49, 50, 51, 52, 53, 54, 55, 56, 57, 58, 59, 60, 61, 62, 63, 64, 65] (by kernel_rfl) (by kernel_rfl)
              simp only [AllT, AllF] at E
              clear hdi hdep hcl
              go_simp
              exact hK _ _ ⟨by simp [upd, E, c1, c2, c3, c4], hw⟩
            · rintro d a W hdi hdep hcl ⟨rfl, hw⟩ K hK
              have E := hcl.facts 42 hdi rfl hdep [0, 1, 2, 3, 4, 5, 6, 7, 8, 9, 10, 11, 12, 13, 14, 15, 16, 17, 18, 19, 20, 21, 22, 23, 24, 25, 26, 27, 28, 29, 30, 38, 39, 40, 41] [43, 44, 45, 46, 47, 48, 49, 50, 51, 52, 53, 54, 55, 56, 57, 58, 59, 60, 61, 62, 63, 64, 65] (by kernel_rfl) (by kernel_rfl)
              simp only [AllT, AllF] at E
              clear hdi hdep hcl
              have z := ((pcell (HW1.out.trans hw.out)).1 _ _ HSG.out).trans Hyz1.out
              go_simp
              exact hK _ _ ⟨by simp [upd, E, c1, c2, c3, c4], hw⟩
            · rintro d a W hdi hdep hcl ⟨rfl, hw⟩ K hK
              have E := hcl.facts 43 hdi rfl hdep [0, 1, 2, 3, 4, 5, 6, 7, 8, 9, 10, 11, 12, 13, 14, 15, 16, 17, 18, 19, 20, 21, 22, 23, 24, 25, 26, 27, 28, 29, 30, 33, 34, 35, 36, 37, 38, 39, 40, 41, 42] [44, 45, 46, 47, 48, 49, 50, 51, 52, 53, 54, 55, 56, 57, 58, 59, 60, 61, 62, 63, 64, 65] (by kernel_rfl) (by kernel_rfl)
              simp only [AllT, AllF] at E
              clear hdi hdep hcl
              go_simp
              exact hK _ _ ⟨by simp [upd, E, c1, c2, c3, c4], hw⟩
            · rintro d a W hdi hdep hcl ⟨rfl, hw⟩ K hK
              have E := hcl.facts 44 hdi rfl hdep [0, 1, 2, 3, 4, 5, 6, 7, 8, 9, 10, 11, 12, 13, 14, 15, 16, 17, 18, 19, 20, 21, 22, 23, 24, 25, 26, 27, 28, 29, 30, 31, 32, 33, 34, 35, 36, 37, 38, 39, 40, 41, 42, 43] [45, 46, 47, 48, 49, 50, 51, 52, 53, 54, 55, 56, 57, 58, 59, 60, 61, 62, 63, 64, 65] (by kernel_rfl) (by kernel_rfl)
              simp only [AllT, AllF] at E
              clear hdi hdep hcl
              go_simp
              exact hK _ _ ⟨by simp [upd, E, c1, c2, c3, c4], hw⟩
            · rintro d a W hdi hdep hcl ⟨rfl, hw⟩ K hK
              have E := hcl.facts 45 hdi rfl hdep [0, 1, 2, 3, 4, 5, 6, 7, 8, 9, 10, 11, 12, 13, 14, 15, 16, 17, 18, 19, 20, 21, 22, 23, 24, 25, 26, 27, 28, 29, 30, 31, 32, 33, 34, 35, 36, 37, 38, 39, 40, 41, 42, 43, 44] [46, 47, 48, 49, 50, 51, 52, 53, 54, 55, 56, 57, 58, 59, 60, 61, 62, 63, 64, 65] (by kernel_rfl) (by kernel_rfl)
              simp only [AllT, AllF] at E
              clear hdi hdep hcl
              go_simp
              exact hK _ _ ⟨by simp [upd, E, c1, c2, c3, c4], hw⟩
            · rintro d a W hdi hdep hcl ⟨rfl, hw⟩ K hK
              have E := hcl.facts 46 hdi rfl hdep [0, 1, 2, 3, 4, 5, 6, 7, 8, 9, 10, 11, 12, 13, 14, 15, 16, 17, 18, 19, 20, 21, 22, 23, 24, 25, 26, 27, 28, 29, 30, 31, 32, 33, 34, 35, 36, 37, 38, 39, 40, 41, 42, 43, 44, 45] [47, 48, 49, 50, 51, 52, 53, 54, 55, 56, 57, 58, 59, 60, 61, 62, 63, 64, 65] (by kernel_rfl) (by kernel_rfl)
              simp only [AllT, AllF] at E
              clear hdi hdep hcl
              go_simp
              exact hK _ _ ⟨by simp [upd, E, c1, c2, c3, c4], hw⟩
            · rintro d a W hdi hdep hcl ⟨rfl, hw⟩ K hK
              have E := hcl.facts 47 hdi rfl hdep [0, 1, 2, 3, 4, 5, 6, 7, 8, 9, 10, 11, 12, 13, 14, 15, 16, 17, 18, 19, 20, 21, 22, 23, 24, 25, 26, 27, 28, 29, 30, 31, 32, 33, 34, 35, 36, 37, 38, 39, 40, 41, 42, 43, 44, 45, 46] [48, 60, 61, 62, 63, 64, 65] (by kernel_rfl) (by kernel_rfl)
              simp only [AllT, AllF] at E
              clear hdi hdep hcl
              go_simp
              exact hK _ _ ⟨by simp [upd, E, c1, c2, c3, c4], hw⟩
            · rintro d a W hdi hdep hcl ⟨rfl, hw⟩ K hK
              have E := hcl.facts 48 hdi rfl hdep [0, 1, 2, 3, 4, 5, 6, 7, 8, 9, 10, 11, 12, 13, 14, 15, 16, 17, 18, 19, 20, 21, 22, 23, 24, 25, 26, 27, 28, 29, 30, 31, 32, 33, 34, 35, 36, 37, 38, 39, 40, 41, 42, 43, 44, 45, 46, 47] [60, 61, 62, 63, 64, 65] (by kernel_rfl) (by kernel_rfl)
              simp only [AllT, AllF] at E
              clear hdi hdep hcl
              have r0 := (Ks9.out.to (HW1.out.trans hw.out)).c0
              have r1 := (Ks9.out.to (HW1.out.trans hw.out)).c1
              go_simp
              exact hK _ _ ⟨by simp [upd, E, c1, c2, c3, c4], hw⟩
            · rintro d a W hdi hdep hcl ⟨rfl, hw⟩ K hK
              have E := hcl.facts 49 hdi rfl hdep [0, 1, 2, 3, 4, 5, 6, 7, 8, 9, 10, 11, 12, 13, 14, 15, 16, 17, 18, 19, 20, 21, 22, 23, 24, 25, 26, 27, 28, 29, 30, 31, 32, 33, 34, 35, 36, 37, 38, 39, 40, 41, 42, 43, 44, 45, 46] [51, 52, 53, 59, 60, 61, 62, 63, 64, 65] (by kernel_rfl) (by kernel_rfl)
              simp only [AllT, AllF] at E
              clear hdi hdep hcl
              go_simp
              exact hK _ _ ⟨by simp [upd, E, c1, c2, c3, c4], hw⟩
            · rintro d a W hdi hdep hcl ⟨rfl, hw⟩ K hK
              have E := hcl.facts 50 hdi rfl hdep [0, 1, 2, 3, 4, 5, 6, 7, 8, 9, 10, 11, 12, 13, 14, 15, 16, 17, 18, 19, 20, 21, 22, 23, 24, 25, 26, 27, 28, 29, 30, 31, 32, 33, 34, 35, 36, 37, 38, 39, 40, 41, 42, 43, 44, 45, 46] [51, 52, 53, 59, 60, 61, 62, 63, 64, 65] (by kernel_rfl) (by kernel_rfl)
              simp only [AllT, AllF] at E
              clear hdi hdep hcl
              go_simp
              exact hK _ _ ⟨by simp [upd, E, c1, c2, c3, c4], hw⟩
            · rintro d a W hdi hdep hcl ⟨rfl, hw⟩ K hK
              have E := hcl.facts 51 hdi rfl hdep [0, 1, 2, 3, 4, 5, 6, 7, 8, 9, 10, 11, 12, 13, 14, 15, 16, 17, 18, 19, 20, 21, 22, 23, 24, 25, 26, 27, 28, 29, 30, 31, 32, 33, 34, 35, 36, 37, 38, 39, 40, 41, 42, 43, 44, 45, 46, 49, 50] [52, 53, 59, 60, 61, 62, 63, 64, 65] (by kernel_rfl) (by kernel_rfl)
              simp only [AllT, AllF] at E
              clear hdi hdep hcl
              go_simp
              exact hK _ _ ⟨by simp [upd, E, c1, c2, c3, c4], hw⟩
            · rintro d a W hdi hdep hcl ⟨rfl, hw⟩ K hK
              have E := hcl.facts 52 hdi rfl hdep [0, 1, 2, 3, 4, 5, 6, 7, 8, 9, 10, 11, 12, 13, 14, 15, 16, 17, 18, 19, 20, 21, 22, 23, 24, 25, 26, 27, 28, 29, 30, 31, 32, 33, 34, 35, 36, 37, 38, 39, 40, 41, 42, 43, 44, 45, 46, 49, 50, 51] [53, 59, 60, 61, 62, 63, 64, 65] (by kernel_rfl) (by kernel_rfl)
              simp only [AllT, AllF] at E
              clear hdi hdep hcl
              go_simp
              exact hK _ _ ⟨by simp [upd, E, c1, c2, c3, c4], hw⟩
            · rintro d a W hdi hdep hcl ⟨rfl, hw⟩ K hK
              have E := hcl.facts 53 hdi rfl hdep [0, 1, 2, 3, 4, 5, 6, 7, 8, 9, 10, 11, 12, 13, 14, 15, 16, 17, 18, 19, 20, 21, 22, 23, 24, 25, 26, 27, 28, 29, 30, 31, 32, 33, 34, 35, 36, 37, 38, 39, 40, 41, 42, 43, 44, 45, 46, 49, 50, 51, 52] [59, 60, 61, 62, 63, 64, 65] (by kernel_rfl) (by kernel_rfl)
              simp only [AllT, AllF] at E
              clear hdi hdep hcl
              have z := ((pcell (HW1.out.trans hw.out)).1 _ _ HSG.out).trans Hya1.out
              go_simp
              exact hK _ _ ⟨by simp [upd, E, c1, c2, c3, c4], hw⟩
            · rintro d a W hdi hdep hcl ⟨rfl, hw⟩ K hK
              have E := hcl.facts 54 hdi rfl hdep [0, 1, 2, 3, 4, 5, 6, 7, 8, 9, 10, 11, 12, 13, 14, 15, 16, 17, 18, 19, 20, 21, 22, 23, 24, 25, 26, 27, 28, 29, 30, 31, 32, 33, 34, 35, 36, 37, 38, 39, 40, 41, 42, 43, 44, 45, 46] [56, 57, 58, 59, 60, 61, 62, 63, 64, 65] (by kernel_rfl) (by kernel_rfl)
              simp only [AllT, AllF] at E
              clear hdi hdep hcl
              go_simp
              exact hK _ _ ⟨by simp [upd, E, c1, c2, c3, c4], hw⟩
            · rintro d a W hdi hdep hcl ⟨rfl, hw⟩ K hK
              have E := hcl.facts 55 hdi rfl hdep [0, 1, 2, 3, 4, 5, 6, 7, 8, 9, 10, 11, 12, 13, 14, 15, 16, 17, 18, 19, 20, 21, 22, 23, 24, 25, 26, 27, 28, 29, 30, 31, 32, 33, 34, 35, 36, 37, 38, 39, 40, 41, 42, 43, 44, 45, 46] [56, 57, 58, 59, 60, 61, 62, 63, 64, 65] (by kernel_rfl) (by kernel_rfl)
              simp only [AllT, AllF] at E
              clear hdi hdep hcl
              go_simp
              exact hK _ _ ⟨by simp [upd, E, c1, c2, c3, c4], hw⟩
            · rintro d a W hdi hdep hcl ⟨rfl, hw⟩ K hK
              have E := hcl.facts 56 hdi rfl hdep [0, 1, 2, 3, 4, 5, 6, 7, 8, 9, 10, 11, 12, 13, 14, 15, 16, 17, 18, 19, 20, 21, 22, 23, 24, 25, 26, 27, 28, 29, 30, 31, 32, 33, 34, 35, 36, 37, 38, 39, 40, 41, 42, 43, 44, 45, 46, 54, 55] [57, 58, 59, 60, 61, 62, 63, 64, 65] (by kernel_rfl) (by kernel_rfl)
              simp only [AllT, AllF] at E
              clear hdi hdep hcl
              go_simp
              exact hK _ _ ⟨by simp [upd, E, c1, c2, c3, c4], hw⟩
            · rintro d a W hdi hdep hcl ⟨rfl, hw⟩ K hK
              have E := hcl.facts 57 hdi rfl hdep [0, 1, 2, 3, 4, 5, 6, 7, 8, 9, 10, 11, 12, 13, 14, 15, 16, 17, 18, 19, 20, 21, 22, 23, 24, 25, 26, 27, 28, 29, 30, 31, 32, 33, 34, 35, 36, 37, 38, 39, 40, 41, 42, 43, 44, 45, 46, 54, 55, 56] [58, 59, 60, 61, 62, 63, 64, 65] (by kernel_rfl) (by kernel_rfl)
              simp only [AllT, AllF] at E
              clear hdi hdep hcl
              go_simp
              exact hK _ _ ⟨by simp [upd, E, c1, c2, c3, c4], hw⟩
            · rintro d a W hdi hdep hcl ⟨rfl, hw⟩ K hK
              have E := hcl.facts 58 hdi rfl hdep [0, 1, 2, 3, 4, 5, 6, 7, 8, 9, 10, 11, 12, 13, 14, 15, 16, 17, 18, 19, 20, 21, 22, 23, 24, 25, 26, 27, 28, 29, 30, 31, 32, 33, 34, 35, 36, 37, 38, 39, 40, 41, 42, 43, 44, 45, 46, 54, 55, 56, 57] [59, 60, 61, 62, 63, 64, 65] (by kernel_rfl) (by kernel_rfl)
              simp only [AllT, AllF] at E
              clear hdi hdep hcl
              have z := ((pcell (HW1.out.trans hw.out)).1 _ _ HSG.out).trans Hyz0.out
              go_simp
              exact hK _ _ ⟨by simp [upd, E, c1, c2, c3, c4], hw⟩
            · rintro d a W hdi hdep hcl ⟨rfl, hw⟩ K hK
              have E := hcl.facts 59 hdi rfl hdep [0, 1, 2, 3, 4, 5, 6, 7, 8, 9, 10, 11, 12, 13, 14, 15, 16, 17, 18, 19, 20, 21, 22, 23, 24, 25, 26, 27, 28, 29, 30, 31, 32, 33, 34, 35, 36, 37, 38, 39, 40, 41, 42, 43, 44, 45, 46, 49, 50, 51, 52, 53, 54, 55, 56, 57, 58] [60, 61, 62, 63, 64, 65] (by kernel_rfl) (by kernel_rfl)
              simp only [AllT, AllF] at E
              clear hdi hdep hcl
              go_simp
              exact hK _ _ ⟨by simp [upd, E, c1, c2, c3, c4], hw⟩
            · rintro d a W hdi hdep hcl ⟨rfl, hw⟩ K hK
              have E := hcl.facts 60 hdi rfl hdep [0, 1, 2, 3, 4, 5, 6, 7, 8, 9, 10, 11, 12, 13, 14, 15, 16, 17, 18, 19, 20, 21, 22, 23, 24, 25, 26, 27, 28, 29, 30, 31, 32, 33, 34, 35, 36, 37, 38, 39, 40, 41, 42, 43, 44, 45, 46, 47, 48, 49, 50, 51, 52, 53, 54, 55, 56, 57, 58, 59] [61, 62, 63, 64, 65] (by kernel_rfl) (by kernel_rfl)
              simp only [AllT, AllF] at E
              clear hdi hdep hcl
              go_simp
              exact hK _ _ ⟨by simp [upd, E, c1, c2, c3, c4], hw⟩
            · rintro d a W hdi hdep hcl ⟨rfl, hw⟩ K hK
              have E := hcl.facts 61 hdi rfl hdep [0, 1, 2, 3, 4, 5, 6, 7, 8, 9, 10, 11, 12, 13, 14, 15, 16, 17, 18, 19, 20, 21, 22, 23, 24, 25, 26, 27, 28, 29, 30, 31, 32, 33, 34, 35, 36, 37, 38, 39, 40, 41, 42, 43, 44, 45, 46, 47, 48, 49, 50, 51, 52, 53, 54, 55, 56, 57, 58, 59, 60] [62, 63, 64, 65] (by kernel_rfl) (by kernel_rfl)
              simp only [AllT, AllF] at E
              clear hdi hdep hcl
              go_simp
              exact hK _ _ ⟨by simp [upd, E, c1, c2, c3, c4], hw⟩
            · rintro d a W hdi hdep hcl ⟨rfl, hw⟩ K hK
              have E := hcl.facts 62 hdi rfl hdep [0, 1, 2, 3, 4, 5, 6, 7, 8, 9, 10, 11, 12, 13, 14, 15, 16, 17, 18, 19, 20, 21, 22, 23, 24, 25, 26, 27, 28, 29, 30, 31, 32, 33, 34, 35, 36, 37, 38, 39, 40, 41, 42, 43, 44, 45, 46, 47, 48, 49, 50, 51, 52, 53, 54, 55, 56, 57, 58, 59, 60, 61] [63, 64, 65] (by kernel_rfl) (by kernel_rfl)
              simp only [AllT, AllF] at E
              clear hdi hdep hcl
              go_simp
              exact hK _ _ ⟨by simp [upd, E, c1, c2, c3, c4], hw⟩
            · rintro d a W hdi hdep hcl ⟨rfl, hw⟩ K hK
              have E := hcl.facts 63 hdi rfl hdep [0, 1, 2, 3, 4, 5, 6, 7, 8, 9, 10, 11, 12, 13, 14, 15, 16, 17, 18, 19, 20, 21, 22, 23, 24, 25, 26, 27, 28, 29, 30, 31, 32, 33, 34, 35, 36, 37, 38, 39, 40, 41, 42, 43, 44, 45, 46, 47, 48, 49, 50, 51, 52, 53, 54, 55, 56, 57, 58, 59, 60, 61, 62] [64, 65] (by kernel_rfl) (by kernel_rfl)
              simp only [AllT, AllF] at E
              clear hdi hdep hcl
              go_simp
              refine (Works_any _ (HG9.out.to (HW1.out.trans hw.out))).mono ?_
              rintro e w99 ⟨rfl, hp6⟩
              exact hK _ _ ⟨by simp [upd, E], hw.out.trans hp6⟩
            · rintro d a W hdi hdep hcl ⟨rfl, hw⟩ K hK
              have E := hcl.facts 64 hdi rfl hdep [0, 1, 2, 3, 4, 5, 6, 7, 8, 9, 10, 11, 12, 13, 14, 15, 16, 17, 18, 19, 20, 21, 22, 23, 24, 25, 26, 27, 28, 29, 30, 31, 32, 33, 34, 35, 36, 37, 38, 39, 40, 41, 42, 43, 44, 45, 46, 47, 48, 49, 50, 51, 52, 53, 54, 55, 56, 57, 58, 59, 60, 61, 62, 63] [65] (by kernel_rfl) (by kernel_rfl)
              simp only [AllT, AllF] at E
              clear hdi hdep hcl
              go_simp
              exact hK _ _ ⟨by simp [upd, E, c1, c2, c3, c4], hw⟩
            · rintro d a W hdi hdep hcl ⟨rfl, hw⟩ K hK
              have E := hcl.facts 65 hdi rfl hdep [0, 1, 2, 3, 4, 5, 6, 7, 8, 9, 10, 11, 12, 13, 14, 15, 16, 17, 18, 19, 20, 21, 22, 23, 24, 25, 26, 27, 28, 29, 30, 31, 32, 33, 34, 35, 36, 37, 38, 39, 40, 41, 42, 43, 44, 45, 46, 47, 48, 49, 50, 51, 52, 53, 54, 55, 56, 57, 58, 59, 60, 61, 62, 63, 64] [] (by kernel_rfl) (by kernel_rfl)
              simp only [AllT, AllF] at E
              clear hdi hdep hcl
              go_simp
              exact hK _ _ ⟨by simp [upd, E, c1, c2, c3, c4], hw⟩
          · rintro d a W hall ⟨rfl, hw⟩
            have E := AllT.all hall [0, 1, 2, 3, 4, 5, 6, 7, 8, 9, 10, 11, 12, 13, 14, 15, 16, 17, 18, 19, 20, 21, 22, 23, 24, 25, 26, 27, 28, 29, 30, 31, 32, 33, 34, 35, 36, 37, 38, 39, 40, 41, 42, 43, 44, 45, 46, 47, 48, 49, 50, 51, 52, 53, 54, 55, 56, 57, 58, 59, 60, 61, 62, 63, 64, 65] (by kernel_rfl)
            simp only [AllT] at E
            simp only [E, cond_true] at hw ⊢
            clear E hall
            have hfin : Hid (Pure w W) := hP9.out.trans (HW1.out.trans hw.out)
            go_wp2_with fail
            exact bodyPost_ret (v := .bool true) (by simp [results, Tryd.results12, go_sem]) rfl ⟨rfl, hfin.out⟩
end Go.Proofs.YtmedkmbfggphdaaDoor
