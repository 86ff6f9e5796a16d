/- TasteSpans: the ends of a lot's sharpness, and how far two lots are apart, are what the reference says. The walk of the law, for any book in memory and any two lots. -/
import Derived.Test.YtmedkmbfggphdaaDoorT0
import Derived.Test.YtmedkmbfggphdaaDoorJ5
set_option linter.unusedSimpArgs false
set_option linter.unusedVariables false
set_option linter.constructorNameAsVariable false
namespace Go.Proofs.YtmedkmbfggphdaaDoor
open Go.RowKit

theorem apQ_form (b : BK) (E : Int) (x y : Nat) : ∃ lo hi er : Int, apQ b E x y = .tuple #[.agg #[.int .i64 lo, .int .i64 hi], .int .i64 er] := by
  unfold apQ
  split
  · exact ⟨_, _, _, rfl⟩
  · exact ⟨_, _, _, rfl⟩

set_option maxRecDepth 20000 in
set_option maxHeartbeats 8000000 in
theorem Spans_any (w : World) (b : BK) (p : Option Addr) (cap : Nat) (one two : Int) (hb : BookAt w.heap.size w p b) (hg : Gl w) :
    Calls Tryd.prog 5 #[bookV b p cap, .int .i64 one, .int .i64 two] w fun e w' => e = .returned (.bool true) ∧ Pure w w' := by
  have HB := Lib.hid hb
  have HG := Lib.hid hg
  clear hb hg
  go_enter Tryd.func5, Tryd.ntmps5
  go_wp2_with fail
  obtain ⟨X, hX⟩ : ∃ X, w.alloc (.cells (bookC b p cap) 26) = X := ⟨_, rfl⟩
  have hP : Hid (Pure w X) := by rw [← hX]; exact (Diff.refl w).alloc _
  have hX1 : BoxB w.heap.size b p cap X := by rw [← hX]; exact BoxB.new w b p cap 26
  obtain ⟨g0, hg0⟩ : ∃ g, w.heap.size = g := ⟨_, rfl⟩
  rw [hX]
  rw [hg0] at hX1 ⊢
  clear hX hg0
  have H0 := Lib.hid hX1
  obtain ⟨c0, c1, c2, c3, cl⟩ := hX1
  refine (great_any X b p cap (HB.out.to hP.out)).mono ?_
  rintro e w1 ⟨rfl, hp1⟩
  have hP1 : Hid (Pure w w1) := hP.out.trans hp1
  have H1 := Lib.hid (H0.out.pure hp1)
  clear c0 c1 c2 c3 cl hp1 hP H0
  obtain ⟨c0, c1, c2, c3, cl⟩ := H1.out
  cases hgr : hugeB b with
  | true =>
    go_wp2_with fail
    refine (Works_any w1 (HG.out.to hP1.out)).mono ?_
    rintro e w2 ⟨rfl, hp2⟩
    have hP2 : Hid (Pure w w2) := hP1.out.trans hp2
    clear hp2
    go_wp2_with fail
    exact bodyPost_ret (v := .bool true) (by simp [results, Tryd.results5, go_sem]) rfl ⟨rfl, hP2.out⟩
  | false =>
    have hs := small_of_huge hgr
    go_wp2_with fail
    refine (twinBook_any w1 b p cap hs (HB.out.to hP1.out)).mono ?_
    rintro e w2 ⟨p', cap', rfl, hb2, hp2⟩
    have hP2 : Hid (Pure w w2) := hP1.out.trans hp2
    have H2 := Lib.hid (H1.out.pure hp2)
    have HT := Lib.hid hb2
    clear c0 c1 c2 c3 cl hp2 hP1 H1 hb2
    obtain ⟨c0, c1, c2, c3, cl⟩ := H2.out
    go_wp2_with fail
    clear c0 c1 c2 c3 cl
    obtain ⟨w3, hw3⟩ : ∃ w3, w2.alloc (.cells (bookC b p' cap') 26) = w3 := ⟨_, rfl⟩
    have hp : Pure w2 w3 := by rw [← hw3]; exact (Diff.refl w2).alloc _
    have hC : BoxB w2.heap.size b p' cap' w3 := by rw [← hw3]; exact BoxB.new w2 b p' cap' 26
    obtain ⟨g1, hg1⟩ : ∃ g, w2.heap.size = g := ⟨_, rfl⟩
    rw [hw3]
    rw [hg1] at hC ⊢
    have hP3 : Hid (Pure w w3) := hP2.out.trans hp
    have HA3 := Lib.hid (H2.out.pure hp)
    have HC3 := Lib.hid hC
    have HB3 := Lib.hid (HB.out.to hP3.out)
    have HG3 := Lib.hid (HG.out.to hP3.out)
    have HT3 := Lib.hid (HT.out.to hp)
    clear hw3 hg1 hp hC H2 HT HB HG hP2
    obtain ⟨za0, za1, za2, za3, zal⟩ := HA3.out
    obtain ⟨zc0, zc1, zc2, zc3, zcl⟩ := HC3.out
    obtain ⟨lo1, hi1, er1, hq1⟩ := apQ_form b (lotsC b (fun _ => one) 1) (1 + one.toNat) 0
    have Q1 := Lib.hid hq1
    obtain ⟨lo2, hi2, er2, hq2⟩ := apQ_form b (lotsC b (fun i => if i = 0 then one else two) 2) (1 + one.toNat) (1 + two.toNat)
    have Q2 := Lib.hid hq2
    clear hq1 hq2
    refine (Span_any w3 b p' cap' one hs HT3.out HG3.out).mono ?_
    rintro e w4 ⟨rfl, hp⟩
    rw [Q1.out]
    have hP4 : Hid (Pure w w4) := hP3.out.trans hp
    have HA4 := Lib.hid (HA3.out.pure hp)
    have HC4 := Lib.hid (HC3.out.pure hp)
    have HB4 := Lib.hid (HB3.out.to hp)
    have HT4 := Lib.hid (HT3.out.to hp)
    have HG4 := Lib.hid (HG3.out.to hp)
    clear hp hP3 HA3 HC3 za0 za1 za2 za3 zal zc0 zc1 zc2 zc3 zcl HB3 HT3 HG3
    obtain ⟨za0, za1, za2, za3, zal⟩ := HA4.out
    obtain ⟨zc0, zc1, zc2, zc3, zcl⟩ := HC4.out
    go_wp2_with fail
    obtain ⟨w5, hw⟩ : ∃ v, w4.alloc (.cells #[.int .i64 lo1, .int .i64 hi1] 23) = v := ⟨_, rfl⟩
    have hp : Pure w4 w5 := by rw [← hw]; exact (Diff.refl _).alloc _
    have hR : RgAt w4.heap.size lo1 hi1 w5 := by rw [← hw]; exact RgAt.new _ _ _
    obtain ⟨gg0, hgg⟩ : ∃ g, w4.heap.size = g := ⟨_, rfl⟩
    rw [hw]
    rw [hgg] at hR ⊢
    have hP5 : Hid (Pure w w5) := hP4.out.trans hp
    have HA5 := Lib.hid (HA4.out.pure hp)
    have HC5 := Lib.hid (HC4.out.pure hp)
    have HB5 := Lib.hid (HB4.out.to hp)
    have HT5 := Lib.hid (HT4.out.to hp)
    have HG5 := Lib.hid (HG4.out.to hp)
    have RR05 := Lib.hid hR
    clear hp hR hw hgg hP4 HA4 za0 za1 za2 za3 zal HC4 zc0 zc1 zc2 zc3 zcl HB4 HT4 HG4
    obtain ⟨za0, za1, za2, za3, zal⟩ := HA5.out
    obtain ⟨zc0, zc1, zc2, zc3, zcl⟩ := HC5.out
    refine (RSpan_any w5 b p cap one hs HB5.out).mono ?_
    rintro e w6 ⟨rfl, hp⟩
    rw [Q1.out]
    have hP6 : Hid (Pure w w6) := hP5.out.trans hp
    have HA6 := Lib.hid (HA5.out.pure hp)
    have HC6 := Lib.hid (HC5.out.pure hp)
    have HB6 := Lib.hid (HB5.out.to hp)
    have HT6 := Lib.hid (HT5.out.to hp)
    have HG6 := Lib.hid (HG5.out.to hp)
    have RR06 := Lib.hid (RR05.out.to hp)
    clear hp hP5 HA5 HC5 za0 za1 za2 za3 zal zc0 zc1 zc2 zc3 zcl HB5 HT5 HG5 RR05
    obtain ⟨za0, za1, za2, za3, zal⟩ := HA6.out
    obtain ⟨zc0, zc1, zc2, zc3, zcl⟩ := HC6.out
    go_wp2_with fail
    obtain ⟨w7, hw⟩ : ∃ v, w6.alloc (.cells #[.int .i64 lo1, .int .i64 hi1] 23) = v := ⟨_, rfl⟩
    have hp : Pure w6 w7 := by rw [← hw]; exact (Diff.refl _).alloc _
    have hR : RgAt w6.heap.size lo1 hi1 w7 := by rw [← hw]; exact RgAt.new _ _ _
    obtain ⟨gg1, hgg⟩ : ∃ g, w6.heap.size = g := ⟨_, rfl⟩
    rw [hw]
    rw [hgg] at hR ⊢
    have hP7 : Hid (Pure w w7) := hP6.out.trans hp
    have HA7 := Lib.hid (HA6.out.pure hp)
    have HC7 := Lib.hid (HC6.out.pure hp)
    have HB7 := Lib.hid (HB6.out.to hp)
    have HT7 := Lib.hid (HT6.out.to hp)
    have HG7 := Lib.hid (HG6.out.to hp)
    have RR07 := Lib.hid (RR06.out.to hp)
    have RR17 := Lib.hid hR
    clear hp hR hw hgg hP6 HA6 za0 za1 za2 za3 zal HC6 zc0 zc1 zc2 zc3 zcl HB6 HT6 HG6 RR06
    obtain ⟨za0, za1, za2, za3, zal⟩ := HA7.out
    obtain ⟨zc0, zc1, zc2, zc3, zcl⟩ := HC7.out
    refine (Apart_any w7 b p' cap' one two hs HT7.out HG7.out).mono ?_
    rintro e w8 ⟨rfl, hp⟩
    rw [Q2.out]
    have hP8 : Hid (Pure w w8) := hP7.out.trans hp
    have HA8 := Lib.hid (HA7.out.pure hp)
    have HC8 := Lib.hid (HC7.out.pure hp)
    have HB8 := Lib.hid (HB7.out.to hp)
    have HT8 := Lib.hid (HT7.out.to hp)
    have HG8 := Lib.hid (HG7.out.to hp)
    have RR08 := Lib.hid (RR07.out.to hp)
    have RR18 := Lib.hid (RR17.out.to hp)
    clear hp hP7 HA7 HC7 za0 za1 za2 za3 zal zc0 zc1 zc2 zc3 zcl HB7 HT7 HG7 RR07 RR17
    obtain ⟨za0, za1, za2, za3, zal⟩ := HA8.out
    obtain ⟨zc0, zc1, zc2, zc3, zcl⟩ := HC8.out
    go_wp2_with fail
    obtain ⟨w9, hw⟩ : ∃ v, w8.alloc (.cells #[.int .i64 lo2, .int .i64 hi2] 23) = v := ⟨_, rfl⟩
    have hp : Pure w8 w9 := by rw [← hw]; exact (Diff.refl _).alloc _
    have hR : RgAt w8.heap.size lo2 hi2 w9 := by rw [← hw]; exact RgAt.new _ _ _
    obtain ⟨gg2, hgg⟩ : ∃ g, w8.heap.size = g := ⟨_, rfl⟩
    rw [hw]
    rw [hgg] at hR ⊢
    have hP9 : Hid (Pure w w9) := hP8.out.trans hp
    have HA9 := Lib.hid (HA8.out.pure hp)
    have HC9 := Lib.hid (HC8.out.pure hp)
    have HB9 := Lib.hid (HB8.out.to hp)
    have HT9 := Lib.hid (HT8.out.to hp)
    have HG9 := Lib.hid (HG8.out.to hp)
    have RR09 := Lib.hid (RR08.out.to hp)
    have RR19 := Lib.hid (RR18.out.to hp)
    have RR29 := Lib.hid hR
    clear hp hR hw hgg hP8 HA8 za0 za1 za2 za3 zal HC8 zc0 zc1 zc2 zc3 zcl HB8 HT8 HG8 RR08 RR18
    obtain ⟨za0, za1, za2, za3, zal⟩ := HA9.out
    obtain ⟨zc0, zc1, zc2, zc3, zcl⟩ := HC9.out
    refine (RApart_any w9 b p cap one two hs HB9.out).mono ?_
    rintro e w10 ⟨rfl, hp⟩
    rw [Q2.out]
    have hP10 : Hid (Pure w w10) := hP9.out.trans hp
    have HA10 := Lib.hid (HA9.out.pure hp)
    have HC10 := Lib.hid (HC9.out.pure hp)
    have HB10 := Lib.hid (HB9.out.to hp)
    have HT10 := Lib.hid (HT9.out.to hp)
    have HG10 := Lib.hid (HG9.out.to hp)
    have RR010 := Lib.hid (RR09.out.to hp)
    have RR110 := Lib.hid (RR19.out.to hp)
    have RR210 := Lib.hid (RR29.out.to hp)
    clear hp hP9 HA9 HC9 za0 za1 za2 za3 zal zc0 zc1 zc2 zc3 zcl HB9 HT9 HG9 RR09 RR19 RR29
    obtain ⟨za0, za1, za2, za3, zal⟩ := HA10.out
    obtain ⟨zc0, zc1, zc2, zc3, zcl⟩ := HC10.out
    have y00 := RR010.out.c0
    have y01 := RR010.out.c1
    have y0l := RR010.out.lt
    have y10 := RR110.out.c0
    have y11 := RR110.out.c1
    have y1l := RR110.out.lt
    have y20 := RR210.out.c0
    have y21 := RR210.out.c1
    have y2l := RR210.out.lt
    go_wp2_with fail
    clear y00 y01 y0l y10 y11 y1l y20 y21 y2l
    obtain ⟨w11, hw⟩ : ∃ v, w10.alloc (.cells #[.int .i64 lo2, .int .i64 hi2] 23) = v := ⟨_, rfl⟩
    have hp : Pure w10 w11 := by rw [← hw]; exact (Diff.refl _).alloc _
    have hR : RgAt w10.heap.size lo2 hi2 w11 := by rw [← hw]; exact RgAt.new _ _ _
    obtain ⟨gg3, hgg⟩ : ∃ g, w10.heap.size = g := ⟨_, rfl⟩
    rw [hw]
    rw [hgg] at hR ⊢
    have hP11 : Hid (Pure w w11) := hP10.out.trans hp
    have HA11 := Lib.hid (HA10.out.pure hp)
    have HC11 := Lib.hid (HC10.out.pure hp)
    have HB11 := Lib.hid (HB10.out.to hp)
    have HT11 := Lib.hid (HT10.out.to hp)
    have HG11 := Lib.hid (HG10.out.to hp)
    have RR011 := Lib.hid (RR010.out.to hp)
    have RR111 := Lib.hid (RR110.out.to hp)
    have RR211 := Lib.hid (RR210.out.to hp)
    have RR311 := Lib.hid hR
    clear hp hR hw hgg hP10 HA10 za0 za1 za2 za3 zal HC10 zc0 zc1 zc2 zc3 zcl HB10 HT10 HG10 RR010 RR110 RR210
    obtain ⟨za0, za1, za2, za3, zal⟩ := HA11.out
    obtain ⟨zc0, zc1, zc2, zc3, zcl⟩ := HC11.out
    refine (alikeBook_any w11 b p' p cap' cap hs HT11.out HB11.out).mono ?_
    rintro e w12 ⟨rfl, hp⟩
    have hP12 : Hid (Pure w w12) := hP11.out.trans hp
    have HA12 := Lib.hid (HA11.out.pure hp)
    have HC12 := Lib.hid (HC11.out.pure hp)
    have HB12 := Lib.hid (HB11.out.to hp)
    have HT12 := Lib.hid (HT11.out.to hp)
    have HG12 := Lib.hid (HG11.out.to hp)
    have RR012 := Lib.hid (RR011.out.to hp)
    have RR112 := Lib.hid (RR111.out.to hp)
    have RR212 := Lib.hid (RR211.out.to hp)
    have RR312 := Lib.hid (RR311.out.to hp)
    clear hp hP11 HA11 HC11 za0 za1 za2 za3 zal zc0 zc1 zc2 zc3 zcl HB11 HT11 HG11 RR011 RR111 RR211 RR311
    obtain ⟨za0, za1, za2, za3, zal⟩ := HA12.out
    obtain ⟨zc0, zc1, zc2, zc3, zcl⟩ := HC12.out
    go_wp2_with fail
    refine (Works_any w12 HG12.out).mono ?_
    rintro e w13 ⟨rfl, hp⟩
    have hP13 : Hid (Pure w w13) := hP12.out.trans hp
    have HA13 := Lib.hid (HA12.out.pure hp)
    have HC13 := Lib.hid (HC12.out.pure hp)
    have HB13 := Lib.hid (HB12.out.to hp)
    have HT13 := Lib.hid (HT12.out.to hp)
    have HG13 := Lib.hid (HG12.out.to hp)
    have RR013 := Lib.hid (RR012.out.to hp)
    have RR113 := Lib.hid (RR112.out.to hp)
    have RR213 := Lib.hid (RR212.out.to hp)
    have RR313 := Lib.hid (RR312.out.to hp)
    clear hp hP12 HA12 HC12 za0 za1 za2 za3 zal zc0 zc1 zc2 zc3 zcl HB12 HT12 HG12 RR012 RR112 RR212 RR312
    obtain ⟨za0, za1, za2, za3, zal⟩ := HA13.out
    obtain ⟨zc0, zc1, zc2, zc3, zcl⟩ := HC13.out
    go_wp2_with fail
    exact bodyPost_ret (v := .bool true) (by simp [results, Tryd.results5, go_sem]) rfl ⟨rfl, hP13.out⟩
end Go.Proofs.YtmedkmbfggphdaaDoor
