/- TasteEither: there is a truth, or a round that proves that there is none. The walk of the law, for any book in memory, any list of names and any numbers. -/
import Derived.Test.YtmedkmbfggphdaaDoorN3
import Derived.Test.YtmedkmbfggphdaaDoorN5
import Derived.Test.YtmedkmbfggphdaaDoorT6
set_option linter.unusedSimpArgs false
set_option linter.unusedVariables false
set_option linter.constructorNameAsVariable false
namespace Go.Proofs.YtmedkmbfggphdaaDoor
open Go.RowKit

theorem reB_val {b : BK} (hc : checkB b = 0) : reB b = if noneB b.es = false then 5 else 0 := by unfold reB; rw [if_neg (by omega)]

set_option maxRecDepth 20000 in
set_option maxHeartbeats 16000000 in
theorem Either_any (w : World) (b : BK) (p : Option Addr) (cap : Nat) (q1 : Option Addr) (n1 c1 : Nat) (f1 : Nat → Int) (q2 : Option Addr) (n2 c2 : Nat) (f2 : Nat → Int) (hb : BookAt w.heap.size w p b) (hr1 : Row w.heap.size w q1 n1 fun k => .int .i64 (f1 k))
    (hr2 : Row w.heap.size w q2 n2 fun k => .int .u16 (f2 k)) (hw2 : ∀ i, i < n2 → (Lit.int .u16 (f2 i)).wf = true) (hg : Gl w) :
    Calls Tryd.prog 8 #[bookV b p cap, .slice q1 n1 c1, .slice q2 n2 c2] w fun e w' => e = .returned (.bool true) ∧ Pure w w' := by
  have HR1 := Lib.hid hr1
  have HR2 := Lib.hid hr2
  have HF2 : Hid (∀ i, i < n2 → 0 ≤ f2 i ∧ f2 i ≤ 65535) := fun i hi => Go.bounds_u16 (hw2 i hi)
  clear hr1 hr2 hw2
  have HB := Lib.hid hb
  have HG := Lib.hid hg
  clear hb hg
  go_enter Tryd.func8, Tryd.ntmps8
  go_wp2_with fail
  obtain ⟨X, hX⟩ : ∃ X, w.alloc (.cells (bookC b p cap) 26) = X := ⟨_, rfl⟩
  have hP : Hid (Pure w X) := by rw [← hX]; exact (Diff.refl w).alloc _
  have hX1 : BoxB w.heap.size b p cap X := by rw [← hX]; exact BoxB.new w b p cap 26
  obtain ⟨g0, hg0⟩ : ∃ g, w.heap.size = g := ⟨_, rfl⟩
  rw [hX]
  rw [hg0] at hX1 ⊢
  clear hX hg0
  have H0 := Lib.hid hX1
  obtain ⟨c0, c1', c2', c3, cl⟩ := hX1
  refine (fine_any X b p cap (HB.out.to hP.out)).mono ?_
  rintro e w1 ⟨rfl, hp1⟩
  have hP1 : Hid (Pure w w1) := hP.out.trans hp1
  have HA1 := Lib.hid (H0.out.pure hp1)
  clear c0 c1' c2' c3 cl hp1 hP H0
  obtain ⟨za0, za1, za2, za3, zal⟩ := HA1.out
  cases hfine : fineB b with
  | false =>
    go_wp2_with fail
    refine (Works_any w1 (HG.out.to hP1.out)).mono ?_
    rintro e w2 ⟨rfl, hp2⟩
    have hP2 : Hid (Pure w w2) := hP1.out.trans hp2
    clear hp2
    go_wp2_with fail
    exact bodyPost_ret (v := .bool true) (by simp [results, Tryd.results8, go_sem]) rfl ⟨rfl, hP2.out⟩
  | true =>
    obtain ⟨hs, hck⟩ := fineB_iff.1 hfine
    have hv := checkB_valid hck
    have HCK := Lib.hid hck
    clear hck hfine
    by_cases hn1 : 30 < n1
    · have h30i : 30 < (n1 : Int) := by omega
      go_wp2_with fail
      refine (Works_any w1 (HG.out.to hP1.out)).mono ?_
      rintro e w2 ⟨rfl, hp2⟩
      have hP2 : Hid (Pure w w2) := hP1.out.trans hp2
      clear hp2
      go_wp2_with fail
      exact bodyPost_ret (v := .bool true) (by simp [results, Tryd.results8, go_sem]) rfl ⟨rfl, hP2.out⟩
    have hn1i : ¬ 30 < (n1 : Int) := by omega
    by_cases hn2 : 30 < n2
    · have h30i : 30 < (n2 : Int) := by omega
      go_wp2_with fail
      refine (Works_any w1 (HG.out.to hP1.out)).mono ?_
      rintro e w2 ⟨rfl, hp2⟩
      have hP2 : Hid (Pure w w2) := hP1.out.trans hp2
      clear hp2
      go_wp2_with fail
      exact bodyPost_ret (v := .bool true) (by simp [results, Tryd.results8, go_sem]) rfl ⟨rfl, hP2.out⟩
    have hn2i : ¬ 30 < (n2 : Int) := by omega
    have HB1 := Lib.hid (HB.out.to hP1.out)
    have HG1 := Lib.hid (HG.out.to hP1.out)
    have HR11 := Lib.hid (HR1.out.to hP1.out)
    have HR21 := Lib.hid (HR2.out.to hP1.out)
    clear HB HG HR1 HR2
    go_wp2_with fail
    obtain ⟨u, hu⟩ : ∃ u, numU f2 n2 = u := ⟨_, rfl⟩
    have HU := Lib.hid hu
    clear hu
    refine (Held_any w1 b p cap q2 n2 c2 f2 hv HB1.out HR21.out (by omega) HF2.out).mono ?_
    rintro e w2 ⟨hq, hp⟩
    rw [HU.out] at hq
    obtain ⟨hp', hc', sv, tv, rfl, -, hls, hlt⟩ := hq
    have hP2 : Hid (Pure w w2) := hP1.out.trans hp
    have HA2 := Lib.hid (HA1.out.pure hp)
    have HB2 := Lib.hid (HB1.out.to hp)
    have HG2 := Lib.hid (HG1.out.to hp)
    have HR12 := Lib.hid (HR11.out.to hp)
    have HR22 := Lib.hid (HR21.out.to hp)
    have HLS2 := Lib.hid (hls)
    have HLT2 := Lib.hid (hlt)
    clear hp hP1 HA1 za0 za1 za2 za3 zal HB1 HG1 HR11 HR21
    obtain ⟨za0, za1, za2, za3, zal⟩ := HA2.out
    obtain ⟨sp, sc, rfl⟩ := hls.form
    obtain ⟨tp, tc, rfl⟩ := hlt.form
    clear hls hlt
    go_wp2_with fail
    obtain ⟨w3, hw3⟩ : ∃ v, w2.alloc (.cells (bookC (heldB b u) hp' hc') 26) = v := ⟨_, rfl⟩
    have hp : Pure w2 w3 := by rw [← hw3]; exact (Diff.refl _).alloc _
    rw [hw3]
    have hP3 : Hid (Pure w w3) := hP2.out.trans hp
    have HA3 := Lib.hid (HA2.out.pure hp)
    have HB3 := Lib.hid (HB2.out.to hp)
    have HG3 := Lib.hid (HG2.out.to hp)
    have HR13 := Lib.hid (HR12.out.to hp)
    have HR23 := Lib.hid (HR22.out.to hp)
    have HLS3 := Lib.hid (HLS2.out.to hp)
    have HLT3 := Lib.hid (HLT2.out.to hp)
    clear hp hw3 hP2 HA2 za0 za1 za2 za3 zal HB2 HG2 HR12 HR22 HLS2 HLT2
    obtain ⟨za0, za1, za2, za3, zal⟩ := HA3.out
    have HIX := Lib.hid (hXs_in b u)
    have HIY := Lib.hid (hYs_in b hv u)
    have hl1 := hv.lots1
    have HLX : Hid (b.lots = (hXs b u).length) := by show _ = _; rw [hXs_length]; omega
    have HLY : Hid (b.total = (hYs b u).length) := by show _ = _; rw [hYs_length]
    clear hl1
    have HRE := Lib.hid (reB_val HCK.out)
    cases hN : noneB b.es with
    | false =>
      have HN := Lib.hid hN
      have hE5 : reB b = 5 := by rw [HRE.out, if_pos hN]
      have HE5 := Lib.hid hE5
      clear hN hE5
      refine (Least_any w3 b p cap hs HB3.out HG3.out).mono ?_
      rintro e w4 ⟨hq, hp⟩
      obtain ⟨s1, t1, rfl, ls1, lt1⟩ := truth_lists (gr := false) hq HCK.out HN.out (pick_lo b)
      clear hq
      have hP4 : Hid (Pure w w4) := hP3.out.trans hp
      have HA4 := Lib.hid (HA3.out.pure hp)
      have HB4 := Lib.hid (HB3.out.to hp)
      have HG4 := Lib.hid (HG3.out.to hp)
      have HR14 := Lib.hid (HR13.out.to hp)
      have HR24 := Lib.hid (HR23.out.to hp)
      have HLS4 := Lib.hid (HLS3.out.to hp)
      have HLT4 := Lib.hid (HLT3.out.to hp)
      have LS4 := Lib.hid (ls1)
      have LT4 := Lib.hid (lt1)
      clear hp hP3 HA3 za0 za1 za2 za3 zal HB3 HG3 HR13 HR23 HLS3 HLT3
      obtain ⟨za0, za1, za2, za3, zal⟩ := HA4.out
      obtain ⟨s1p, s1c, rfl⟩ := ls1.form
      obtain ⟨t1p, t1c, rfl⟩ := lt1.form
      clear ls1 lt1
      go_wp2_with fail
      refine (Greatest_any w4 b p cap hs HB4.out HG4.out).mono ?_
      rintro e w5 ⟨hq, hp⟩
      obtain ⟨s2, t2, rfl, ls1, lt1⟩ := truth_lists (gr := true) hq HCK.out HN.out (pick_hi b)
      clear hq
      have hP5 : Hid (Pure w w5) := hP4.out.trans hp
      have HA5 := Lib.hid (HA4.out.pure hp)
      have HB5 := Lib.hid (HB4.out.to hp)
      have HG5 := Lib.hid (HG4.out.to hp)
      have HR15 := Lib.hid (HR14.out.to hp)
      have HR25 := Lib.hid (HR24.out.to hp)
      have HLS5 := Lib.hid (HLS4.out.to hp)
      have HLT5 := Lib.hid (HLT4.out.to hp)
      have LS5 := Lib.hid (LS4.out.to hp)
      have LT5 := Lib.hid (LT4.out.to hp)
      have MS5 := Lib.hid (ls1)
      have MT5 := Lib.hid (lt1)
      clear hp hP4 HA4 za0 za1 za2 za3 zal HB4 HG4 HR14 HR24 HLS4 HLT4 LS4 LT4
      obtain ⟨za0, za1, za2, za3, zal⟩ := HA5.out
      obtain ⟨s2p, s2c, rfl⟩ := ls1.form
      obtain ⟨t2p, t2c, rfl⟩ := lt1.form
      clear ls1 lt1
      go_wp2_with fail
      refine (Round_any w5 b p cap hs HB5.out HG5.out).mono ?_
      rintro e w6 ⟨hq, hp⟩
      obtain ⟨lq, lc, l, rfl, -, -, hbad, -⟩ := RoQ.of hq
      clear hq
      have hl0 := hbad (by rw [HE5.out]; omega)
      subst hl0
      rw [HE5.out]
      clear hbad
      have hP6 : Hid (Pure w w6) := hP5.out.trans hp
      have HA6 := Lib.hid (HA5.out.pure hp)
      have HB6 := Lib.hid (HB5.out.to hp)
      have HG6 := Lib.hid (HG5.out.to hp)
      have HR16 := Lib.hid (HR15.out.to hp)
      have HR26 := Lib.hid (HR25.out.to hp)
      have HLS6 := Lib.hid (HLS5.out.to hp)
      have HLT6 := Lib.hid (HLT5.out.to hp)
      have LS6 := Lib.hid (LS5.out.to hp)
      have LT6 := Lib.hid (LT5.out.to hp)
      have MS6 := Lib.hid (MS5.out.to hp)
      have MT6 := Lib.hid (MT5.out.to hp)
      clear hp hP5 HA5 za0 za1 za2 za3 zal HB5 HG5 HR15 HR25 HLS5 HLT5 LS5 LT5 MS5 MT5
      obtain ⟨za0, za1, za2, za3, zal⟩ := HA6.out
      go_wp2_with fail
      refine (CheckRound_any w6 b p q1 cap n1 c1 f1 hs HB6.out HG6.out (by omega) HR16.out).mono ?_
      rintro e w7 ⟨rfl, hp⟩
      have hP7 : Hid (Pure w w7) := hP6.out.trans hp
      have HA7 := Lib.hid (HA6.out.pure hp)
      have HB7 := Lib.hid (HB6.out.to hp)
      have HG7 := Lib.hid (HG6.out.to hp)
      have HR17 := Lib.hid (HR16.out.to hp)
      have HR27 := Lib.hid (HR26.out.to hp)
      have HLS7 := Lib.hid (HLS6.out.to hp)
      have HLT7 := Lib.hid (HLT6.out.to hp)
      have LS7 := Lib.hid (LS6.out.to hp)
      have LT7 := Lib.hid (LT6.out.to hp)
      have MS7 := Lib.hid (MS6.out.to hp)
      have MT7 := Lib.hid (MT6.out.to hp)
      clear hp hP6 HA6 za0 za1 za2 za3 zal HB6 HG6 HR16 HR26 HLS6 HLT6 LS6 LT6 MS6 MT6
      obtain ⟨za0, za1, za2, za3, zal⟩ := HA7.out
      have hrn := round_none b HCK.out HN.out f1 n1
      obtain ⟨r1, hr1⟩ : ∃ r, (roundC b f1 n1).1 = r := ⟨_, rfl⟩
      obtain ⟨r2, hr2⟩ : ∃ r, (roundC b f1 n1).2 = r := ⟨_, rfl⟩
      rw [hr1, hr2]
      rw [hr2] at hrn
      have hrn2 : (r2 != 0) = true := by simpa using hrn
      clear hr1 hr2 hrn
      go_wp2_with fail
      refine (CheckTruth_any w7 b p cap _ _ (hXs b u) (hYs b u) hs HB7.out HG7.out HLS7.out HLT7.out).mono ?_
      rintro e w8 ⟨rfl, hp⟩
      have hP8 : Hid (Pure w w8) := hP7.out.trans hp
      have HA8 := Lib.hid (HA7.out.pure hp)
      have HB8 := Lib.hid (HB7.out.to hp)
      have HG8 := Lib.hid (HG7.out.to hp)
      have HR18 := Lib.hid (HR17.out.to hp)
      have HR28 := Lib.hid (HR27.out.to hp)
      have HLS8 := Lib.hid (HLS7.out.to hp)
      have HLT8 := Lib.hid (HLT7.out.to hp)
      have LS8 := Lib.hid (LS7.out.to hp)
      have LT8 := Lib.hid (LT7.out.to hp)
      have MS8 := Lib.hid (MS7.out.to hp)
      have MT8 := Lib.hid (MT7.out.to hp)
      clear hp hP7 HA7 za0 za1 za2 za3 zal HB7 HG7 HR17 HR27 HLS7 HLT7 LS7 LT7 MS7 MT7
      obtain ⟨za0, za1, za2, za3, zal⟩ := HA8.out
      obtain ⟨e5, he5⟩ : ∃ e, truthC b (hXs b u) (hYs b u) = e := ⟨_, rfl⟩
      have HE := Lib.hid he5
      rw [he5]
      clear he5
      go_wp2_with fail
      refine (RCheckTruth_list w8 b p cap _ _ (hXs b u) (hYs b u) hs HB8.out HLS8.out HLT8.out HIX.out HIY.out).mono ?_
      rintro e w9 ⟨rfl, hp⟩
      rw [HE.out]
      have hP9 : Hid (Pure w w9) := hP8.out.trans hp
      have HA9 := Lib.hid (HA8.out.pure hp)
      have HB9 := Lib.hid (HB8.out.to hp)
      have HG9 := Lib.hid (HG8.out.to hp)
      have HR19 := Lib.hid (HR18.out.to hp)
      have HR29 := Lib.hid (HR28.out.to hp)
      have HLS9 := Lib.hid (HLS8.out.to hp)
      have HLT9 := Lib.hid (HLT8.out.to hp)
      have LS9 := Lib.hid (LS8.out.to hp)
      have LT9 := Lib.hid (LT8.out.to hp)
      have MS9 := Lib.hid (MS8.out.to hp)
      have MT9 := Lib.hid (MT8.out.to hp)
      clear hp hP8 HA8 za0 za1 za2 za3 zal HB8 HG8 HR18 HR28 HLS8 HLT8 LS8 LT8 MS8 MT8
      obtain ⟨za0, za1, za2, za3, zal⟩ := HA9.out
      go_wp2_with fail
      refine (RCheckTruth_list w9 b p cap _ _ (lsX b false) (lsY b false) hs HB9.out LS9.out LT9.out (ls_in b hv false).1 (ls_in b hv false).2).mono ?_
      rintro e w10 ⟨rfl, hp⟩
      rw [end_truth b HCK.out HN.out]
      have hP10 : Hid (Pure w w10) := hP9.out.trans hp
      have HA10 := Lib.hid (HA9.out.pure hp)
      have HB10 := Lib.hid (HB9.out.to hp)
      have HG10 := Lib.hid (HG9.out.to hp)
      have HR110 := Lib.hid (HR19.out.to hp)
      have HR210 := Lib.hid (HR29.out.to hp)
      have HLS10 := Lib.hid (HLS9.out.to hp)
      have HLT10 := Lib.hid (HLT9.out.to hp)
      have LS10 := Lib.hid (LS9.out.to hp)
      have LT10 := Lib.hid (LT9.out.to hp)
      have MS10 := Lib.hid (MS9.out.to hp)
      have MT10 := Lib.hid (MT9.out.to hp)
      clear hp hP9 HA9 za0 za1 za2 za3 zal HB9 HG9 HR19 HR29 HLS9 HLT9 LS9 LT9 MS9 MT9
      obtain ⟨za0, za1, za2, za3, zal⟩ := HA10.out
      go_wp2_with fail
      refine (RCheckTruth_list w10 b p cap _ _ (lsX b true) (lsY b true) hs HB10.out MS10.out MT10.out (ls_in b hv true).1 (ls_in b hv true).2).mono ?_
      rintro e w11 ⟨rfl, hp⟩
      rw [end_truth b HCK.out HN.out]
      have hP11 : Hid (Pure w w11) := hP10.out.trans hp
      have HA11 := Lib.hid (HA10.out.pure hp)
      have HB11 := Lib.hid (HB10.out.to hp)
      have HG11 := Lib.hid (HG10.out.to hp)
      have HR111 := Lib.hid (HR110.out.to hp)
      have HR211 := Lib.hid (HR210.out.to hp)
      have HLS11 := Lib.hid (HLS10.out.to hp)
      have HLT11 := Lib.hid (HLT10.out.to hp)
      have LS11 := Lib.hid (LS10.out.to hp)
      have LT11 := Lib.hid (LT10.out.to hp)
      have MS11 := Lib.hid (MS10.out.to hp)
      have MT11 := Lib.hid (MT10.out.to hp)
      clear hp hP10 HA10 za0 za1 za2 za3 zal HB10 HG10 HR110 HR210 HLS10 HLT10 LS10 LT10 MS10 MT10
      obtain ⟨za0, za1, za2, za3, zal⟩ := HA11.out
      go_wp2_with fail
      refine (CheckTruth_any w11 b p cap _ _ (lsX b false) (lsY b false) hs HB11.out HG11.out LS11.out LT11.out).mono ?_
      rintro e w12 ⟨rfl, hp⟩
      rw [end_truth b HCK.out HN.out]
      have hP12 : Hid (Pure w w12) := hP11.out.trans hp
      have HA12 := Lib.hid (HA11.out.pure hp)
      have HB12 := Lib.hid (HB11.out.to hp)
      have HG12 := Lib.hid (HG11.out.to hp)
      have HR112 := Lib.hid (HR111.out.to hp)
      have HR212 := Lib.hid (HR211.out.to hp)
      have HLS12 := Lib.hid (HLS11.out.to hp)
      have HLT12 := Lib.hid (HLT11.out.to hp)
      have LS12 := Lib.hid (LS11.out.to hp)
      have LT12 := Lib.hid (LT11.out.to hp)
      have MS12 := Lib.hid (MS11.out.to hp)
      have MT12 := Lib.hid (MT11.out.to hp)
      clear hp hP11 HA11 za0 za1 za2 za3 zal HB11 HG11 HR111 HR211 HLS11 HLT11 LS11 LT11 MS11 MT11
      obtain ⟨za0, za1, za2, za3, zal⟩ := HA12.out
      go_wp2_with fail
      refine (CheckTruth_any w12 b p cap _ _ (lsX b true) (lsY b true) hs HB12.out HG12.out MS12.out MT12.out).mono ?_
      rintro e w13 ⟨rfl, hp⟩
      rw [end_truth b HCK.out HN.out]
      have hP13 : Hid (Pure w w13) := hP12.out.trans hp
      have HA13 := Lib.hid (HA12.out.pure hp)
      have HB13 := Lib.hid (HB12.out.to hp)
      have HG13 := Lib.hid (HG12.out.to hp)
      have HR113 := Lib.hid (HR112.out.to hp)
      have HR213 := Lib.hid (HR212.out.to hp)
      have HLS13 := Lib.hid (HLS12.out.to hp)
      have HLT13 := Lib.hid (HLT12.out.to hp)
      have LS13 := Lib.hid (LS12.out.to hp)
      have LT13 := Lib.hid (LT12.out.to hp)
      have MS13 := Lib.hid (MS12.out.to hp)
      have MT13 := Lib.hid (MT12.out.to hp)
      clear hp hP12 HA12 za0 za1 za2 za3 zal HB12 HG12 HR112 HR212 HLS12 HLT12 LS12 LT12 MS12 MT12
      obtain ⟨za0, za1, za2, za3, zal⟩ := HA13.out
      go_wp2_with fail
      refine (Works_any w13 HG13.out).mono ?_
      rintro e w14 ⟨rfl, hp⟩
      have hP14 : Hid (Pure w w14) := hP13.out.trans hp
      have HA14 := Lib.hid (HA13.out.pure hp)
      have HB14 := Lib.hid (HB13.out.to hp)
      have HG14 := Lib.hid (HG13.out.to hp)
      have HR114 := Lib.hid (HR113.out.to hp)
      have HR214 := Lib.hid (HR213.out.to hp)
      have HLS14 := Lib.hid (HLS13.out.to hp)
      have HLT14 := Lib.hid (HLT13.out.to hp)
      have LS14 := Lib.hid (LS13.out.to hp)
      have LT14 := Lib.hid (LT13.out.to hp)
      have MS14 := Lib.hid (MS13.out.to hp)
      have MT14 := Lib.hid (MT13.out.to hp)
      clear hp hP13 HA13 za0 za1 za2 za3 zal HB13 HG13 HR113 HR213 HLS13 HLT13 LS13 LT13 MS13 MT13
      obtain ⟨za0, za1, za2, za3, zal⟩ := HA14.out
      go_wp2_with fail
      exact bodyPost_ret (v := .bool true) (by simp [results, Tryd.results8, go_sem]) rfl ⟨rfl, hP14.out⟩
    | true =>
      have HN := Lib.hid hN
      have hE5 : reB b = 0 := by rw [HRE.out, if_neg (by rw [hN]; simp)]
      have HE5 := Lib.hid hE5
      clear hN hE5
      refine (Least_any w3 b p cap hs HB3.out HG3.out).mono ?_
      rintro e w4 ⟨hq, hp⟩
      obtain rfl := truth_lists_none hq HCK.out HN.out
      clear hq
      have hP4 : Hid (Pure w w4) := hP3.out.trans hp
      have HA4 := Lib.hid (HA3.out.pure hp)
      have HB4 := Lib.hid (HB3.out.to hp)
      have HG4 := Lib.hid (HG3.out.to hp)
      have HR14 := Lib.hid (HR13.out.to hp)
      have HR24 := Lib.hid (HR23.out.to hp)
      have HLS4 := Lib.hid (HLS3.out.to hp)
      have HLT4 := Lib.hid (HLT3.out.to hp)
      clear hp hP3 HA3 za0 za1 za2 za3 zal HB3 HG3 HR13 HR23 HLS3 HLT3
      obtain ⟨za0, za1, za2, za3, zal⟩ := HA4.out
      go_wp2_with fail
      refine (Greatest_any w4 b p cap hs HB4.out HG4.out).mono ?_
      rintro e w5 ⟨hq, hp⟩
      obtain rfl := truth_lists_none hq HCK.out HN.out
      clear hq
      have hP5 : Hid (Pure w w5) := hP4.out.trans hp
      have HA5 := Lib.hid (HA4.out.pure hp)
      have HB5 := Lib.hid (HB4.out.to hp)
      have HG5 := Lib.hid (HG4.out.to hp)
      have HR15 := Lib.hid (HR14.out.to hp)
      have HR25 := Lib.hid (HR24.out.to hp)
      have HLS5 := Lib.hid (HLS4.out.to hp)
      have HLT5 := Lib.hid (HLT4.out.to hp)
      clear hp hP4 HA4 za0 za1 za2 za3 zal HB4 HG4 HR14 HR24 HLS4 HLT4
      obtain ⟨za0, za1, za2, za3, zal⟩ := HA5.out
      go_wp2_with fail
      refine (Round_any w5 b p cap hs HB5.out HG5.out).mono ?_
      rintro e w6 ⟨hq, hp⟩
      obtain ⟨lq, lc, l, rfl, hrl, hl19, -, hok⟩ := RoQ.of hq
      obtain ⟨m, hm0, hrc⟩ := hok HE5.out
      have HRC := Lib.hid hrc
      rw [HE5.out]
      have hP6 : Hid (Pure w w6) := hP5.out.trans hp
      have HA6 := Lib.hid (HA5.out.pure hp)
      have HB6 := Lib.hid (HB5.out.to hp)
      have HG6 := Lib.hid (HG5.out.to hp)
      have HR16 := Lib.hid (HR15.out.to hp)
      have HR26 := Lib.hid (HR25.out.to hp)
      have HLS6 := Lib.hid (HLS5.out.to hp)
      have HLT6 := Lib.hid (HLT5.out.to hp)
      have HL6 := Lib.hid (hrl)
      clear hp hP5 HA5 za0 za1 za2 za3 zal HB5 HG5 HR15 HR25 HLS5 HLT5
      obtain ⟨za0, za1, za2, za3, zal⟩ := HA6.out
      clear hrl hq hok hrc
      have hli : ¬ 30 < (l.length : Int) := by omega
      go_wp2_with fail
      refine (CheckRound_any w6 b p q1 cap n1 c1 f1 hs HB6.out HG6.out (by omega) HR16.out).mono ?_
      rintro e w7 ⟨rfl, hp⟩
      have hP7 : Hid (Pure w w7) := hP6.out.trans hp
      have HA7 := Lib.hid (HA6.out.pure hp)
      have HB7 := Lib.hid (HB6.out.to hp)
      have HG7 := Lib.hid (HG6.out.to hp)
      have HR17 := Lib.hid (HR16.out.to hp)
      have HR27 := Lib.hid (HR26.out.to hp)
      have HLS7 := Lib.hid (HLS6.out.to hp)
      have HLT7 := Lib.hid (HLT6.out.to hp)
      have HL7 := Lib.hid (HL6.out.to hp)
      clear hp hP6 HA6 za0 za1 za2 za3 zal HB6 HG6 HR16 HR26 HLS6 HLT6 HL6
      obtain ⟨za0, za1, za2, za3, zal⟩ := HA7.out
      obtain ⟨r1, hr1⟩ : ∃ r, (roundC b f1 n1).1 = r := ⟨_, rfl⟩
      obtain ⟨r2, hr2⟩ : ∃ r, (roundC b f1 n1).2 = r := ⟨_, rfl⟩
      rw [hr1, hr2]
      clear hr1 hr2
      go_wp2_with fail
      refine (CheckTruth_any w7 b p cap _ _ (hXs b u) (hYs b u) hs HB7.out HG7.out HLS7.out HLT7.out).mono ?_
      rintro e w8 ⟨rfl, hp⟩
      rw [truth_none b HCK.out HN.out _ _ HLX.out HLY.out HIX.out HIY.out]
      have hP8 : Hid (Pure w w8) := hP7.out.trans hp
      have HA8 := Lib.hid (HA7.out.pure hp)
      have HB8 := Lib.hid (HB7.out.to hp)
      have HG8 := Lib.hid (HG7.out.to hp)
      have HR18 := Lib.hid (HR17.out.to hp)
      have HR28 := Lib.hid (HR27.out.to hp)
      have HLS8 := Lib.hid (HLS7.out.to hp)
      have HLT8 := Lib.hid (HLT7.out.to hp)
      have HL8 := Lib.hid (HL7.out.to hp)
      clear hp hP7 HA7 za0 za1 za2 za3 zal HB7 HG7 HR17 HR27 HLS7 HLT7 HL7
      obtain ⟨za0, za1, za2, za3, zal⟩ := HA8.out
      go_wp2_with fail
      refine (RCheckTruth_list w8 b p cap _ _ (hXs b u) (hYs b u) hs HB8.out HLS8.out HLT8.out HIX.out HIY.out).mono ?_
      rintro e w9 ⟨rfl, hp⟩
      rw [truth_none b HCK.out HN.out _ _ HLX.out HLY.out HIX.out HIY.out]
      have hP9 : Hid (Pure w w9) := hP8.out.trans hp
      have HA9 := Lib.hid (HA8.out.pure hp)
      have HB9 := Lib.hid (HB8.out.to hp)
      have HG9 := Lib.hid (HG8.out.to hp)
      have HR19 := Lib.hid (HR18.out.to hp)
      have HR29 := Lib.hid (HR28.out.to hp)
      have HLS9 := Lib.hid (HLS8.out.to hp)
      have HLT9 := Lib.hid (HLT8.out.to hp)
      have HL9 := Lib.hid (HL8.out.to hp)
      clear hp hP8 HA8 za0 za1 za2 za3 zal HB8 HG8 HR18 HR28 HLS8 HLT8 HL8
      obtain ⟨za0, za1, za2, za3, zal⟩ := HA9.out
      go_wp2_with fail
      refine (CheckRound_any w9 b p lq cap l.length lc (nthI l) hs HB9.out HG9.out (by omega) HL9.out).mono ?_
      rintro e w10 ⟨rfl, hp⟩
      rw [HRC.out]
      have hP10 : Hid (Pure w w10) := hP9.out.trans hp
      have HA10 := Lib.hid (HA9.out.pure hp)
      have HB10 := Lib.hid (HB9.out.to hp)
      have HG10 := Lib.hid (HG9.out.to hp)
      have HR110 := Lib.hid (HR19.out.to hp)
      have HR210 := Lib.hid (HR29.out.to hp)
      have HLS10 := Lib.hid (HLS9.out.to hp)
      have HLT10 := Lib.hid (HLT9.out.to hp)
      have HL10 := Lib.hid (HL9.out.to hp)
      clear hp hP9 HA9 za0 za1 za2 za3 zal HB9 HG9 HR19 HR29 HLS9 HLT9 HL9
      obtain ⟨za0, za1, za2, za3, zal⟩ := HA10.out
      go_wp2_with fail
      refine (RCheckRound_any w10 b p lq cap l.length lc (nthI l) hs HB10.out (by omega) HL10.out).mono ?_
      rintro e w11 ⟨rfl, hp⟩
      rw [HRC.out]
      have hP11 : Hid (Pure w w11) := hP10.out.trans hp
      have HA11 := Lib.hid (HA10.out.pure hp)
      have HB11 := Lib.hid (HB10.out.to hp)
      have HG11 := Lib.hid (HG10.out.to hp)
      have HR111 := Lib.hid (HR110.out.to hp)
      have HR211 := Lib.hid (HR210.out.to hp)
      have HLS11 := Lib.hid (HLS10.out.to hp)
      have HLT11 := Lib.hid (HLT10.out.to hp)
      have HL11 := Lib.hid (HL10.out.to hp)
      clear hp hP10 HA10 za0 za1 za2 za3 zal HB10 HG10 HR110 HR210 HLS10 HLT10 HL10
      obtain ⟨za0, za1, za2, za3, zal⟩ := HA11.out
      have hm1 : ¬ m ≤ 0 := by omega
      go_wp2_with fail
      refine (Works_any w11 HG11.out).mono ?_
      rintro e w12 ⟨rfl, hp⟩
      have hP12 : Hid (Pure w w12) := hP11.out.trans hp
      have HA12 := Lib.hid (HA11.out.pure hp)
      have HB12 := Lib.hid (HB11.out.to hp)
      have HG12 := Lib.hid (HG11.out.to hp)
      have HR112 := Lib.hid (HR111.out.to hp)
      have HR212 := Lib.hid (HR211.out.to hp)
      have HLS12 := Lib.hid (HLS11.out.to hp)
      have HLT12 := Lib.hid (HLT11.out.to hp)
      have HL12 := Lib.hid (HL11.out.to hp)
      clear hp hP11 HA11 za0 za1 za2 za3 zal HB11 HG11 HR111 HR211 HLS11 HLT11 HL11
      obtain ⟨za0, za1, za2, za3, zal⟩ := HA12.out
      go_wp2_with fail
      exact bodyPost_ret (v := .bool true) (by simp [results, Tryd.results8, go_sem]) rfl ⟨rfl, hP12.out⟩
end Go.Proofs.YtmedkmbfggphdaaDoor
