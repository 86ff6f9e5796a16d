/- TasteBoth: of two truths of a book, the lesser and the greater numbers are truths. The walk of the law, for any book in memory and any numbers. -/
import Derived.Test.YtmedkmbfggphdaaDoorT9a
set_option linter.unusedSimpArgs false
set_option linter.unusedVariables false
set_option linter.constructorNameAsVariable false
namespace Go.Proofs.YtmedkmbfggphdaaDoor
open Go.RowKit

set_option maxRecDepth 20000 in
set_option maxHeartbeats 16000000 in
theorem Both_any (w : World) (b : BK) (p : Option Addr) (cap : Nat) (q1 : Option Addr) (n1 c1 : Nat) (f1 : Nat → Int) (q2 : Option Addr) (n2 c2 : Nat) (f2 : Nat → Int) (hb : BookAt w.heap.size w p b) (hr1 : Row w.heap.size w q1 n1 fun k => .int .u16 (f1 k)) (hw1 : ∀ i, i < n1 → (Lit.int .u16 (f1 i)).wf = true)
    (hr2 : Row w.heap.size w q2 n2 fun k => .int .u16 (f2 k)) (hw2 : ∀ i, i < n2 → (Lit.int .u16 (f2 i)).wf = true) (hg : Gl w) :
    Calls Tryd.prog 11 #[bookV b p cap, .slice q1 n1 c1, .slice q2 n2 c2] w fun e w' => e = .returned (.bool true) ∧ Pure w w' := by
  have hmx : Tryd.prog.follows .mixedOrders = true := by kernel_rfl
  have HR1 := Lib.hid hr1
  have HR2 := Lib.hid hr2
  have HF1 : Hid (∀ i, i < n1 → 0 ≤ f1 i ∧ f1 i ≤ 65535) := fun i hi => Go.bounds_u16 (hw1 i hi)
  have HF2 : Hid (∀ i, i < n2 → 0 ≤ f2 i ∧ f2 i ≤ 65535) := fun i hi => Go.bounds_u16 (hw2 i hi)
  clear hr1 hr2 hw2 hw1
  have HB := Lib.hid hb
  have HG := Lib.hid hg
  clear hb hg
  go_enter Tryd.func11, Tryd.ntmps11
  go_wp2_with fail
  obtain ⟨X, hX⟩ : ∃ X, w.alloc (.cells (bookC b p cap) 26) = X := ⟨_, rfl⟩
  have hP : Hid (Pure w X) := by rw [← hX]; exact (Diff.refl w).alloc _
  have hX1 : BoxB w.heap.size b p cap X := by rw [← hX]; exact BoxB.new w b p cap 26
  obtain ⟨g0, hg0⟩ : ∃ g, w.heap.size = g := ⟨_, rfl⟩
  rw [hX]
  rw [hg0] at hX1 ⊢
  clear hX hg0
  have H0 := Lib.hid hX1
  obtain ⟨c0, c1', c2', c3, cl⟩ := hX1
  refine (fine_any X b p cap (HB.out.to hP.out)).mono ?_
  rintro e w1 ⟨rfl, hp1⟩
  have hP1 : Hid (Pure w w1) := hP.out.trans hp1
  have HA1 := Lib.hid (H0.out.pure hp1)
  clear c0 c1' c2' c3 cl hp1 hP H0
  obtain ⟨za0, za1, za2, za3, zal⟩ := HA1.out
  cases hfine : fineB b with
  | false =>
    go_wp2_with fail
    refine (Works_any w1 (HG.out.to hP1.out)).mono ?_
    rintro e w2 ⟨rfl, hp2⟩
    have hP2 : Hid (Pure w w2) := hP1.out.trans hp2
    clear hp2
    go_wp2_with fail
    exact bodyPost_ret (v := .bool true) (by simp [results, Tryd.results11, go_sem]) rfl ⟨rfl, hP2.out⟩
  | true =>
    obtain ⟨hs, hck⟩ := fineB_iff.1 hfine
    have hv := checkB_valid hck
    have HCK := Lib.hid hck
    clear hck hfine
    by_cases hn1 : 30 < n1
    · have h30i : 30 < (n1 : Int) := by omega
      go_wp2_with fail
      refine (Works_any w1 (HG.out.to hP1.out)).mono ?_
      rintro e w2 ⟨rfl, hp2⟩
      have hP2 : Hid (Pure w w2) := hP1.out.trans hp2
      clear hp2
      go_wp2_with fail
      exact bodyPost_ret (v := .bool true) (by simp [results, Tryd.results11, go_sem]) rfl ⟨rfl, hP2.out⟩
    have hn1i : ¬ 30 < (n1 : Int) := by omega
    by_cases hn2 : 30 < n2
    · have h30i : 30 < (n2 : Int) := by omega
      go_wp2_with fail
      refine (Works_any w1 (HG.out.to hP1.out)).mono ?_
      rintro e w2 ⟨rfl, hp2⟩
      have hP2 : Hid (Pure w w2) := hP1.out.trans hp2
      clear hp2
      go_wp2_with fail
      exact bodyPost_ret (v := .bool true) (by simp [results, Tryd.results11, go_sem]) rfl ⟨rfl, hP2.out⟩
    have hn2i : ¬ 30 < (n2 : Int) := by omega
    have HB1 := Lib.hid (HB.out.to hP1.out)
    have HG1 := Lib.hid (HG.out.to hP1.out)
    have HR11 := Lib.hid (HR1.out.to hP1.out)
    have HR21 := Lib.hid (HR2.out.to hP1.out)
    clear HB HG HR1 HR2
    go_wp2_with fail
    obtain ⟨u1, hu1⟩ : ∃ u, numU f1 n1 = u := ⟨_, rfl⟩
    have HEu1 := Lib.hid hu1
    clear hu1
    refine (Held_any w1 b p cap q1 n1 c1 f1 hv HB1.out HR11.out (by omega) HF1.out).mono ?_
    rintro e w2 ⟨hq, hp⟩
    rw [HEu1.out] at hq
    obtain ⟨bap, bac, sv, tv, rfl, hbk, hls, hlt⟩ := hq
    obtain ⟨ba, hba⟩ : ∃ c, heldB b u1 = c := ⟨_, rfl⟩
    have HEba := Lib.hid hba
    rw [hba] at hbk ⊢
    clear hba
    have hP2 : Hid (Pure w w2) := hP1.out.trans hp
    have HA2 := Lib.hid (HA1.out.pure hp)
    have HB2 := Lib.hid (HB1.out.to hp)
    have HG2 := Lib.hid (HG1.out.to hp)
    have HR12 := Lib.hid (HR11.out.to hp)
    have HR22 := Lib.hid (HR21.out.to hp)
    have LaB2 := Lib.hid (hbk)
    have LaS2 := Lib.hid (hls)
    have LaT2 := Lib.hid (hlt)
    clear hp hP1 HA1 za0 za1 za2 za3 zal HB1 HG1 HR11 HR21
    obtain ⟨za0, za1, za2, za3, zal⟩ := HA2.out
    obtain ⟨Laq, Lad, rfl⟩ := hls.form
    obtain ⟨Lar, Lae, rfl⟩ := hlt.form
    clear hbk hls hlt
    go_wp2_with fail
    obtain ⟨w3, hw3⟩ : ∃ v, w2.alloc (.cells (bookC ba bap bac) 26) = v := ⟨_, rfl⟩
    have hp : Pure w2 w3 := by rw [← hw3]; exact (Diff.refl _).alloc _
    have hx : BoxB w2.heap.size ba bap bac w3 := by rw [← hw3]; exact BoxB.new w2 ba bap bac 26
    obtain ⟨g3, hg3⟩ : ∃ g, w2.heap.size = g := ⟨_, rfl⟩
    rw [hw3]
    rw [hg3] at hx ⊢
    clear hg3
    have hP3 : Hid (Pure w w3) := hP2.out.trans hp
    have HA3 := Lib.hid (HA2.out.pure hp)
    have HB3 := Lib.hid (HB2.out.to hp)
    have HG3 := Lib.hid (HG2.out.to hp)
    have HR13 := Lib.hid (HR12.out.to hp)
    have HR23 := Lib.hid (HR22.out.to hp)
    have LaB3 := Lib.hid (LaB2.out.to hp)
    have LaS3 := Lib.hid (LaS2.out.to hp)
    have LaT3 := Lib.hid (LaT2.out.to hp)
    have HC3 := Lib.hid hx
    clear hp hx hw3 hP2 HA2 za0 za1 za2 za3 zal HB2 HG2 HR12 HR22 LaB2 LaS2 LaT2
    obtain ⟨za0, za1, za2, za3, zal⟩ := HA3.out
    obtain ⟨zc0, zc1, zc2, zc3, zcl⟩ := HC3.out
    go_wp2_with fail
    refine (fine_any w3 ba bap bac LaB3.out).mono ?_
    rintro e w4 ⟨rfl, hp⟩
    have hP4 : Hid (Pure w w4) := hP3.out.trans hp
    have HA4 := Lib.hid (HA3.out.pure hp)
    have HC4 := Lib.hid (HC3.out.pure hp)
    have HB4 := Lib.hid (HB3.out.to hp)
    have HG4 := Lib.hid (HG3.out.to hp)
    have HR14 := Lib.hid (HR13.out.to hp)
    have HR24 := Lib.hid (HR23.out.to hp)
    have LaB4 := Lib.hid (LaB3.out.to hp)
    have LaS4 := Lib.hid (LaS3.out.to hp)
    have LaT4 := Lib.hid (LaT3.out.to hp)
    clear hp hP3 HA3 HC3 za0 za1 za2 za3 zal zc0 zc1 zc2 zc3 zcl HB3 HG3 HR13 HR23 LaB3 LaS3 LaT3
    obtain ⟨za0, za1, za2, za3, zal⟩ := HA4.out
    obtain ⟨zc0, zc1, zc2, zc3, zcl⟩ := HC4.out
    cases hfine : fineB ba with
    | false =>
      go_wp2_with fail
      refine (Works_any w4 HG4.out).mono ?_
      rintro e w5 ⟨rfl, hp⟩
      have hP5 : Hid (Pure w w5) := hP4.out.trans hp
      have HA5 := Lib.hid (HA4.out.pure hp)
      have HC5 := Lib.hid (HC4.out.pure hp)
      have HB5 := Lib.hid (HB4.out.to hp)
      have HG5 := Lib.hid (HG4.out.to hp)
      have HR15 := Lib.hid (HR14.out.to hp)
      have HR25 := Lib.hid (HR24.out.to hp)
      have LaB5 := Lib.hid (LaB4.out.to hp)
      have LaS5 := Lib.hid (LaS4.out.to hp)
      have LaT5 := Lib.hid (LaT4.out.to hp)
      clear hp hP4 HA4 HC4 za0 za1 za2 za3 zal zc0 zc1 zc2 zc3 zcl HB4 HG4 HR14 HR24 LaB4 LaS4 LaT4
      obtain ⟨za0, za1, za2, za3, zal⟩ := HA5.out
      obtain ⟨zc0, zc1, zc2, zc3, zcl⟩ := HC5.out
      go_wp2_with fail
      exact bodyPost_ret (v := .bool true) (by simp [results, Tryd.results11, go_sem]) rfl ⟨rfl, hP5.out⟩
    | true =>
      obtain ⟨hsba, hck⟩ := fineB_iff.1 hfine
      have hvba := checkB_valid hck
      have HCKba := Lib.hid hck
      clear hck hfine
      go_wp2_with fail
      obtain ⟨u2, hu2⟩ : ∃ u, numU f2 n2 = u := ⟨_, rfl⟩
      have HEu2 := Lib.hid hu2
      clear hu2
      refine (Held_any w4 ba bap bac q2 n2 c2 f2 hvba LaB4.out HR24.out (by omega) HF2.out).mono ?_
      rintro e w5 ⟨hq, hp⟩
      rw [HEu2.out] at hq
      obtain ⟨bbp, bbc, sv, tv, rfl, hbk, hls, hlt⟩ := hq
      obtain ⟨bb, hbb⟩ : ∃ c, heldB ba u2 = c := ⟨_, rfl⟩
      have HEbb := Lib.hid hbb
      rw [hbb] at hbk ⊢
      clear hbb
      have hP5 : Hid (Pure w w5) := hP4.out.trans hp
      have HA5 := Lib.hid (HA4.out.pure hp)
      have HC5 := Lib.hid (HC4.out.pure hp)
      have HB5 := Lib.hid (HB4.out.to hp)
      have HG5 := Lib.hid (HG4.out.to hp)
      have HR15 := Lib.hid (HR14.out.to hp)
      have HR25 := Lib.hid (HR24.out.to hp)
      have LaB5 := Lib.hid (LaB4.out.to hp)
      have LaS5 := Lib.hid (LaS4.out.to hp)
      have LaT5 := Lib.hid (LaT4.out.to hp)
      have LbB5 := Lib.hid (hbk)
      have LbS5 := Lib.hid (hls)
      have LbT5 := Lib.hid (hlt)
      clear hp hP4 HA4 HC4 za0 za1 za2 za3 zal zc0 zc1 zc2 zc3 zcl HB4 HG4 HR14 HR24 LaB4 LaS4 LaT4
      obtain ⟨za0, za1, za2, za3, zal⟩ := HA5.out
      obtain ⟨zc0, zc1, zc2, zc3, zcl⟩ := HC5.out
      obtain ⟨Lbq, Lbd, rfl⟩ := hls.form
      obtain ⟨Lbr, Lbe, rfl⟩ := hlt.form
      clear hbk hls hlt
      go_wp2_with fail
      obtain ⟨w6, hw6⟩ : ∃ v, w5.alloc (.cells (bookC bb bbp bbc) 26) = v := ⟨_, rfl⟩
      have hp : Pure w5 w6 := by rw [← hw6]; exact (Diff.refl _).alloc _
      have hx : BoxB w5.heap.size bb bbp bbc w6 := by rw [← hw6]; exact BoxB.new w5 bb bbp bbc 26
      obtain ⟨g6, hg6⟩ : ∃ g, w5.heap.size = g := ⟨_, rfl⟩
      rw [hw6]
      rw [hg6] at hx ⊢
      clear hg6
      have hP6 : Hid (Pure w w6) := hP5.out.trans hp
      have HA6 := Lib.hid (HA5.out.pure hp)
      have HC6 := Lib.hid (HC5.out.pure hp)
      have HB6 := Lib.hid (HB5.out.to hp)
      have HG6 := Lib.hid (HG5.out.to hp)
      have HR16 := Lib.hid (HR15.out.to hp)
      have HR26 := Lib.hid (HR25.out.to hp)
      have LaB6 := Lib.hid (LaB5.out.to hp)
      have LaS6 := Lib.hid (LaS5.out.to hp)
      have LaT6 := Lib.hid (LaT5.out.to hp)
      have LbB6 := Lib.hid (LbB5.out.to hp)
      have LbS6 := Lib.hid (LbS5.out.to hp)
      have LbT6 := Lib.hid (LbT5.out.to hp)
      have HD6 := Lib.hid hx
      clear hp hx hw6 hP5 HA5 za0 za1 za2 za3 zal HC5 zc0 zc1 zc2 zc3 zcl HB5 HG5 HR15 HR25 LaB5 LaS5 LaT5 LbB5 LbS5 LbT5
      obtain ⟨za0, za1, za2, za3, zal⟩ := HA6.out
      obtain ⟨zc0, zc1, zc2, zc3, zcl⟩ := HC6.out
      obtain ⟨zd0, zd1, zd2, zd3, zdl⟩ := HD6.out
      go_wp2_with fail
      refine (fine_any w6 bb bbp bbc LbB6.out).mono ?_
      rintro e w7 ⟨rfl, hp⟩
      have hP7 : Hid (Pure w w7) := hP6.out.trans hp
      have HA7 := Lib.hid (HA6.out.pure hp)
      have HC7 := Lib.hid (HC6.out.pure hp)
      have HD7 := Lib.hid (HD6.out.pure hp)
      have HB7 := Lib.hid (HB6.out.to hp)
      have HG7 := Lib.hid (HG6.out.to hp)
      have HR17 := Lib.hid (HR16.out.to hp)
      have HR27 := Lib.hid (HR26.out.to hp)
      have LaB7 := Lib.hid (LaB6.out.to hp)
      have LaS7 := Lib.hid (LaS6.out.to hp)
      have LaT7 := Lib.hid (LaT6.out.to hp)
      have LbB7 := Lib.hid (LbB6.out.to hp)
      have LbS7 := Lib.hid (LbS6.out.to hp)
      have LbT7 := Lib.hid (LbT6.out.to hp)
      clear hp hP6 HA6 HC6 HD6 za0 za1 za2 za3 zal zc0 zc1 zc2 zc3 zcl zd0 zd1 zd2 zd3 zdl HB6 HG6 HR16 HR26 LaB6 LaS6 LaT6 LbB6 LbS6 LbT6
      obtain ⟨za0, za1, za2, za3, zal⟩ := HA7.out
      obtain ⟨zc0, zc1, zc2, zc3, zcl⟩ := HC7.out
      obtain ⟨zd0, zd1, zd2, zd3, zdl⟩ := HD7.out
      cases hfine : fineB bb with
      | false =>
        go_wp2_with fail
        refine (Works_any w7 HG7.out).mono ?_
        rintro e w8 ⟨rfl, hp⟩
        have hP8 : Hid (Pure w w8) := hP7.out.trans hp
        have HA8 := Lib.hid (HA7.out.pure hp)
        have HC8 := Lib.hid (HC7.out.pure hp)
        have HD8 := Lib.hid (HD7.out.pure hp)
        have HB8 := Lib.hid (HB7.out.to hp)
        have HG8 := Lib.hid (HG7.out.to hp)
        have HR18 := Lib.hid (HR17.out.to hp)
        have HR28 := Lib.hid (HR27.out.to hp)
        have LaB8 := Lib.hid (LaB7.out.to hp)
        have LaS8 := Lib.hid (LaS7.out.to hp)
        have LaT8 := Lib.hid (LaT7.out.to hp)
        have LbB8 := Lib.hid (LbB7.out.to hp)
        have LbS8 := Lib.hid (LbS7.out.to hp)
        have LbT8 := Lib.hid (LbT7.out.to hp)
        clear hp hP7 HA7 HC7 HD7 za0 za1 za2 za3 zal zc0 zc1 zc2 zc3 zcl zd0 zd1 zd2 zd3 zdl HB7 HG7 HR17 HR27 LaB7 LaS7 LaT7 LbB7 LbS7 LbT7
        obtain ⟨za0, za1, za2, za3, zal⟩ := HA8.out
        obtain ⟨zc0, zc1, zc2, zc3, zcl⟩ := HC8.out
        obtain ⟨zd0, zd1, zd2, zd3, zdl⟩ := HD8.out
        go_wp2_with fail
        exact bodyPost_ret (v := .bool true) (by simp [results, Tryd.results11, go_sem]) rfl ⟨rfl, hP8.out⟩
      | true =>
        obtain ⟨hsbb, hck⟩ := fineB_iff.1 hfine
        have hvbb := checkB_valid hck
        have HCKbb := Lib.hid hck
        clear hck hfine
        go_wp2_with fail
        obtain ⟨u3, hu3⟩ : ∃ u, numU f1 n1 = u := ⟨_, rfl⟩
        have HEu3 := Lib.hid hu3
        clear hu3
        refine (Held_any w7 bb bbp bbc q1 n1 c1 f1 hvbb LbB7.out HR17.out (by omega) HF1.out).mono ?_
        rintro e w8 ⟨hq, hp⟩
        rw [HEu3.out] at hq
        obtain ⟨bep, bec, sv, tv, rfl, hbk, hls, hlt⟩ := hq
        obtain ⟨be, hbe⟩ : ∃ c, heldB bb u3 = c := ⟨_, rfl⟩
        have HEbe := Lib.hid hbe
        rw [hbe] at hbk ⊢
        clear hbe
        have hP8 : Hid (Pure w w8) := hP7.out.trans hp
        have HA8 := Lib.hid (HA7.out.pure hp)
        have HC8 := Lib.hid (HC7.out.pure hp)
        have HD8 := Lib.hid (HD7.out.pure hp)
        have HB8 := Lib.hid (HB7.out.to hp)
        have HG8 := Lib.hid (HG7.out.to hp)
        have HR18 := Lib.hid (HR17.out.to hp)
        have HR28 := Lib.hid (HR27.out.to hp)
        have LaB8 := Lib.hid (LaB7.out.to hp)
        have LaS8 := Lib.hid (LaS7.out.to hp)
        have LaT8 := Lib.hid (LaT7.out.to hp)
        have LbB8 := Lib.hid (LbB7.out.to hp)
        have LbS8 := Lib.hid (LbS7.out.to hp)
        have LbT8 := Lib.hid (LbT7.out.to hp)
        have LeB8 := Lib.hid (hbk)
        have LeS8 := Lib.hid (hls)
        have LeT8 := Lib.hid (hlt)
        clear hp hP7 HA7 HC7 HD7 za0 za1 za2 za3 zal zc0 zc1 zc2 zc3 zcl zd0 zd1 zd2 zd3 zdl HB7 HG7 HR17 HR27 LaB7 LaS7 LaT7 LbB7 LbS7 LbT7
        obtain ⟨za0, za1, za2, za3, zal⟩ := HA8.out
        obtain ⟨zc0, zc1, zc2, zc3, zcl⟩ := HC8.out
        obtain ⟨zd0, zd1, zd2, zd3, zdl⟩ := HD8.out
        obtain ⟨Leq, Led, rfl⟩ := hls.form
        obtain ⟨Ler, Lee, rfl⟩ := hlt.form
        clear hbk hls hlt
        go_wp2_with fail
        obtain ⟨w9, hw9⟩ : ∃ v, w8.alloc (.cells (bookC be bep bec) 26) = v := ⟨_, rfl⟩
        have hp : Pure w8 w9 := by rw [← hw9]; exact (Diff.refl _).alloc _
        obtain ⟨ge, hge⟩ : ∃ g, w8.heap.size = g := ⟨_, rfl⟩
        rw [hw9, hge]
        clear hw9 hge
        clear za0 za1 za2 za3 zal
        clear zc0 zc1 zc2 zc3 zcl
        clear zd0 zd1 zd2 zd3 zdl
        have hP9 : Hid (Pure w w9) := hP8.out.trans hp
        have HA9 := Lib.hid (HA8.out.pure hp)
        have HC9 := Lib.hid (HC8.out.pure hp)
        have HD9 := Lib.hid (HD8.out.pure hp)
        have HB9 := Lib.hid (HB8.out.to hp)
        have HG9 := Lib.hid (HG8.out.to hp)
        have HR19 := Lib.hid (HR18.out.to hp)
        have HR29 := Lib.hid (HR28.out.to hp)
        have LaB9 := Lib.hid (LaB8.out.to hp)
        have LaS9 := Lib.hid (LaS8.out.to hp)
        have LaT9 := Lib.hid (LaT8.out.to hp)
        have LbB9 := Lib.hid (LbB8.out.to hp)
        have LbS9 := Lib.hid (LbS8.out.to hp)
        have LbT9 := Lib.hid (LbT8.out.to hp)
        have LeB9 := Lib.hid (LeB8.out.to hp)
        have LeS9 := Lib.hid (LeS8.out.to hp)
        have LeT9 := Lib.hid (LeT8.out.to hp)
        clear hp hP8 HA8 HC8 HD8 HB8 HG8 HR18 HR28 LaB8 LaS8 LaT8 LbB8 LbS8 LbT8 LeB8 LeS8 LeT8
        obtain ⟨t1, t2, t3, l1, l2, l3, l4⟩ := both_facts (u1 := u1) (u2 := u2) hv hvba HEba.out HEbb.out HCKbb.out
        have e13 : u3 = u1 := by rw [← HEu3.out, ← HEu1.out]
        subst e13
        obtain ⟨N, hN⟩ : ∃ n, b.lots.toNat = n := ⟨_, rfl⟩
        obtain ⟨M, hM⟩ : ∃ n, b.total = n := ⟨_, rfl⟩
        have hN6 := hv.lots6
        have hM12 := hv.tot
        have hNs : N ≤ 1000 := by omega
        have hMs : M ≤ 1000 := by omega
        rw [hN] at l1 l2 t3
        rw [hM] at l3 l4 t3
        rw [l1, l2, l3, l4]
        rw [l1] at LbS9
        rw [l3] at LbT9
        rw [l2] at LeS9
        rw [l4] at LeT9
        have RA9 := Lib.hid LbS9.out.row'.2
        have RB9 := Lib.hid LeS9.out.row'.2
        have RC9 := Lib.hid LbT9.out.row'.2
        have RD9 := Lib.hid LeT9.out.row'.2
        obtain ⟨xs, hxs⟩ : ∃ l, hXs ba u2 = l := ⟨_, rfl⟩
        obtain ⟨ys, hys⟩ : ∃ l, hYs ba u2 = l := ⟨_, rfl⟩
        obtain ⟨us, hus⟩ : ∃ l, hXs bb u3 = l := ⟨_, rfl⟩
        obtain ⟨vs, hvs⟩ : ∃ l, hYs bb u3 = l := ⟨_, rfl⟩
        rw [hxs] at RA9 LbS9
        rw [hys] at RC9 LbT9
        rw [hus] at RB9 LeS9
        rw [hvs] at RD9 LeT9
        rw [hxs, hys] at t1
        rw [hus, hvs] at t2
        rw [hxs, hys, hus, hvs] at t3
        have HT1 := Lib.hid t1
        have HT2 := Lib.hid t2
        have HT3 := Lib.hid t3
        clear hxs hys hus hvs hN hM l1 l2 l3 l4 t1 t2 t3
        go_wp2_with fail
        obtain ⟨FFA, hFF⟩ : ∃ f : Nat → Int, (fun i => minI (nthI xs i) (nthI us i)) = f := ⟨_, rfl⟩
        obtain ⟨GGA, hGG⟩ : ∃ f : Nat → Int, (fun i => maxI (nthI xs i) (nthI us i)) = f := ⟨_, rfl⟩
        have HFF1 := Lib.hid hFF
        have HGG1 := Lib.hid hGG
        clear hFF hGG
        go_loopw [16, 18, 20] (fun s t i wr => ∃ (j : Nat) (v1 v2 : Value), j ≤ N ∧ i = .int .i64 j ∧ s = v1 ∧ t = v2 ∧ Hid (ZI w9 FFA GGA j j v1 v2 wr)) (fun _ _ i _ => N - (intOf i).toNat)
        case atStart => exact ⟨0, _, _, Nat.zero_le _, rfl, rfl, rfl, ZI.start w9 FFA GGA⟩
        case round =>
          obtain ⟨j, lv, lw, hj, rfl, hs1, hs2, HZ⟩ := hrel
          have hs1' := hs1.symm
          have hs2' := hs2.symm
          clear hs1 hs2
          subst hs1' hs2'
          have hj0 : 0 ≤ (j : Int) := by omega
          by_cases hjn : j < N
          · have hji : (j : Int) < (N : Int) := by omega
            obtain ⟨ga, ia, hqa, hga, yx⟩ := RA9.out j hjn
            obtain ⟨gc, ic, hqc, hgc, yy⟩ := RB9.out j hjn
            subst hqa hqc
            obtain ⟨x, hx⟩ : ∃ x, nthI xs j = x := ⟨_, rfl⟩
            obtain ⟨y, hy⟩ : ∃ y, nthI us j = y := ⟨_, rfl⟩
            change _ = some (Value.int .i64 (nthI xs j)) at yx
            change _ = some (Value.int .i64 (nthI us j)) at yy
            rw [hx] at yx
            rw [hy] at yy
            have HMN : Hid (FFA j = if y < x then y else x) := by rw [← HFF1.out]; show minI (nthI xs j) (nthI us j) = _; rw [hx, hy]; rfl
            have HMX : Hid (GGA j = if x < y then y else x) := by rw [← HGG1.out]; show maxI (nthI xs j) (nthI us j) = _; rw [hx, hy]; rfl
            have HX := Lib.hid yx
            have HY := Lib.hid yy
            have HGX := Lib.hid hga
            have HGY := Lib.hid hgc
            have hj1000 : Hid (j ≤ 1000) := by show _ ≤ _; omega
            clear hx hy yx yy hga hgc
            go_wp2_with fail
            obtain ⟨V, hV⟩ : ∃ V, wr = V := ⟨_, rfl⟩
            rw [hV] at HZ ⊢
            clear hV
            refine reg_invW (fun d a W => ∃ (sb1 sb2 : Nat) (v1 v2 : Value), a = { tmps := #[bookV b p cap, Value.slice q1 n1 c1, Value.slice q2 n2 c2, Value.pointer (some { block := g0, off := 0 }), undef, undef, Value.bool false, Value.pointer (some { block := g3, off := 0 }), Value.slice Laq (hXs b u3).length Lad, Value.slice Lar (hYs b u3).length Lae, Value.pointer (some { block := g6, off := 0 }), Value.slice (some { block := ga, off := ia }) N Lbd, Value.slice Lbr M Lbe, Value.pointer (some { block := ge, off := 0 }), Value.slice (some { block := gc, off := ic }) N Led, Value.slice Ler M Lee, (bif d 24 then v1 else lv), Value.slice none 0 0, (bif d 25 then v2 else lw), Value.slice none 0 0, Value.int IntKind.i64 (j : Int), undef, Value.agg #[Value.int IntKind.i64 b.lo, Value.int IntKind.i64 b.hi, Value.int IntKind.i64 b.lots, Value.slice p b.n cap], Value.bool true, Value.bool false, Value.bool false, Value.slice q1 n1 c1, Value.int IntKind.i64 (n1 : Int), Value.bool (decide (30 < (n1 : Int))), Value.bool (decide (30 < (n1 : Int))), Value.bool (decide (30 < (n1 : Int))), Value.slice q2 n2 c2, Value.int IntKind.i64 (n2 : Int), Value.bool (decide (30 < (n2 : Int))), Value.bool (decide (30 < (n1 : Int)) || decide (30 < (n2 : Int))), undef, Value.tuple #[bookV ba bap bac, Value.slice Laq (hXs b u3).length Lad, Value.slice Lar (hYs b u3).length Lae], Value.agg #[Value.int IntKind.i64 b.lo, Value.int IntKind.i64 b.hi, Value.int IntKind.i64 b.lots, Value.slice p b.n cap], Value.slice q1 n1 c1, Value.tuple #[bookV ba bap bac, Value.slice Laq (hXs b u3).length Lad, Value.slice Lar (hYs b u3).length Lae], bookV ba bap bac, Value.slice Laq (hXs b u3).length Lad, Value.slice Lar (hYs b u3).length Lae, Value.agg #[Value.int IntKind.i64 ba.lo, Value.int IntKind.i64 ba.hi, Value.int IntKind.i64 ba.lots, Value.slice bap ba.n bac], Value.bool true, Value.bool false, undef, Value.tuple #[bookV bb bbp bbc, Value.slice (some { block := ga, off := ia }) N Lbd, Value.slice Lbr M Lbe], Value.agg #[Value.int IntKind.i64 ba.lo, Value.int IntKind.i64 ba.hi, Value.int IntKind.i64 ba.lots, Value.slice bap ba.n bac], Value.slice q2 n2 c2, Value.tuple #[bookV bb bbp bbc, Value.slice (some { block := ga, off := ia }) N Lbd, Value.slice Lbr M Lbe], bookV bb bbp bbc, Value.slice (some { block := ga, off := ia }) N Lbd, Value.slice Lbr M Lbe, Value.agg #[Value.int IntKind.i64 bb.lo, Value.int IntKind.i64 bb.hi, Value.int IntKind.i64 bb.lots, Value.slice bbp bb.n bbc], Value.bool true, Value.bool false, undef, Value.tuple #[bookV be bep bec, Value.slice (some { block := gc, off := ic }) N Led, Value.slice Ler M Lee], Value.agg #[Value.int IntKind.i64 bb.lo, Value.int IntKind.i64 bb.hi, Value.int IntKind.i64 bb.lots, Value.slice bbp bb.n bbc], Value.slice q1 n1 c1, Value.tuple #[bookV be bep bec, Value.slice (some { block := gc, off := ic }) N Led, Value.slice Ler M Lee], bookV be bep bec, Value.slice (some { block := gc, off := ic }) N Led, Value.slice Ler M Lee, Value.int IntKind.i64 (j : Int), Value.slice (some { block := ga, off := ia }) N Lbd, Value.int IntKind.i64 (N : Int), Value.bool true, u69, u70, (bif d 0 then lv else u71), (bif d 1 then Value.slice (some { block := ga, off := ia }) N Lbd else u72), (bif d 2 then Value.int IntKind.i64 ((j : Int)) else u73), (bif d 3 then Value.pointer (some { block := ga, off := ia + j }) else u74), (bif d 4 then Value.int IntKind.i64 (x) else u75), (bif d 5 then Value.slice (some { block := gc, off := ic }) N Led else u76), (bif d 6 then Value.int IntKind.i64 ((j : Int)) else u77), (bif d 7 then Value.pointer (some { block := gc, off := ic + j }) else u78), (bif d 8 then Value.int IntKind.i64 (y) else u79), (bif d 9 then Value.int IntKind.i64 (if y < x then y else x) else u80), (bif d 10 then Value.slice (some { block := sb1, off := 0 }) 1 1 else u81), (bif d 11 then v1 else u82), (bif d 12 then lw else u83), (bif d 13 then Value.slice (some { block := ga, off := ia }) N Lbd else u84), (bif d 14 then Value.int IntKind.i64 ((j : Int)) else u85), (bif d 15 then Value.pointer (some { block := ga, off := ia + j }) else u86), (bif d 16 then Value.int IntKind.i64 (x) else u87), (bif d 17 then Value.slice (some { block := gc, off := ic }) N Led else u88), (bif d 18 then Value.int IntKind.i64 ((j : Int)) else u89), (bif d 19 then Value.pointer (some { block := gc, off := ic + j }) else u90), (bif d 20 then Value.int IntKind.i64 (y) else u91), (bif d 21 then Value.int IntKind.i64 (if x < y then y else x) else u92), (bif d 22 then Value.slice (some { block := sb2, off := 0 }) 1 1 else u93), (bif d 23 then v2 else u94), undef, undef, undef, undef, undef, undef, undef, undef, undef, undef, undef, undef, undef, undef, undef, undef, undef, undef, undef, undef, undef, undef, undef, undef, undef, undef, undef, undef, undef, undef, undef, undef, undef, undef, undef, undef, undef, undef, undef, undef, undef, undef, undef, undef, undef, undef, undef, undef, undef, undef, undef, undef, undef, undef, undef, undef, undef, undef, undef], defers := [] } ∧ (d 10 = true → d 11 = false → Hid (V.heap.size ≤ sb1 ∧ W.heap[sb1]? = some (.cells #[.int .i64 (if y < x then y else x)] 2 (0, 0)))) ∧ (d 22 = true → d 23 = false → Hid (V.heap.size ≤ sb2 ∧ W.heap[sb2]? = some (.cells #[.int .i64 (if x < y then y else x)] 2 (0, 0)))) ∧ Hid (ZR w9 FFA GGA j lv lw v1 v2 (d 11) (d 23) V W)) hmx (by kernel_rfl) ?_ ?_ ?_
            · exact ⟨0, 0, undef, undef, rfl, (fun h => by cases h), (fun h => by cases h), ZR.start HZ.out _ _⟩
            · refine ⟨?_, ?_, ?_, ?_, ?_, ?_, ?_, ?_, ?_, ?_, ?_, ?_, ?_, ?_, ?_, ?_, ?_, ?_, ?_, ?_, ?_, ?_, ?_, ?_, ?_, ?_, trivial⟩
              · rintro d a W hdi hdep hcl ⟨sb1, sb2, v1, v2, rfl, hw⟩ K hK
                have E := hcl.facts 0 hdi rfl hdep [] [11, 23, 24, 25] (by kernel_rfl) (by kernel_rfl)
                simp only [AllT, AllF] at E
                clear hdi hdep hcl
                go_simp
                exact hK _ _ ⟨sb1, sb2, v1, v2, by simp [upd, E], hw⟩
              · rintro d a W hdi hdep hcl ⟨sb1, sb2, v1, v2, rfl, hw⟩ K hK
                have E := hcl.facts 1 hdi rfl hdep [] [3, 4, 9, 10, 11, 23, 24, 25] (by kernel_rfl) (by kernel_rfl)
                simp only [AllT, AllF] at E
                clear hdi hdep hcl
                go_simp
                exact hK _ _ ⟨sb1, sb2, v1, v2, by simp [upd, E], hw⟩
              · rintro d a W hdi hdep hcl ⟨sb1, sb2, v1, v2, rfl, hw⟩ K hK
                have E := hcl.facts 2 hdi rfl hdep [] [3, 4, 9, 10, 11, 23, 24, 25] (by kernel_rfl) (by kernel_rfl)
                simp only [AllT, AllF] at E
                clear hdi hdep hcl
                go_simp
                exact hK _ _ ⟨sb1, sb2, v1, v2, by simp [upd, E], hw⟩
              · rintro d a W hdi hdep hcl ⟨sb1, sb2, v1, v2, rfl, hw⟩ K hK
                have E := hcl.facts 3 hdi rfl hdep [1, 2] [4, 9, 10, 11, 23, 24, 25] (by kernel_rfl) (by kernel_rfl)
                simp only [AllT, AllF] at E
                clear hdi hdep hcl
                go_simp
                exact hK _ _ ⟨sb1, sb2, v1, v2, by simp [upd, E], hw⟩
              · rintro d a W hdi hdep hcl ⟨sb1, sb2, v1, v2, rfl, hw⟩ K hK
                have E := hcl.facts 4 hdi rfl hdep [1, 2, 3] [9, 10, 11, 23, 24, 25] (by kernel_rfl) (by kernel_rfl)
                simp only [AllT, AllF] at E
                clear hdi hdep hcl
                have z := ((pcell hw.2.2.out.z.pw).1 _ _ HGX.out).trans HX.out
                go_simp
                exact hK _ _ ⟨sb1, sb2, v1, v2, by simp [upd, E], hw⟩
              · rintro d a W hdi hdep hcl ⟨sb1, sb2, v1, v2, rfl, hw⟩ K hK
                have E := hcl.facts 5 hdi rfl hdep [] [7, 8, 9, 10, 11, 23, 24, 25] (by kernel_rfl) (by kernel_rfl)
                simp only [AllT, AllF] at E
                clear hdi hdep hcl
                go_simp
                exact hK _ _ ⟨sb1, sb2, v1, v2, by simp [upd, E], hw⟩
              · rintro d a W hdi hdep hcl ⟨sb1, sb2, v1, v2, rfl, hw⟩ K hK
                have E := hcl.facts 6 hdi rfl hdep [] [7, 8, 9, 10, 11, 23, 24, 25] (by kernel_rfl) (by kernel_rfl)
                simp only [AllT, AllF] at E
                clear hdi hdep hcl
                go_simp
                exact hK _ _ ⟨sb1, sb2, v1, v2, by simp [upd, E], hw⟩
              · rintro d a W hdi hdep hcl ⟨sb1, sb2, v1, v2, rfl, hw⟩ K hK
                have E := hcl.facts 7 hdi rfl hdep [5, 6] [8, 9, 10, 11, 23, 24, 25] (by kernel_rfl) (by kernel_rfl)
                simp only [AllT, AllF] at E
                clear hdi hdep hcl
                go_simp
                exact hK _ _ ⟨sb1, sb2, v1, v2, by simp [upd, E], hw⟩
              · rintro d a W hdi hdep hcl ⟨sb1, sb2, v1, v2, rfl, hw⟩ K hK
                have E := hcl.facts 8 hdi rfl hdep [5, 6, 7] [9, 10, 11, 23, 24, 25] (by kernel_rfl) (by kernel_rfl)
                simp only [AllT, AllF] at E
                clear hdi hdep hcl
                have z := ((pcell hw.2.2.out.z.pw).1 _ _ HGY.out).trans HY.out
                go_simp
                exact hK _ _ ⟨sb1, sb2, v1, v2, by simp [upd, E], hw⟩
              · rintro d a W hdi hdep hcl ⟨sb1, sb2, v1, v2, rfl, hw⟩ K hK
                have E := hcl.facts 9 hdi rfl hdep [1, 2, 3, 4, 5, 6, 7, 8] [10, 11, 23, 24, 25] (by kernel_rfl) (by kernel_rfl)
                simp only [AllT, AllF] at E
                clear hdi hdep hcl
                go_simp
                exact hK _ _ ⟨sb1, sb2, v1, v2, by simp [upd, E], hw⟩
              · rintro d a W hdi hdep hcl ⟨sb1, sb2, v1, v2, rfl, hw⟩ K hK
                have E := hcl.facts 10 hdi rfl hdep [1, 2, 3, 4, 5, 6, 7, 8, 9] [11, 23, 24, 25] (by kernel_rfl) (by kernel_rfl)
                simp only [AllT, AllF] at E
                clear hdi hdep hcl
                have HZ := hw.2.2
                have h2 := hw.2.1
                go_simp
                exact hK _ _ ⟨W.heap.size, sb2, v1, v2, by simp [upd, E], fun _ _ => ⟨HZ.out.sz, World.alloc_heap_new _ _⟩, fun a c => ⟨(h2 a c).out.1, (Below.heap_alloc _ _ _ (Array.getElem?_eq_some_iff.1 (h2 a c).out.2).1).trans (h2 a c).out.2⟩, HZ.out.alloc _⟩
              · rintro d a W hdi hdep hcl ⟨sb1, sb2, v1, v2, rfl, hw⟩ K hK
                have E := hcl.facts 11 hdi rfl hdep [0, 1, 2, 3, 4, 5, 6, 7, 8, 9, 10] [23, 24, 25] (by kernel_rfl) (by kernel_rfl)
                simp only [AllT, AllF] at E
                clear hdi hdep hcl
                have HZ := hw.2.2
                rw [show d 11 = false by simp [E], show d 23 = false by simp [E]] at HZ
                have h5 := (hw.1 (by simp [E]) (by simp [E])).out.2
                have h2 := hw.2.1
                obtain ⟨v', w', hr, hz, hk⟩ := HZ.out.push1 hj1000.out sb1 _ HMN.out h5
                refine Eq.mpr (if_pos rfl) ?_
                refine operW_append (.tmp 71) (.tmp 81) 27 rfl lv (.slice (some ⟨sb1, 0, none⟩) 1 1) (by simp [Act.eval, upd, E]) (by simp [Act.eval, upd, E]) v' w' hr ?_
                exact hK _ _ ⟨sb1, sb2, v', v2, by simp [Act.put, upd, E], fun _ h => by simp [upd, E] at h, fun a c => ⟨(h2 a c).out.1, hk _ _ (h2 a c).out.1 (h2 a c).out.2⟩, by rw [show upd d 11 11 = true from rfl, show upd d 11 23 = false by simp [upd, E]]; exact hz⟩
              · rintro d a W hdi hdep hcl ⟨sb1, sb2, v1, v2, rfl, hw⟩ K hK
                have E := hcl.facts 12 hdi rfl hdep [] [23, 24, 25] (by kernel_rfl) (by kernel_rfl)
                simp only [AllT, AllF] at E
                clear hdi hdep hcl
                go_simp
                exact hK _ _ ⟨sb1, sb2, v1, v2, by simp [upd, E], hw⟩
              · rintro d a W hdi hdep hcl ⟨sb1, sb2, v1, v2, rfl, hw⟩ K hK
                have E := hcl.facts 13 hdi rfl hdep [] [15, 16, 21, 22, 23, 24, 25] (by kernel_rfl) (by kernel_rfl)
                simp only [AllT, AllF] at E
                clear hdi hdep hcl
                go_simp
                exact hK _ _ ⟨sb1, sb2, v1, v2, by simp [upd, E], hw⟩
              · rintro d a W hdi hdep hcl ⟨sb1, sb2, v1, v2, rfl, hw⟩ K hK
                have E := hcl.facts 14 hdi rfl hdep [] [15, 16, 21, 22, 23, 24, 25] (by kernel_rfl) (by kernel_rfl)
                simp only [AllT, AllF] at E
                clear hdi hdep hcl
                go_simp
                exact hK _ _ ⟨sb1, sb2, v1, v2, by simp [upd, E], hw⟩
              · rintro d a W hdi hdep hcl ⟨sb1, sb2, v1, v2, rfl, hw⟩ K hK
                have E := hcl.facts 15 hdi rfl hdep [13, 14] [16, 21, 22, 23, 24, 25] (by kernel_rfl) (by kernel_rfl)
                simp only [AllT, AllF] at E
                clear hdi hdep hcl
                go_simp
                exact hK _ _ ⟨sb1, sb2, v1, v2, by simp [upd, E], hw⟩
              · rintro d a W hdi hdep hcl ⟨sb1, sb2, v1, v2, rfl, hw⟩ K hK
                have E := hcl.facts 16 hdi rfl hdep [13, 14, 15] [21, 22, 23, 24, 25] (by kernel_rfl) (by kernel_rfl)
                simp only [AllT, AllF] at E
                clear hdi hdep hcl
                have z := ((pcell hw.2.2.out.z.pw).1 _ _ HGX.out).trans HX.out
                go_simp
                exact hK _ _ ⟨sb1, sb2, v1, v2, by simp [upd, E], hw⟩
              · rintro d a W hdi hdep hcl ⟨sb1, sb2, v1, v2, rfl, hw⟩ K hK
                have E := hcl.facts 17 hdi rfl hdep [] [19, 20, 21, 22, 23, 24, 25] (by kernel_rfl) (by kernel_rfl)
                simp only [AllT, AllF] at E
                clear hdi hdep hcl
                go_simp
                exact hK _ _ ⟨sb1, sb2, v1, v2, by simp [upd, E], hw⟩
              · rintro d a W hdi hdep hcl ⟨sb1, sb2, v1, v2, rfl, hw⟩ K hK
                have E := hcl.facts 18 hdi rfl hdep [] [19, 20, 21, 22, 23, 24, 25] (by kernel_rfl) (by kernel_rfl)
                simp only [AllT, AllF] at E
                clear hdi hdep hcl
                go_simp
                exact hK _ _ ⟨sb1, sb2, v1, v2, by simp [upd, E], hw⟩
              · rintro d a W hdi hdep hcl ⟨sb1, sb2, v1, v2, rfl, hw⟩ K hK
                have E := hcl.facts 19 hdi rfl hdep [17, 18] [20, 21, 22, 23, 24, 25] (by kernel_rfl) (by kernel_rfl)
                simp only [AllT, AllF] at E
                clear hdi hdep hcl
                go_simp
                exact hK _ _ ⟨sb1, sb2, v1, v2, by simp [upd, E], hw⟩
              · rintro d a W hdi hdep hcl ⟨sb1, sb2, v1, v2, rfl, hw⟩ K hK
                have E := hcl.facts 20 hdi rfl hdep [17, 18, 19] [21, 22, 23, 24, 25] (by kernel_rfl) (by kernel_rfl)
                simp only [AllT, AllF] at E
                clear hdi hdep hcl
                have z := ((pcell hw.2.2.out.z.pw).1 _ _ HGY.out).trans HY.out
                go_simp
                exact hK _ _ ⟨sb1, sb2, v1, v2, by simp [upd, E], hw⟩
              · rintro d a W hdi hdep hcl ⟨sb1, sb2, v1, v2, rfl, hw⟩ K hK
                have E := hcl.facts 21 hdi rfl hdep [13, 14, 15, 16, 17, 18, 19, 20] [22, 23, 24, 25] (by kernel_rfl) (by kernel_rfl)
                simp only [AllT, AllF] at E
                clear hdi hdep hcl
                go_simp
                exact hK _ _ ⟨sb1, sb2, v1, v2, by simp [upd, E], hw⟩
              · rintro d a W hdi hdep hcl ⟨sb1, sb2, v1, v2, rfl, hw⟩ K hK
                have E := hcl.facts 22 hdi rfl hdep [13, 14, 15, 16, 17, 18, 19, 20, 21] [23, 24, 25] (by kernel_rfl) (by kernel_rfl)
                simp only [AllT, AllF] at E
                clear hdi hdep hcl
                have HZ := hw.2.2
                have h1 := hw.1
                go_simp
                exact hK _ _ ⟨sb1, W.heap.size, v1, v2, by simp [upd, E], fun a c => ⟨(h1 a c).out.1, (Below.heap_alloc _ _ _ (Array.getElem?_eq_some_iff.1 (h1 a c).out.2).1).trans (h1 a c).out.2⟩, fun _ _ => ⟨HZ.out.sz, World.alloc_heap_new _ _⟩, HZ.out.alloc _⟩
              · rintro d a W hdi hdep hcl ⟨sb1, sb2, v1, v2, rfl, hw⟩ K hK
                have E := hcl.facts 23 hdi rfl hdep [0, 1, 2, 3, 4, 5, 6, 7, 8, 9, 10, 11, 12, 13, 14, 15, 16, 17, 18, 19, 20, 21, 22] [24, 25] (by kernel_rfl) (by kernel_rfl)
                simp only [AllT, AllF] at E
                clear hdi hdep hcl
                have HZ := hw.2.2
                rw [show d 11 = true by simp [E], show d 23 = false by simp [E]] at HZ
                have h5 := (hw.2.1 (by simp [E]) (by simp [E])).out.2
                obtain ⟨v', w', hr, hz⟩ := HZ.out.push2 hj1000.out sb2 _ HMX.out h5
                refine Eq.mpr (if_pos rfl) ?_
                refine operW_append (.tmp 83) (.tmp 93) 27 rfl lw (.slice (some ⟨sb2, 0, none⟩) 1 1) (by simp [Act.eval, upd, E]) (by simp [Act.eval, upd, E]) v' w' hr ?_
                exact hK _ _ ⟨sb1, sb2, v1, v', by simp [Act.put, upd, E], fun _ h => by simp [upd, E] at h, fun _ h => by simp [upd, E] at h, by rw [show upd d 23 11 = true by simp [upd, E], show upd d 23 23 = true from rfl]; exact hz⟩
              · rintro d a W hdi hdep hcl ⟨sb1, sb2, v1, v2, rfl, hw⟩ K hK
                have E := hcl.facts 24 hdi rfl hdep [0, 1, 2, 3, 4, 5, 6, 7, 8, 9, 10, 11, 12, 13, 14, 15, 16, 17, 18, 19, 20, 21, 22, 23] [25] (by kernel_rfl) (by kernel_rfl)
                simp only [AllT, AllF] at E
                clear hdi hdep hcl
                go_simp
                exact hK _ _ ⟨sb1, sb2, v1, v2, by simp [upd, E], hw⟩
              · rintro d a W hdi hdep hcl ⟨sb1, sb2, v1, v2, rfl, hw⟩ K hK
                have E := hcl.facts 25 hdi rfl hdep [0, 1, 2, 3, 4, 5, 6, 7, 8, 9, 10, 11, 12, 13, 14, 15, 16, 17, 18, 19, 20, 21, 22, 23, 24] [] (by kernel_rfl) (by kernel_rfl)
                simp only [AllT, AllF] at E
                clear hdi hdep hcl
                go_simp
                exact hK _ _ ⟨sb1, sb2, v1, v2, by simp [upd, E], hw⟩
            · rintro d a W hall ⟨sb1, sb2, v1, v2, rfl, hw⟩
              have E := AllT.all hall [0, 1, 2, 3, 4, 5, 6, 7, 8, 9, 10, 11, 12, 13, 14, 15, 16, 17, 18, 19, 20, 21, 22, 23, 24, 25] (by kernel_rfl)
              simp only [AllT] at E
              simp only [E, cond_true] at hw ⊢
              clear E hall
              obtain ⟨⟨lg, lc, rfl⟩, ⟨mg, mc, rfl⟩⟩ := And.intro (hw.2.2.out.f1 rfl) (hw.2.2.out.f2 rfl)
              have HZ2 := Lib.hid hw.2.2.out.fin
              clear hw
              go_wp2_with fail
              exact ⟨⟨j + 1, _, _, by omega, by push_cast; rfl, rfl, rfl, HZ2.out⟩, by simp only [intOf]; omega⟩
          · have hjN : j = N := by omega
            have hji : ¬ (j : Int) < (N : Int) := by omega
            rw [hjN] at HZ
            obtain ⟨⟨Aq, Ac, rfl⟩, ⟨Ar, Ad, rfl⟩⟩ := HZ.out.forms
            obtain ⟨w10, hww⟩ : ∃ v, wr = v := ⟨_, rfl⟩
            rw [hww] at HZ ⊢
            clear hww
            have hp : Pure w9 w10 := HZ.out.pw
            have hl := HZ.out.lists
            rw [← HFF1.out, ← HGG1.out] at hl
            obtain ⟨hl1, hl2⟩ := hl
            clear HFF1 HGG1 HZ
            have hP10 : Hid (Pure w w10) := hP9.out.trans hp
            have HA10 := Lib.hid (HA9.out.pure hp)
            have HC10 := Lib.hid (HC9.out.pure hp)
            have HD10 := Lib.hid (HD9.out.pure hp)
            have HB10 := Lib.hid (HB9.out.to hp)
            have HG10 := Lib.hid (HG9.out.to hp)
            have HR110 := Lib.hid (HR19.out.to hp)
            have HR210 := Lib.hid (HR29.out.to hp)
            have LaB10 := Lib.hid (LaB9.out.to hp)
            have LaS10 := Lib.hid (LaS9.out.to hp)
            have LaT10 := Lib.hid (LaT9.out.to hp)
            have LbB10 := Lib.hid (LbB9.out.to hp)
            have LbS10 := Lib.hid (LbS9.out.to hp)
            have LbT10 := Lib.hid (LbT9.out.to hp)
            have LeB10 := Lib.hid (LeB9.out.to hp)
            have LeS10 := Lib.hid (LeS9.out.to hp)
            have LeT10 := Lib.hid (LeT9.out.to hp)
            have RA10 := Lib.hid (RA9.out.to hp)
            have RB10 := Lib.hid (RB9.out.to hp)
            have RC10 := Lib.hid (RC9.out.to hp)
            have RD10 := Lib.hid (RD9.out.to hp)
            have LmA10 := Lib.hid (hl1)
            have LxA10 := Lib.hid (hl2)
            clear hp hP9 HA9 HC9 HD9 HB9 HG9 HR19 HR29 LaB9 LaS9 LaT9 LbB9 LbS9 LbT9 LeB9 LeS9 LeT9 RA9 RB9 RC9 RD9
            clear hl1 hl2 hj hjn
            go_wp2_with fail
            obtain ⟨FFB, hFF⟩ : ∃ f : Nat → Int, (fun i => minI (nthI ys i) (nthI vs i)) = f := ⟨_, rfl⟩
            obtain ⟨GGB, hGG⟩ : ∃ f : Nat → Int, (fun i => maxI (nthI ys i) (nthI vs i)) = f := ⟨_, rfl⟩
            have HFF2 := Lib.hid hFF
            have HGG2 := Lib.hid hGG
            clear hFF hGG
            go_loopw [17, 19, 21] (fun s t i wr => ∃ (j : Nat) (v1 v2 : Value), j ≤ M ∧ i = .int .i64 j ∧ s = v1 ∧ t = v2 ∧ Hid (ZI w10 FFB GGB j j v1 v2 wr)) (fun _ _ i _ => M - (intOf i).toNat)
            case atStart => exact ⟨0, _, _, Nat.zero_le _, rfl, rfl, rfl, ZI.start w10 FFB GGB⟩
            case round =>
              obtain ⟨j, lv, lw, hj, rfl, hs1, hs2, HZ⟩ := hrel
              have hs1' := hs1.symm
              have hs2' := hs2.symm
              clear hs1 hs2
              subst hs1' hs2'
              have hj0 : 0 ≤ (j : Int) := by omega
              by_cases hjn : j < M
              · have hji : (j : Int) < (M : Int) := by omega
                obtain ⟨ga, ia, hqa, hga, yx⟩ := RC10.out j hjn
                obtain ⟨gc, ic, hqc, hgc, yy⟩ := RD10.out j hjn
                subst hqa hqc
                obtain ⟨x, hx⟩ : ∃ x, nthI ys j = x := ⟨_, rfl⟩
                obtain ⟨y, hy⟩ : ∃ y, nthI vs j = y := ⟨_, rfl⟩
                change _ = some (Value.int .i64 (nthI ys j)) at yx
                change _ = some (Value.int .i64 (nthI vs j)) at yy
                rw [hx] at yx
                rw [hy] at yy
                have HMN : Hid (FFB j = if y < x then y else x) := by rw [← HFF2.out]; show minI (nthI ys j) (nthI vs j) = _; rw [hx, hy]; rfl
                have HMX : Hid (GGB j = if x < y then y else x) := by rw [← HGG2.out]; show maxI (nthI ys j) (nthI vs j) = _; rw [hx, hy]; rfl
                have HX := Lib.hid yx
                have HY := Lib.hid yy
                have HGX := Lib.hid hga
                have HGY := Lib.hid hgc
                have hj1000 : Hid (j ≤ 1000) := by show _ ≤ _; omega
                clear hx hy yx yy hga hgc
                go_wp2_with fail
                obtain ⟨V, hV⟩ : ∃ V, wr = V := ⟨_, rfl⟩
                rw [hV] at HZ ⊢
                clear hV
                refine reg_invW (fun d a W => ∃ (sb1 sb2 : Nat) (v1 v2 : Value), a = { tmps := #[bookV b p cap, Value.slice q1 n1 c1, Value.slice q2 n2 c2, Value.pointer (some { block := g0, off := 0 }), undef, undef, Value.bool false, Value.pointer (some { block := g3, off := 0 }), Value.slice Laq (hXs b u3).length Lad, Value.slice Lar (hYs b u3).length Lae, Value.pointer (some { block := g6, off := 0 }), Value.slice Lbq N Lbd, Value.slice (some { block := ga, off := ia }) M Lbe, Value.pointer (some { block := ge, off := 0 }), Value.slice Leq N Led, Value.slice (some { block := gc, off := ic }) M Lee, Value.slice Aq N Ac, (bif d 24 then v1 else lv), Value.slice Ar N Ad, (bif d 25 then v2 else lw), Value.int IntKind.i64 (N : Int), Value.int IntKind.i64 (j : Int), Value.agg #[Value.int IntKind.i64 b.lo, Value.int IntKind.i64 b.hi, Value.int IntKind.i64 b.lots, Value.slice p b.n cap], Value.bool true, Value.bool false, Value.bool false, Value.slice q1 n1 c1, Value.int IntKind.i64 (n1 : Int), Value.bool (decide (30 < (n1 : Int))), Value.bool (decide (30 < (n1 : Int))), Value.bool (decide (30 < (n1 : Int))), Value.slice q2 n2 c2, Value.int IntKind.i64 (n2 : Int), Value.bool (decide (30 < (n2 : Int))), Value.bool (decide (30 < (n1 : Int)) || decide (30 < (n2 : Int))), undef, Value.tuple #[bookV ba bap bac, Value.slice Laq (hXs b u3).length Lad, Value.slice Lar (hYs b u3).length Lae], Value.agg #[Value.int IntKind.i64 b.lo, Value.int IntKind.i64 b.hi, Value.int IntKind.i64 b.lots, Value.slice p b.n cap], Value.slice q1 n1 c1, Value.tuple #[bookV ba bap bac, Value.slice Laq (hXs b u3).length Lad, Value.slice Lar (hYs b u3).length Lae], bookV ba bap bac, Value.slice Laq (hXs b u3).length Lad, Value.slice Lar (hYs b u3).length Lae, Value.agg #[Value.int IntKind.i64 ba.lo, Value.int IntKind.i64 ba.hi, Value.int IntKind.i64 ba.lots, Value.slice bap ba.n bac], Value.bool true, Value.bool false, undef, Value.tuple #[bookV bb bbp bbc, Value.slice Lbq N Lbd, Value.slice (some { block := ga, off := ia }) M Lbe], Value.agg #[Value.int IntKind.i64 ba.lo, Value.int IntKind.i64 ba.hi, Value.int IntKind.i64 ba.lots, Value.slice bap ba.n bac], Value.slice q2 n2 c2, Value.tuple #[bookV bb bbp bbc, Value.slice Lbq N Lbd, Value.slice (some { block := ga, off := ia }) M Lbe], bookV bb bbp bbc, Value.slice Lbq N Lbd, Value.slice (some { block := ga, off := ia }) M Lbe, Value.agg #[Value.int IntKind.i64 bb.lo, Value.int IntKind.i64 bb.hi, Value.int IntKind.i64 bb.lots, Value.slice bbp bb.n bbc], Value.bool true, Value.bool false, undef, Value.tuple #[bookV be bep bec, Value.slice Leq N Led, Value.slice (some { block := gc, off := ic }) M Lee], Value.agg #[Value.int IntKind.i64 bb.lo, Value.int IntKind.i64 bb.hi, Value.int IntKind.i64 bb.lots, Value.slice bbp bb.n bbc], Value.slice q1 n1 c1, Value.tuple #[bookV be bep bec, Value.slice Leq N Led, Value.slice (some { block := gc, off := ic }) M Lee], bookV be bep bec, Value.slice Leq N Led, Value.slice (some { block := gc, off := ic }) M Lee, Value.int IntKind.i64 (N : Int), Value.slice Lbq N Lbd, Value.int IntKind.i64 (N : Int), Value.bool false, u69, u70, u71, u72, u73, u74, u75, u76, u77, u78, u79, u80, u81, u82, u83, u84, u85, u86, u87, u88, u89, u90, u91, u92, u93, u94, Value.int IntKind.i64 (j : Int), Value.slice (some { block := ga, off := ia }) M Lbe, Value.int IntKind.i64 (M : Int), Value.bool true, u99, u100, (bif d 0 then lv else u101), (bif d 1 then Value.slice (some { block := ga, off := ia }) M Lbe else u102), (bif d 2 then Value.int IntKind.i64 ((j : Int)) else u103), (bif d 3 then Value.pointer (some { block := ga, off := ia + j }) else u104), (bif d 4 then Value.int IntKind.i64 (x) else u105), (bif d 5 then Value.slice (some { block := gc, off := ic }) M Lee else u106), (bif d 6 then Value.int IntKind.i64 ((j : Int)) else u107), (bif d 7 then Value.pointer (some { block := gc, off := ic + j }) else u108), (bif d 8 then Value.int IntKind.i64 (y) else u109), (bif d 9 then Value.int IntKind.i64 (if y < x then y else x) else u110), (bif d 10 then Value.slice (some { block := sb1, off := 0 }) 1 1 else u111), (bif d 11 then v1 else u112), (bif d 12 then lw else u113), (bif d 13 then Value.slice (some { block := ga, off := ia }) M Lbe else u114), (bif d 14 then Value.int IntKind.i64 ((j : Int)) else u115), (bif d 15 then Value.pointer (some { block := ga, off := ia + j }) else u116), (bif d 16 then Value.int IntKind.i64 (x) else u117), (bif d 17 then Value.slice (some { block := gc, off := ic }) M Lee else u118), (bif d 18 then Value.int IntKind.i64 ((j : Int)) else u119), (bif d 19 then Value.pointer (some { block := gc, off := ic + j }) else u120), (bif d 20 then Value.int IntKind.i64 (y) else u121), (bif d 21 then Value.int IntKind.i64 (if x < y then y else x) else u122), (bif d 22 then Value.slice (some { block := sb2, off := 0 }) 1 1 else u123), (bif d 23 then v2 else u124), undef, undef, undef, undef, undef, undef, undef, undef, undef, undef, undef, undef, undef, undef, undef, undef, undef, undef, undef, undef, undef, undef, undef, undef, undef, undef, undef, undef, undef], defers := [] } ∧ (d 10 = true → d 11 = false → Hid (V.heap.size ≤ sb1 ∧ W.heap[sb1]? = some (.cells #[.int .i64 (if y < x then y else x)] 2 (0, 0)))) ∧ (d 22 = true → d 23 = false → Hid (V.heap.size ≤ sb2 ∧ W.heap[sb2]? = some (.cells #[.int .i64 (if x < y then y else x)] 2 (0, 0)))) ∧ Hid (ZR w10 FFB GGB j lv lw v1 v2 (d 11) (d 23) V W)) hmx (by kernel_rfl) ?_ ?_ ?_
                · exact ⟨0, 0, undef, undef, rfl, (fun h => by cases h), (fun h => by cases h), ZR.start HZ.out _ _⟩
                · refine ⟨?_, ?_, ?_, ?_, ?_, ?_, ?_, ?_, ?_, ?_, ?_, ?_, ?_, ?_, ?_, ?_, ?_, ?_, ?_, ?_, ?_, ?_, ?_, ?_, ?_, ?_, trivial⟩
                  · rintro d a W hdi hdep hcl ⟨sb1, sb2, v1, v2, rfl, hw⟩ K hK
                    have E := hcl.facts 0 hdi rfl hdep [] [11, 23, 24, 25] (by kernel_rfl) (by kernel_rfl)
                    simp only [AllT, AllF] at E
                    clear hdi hdep hcl
                    go_simp
                    exact hK _ _ ⟨sb1, sb2, v1, v2, by simp [upd, E], hw⟩
                  · rintro d a W hdi hdep hcl ⟨sb1, sb2, v1, v2, rfl, hw⟩ K hK
                    have E := hcl.facts 1 hdi rfl hdep [] [3, 4, 9, 10, 11, 23, 24, 25] (by kernel_rfl) (by kernel_rfl)
                    simp only [AllT, AllF] at E
                    clear hdi hdep hcl
                    go_simp
                    exact hK _ _ ⟨sb1, sb2, v1, v2, by simp [upd, E], hw⟩
                  · rintro d a W hdi hdep hcl ⟨sb1, sb2, v1, v2, rfl, hw⟩ K hK
                    have E := hcl.facts 2 hdi rfl hdep [] [3, 4, 9, 10, 11, 23, 24, 25] (by kernel_rfl) (by kernel_rfl)
                    simp only [AllT, AllF] at E
                    clear hdi hdep hcl
                    go_simp
                    exact hK _ _ ⟨sb1, sb2, v1, v2, by simp [upd, E], hw⟩
                  · rintro d a W hdi hdep hcl ⟨sb1, sb2, v1, v2, rfl, hw⟩ K hK
                    have E := hcl.facts 3 hdi rfl hdep [1, 2] [4, 9, 10, 11, 23, 24, 25] (by kernel_rfl) (by kernel_rfl)
                    simp only [AllT, AllF] at E
                    clear hdi hdep hcl
                    go_simp
                    exact hK _ _ ⟨sb1, sb2, v1, v2, by simp [upd, E], hw⟩
                  · rintro d a W hdi hdep hcl ⟨sb1, sb2, v1, v2, rfl, hw⟩ K hK
                    have E := hcl.facts 4 hdi rfl hdep [1, 2, 3] [9, 10, 11, 23, 24, 25] (by kernel_rfl) (by kernel_rfl)
                    simp only [AllT, AllF] at E
                    clear hdi hdep hcl
                    have z := ((pcell hw.2.2.out.z.pw).1 _ _ HGX.out).trans HX.out
                    go_simp
                    exact hK _ _ ⟨sb1, sb2, v1, v2, by simp [upd, E], hw⟩
                  · rintro d a W hdi hdep hcl ⟨sb1, sb2, v1, v2, rfl, hw⟩ K hK
                    have E := hcl.facts 5 hdi rfl hdep [] [7, 8, 9, 10, 11, 23, 24, 25] (by kernel_rfl) (by kernel_rfl)
                    simp only [AllT, AllF] at E
                    clear hdi hdep hcl
                    go_simp
                    exact hK _ _ ⟨sb1, sb2, v1, v2, by simp [upd, E], hw⟩
                  · rintro d a W hdi hdep hcl ⟨sb1, sb2, v1, v2, rfl, hw⟩ K hK
                    have E := hcl.facts 6 hdi rfl hdep [] [7, 8, 9, 10, 11, 23, 24, 25] (by kernel_rfl) (by kernel_rfl)
                    simp only [AllT, AllF] at E
                    clear hdi hdep hcl
                    go_simp
                    exact hK _ _ ⟨sb1, sb2, v1, v2, by simp [upd, E], hw⟩
                  · rintro d a W hdi hdep hcl ⟨sb1, sb2, v1, v2, rfl, hw⟩ K hK
                    have E := hcl.facts 7 hdi rfl hdep [5, 6] [8, 9, 10, 11, 23, 24, 25] (by kernel_rfl) (by kernel_rfl)
                    simp only [AllT, AllF] at E
                    clear hdi hdep hcl
                    go_simp
                    exact hK _ _ ⟨sb1, sb2, v1, v2, by simp [upd, E], hw⟩
                  · rintro d a W hdi hdep hcl ⟨sb1, sb2, v1, v2, rfl, hw⟩ K hK
                    have E := hcl.facts 8 hdi rfl hdep [5, 6, 7] [9, 10, 11, 23, 24, 25] (by kernel_rfl) (by kernel_rfl)
                    simp only [AllT, AllF] at E
                    clear hdi hdep hcl
                    have z := ((pcell hw.2.2.out.z.pw).1 _ _ HGY.out).trans HY.out
                    go_simp
                    exact hK _ _ ⟨sb1, sb2, v1, v2, by simp [upd, E], hw⟩
                  · rintro d a W hdi hdep hcl ⟨sb1, sb2, v1, v2, rfl, hw⟩ K hK
                    have E := hcl.facts 9 hdi rfl hdep [1, 2, 3, 4, 5, 6, 7, 8] [10, 11, 23, 24, 25] (by kernel_rfl) (by kernel_rfl)
                    simp only [AllT, AllF] at E
                    clear hdi hdep hcl
                    go_simp
                    exact hK _ _ ⟨sb1, sb2, v1, v2, by simp [upd, E], hw⟩
                  · rintro d a W hdi hdep hcl ⟨sb1, sb2, v1, v2, rfl, hw⟩ K hK
                    have E := hcl.facts 10 hdi rfl hdep [1, 2, 3, 4, 5, 6, 7, 8, 9] [11, 23, 24, 25] (by kernel_rfl) (by kernel_rfl)
                    simp only [AllT, AllF] at E
                    clear hdi hdep hcl
                    have HZ := hw.2.2
                    have h2 := hw.2.1
                    go_simp
                    exact hK _ _ ⟨W.heap.size, sb2, v1, v2, by simp [upd, E], fun _ _ => ⟨HZ.out.sz, World.alloc_heap_new _ _⟩, fun a c => ⟨(h2 a c).out.1, (Below.heap_alloc _ _ _ (Array.getElem?_eq_some_iff.1 (h2 a c).out.2).1).trans (h2 a c).out.2⟩, HZ.out.alloc _⟩
                  · rintro d a W hdi hdep hcl ⟨sb1, sb2, v1, v2, rfl, hw⟩ K hK
                    have E := hcl.facts 11 hdi rfl hdep [0, 1, 2, 3, 4, 5, 6, 7, 8, 9, 10] [23, 24, 25] (by kernel_rfl) (by kernel_rfl)
                    simp only [AllT, AllF] at E
                    clear hdi hdep hcl
                    have HZ := hw.2.2
                    rw [show d 11 = false by simp [E], show d 23 = false by simp [E]] at HZ
                    have h5 := (hw.1 (by simp [E]) (by simp [E])).out.2
                    have h2 := hw.2.1
                    obtain ⟨v', w', hr, hz, hk⟩ := HZ.out.push1 hj1000.out sb1 _ HMN.out h5
                    refine Eq.mpr (if_pos rfl) ?_
                    refine operW_append (.tmp 101) (.tmp 111) 27 rfl lv (.slice (some ⟨sb1, 0, none⟩) 1 1) (by simp [Act.eval, upd, E]) (by simp [Act.eval, upd, E]) v' w' hr ?_
                    exact hK _ _ ⟨sb1, sb2, v', v2, by simp [Act.put, upd, E], fun _ h => by simp [upd, E] at h, fun a c => ⟨(h2 a c).out.1, hk _ _ (h2 a c).out.1 (h2 a c).out.2⟩, by rw [show upd d 11 11 = true from rfl, show upd d 11 23 = false by simp [upd, E]]; exact hz⟩
                  · rintro d a W hdi hdep hcl ⟨sb1, sb2, v1, v2, rfl, hw⟩ K hK
                    have E := hcl.facts 12 hdi rfl hdep [] [23, 24, 25] (by kernel_rfl) (by kernel_rfl)
                    simp only [AllT, AllF] at E
                    clear hdi hdep hcl
                    go_simp
                    exact hK _ _ ⟨sb1, sb2, v1, v2, by simp [upd, E], hw⟩
                  · rintro d a W hdi hdep hcl ⟨sb1, sb2, v1, v2, rfl, hw⟩ K hK
                    have E := hcl.facts 13 hdi rfl hdep [] [15, 16, 21, 22, 23, 24, 25] (by kernel_rfl) (by kernel_rfl)
                    simp only [AllT, AllF] at E
                    clear hdi hdep hcl
                    go_simp
                    exact hK _ _ ⟨sb1, sb2, v1, v2, by simp [upd, E], hw⟩
                  · rintro d a W hdi hdep hcl ⟨sb1, sb2, v1, v2, rfl, hw⟩ K hK
                    have E := hcl.facts 14 hdi rfl hdep [] [15, 16, 21, 22, 23, 24, 25] (by kernel_rfl) (by kernel_rfl)
                    simp only [AllT, AllF] at E
                    clear hdi hdep hcl
                    go_simp
                    exact hK _ _ ⟨sb1, sb2, v1, v2, by simp [upd, E], hw⟩
                  · rintro d a W hdi hdep hcl ⟨sb1, sb2, v1, v2, rfl, hw⟩ K hK
                    have E := hcl.facts 15 hdi rfl hdep [13, 14] [16, 21, 22, 23, 24, 25] (by kernel_rfl) (by kernel_rfl)
                    simp only [AllT, AllF] at E
                    clear hdi hdep hcl
                    go_simp
                    exact hK _ _ ⟨sb1, sb2, v1, v2, by simp [upd, E], hw⟩
                  · rintro d a W hdi hdep hcl ⟨sb1, sb2, v1, v2, rfl, hw⟩ K hK
                    have E := hcl.facts 16 hdi rfl hdep [13, 14, 15] [21, 22, 23, 24, 25] (by kernel_rfl) (by kernel_rfl)
                    simp only [AllT, AllF] at E
                    clear hdi hdep hcl
                    have z := ((pcell hw.2.2.out.z.pw).1 _ _ HGX.out).trans HX.out
                    go_simp
                    exact hK _ _ ⟨sb1, sb2, v1, v2, by simp [upd, E], hw⟩
                  · rintro d a W hdi hdep hcl ⟨sb1, sb2, v1, v2, rfl, hw⟩ K hK
                    have E := hcl.facts 17 hdi rfl hdep [] [19, 20, 21, 22, 23, 24, 25] (by kernel_rfl) (by kernel_rfl)
                    simp only [AllT, AllF] at E
                    clear hdi hdep hcl
                    go_simp
                    exact hK _ _ ⟨sb1, sb2, v1, v2, by simp [upd, E], hw⟩
                  · rintro d a W hdi hdep hcl ⟨sb1, sb2, v1, v2, rfl, hw⟩ K hK
                    have E := hcl.facts 18 hdi rfl hdep [] [19, 20, 21, 22, 23, 24, 25] (by kernel_rfl) (by kernel_rfl)
                    simp only [AllT, AllF] at E
                    clear hdi hdep hcl
                    go_simp
                    exact hK _ _ ⟨sb1, sb2, v1, v2, by simp [upd, E], hw⟩
                  · rintro d a W hdi hdep hcl ⟨sb1, sb2, v1, v2, rfl, hw⟩ K hK
                    have E := hcl.facts 19 hdi rfl hdep [17, 18] [20, 21, 22, 23, 24, 25] (by kernel_rfl) (by kernel_rfl)
                    simp only [AllT, AllF] at E
                    clear hdi hdep hcl
                    go_simp
                    exact hK _ _ ⟨sb1, sb2, v1, v2, by simp [upd, E], hw⟩
                  · rintro d a W hdi hdep hcl ⟨sb1, sb2, v1, v2, rfl, hw⟩ K hK
                    have E := hcl.facts 20 hdi rfl hdep [17, 18, 19] [21, 22, 23, 24, 25] (by kernel_rfl) (by kernel_rfl)
                    simp only [AllT, AllF] at E
                    clear hdi hdep hcl
                    have z := ((pcell hw.2.2.out.z.pw).1 _ _ HGY.out).trans HY.out
                    go_simp
                    exact hK _ _ ⟨sb1, sb2, v1, v2, by simp [upd, E], hw⟩
                  · rintro d a W hdi hdep hcl ⟨sb1, sb2, v1, v2, rfl, hw⟩ K hK
                    have E := hcl.facts 21 hdi rfl hdep [13, 14, 15, 16, 17, 18, 19, 20] [22, 23, 24, 25] (by kernel_rfl) (by kernel_rfl)
                    simp only [AllT, AllF] at E
                    clear hdi hdep hcl
                    go_simp
                    exact hK _ _ ⟨sb1, sb2, v1, v2, by simp [upd, E], hw⟩
                  · rintro d a W hdi hdep hcl ⟨sb1, sb2, v1, v2, rfl, hw⟩ K hK
                    have E := hcl.facts 22 hdi rfl hdep [13, 14, 15, 16, 17, 18, 19, 20, 21] [23, 24, 25] (by kernel_rfl) (by kernel_rfl)
                    simp only [AllT, AllF] at E
                    clear hdi hdep hcl
                    have HZ := hw.2.2
                    have h1 := hw.1
                    go_simp
                    exact hK _ _ ⟨sb1, W.heap.size, v1, v2, by simp [upd, E], fun a c => ⟨(h1 a c).out.1, (Below.heap_alloc _ _ _ (Array.getElem?_eq_some_iff.1 (h1 a c).out.2).1).trans (h1 a c).out.2⟩, fun _ _ => ⟨HZ.out.sz, World.alloc_heap_new _ _⟩, HZ.out.alloc _⟩
                  · rintro d a W hdi hdep hcl ⟨sb1, sb2, v1, v2, rfl, hw⟩ K hK
                    have E := hcl.facts 23 hdi rfl hdep [0, 1, 2, 3, 4, 5, 6, 7, 8, 9, 10, 11, 12, 13, 14, 15, 16, 17, 18, 19, 20, 21, 22] [24, 25] (by kernel_rfl) (by kernel_rfl)
                    simp only [AllT, AllF] at E
                    clear hdi hdep hcl
                    have HZ := hw.2.2
                    rw [show d 11 = true by simp [E], show d 23 = false by simp [E]] at HZ
                    have h5 := (hw.2.1 (by simp [E]) (by simp [E])).out.2
                    obtain ⟨v', w', hr, hz⟩ := HZ.out.push2 hj1000.out sb2 _ HMX.out h5
                    refine Eq.mpr (if_pos rfl) ?_
                    refine operW_append (.tmp 113) (.tmp 123) 27 rfl lw (.slice (some ⟨sb2, 0, none⟩) 1 1) (by simp [Act.eval, upd, E]) (by simp [Act.eval, upd, E]) v' w' hr ?_
                    exact hK _ _ ⟨sb1, sb2, v1, v', by simp [Act.put, upd, E], fun _ h => by simp [upd, E] at h, fun _ h => by simp [upd, E] at h, by rw [show upd d 23 11 = true by simp [upd, E], show upd d 23 23 = true from rfl]; exact hz⟩
                  · rintro d a W hdi hdep hcl ⟨sb1, sb2, v1, v2, rfl, hw⟩ K hK
                    have E := hcl.facts 24 hdi rfl hdep [0, 1, 2, 3, 4, 5, 6, 7, 8, 9, 10, 11, 12, 13, 14, 15, 16, 17, 18, 19, 20, 21, 22, 23] [25] (by kernel_rfl) (by kernel_rfl)
                    simp only [AllT, AllF] at E
                    clear hdi hdep hcl
                    go_simp
                    exact hK _ _ ⟨sb1, sb2, v1, v2, by simp [upd, E], hw⟩
                  · rintro d a W hdi hdep hcl ⟨sb1, sb2, v1, v2, rfl, hw⟩ K hK
                    have E := hcl.facts 25 hdi rfl hdep [0, 1, 2, 3, 4, 5, 6, 7, 8, 9, 10, 11, 12, 13, 14, 15, 16, 17, 18, 19, 20, 21, 22, 23, 24] [] (by kernel_rfl) (by kernel_rfl)
                    simp only [AllT, AllF] at E
                    clear hdi hdep hcl
                    go_simp
                    exact hK _ _ ⟨sb1, sb2, v1, v2, by simp [upd, E], hw⟩
                · rintro d a W hall ⟨sb1, sb2, v1, v2, rfl, hw⟩
                  have E := AllT.all hall [0, 1, 2, 3, 4, 5, 6, 7, 8, 9, 10, 11, 12, 13, 14, 15, 16, 17, 18, 19, 20, 21, 22, 23, 24, 25] (by kernel_rfl)
                  simp only [AllT] at E
                  simp only [E, cond_true] at hw ⊢
                  clear E hall
                  obtain ⟨⟨lg, lc, rfl⟩, ⟨mg, mc, rfl⟩⟩ := And.intro (hw.2.2.out.f1 rfl) (hw.2.2.out.f2 rfl)
                  have HZ2 := Lib.hid hw.2.2.out.fin
                  clear hw
                  go_wp2_with fail
                  exact ⟨⟨j + 1, _, _, by omega, by push_cast; rfl, rfl, rfl, HZ2.out⟩, by simp only [intOf]; omega⟩
              · have hjN : j = M := by omega
                have hji : ¬ (j : Int) < (M : Int) := by omega
                rw [hjN] at HZ
                obtain ⟨⟨Bq, Bc, rfl⟩, ⟨Br, Bd, rfl⟩⟩ := HZ.out.forms
                obtain ⟨w11, hww⟩ : ∃ v, wr = v := ⟨_, rfl⟩
                rw [hww] at HZ ⊢
                clear hww
                have hp : Pure w10 w11 := HZ.out.pw
                have hl := HZ.out.lists
                rw [← HFF2.out, ← HGG2.out] at hl
                obtain ⟨hl1, hl2⟩ := hl
                clear HFF2 HGG2 HZ
                have hP11 : Hid (Pure w w11) := hP10.out.trans hp
                have HA11 := Lib.hid (HA10.out.pure hp)
                have HC11 := Lib.hid (HC10.out.pure hp)
                have HD11 := Lib.hid (HD10.out.pure hp)
                have HB11 := Lib.hid (HB10.out.to hp)
                have HG11 := Lib.hid (HG10.out.to hp)
                have HR111 := Lib.hid (HR110.out.to hp)
                have HR211 := Lib.hid (HR210.out.to hp)
                have LaB11 := Lib.hid (LaB10.out.to hp)
                have LaS11 := Lib.hid (LaS10.out.to hp)
                have LaT11 := Lib.hid (LaT10.out.to hp)
                have LbB11 := Lib.hid (LbB10.out.to hp)
                have LbS11 := Lib.hid (LbS10.out.to hp)
                have LbT11 := Lib.hid (LbT10.out.to hp)
                have LeB11 := Lib.hid (LeB10.out.to hp)
                have LeS11 := Lib.hid (LeS10.out.to hp)
                have LeT11 := Lib.hid (LeT10.out.to hp)
                have RA11 := Lib.hid (RA10.out.to hp)
                have RB11 := Lib.hid (RB10.out.to hp)
                have RC11 := Lib.hid (RC10.out.to hp)
                have RD11 := Lib.hid (RD10.out.to hp)
                have LmA11 := Lib.hid (LmA10.out.to hp)
                have LxA11 := Lib.hid (LxA10.out.to hp)
                have LmB11 := Lib.hid (hl1)
                have LxB11 := Lib.hid (hl2)
                clear hp hP10 HA10 HC10 HD10 HB10 HG10 HR110 HR210 LaB10 LaS10 LaT10 LbB10 LbS10 LbT10 LeB10 LeS10 LeT10 RA10 RB10 RC10 RD10 LmA10 LxA10
                clear hl1 hl2 hj hjn
                obtain ⟨za0, za1, za2, za3, zal⟩ := HA11.out
                obtain ⟨zc0, zc1, zc2, zc3, zcl⟩ := HC11.out
                obtain ⟨zd0, zd1, zd2, zd3, zdl⟩ := HD11.out
                go_wp2_with fail
                refine (CheckTruth_any w11 bb bbp bbc _ _ (xs) (ys) hsbb LbB11.out HG11.out LbS11.out LbT11.out).mono ?_
                rintro e w12 ⟨rfl, hp⟩
                rw [HT1.out]
                have hP12 : Hid (Pure w w12) := hP11.out.trans hp
                have HA12 := Lib.hid (HA11.out.pure hp)
                have HC12 := Lib.hid (HC11.out.pure hp)
                have HD12 := Lib.hid (HD11.out.pure hp)
                have HB12 := Lib.hid (HB11.out.to hp)
                have HG12 := Lib.hid (HG11.out.to hp)
                have HR112 := Lib.hid (HR111.out.to hp)
                have HR212 := Lib.hid (HR211.out.to hp)
                have LaB12 := Lib.hid (LaB11.out.to hp)
                have LaS12 := Lib.hid (LaS11.out.to hp)
                have LaT12 := Lib.hid (LaT11.out.to hp)
                have LbB12 := Lib.hid (LbB11.out.to hp)
                have LbS12 := Lib.hid (LbS11.out.to hp)
                have LbT12 := Lib.hid (LbT11.out.to hp)
                have LeB12 := Lib.hid (LeB11.out.to hp)
                have LeS12 := Lib.hid (LeS11.out.to hp)
                have LeT12 := Lib.hid (LeT11.out.to hp)
                have RA12 := Lib.hid (RA11.out.to hp)
                have RB12 := Lib.hid (RB11.out.to hp)
                have RC12 := Lib.hid (RC11.out.to hp)
                have RD12 := Lib.hid (RD11.out.to hp)
                have LmA12 := Lib.hid (LmA11.out.to hp)
                have LxA12 := Lib.hid (LxA11.out.to hp)
                have LmB12 := Lib.hid (LmB11.out.to hp)
                have LxB12 := Lib.hid (LxB11.out.to hp)
                clear hp hP11 HA11 HC11 HD11 za0 za1 za2 za3 zal zc0 zc1 zc2 zc3 zcl zd0 zd1 zd2 zd3 zdl HB11 HG11 HR111 HR211 LaB11 LaS11 LaT11 LbB11 LbS11 LbT11 LeB11 LeS11 LeT11 RA11 RB11 RC11 RD11 LmA11 LxA11 LmB11 LxB11
                obtain ⟨za0, za1, za2, za3, zal⟩ := HA12.out
                obtain ⟨zc0, zc1, zc2, zc3, zcl⟩ := HC12.out
                obtain ⟨zd0, zd1, zd2, zd3, zdl⟩ := HD12.out
                go_wp2_with fail
                refine (CheckTruth_any w12 bb bbp bbc _ _ (us) (vs) hsbb LbB12.out HG12.out LeS12.out LeT12.out).mono ?_
                rintro e w13 ⟨rfl, hp⟩
                rw [HT2.out]
                have hP13 : Hid (Pure w w13) := hP12.out.trans hp
                have HA13 := Lib.hid (HA12.out.pure hp)
                have HC13 := Lib.hid (HC12.out.pure hp)
                have HD13 := Lib.hid (HD12.out.pure hp)
                have HB13 := Lib.hid (HB12.out.to hp)
                have HG13 := Lib.hid (HG12.out.to hp)
                have HR113 := Lib.hid (HR112.out.to hp)
                have HR213 := Lib.hid (HR212.out.to hp)
                have LaB13 := Lib.hid (LaB12.out.to hp)
                have LaS13 := Lib.hid (LaS12.out.to hp)
                have LaT13 := Lib.hid (LaT12.out.to hp)
                have LbB13 := Lib.hid (LbB12.out.to hp)
                have LbS13 := Lib.hid (LbS12.out.to hp)
                have LbT13 := Lib.hid (LbT12.out.to hp)
                have LeB13 := Lib.hid (LeB12.out.to hp)
                have LeS13 := Lib.hid (LeS12.out.to hp)
                have LeT13 := Lib.hid (LeT12.out.to hp)
                have RA13 := Lib.hid (RA12.out.to hp)
                have RB13 := Lib.hid (RB12.out.to hp)
                have RC13 := Lib.hid (RC12.out.to hp)
                have RD13 := Lib.hid (RD12.out.to hp)
                have LmA13 := Lib.hid (LmA12.out.to hp)
                have LxA13 := Lib.hid (LxA12.out.to hp)
                have LmB13 := Lib.hid (LmB12.out.to hp)
                have LxB13 := Lib.hid (LxB12.out.to hp)
                clear hp hP12 HA12 HC12 HD12 za0 za1 za2 za3 zal zc0 zc1 zc2 zc3 zcl zd0 zd1 zd2 zd3 zdl HB12 HG12 HR112 HR212 LaB12 LaS12 LaT12 LbB12 LbS12 LbT12 LeB12 LeS12 LeT12 RA12 RB12 RC12 RD12 LmA12 LxA12 LmB12 LxB12
                obtain ⟨za0, za1, za2, za3, zal⟩ := HA13.out
                obtain ⟨zc0, zc1, zc2, zc3, zcl⟩ := HC13.out
                obtain ⟨zd0, zd1, zd2, zd3, zdl⟩ := HD13.out
                go_wp2_with fail
                refine (CheckTruth_any w13 bb bbp bbc _ _ (zipM minI xs us N) (zipM minI ys vs M) hsbb LbB13.out HG13.out LmA13.out LmB13.out).mono ?_
                rintro e w14 ⟨rfl, hp⟩
                rw [HT3.out minI (.inl minI_eq)]
                have hP14 : Hid (Pure w w14) := hP13.out.trans hp
                have HA14 := Lib.hid (HA13.out.pure hp)
                have HC14 := Lib.hid (HC13.out.pure hp)
                have HD14 := Lib.hid (HD13.out.pure hp)
                have HB14 := Lib.hid (HB13.out.to hp)
                have HG14 := Lib.hid (HG13.out.to hp)
                have HR114 := Lib.hid (HR113.out.to hp)
                have HR214 := Lib.hid (HR213.out.to hp)
                have LaB14 := Lib.hid (LaB13.out.to hp)
                have LaS14 := Lib.hid (LaS13.out.to hp)
                have LaT14 := Lib.hid (LaT13.out.to hp)
                have LbB14 := Lib.hid (LbB13.out.to hp)
                have LbS14 := Lib.hid (LbS13.out.to hp)
                have LbT14 := Lib.hid (LbT13.out.to hp)
                have LeB14 := Lib.hid (LeB13.out.to hp)
                have LeS14 := Lib.hid (LeS13.out.to hp)
                have LeT14 := Lib.hid (LeT13.out.to hp)
                have RA14 := Lib.hid (RA13.out.to hp)
                have RB14 := Lib.hid (RB13.out.to hp)
                have RC14 := Lib.hid (RC13.out.to hp)
                have RD14 := Lib.hid (RD13.out.to hp)
                have LmA14 := Lib.hid (LmA13.out.to hp)
                have LxA14 := Lib.hid (LxA13.out.to hp)
                have LmB14 := Lib.hid (LmB13.out.to hp)
                have LxB14 := Lib.hid (LxB13.out.to hp)
                clear hp hP13 HA13 HC13 HD13 za0 za1 za2 za3 zal zc0 zc1 zc2 zc3 zcl zd0 zd1 zd2 zd3 zdl HB13 HG13 HR113 HR213 LaB13 LaS13 LaT13 LbB13 LbS13 LbT13 LeB13 LeS13 LeT13 RA13 RB13 RC13 RD13 LmA13 LxA13 LmB13 LxB13
                obtain ⟨za0, za1, za2, za3, zal⟩ := HA14.out
                obtain ⟨zc0, zc1, zc2, zc3, zcl⟩ := HC14.out
                obtain ⟨zd0, zd1, zd2, zd3, zdl⟩ := HD14.out
                go_wp2_with fail
                refine (CheckTruth_any w14 bb bbp bbc _ _ (zipM maxI xs us N) (zipM maxI ys vs M) hsbb LbB14.out HG14.out LxA14.out LxB14.out).mono ?_
                rintro e w15 ⟨rfl, hp⟩
                rw [HT3.out maxI (.inr maxI_eq)]
                have hP15 : Hid (Pure w w15) := hP14.out.trans hp
                have HA15 := Lib.hid (HA14.out.pure hp)
                have HC15 := Lib.hid (HC14.out.pure hp)
                have HD15 := Lib.hid (HD14.out.pure hp)
                have HB15 := Lib.hid (HB14.out.to hp)
                have HG15 := Lib.hid (HG14.out.to hp)
                have HR115 := Lib.hid (HR114.out.to hp)
                have HR215 := Lib.hid (HR214.out.to hp)
                have LaB15 := Lib.hid (LaB14.out.to hp)
                have LaS15 := Lib.hid (LaS14.out.to hp)
                have LaT15 := Lib.hid (LaT14.out.to hp)
                have LbB15 := Lib.hid (LbB14.out.to hp)
                have LbS15 := Lib.hid (LbS14.out.to hp)
                have LbT15 := Lib.hid (LbT14.out.to hp)
                have LeB15 := Lib.hid (LeB14.out.to hp)
                have LeS15 := Lib.hid (LeS14.out.to hp)
                have LeT15 := Lib.hid (LeT14.out.to hp)
                have RA15 := Lib.hid (RA14.out.to hp)
                have RB15 := Lib.hid (RB14.out.to hp)
                have RC15 := Lib.hid (RC14.out.to hp)
                have RD15 := Lib.hid (RD14.out.to hp)
                have LmA15 := Lib.hid (LmA14.out.to hp)
                have LxA15 := Lib.hid (LxA14.out.to hp)
                have LmB15 := Lib.hid (LmB14.out.to hp)
                have LxB15 := Lib.hid (LxB14.out.to hp)
                clear hp hP14 HA14 HC14 HD14 za0 za1 za2 za3 zal zc0 zc1 zc2 zc3 zcl zd0 zd1 zd2 zd3 zdl HB14 HG14 HR114 HR214 LaB14 LaS14 LaT14 LbB14 LbS14 LbT14 LeB14 LeS14 LeT14 RA14 RB14 RC14 RD14 LmA14 LxA14 LmB14 LxB14
                obtain ⟨za0, za1, za2, za3, zal⟩ := HA15.out
                obtain ⟨zc0, zc1, zc2, zc3, zcl⟩ := HC15.out
                obtain ⟨zd0, zd1, zd2, zd3, zdl⟩ := HD15.out
                go_wp2_with fail
                refine (Works_any w15 HG15.out).mono ?_
                rintro e w16 ⟨rfl, hp⟩
                have hP16 : Hid (Pure w w16) := hP15.out.trans hp
                have HA16 := Lib.hid (HA15.out.pure hp)
                have HC16 := Lib.hid (HC15.out.pure hp)
                have HD16 := Lib.hid (HD15.out.pure hp)
                have HB16 := Lib.hid (HB15.out.to hp)
                have HG16 := Lib.hid (HG15.out.to hp)
                have HR116 := Lib.hid (HR115.out.to hp)
                have HR216 := Lib.hid (HR215.out.to hp)
                have LaB16 := Lib.hid (LaB15.out.to hp)
                have LaS16 := Lib.hid (LaS15.out.to hp)
                have LaT16 := Lib.hid (LaT15.out.to hp)
                have LbB16 := Lib.hid (LbB15.out.to hp)
                have LbS16 := Lib.hid (LbS15.out.to hp)
                have LbT16 := Lib.hid (LbT15.out.to hp)
                have LeB16 := Lib.hid (LeB15.out.to hp)
                have LeS16 := Lib.hid (LeS15.out.to hp)
                have LeT16 := Lib.hid (LeT15.out.to hp)
                have RA16 := Lib.hid (RA15.out.to hp)
                have RB16 := Lib.hid (RB15.out.to hp)
                have RC16 := Lib.hid (RC15.out.to hp)
                have RD16 := Lib.hid (RD15.out.to hp)
                have LmA16 := Lib.hid (LmA15.out.to hp)
                have LxA16 := Lib.hid (LxA15.out.to hp)
                have LmB16 := Lib.hid (LmB15.out.to hp)
                have LxB16 := Lib.hid (LxB15.out.to hp)
                clear hp hP15 HA15 HC15 HD15 za0 za1 za2 za3 zal zc0 zc1 zc2 zc3 zcl zd0 zd1 zd2 zd3 zdl HB15 HG15 HR115 HR215 LaB15 LaS15 LaT15 LbB15 LbS15 LbT15 LeB15 LeS15 LeT15 RA15 RB15 RC15 RD15 LmA15 LxA15 LmB15 LxB15
                obtain ⟨za0, za1, za2, za3, zal⟩ := HA16.out
                obtain ⟨zc0, zc1, zc2, zc3, zcl⟩ := HC16.out
                obtain ⟨zd0, zd1, zd2, zd3, zdl⟩ := HD16.out
                go_wp2_with fail
                exact bodyPost_ret (v := .bool true) (by simp [results, Tryd.results11, go_sem]) rfl ⟨rfl, hP16.out⟩
end Go.Proofs.YtmedkmbfggphdaaDoor
