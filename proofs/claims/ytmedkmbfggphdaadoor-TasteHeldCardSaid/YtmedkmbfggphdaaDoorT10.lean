/- TasteHeld: in a given truth each lot is within its span, two lots are as far apart as Apart says, and the truth lies between the least and the greatest one. The walk of the law, for any book in memory and any numbers. -/
import Derived.Test.YtmedkmbfggphdaaDoorT10a
set_option linter.unusedSimpArgs false
set_option linter.unusedVariables false
set_option linter.constructorNameAsVariable false
namespace Go.Proofs.YtmedkmbfggphdaaDoor
open Go.RowKit

set_option maxRecDepth 20000 in
set_option maxHeartbeats 16000000 in
theorem HeldLaw_any (w : World) (b : BK) (p : Option Addr) (cap : Nat) (q1 : Option Addr) (n1 c1 : Nat) (f1 : Nat → Int) (x2 x3 : Int) (hb : BookAt w.heap.size w p b) (hr1 : Row w.heap.size w q1 n1 fun k => .int .u16 (f1 k)) (hw1 : ∀ i, i < n1 → (Lit.int .u16 (f1 i)).wf = true)
    (hx2 : (Lit.int .u8 x2).wf = true) (hx3 : (Lit.int .u8 x3).wf = true) (hg : Gl w) :
    Calls Tryd.prog 9 #[bookV b p cap, .slice q1 n1 c1, .int .u8 x2, .int .u8 x3] w fun e w' => e = .returned (.bool true) ∧ Pure w w' := by
  have hmx : Tryd.prog.follows .mixedOrders = true := by kernel_rfl
  have HR1 := Lib.hid hr1
  have HF1 : Hid (∀ i, i < n1 → 0 ≤ f1 i ∧ f1 i ≤ 65535) := fun i hi => Go.bounds_u16 (hw1 i hi)
  have hb2 := Go.bounds_u8 hx2
  have hb3 := Go.bounds_u8 hx3
  clear hr1 hw1 hx2 hx3
  have HB := Lib.hid hb
  have HG := Lib.hid hg
  clear hb hg
  go_enter Tryd.func9, Tryd.ntmps9
  go_wp2_with fail
  obtain ⟨X, hX⟩ : ∃ X, w.alloc (.cells (bookC b p cap) 26) = X := ⟨_, rfl⟩
  have hP : Hid (Pure w X) := by rw [← hX]; exact (Diff.refl w).alloc _
  have hX1 : BoxB w.heap.size b p cap X := by rw [← hX]; exact BoxB.new w b p cap 26
  obtain ⟨g0, hg0⟩ : ∃ g, w.heap.size = g := ⟨_, rfl⟩
  rw [hX]
  rw [hg0] at hX1 ⊢
  clear hX hg0
  have H0 := Lib.hid hX1
  obtain ⟨c0, c1', c2', c3, cl⟩ := hX1
  refine (fine_any X b p cap (HB.out.to hP.out)).mono ?_
  rintro e w1 ⟨rfl, hp1⟩
  have hP1 : Hid (Pure w w1) := hP.out.trans hp1
  have HA1 := Lib.hid (H0.out.pure hp1)
  clear c0 c1' c2' c3 cl hp1 hP H0
  obtain ⟨za0, za1, za2, za3, zal⟩ := HA1.out
  cases hfine : fineB b with
  | false =>
    go_wp2_with fail
    refine (Works_any w1 (HG.out.to hP1.out)).mono ?_
    rintro e w2 ⟨rfl, hp2⟩
    have hP2 : Hid (Pure w w2) := hP1.out.trans hp2
    clear hp2
    go_wp2_with fail
    exact bodyPost_ret (v := .bool true) (by simp [results, Tryd.results9, go_sem]) rfl ⟨rfl, hP2.out⟩
  | true =>
    obtain ⟨hs, hck⟩ := fineB_iff.1 hfine
    have hv := checkB_valid hck
    have HCK := Lib.hid hck
    clear hck hfine
    by_cases hn1 : 30 < n1
    · have h30i : 30 < (n1 : Int) := by omega
      go_wp2_with fail
      refine (Works_any w1 (HG.out.to hP1.out)).mono ?_
      rintro e w2 ⟨rfl, hp2⟩
      have hP2 : Hid (Pure w w2) := hP1.out.trans hp2
      clear hp2
      go_wp2_with fail
      exact bodyPost_ret (v := .bool true) (by simp [results, Tryd.results9, go_sem]) rfl ⟨rfl, hP2.out⟩
    have hn1i : ¬ 30 < (n1 : Int) := by omega
    have HB1 := Lib.hid (HB.out.to hP1.out)
    have HG1 := Lib.hid (HG.out.to hP1.out)
    have HR11 := Lib.hid (HR1.out.to hP1.out)
    clear HB HG HR1
    go_wp2_with fail
    obtain ⟨u1, hu1⟩ : ∃ u, numU f1 n1 = u := ⟨_, rfl⟩
    have HEu1 := Lib.hid hu1
    clear hu1
    refine (Held_any w1 b p cap q1 n1 c1 f1 hv HB1.out HR11.out (by omega) HF1.out).mono ?_
    rintro e w2 ⟨hq, hp⟩
    rw [HEu1.out] at hq
    obtain ⟨bap, bac, sv, tv, rfl, hbk, hls, hlt⟩ := hq
    obtain ⟨ba, hba⟩ : ∃ c, heldB b u1 = c := ⟨_, rfl⟩
    have HEba := Lib.hid hba
    rw [hba] at hbk ⊢
    clear hba
    have hP2 : Hid (Pure w w2) := hP1.out.trans hp
    have HA2 := Lib.hid (HA1.out.pure hp)
    have HB2 := Lib.hid (HB1.out.to hp)
    have HG2 := Lib.hid (HG1.out.to hp)
    have HR12 := Lib.hid (HR11.out.to hp)
    have LaB2 := Lib.hid (hbk)
    have LaS2 := Lib.hid (hls)
    have LaT2 := Lib.hid (hlt)
    clear hp hP1 HA1 za0 za1 za2 za3 zal HB1 HG1 HR11
    obtain ⟨za0, za1, za2, za3, zal⟩ := HA2.out
    obtain ⟨Laq, Lad, rfl⟩ := hls.form
    obtain ⟨Lar, Lae, rfl⟩ := hlt.form
    clear hbk hls hlt
    go_wp2_with fail
    obtain ⟨w3, hw3⟩ : ∃ v, w2.alloc (.cells (bookC ba bap bac) 26) = v := ⟨_, rfl⟩
    have hp : Pure w2 w3 := by rw [← hw3]; exact (Diff.refl _).alloc _
    have hx : BoxB w2.heap.size ba bap bac w3 := by rw [← hw3]; exact BoxB.new w2 ba bap bac 26
    obtain ⟨g3, hg3⟩ : ∃ g, w2.heap.size = g := ⟨_, rfl⟩
    rw [hw3]
    rw [hg3] at hx ⊢
    clear hg3
    have hP3 : Hid (Pure w w3) := hP2.out.trans hp
    have HA3 := Lib.hid (HA2.out.pure hp)
    have HB3 := Lib.hid (HB2.out.to hp)
    have HG3 := Lib.hid (HG2.out.to hp)
    have HR13 := Lib.hid (HR12.out.to hp)
    have LaB3 := Lib.hid (LaB2.out.to hp)
    have LaS3 := Lib.hid (LaS2.out.to hp)
    have LaT3 := Lib.hid (LaT2.out.to hp)
    have HC3 := Lib.hid hx
    clear hp hx hw3 hP2 HA2 za0 za1 za2 za3 zal HB2 HG2 HR12 LaB2 LaS2 LaT2
    obtain ⟨za0, za1, za2, za3, zal⟩ := HA3.out
    obtain ⟨zc0, zc1, zc2, zc3, zcl⟩ := HC3.out
    go_wp2_with fail
    refine (fine_any w3 ba bap bac LaB3.out).mono ?_
    rintro e w4 ⟨rfl, hp⟩
    have hP4 : Hid (Pure w w4) := hP3.out.trans hp
    have HA4 := Lib.hid (HA3.out.pure hp)
    have HC4 := Lib.hid (HC3.out.pure hp)
    have HB4 := Lib.hid (HB3.out.to hp)
    have HG4 := Lib.hid (HG3.out.to hp)
    have HR14 := Lib.hid (HR13.out.to hp)
    have LaB4 := Lib.hid (LaB3.out.to hp)
    have LaS4 := Lib.hid (LaS3.out.to hp)
    have LaT4 := Lib.hid (LaT3.out.to hp)
    clear hp hP3 HA3 HC3 za0 za1 za2 za3 zal zc0 zc1 zc2 zc3 zcl HB3 HG3 HR13 LaB3 LaS3 LaT3
    obtain ⟨za0, za1, za2, za3, zal⟩ := HA4.out
    obtain ⟨zc0, zc1, zc2, zc3, zcl⟩ := HC4.out
    cases hfine : fineB ba with
    | false =>
      go_wp2_with fail
      refine (Works_any w4 HG4.out).mono ?_
      rintro e w5 ⟨rfl, hp⟩
      have hP5 : Hid (Pure w w5) := hP4.out.trans hp
      have HA5 := Lib.hid (HA4.out.pure hp)
      have HC5 := Lib.hid (HC4.out.pure hp)
      have HB5 := Lib.hid (HB4.out.to hp)
      have HG5 := Lib.hid (HG4.out.to hp)
      have HR15 := Lib.hid (HR14.out.to hp)
      have LaB5 := Lib.hid (LaB4.out.to hp)
      have LaS5 := Lib.hid (LaS4.out.to hp)
      have LaT5 := Lib.hid (LaT4.out.to hp)
      clear hp hP4 HA4 HC4 za0 za1 za2 za3 zal zc0 zc1 zc2 zc3 zcl HB4 HG4 HR14 LaB4 LaS4 LaT4
      obtain ⟨za0, za1, za2, za3, zal⟩ := HA5.out
      obtain ⟨zc0, zc1, zc2, zc3, zcl⟩ := HC5.out
      go_wp2_with fail
      exact bodyPost_ret (v := .bool true) (by simp [results, Tryd.results9, go_sem]) rfl ⟨rfl, hP5.out⟩
    | true =>
      obtain ⟨hsba, hck⟩ := fineB_iff.1 hfine
      have hvba := checkB_valid hck
      have HCKba := Lib.hid hck
      clear hck hfine
      go_wp2_with fail
      have hl1 := hv.lots1
      have hl6 := hv.lots6
      have h12 := hv.tot
      obtain ⟨N, hN⟩ := Int.eq_ofNat_of_zero_le (show 0 ≤ b.lots by omega)
      obtain ⟨M, hM⟩ : ∃ m, b.total = m := ⟨_, rfl⟩
      have hN1 : 1 ≤ N := by omega
      have hN6 : N ≤ 6 := by omega
      have hM12 : M ≤ 100 := by omega
      obtain ⟨A, hA⟩ := Int.eq_ofNat_of_zero_le (show 0 ≤ x2.tmod (N : Int) from Int.tmod_nonneg _ (by omega))
      have hAN : A < N := by have := Int.tmod_lt_of_pos x2 (show (0 : Int) < N by omega); omega
      obtain ⟨Z, hZ⟩ := Int.eq_ofNat_of_zero_le (show 0 ≤ x3.tmod (N : Int) from Int.tmod_nonneg _ (by omega))
      have hZN : Z < N := by have := Int.tmod_lt_of_pos x3 (show (0 : Int) < N by omega); omega
      obtain ⟨t1, hno, t2, t3, t4, t5, l1, l2, ⟨e1, e2⟩, t6, al, ah, t7, t8⟩ := held_facts (u := u1) hv HEba.out HCKba.out hN hM hAN hZN
      have HLN := Lib.hid hN
      have HNO := Lib.hid hno
      have HT1 := Lib.hid t1
      have HT2 := Lib.hid t2
      have HT3 := Lib.hid t3
      have HT4 := Lib.hid t4
      have HT5 := Lib.hid t5
      have HT6 := Lib.hid t6
      have HT7 := Lib.hid t7
      have HT8 := Lib.hid t8
      have HE1 := Lib.hid e1
      have HE2 := Lib.hid e2
      have HMM := Lib.hid hM
      rw [l1] at LaS4 ⊢
      rw [l2] at LaT4 ⊢
      rw [hN] at za2
      clear hN hM t1 hno t2 t3 t4 t5 l1 l2 e1 e2 t6 t7 t8
      have hN0 : ¬ (N : Int) = 0 := by omega
      have hNz : ¬ N = 0 := by omega
      have hwx2 : IntKind.i64.wrap x2 = x2 := IntWalk.i64_in _ (by omega)
      have hwx3 : IntKind.i64.wrap x3 = x3 := IntWalk.i64_in _ (by omega)
      have hwA : IntKind.i64.wrap (A : Int) = A := IntWalk.i64_in _ (by omega)
      have hwZ : IntKind.i64.wrap (Z : Int) = Z := IntWalk.i64_in _ (by omega)
      refine reg_invW (fun d a W => a = { tmps := #[bookV b p cap, Value.slice q1 n1 c1, Value.int IntKind.u8 x2, Value.int IntKind.u8 x3, Value.pointer (some { block := g0, off := 0 }), undef, undef, undef, Value.bool false, Value.pointer (some { block := g3, off := 0 }), Value.slice Laq N Lad, Value.slice Lar M Lae, (bif d 10 then Value.int IntKind.i64 ((A : Int)) else undef), (bif d 11 then Value.int IntKind.i64 ((Z : Int)) else undef), undef, undef, undef, undef, undef, undef, undef, undef, undef, undef, undef, undef, undef, Value.agg #[Value.int IntKind.i64 b.lo, Value.int IntKind.i64 b.hi, Value.int IntKind.i64 b.lots, Value.slice p b.n cap], Value.bool true, Value.bool false, Value.bool false, Value.slice q1 n1 c1, Value.int IntKind.i64 (n1 : Int), Value.bool (decide (30 < (n1 : Int))), Value.bool (decide (30 < (n1 : Int))), undef, Value.tuple #[bookV ba bap bac, Value.slice Laq N Lad, Value.slice Lar M Lae], Value.agg #[Value.int IntKind.i64 b.lo, Value.int IntKind.i64 b.hi, Value.int IntKind.i64 b.lots, Value.slice p b.n cap], Value.slice q1 n1 c1, Value.tuple #[bookV ba bap bac, Value.slice Laq N Lad, Value.slice Lar M Lae], bookV ba bap bac, Value.slice Laq N Lad, Value.slice Lar M Lae, Value.agg #[Value.int IntKind.i64 ba.lo, Value.int IntKind.i64 ba.hi, Value.int IntKind.i64 ba.lots, Value.slice bap ba.n bac], Value.bool true, Value.bool false, undef, (bif d 0 then Value.int IntKind.u8 x2 else undef), (bif d 1 then Value.int IntKind.i64 (x2) else undef), (bif d 2 then Value.pointer (some { block := g0, off := 2 }) else undef), (bif d 3 then Value.int IntKind.i64 ((N : Int)) else undef), (bif d 4 then Value.int IntKind.i64 ((A : Int)) else undef), (bif d 5 then Value.int IntKind.u8 x3 else undef), (bif d 6 then Value.int IntKind.i64 (x3) else undef), (bif d 7 then Value.pointer (some { block := g0, off := 2 }) else undef), (bif d 8 then Value.int IntKind.i64 ((N : Int)) else undef), (bif d 9 then Value.int IntKind.i64 ((Z : Int)) else undef), undef, undef, undef, undef, undef, undef, undef, undef, undef, undef, undef, undef, undef, undef, undef, undef, undef, undef, undef, undef, undef, undef, undef, undef, undef, undef, undef, undef, undef, undef, undef, undef, undef, undef, undef, undef, undef, undef, undef, undef, undef, undef, undef, undef, undef, undef, undef, undef, undef, undef, undef, undef, undef, undef, undef, undef, undef, undef, undef, undef, undef, undef, undef, undef, undef, undef, undef, undef, undef, undef, undef, undef, undef, undef, undef, undef, undef, undef, undef, undef, undef, undef, undef, undef, undef, undef, undef, undef, undef, undef, undef, undef, undef, undef, undef, undef, undef, undef, undef, undef, undef, undef, undef, undef, undef, undef, undef, undef, undef, undef, undef, undef, undef, undef, undef, undef, undef, undef, undef, undef, undef, undef, undef, undef, undef, undef, undef, undef, undef, undef, undef, undef, undef, undef, undef, undef, undef, undef, undef, undef, undef, undef, undef, undef, undef, undef, undef, undef, undef, undef, undef, undef, undef, undef, undef, undef, undef, undef, undef, undef, undef], defers := [] } ∧ Hid (Pure w4 W)) hmx (by kernel_rfl) ?_ ?_ ?_
      · exact ⟨rfl, (Diff.refl w4).drew⟩
      · refine ⟨?_, ?_, ?_, ?_, ?_, ?_, ?_, ?_, ?_, ?_, ?_, ?_, trivial⟩
        · rintro d a W hdi hdep hcl ⟨rfl, hw⟩ K hK
          have E := hcl.facts 0 hdi rfl hdep [] [1, 4, 10, 11] (by kernel_rfl) (by kernel_rfl)
          simp only [AllT, AllF] at E
          clear hdi hdep hcl
          go_simp
          exact hK _ _ ⟨by simp [upd, E], hw⟩
        · rintro d a W hdi hdep hcl ⟨rfl, hw⟩ K hK
          have E := hcl.facts 1 hdi rfl hdep [0] [4, 10, 11] (by kernel_rfl) (by kernel_rfl)
          simp only [AllT, AllF] at E
          clear hdi hdep hcl
          go_simp
          exact hK _ _ ⟨by simp [upd, E], hw⟩
        · rintro d a W hdi hdep hcl ⟨rfl, hw⟩ K hK
          have E := hcl.facts 2 hdi rfl hdep [] [3, 4, 10, 11] (by kernel_rfl) (by kernel_rfl)
          simp only [AllT, AllF] at E
          clear hdi hdep hcl
          go_simp
          exact hK _ _ ⟨by simp [upd, E], hw⟩
        · rintro d a W hdi hdep hcl ⟨rfl, hw⟩ K hK
          have E := hcl.facts 3 hdi rfl hdep [2] [4, 10, 11] (by kernel_rfl) (by kernel_rfl)
          simp only [AllT, AllF] at E
          clear hdi hdep hcl
          have z := ((pcell hw.out).1 _ _ zal).trans za2
          go_simp
          exact hK _ _ ⟨by simp [upd, E], hw⟩
        · rintro d a W hdi hdep hcl ⟨rfl, hw⟩ K hK
          have E := hcl.facts 4 hdi rfl hdep [0, 1, 2, 3] [10, 11] (by kernel_rfl) (by kernel_rfl)
          simp only [AllT, AllF] at E
          clear hdi hdep hcl
          go_simp
          exact hK _ _ ⟨by simp [upd, E], hw⟩
        · rintro d a W hdi hdep hcl ⟨rfl, hw⟩ K hK
          have E := hcl.facts 5 hdi rfl hdep [] [6, 9, 11] (by kernel_rfl) (by kernel_rfl)
          simp only [AllT, AllF] at E
          clear hdi hdep hcl
          go_simp
          exact hK _ _ ⟨by simp [upd, E], hw⟩
        · rintro d a W hdi hdep hcl ⟨rfl, hw⟩ K hK
          have E := hcl.facts 6 hdi rfl hdep [5] [9, 11] (by kernel_rfl) (by kernel_rfl)
          simp only [AllT, AllF] at E
          clear hdi hdep hcl
          go_simp
          exact hK _ _ ⟨by simp [upd, E], hw⟩
        · rintro d a W hdi hdep hcl ⟨rfl, hw⟩ K hK
          have E := hcl.facts 7 hdi rfl hdep [] [8, 9, 11] (by kernel_rfl) (by kernel_rfl)
          simp only [AllT, AllF] at E
          clear hdi hdep hcl
          go_simp
          exact hK _ _ ⟨by simp [upd, E], hw⟩
        · rintro d a W hdi hdep hcl ⟨rfl, hw⟩ K hK
          have E := hcl.facts 8 hdi rfl hdep [7] [9, 11] (by kernel_rfl) (by kernel_rfl)
          simp only [AllT, AllF] at E
          clear hdi hdep hcl
          have z := ((pcell hw.out).1 _ _ zal).trans za2
          go_simp
          exact hK _ _ ⟨by simp [upd, E], hw⟩
        · rintro d a W hdi hdep hcl ⟨rfl, hw⟩ K hK
          have E := hcl.facts 9 hdi rfl hdep [5, 6, 7, 8] [11] (by kernel_rfl) (by kernel_rfl)
          simp only [AllT, AllF] at E
          clear hdi hdep hcl
          go_simp
          exact hK _ _ ⟨by simp [upd, E], hw⟩
        · rintro d a W hdi hdep hcl ⟨rfl, hw⟩ K hK
          have E := hcl.facts 10 hdi rfl hdep [0, 1, 2, 3, 4] [11] (by kernel_rfl) (by kernel_rfl)
          simp only [AllT, AllF] at E
          clear hdi hdep hcl
          go_simp
          exact hK _ _ ⟨by simp [upd, E], hw⟩
        · rintro d a W hdi hdep hcl ⟨rfl, hw⟩ K hK
          have E := hcl.facts 11 hdi rfl hdep [0, 1, 2, 3, 4, 5, 6, 7, 8, 9, 10] [] (by kernel_rfl) (by kernel_rfl)
          simp only [AllT, AllF] at E
          clear hdi hdep hcl
          go_simp
          exact hK _ _ ⟨by simp [upd, E], hw⟩
      · rintro d a W hall ⟨rfl, hw⟩
        have E := AllT.all hall [0, 1, 2, 3, 4, 5, 6, 7, 8, 9, 10, 11] (by kernel_rfl)
        simp only [AllT] at E
        simp only [E, cond_true] at hw ⊢
        clear E hall
        obtain ⟨w5, hww⟩ : ∃ v, W = v := ⟨_, rfl⟩
        rw [hww] at hw ⊢
        have hp : Pure w4 w5 := hw.out
        clear hw hww W d
        clear za0 za1 za2 za3 zal
        clear zc0 zc1 zc2 zc3 zcl
        have hP5 : Hid (Pure w w5) := hP4.out.trans hp
        have HA5 := Lib.hid (HA4.out.pure hp)
        have HC5 := Lib.hid (HC4.out.pure hp)
        have HB5 := Lib.hid (HB4.out.to hp)
        have HG5 := Lib.hid (HG4.out.to hp)
        have HR15 := Lib.hid (HR14.out.to hp)
        have LaB5 := Lib.hid (LaB4.out.to hp)
        have LaS5 := Lib.hid (LaS4.out.to hp)
        have LaT5 := Lib.hid (LaT4.out.to hp)
        clear hp hP4 HA4 HC4 HB4 HG4 HR14 LaB4 LaS4 LaT4
        clear hA hZ hwx2 hwx3 hb2 hb3 hwA hwZ
        obtain ⟨za0, za1, za2, za3, zal⟩ := HA5.out
        obtain ⟨zc0, zc1, zc2, zc3, zcl⟩ := HC5.out
        go_wp2_with fail
        obtain ⟨sl, hsl⟩ : ∃ v, endV ba false (1 + A) = v := ⟨_, rfl⟩
        obtain ⟨sh, hsh⟩ : ∃ v, endV ba true (1 + A) = v := ⟨_, rfl⟩
        rw [hsl, hsh] at HT6
        have HSL := Lib.hid hsl
        have HSH := Lib.hid hsh
        clear hsl hsh
        refine (Span_any w5 ba bap bac A hsba LaB5.out HG5.out).mono ?_
        rintro e w6 ⟨rfl, hp⟩
        rw [HT2.out, Int.toNat_natCast, HT6.out]
        have hP6 : Hid (Pure w w6) := hP5.out.trans hp
        have HA6 := Lib.hid (HA5.out.pure hp)
        have HC6 := Lib.hid (HC5.out.pure hp)
        have HB6 := Lib.hid (HB5.out.to hp)
        have HG6 := Lib.hid (HG5.out.to hp)
        have HR16 := Lib.hid (HR15.out.to hp)
        have LaB6 := Lib.hid (LaB5.out.to hp)
        have LaS6 := Lib.hid (LaS5.out.to hp)
        have LaT6 := Lib.hid (LaT5.out.to hp)
        clear hp hP5 HA5 HC5 za0 za1 za2 za3 zal zc0 zc1 zc2 zc3 zcl HB5 HG5 HR15 LaB5 LaS5 LaT5
        obtain ⟨za0, za1, za2, za3, zal⟩ := HA6.out
        obtain ⟨zc0, zc1, zc2, zc3, zcl⟩ := HC6.out
        go_wp2_with fail
        obtain ⟨w7, hw7⟩ : ∃ v, w6.alloc (.cells #[.int .i64 sl, .int .i64 sh] 23) = v := ⟨_, rfl⟩
        have hp : Pure w6 w7 := by rw [← hw7]; exact (Diff.refl _).alloc _
        have hx : w7.heap[w6.heap.size]? = some (.cells #[.int .i64 sl, .int .i64 sh] 23 (0, 0)) := by rw [← hw7]; exact World.alloc_heap_new _ _
        obtain ⟨gs, hgs⟩ : ∃ g, w6.heap.size = g := ⟨_, rfl⟩
        rw [hw7]
        rw [hgs] at hx ⊢
        clear hw7 hgs
        clear za0 za1 za2 za3 zal
        clear zc0 zc1 zc2 zc3 zcl
        have hP7 : Hid (Pure w w7) := hP6.out.trans hp
        have HA7 := Lib.hid (HA6.out.pure hp)
        have HC7 := Lib.hid (HC6.out.pure hp)
        have HB7 := Lib.hid (HB6.out.to hp)
        have HG7 := Lib.hid (HG6.out.to hp)
        have HR17 := Lib.hid (HR16.out.to hp)
        have LaB7 := Lib.hid (LaB6.out.to hp)
        have LaS7 := Lib.hid (LaS6.out.to hp)
        have LaT7 := Lib.hid (LaT6.out.to hp)
        have Ks7 := Lib.hid (At2.of hx)
        clear hp hP6 HA6 HC6 HB6 HG6 HR16 LaB6 LaS6 LaT6
        clear hx
        obtain ⟨za0, za1, za2, za3, zal⟩ := HA7.out
        obtain ⟨zc0, zc1, zc2, zc3, zcl⟩ := HC7.out
        go_wp2_with fail
        refine (Apart_any w7 ba bap bac A Z hsba LaB7.out HG7.out).mono ?_
        rintro e w8 ⟨rfl, hp⟩
        rw [HT3.out, Int.toNat_natCast, Int.toNat_natCast, HT7.out]
        have hP8 : Hid (Pure w w8) := hP7.out.trans hp
        have HA8 := Lib.hid (HA7.out.pure hp)
        have HC8 := Lib.hid (HC7.out.pure hp)
        have HB8 := Lib.hid (HB7.out.to hp)
        have HG8 := Lib.hid (HG7.out.to hp)
        have HR18 := Lib.hid (HR17.out.to hp)
        have LaB8 := Lib.hid (LaB7.out.to hp)
        have LaS8 := Lib.hid (LaS7.out.to hp)
        have LaT8 := Lib.hid (LaT7.out.to hp)
        have Ks8 := Lib.hid (Ks7.out.to hp)
        clear hp hP7 HA7 HC7 za0 za1 za2 za3 zal zc0 zc1 zc2 zc3 zcl HB7 HG7 HR17 LaB7 LaS7 LaT7 Ks7
        obtain ⟨za0, za1, za2, za3, zal⟩ := HA8.out
        obtain ⟨zc0, zc1, zc2, zc3, zcl⟩ := HC8.out
        go_wp2_with fail
        obtain ⟨w9, hw9⟩ : ∃ v, w8.alloc (.cells #[.int .i64 al, .int .i64 ah] 23) = v := ⟨_, rfl⟩
        have hp : Pure w8 w9 := by rw [← hw9]; exact (Diff.refl _).alloc _
        have hx : w9.heap[w8.heap.size]? = some (.cells #[.int .i64 al, .int .i64 ah] 23 (0, 0)) := by rw [← hw9]; exact World.alloc_heap_new _ _
        obtain ⟨gt, hgt⟩ : ∃ g, w8.heap.size = g := ⟨_, rfl⟩
        rw [hw9]
        rw [hgt] at hx ⊢
        clear hw9 hgt
        clear za0 za1 za2 za3 zal
        clear zc0 zc1 zc2 zc3 zcl
        have hP9 : Hid (Pure w w9) := hP8.out.trans hp
        have HA9 := Lib.hid (HA8.out.pure hp)
        have HC9 := Lib.hid (HC8.out.pure hp)
        have HB9 := Lib.hid (HB8.out.to hp)
        have HG9 := Lib.hid (HG8.out.to hp)
        have HR19 := Lib.hid (HR18.out.to hp)
        have LaB9 := Lib.hid (LaB8.out.to hp)
        have LaS9 := Lib.hid (LaS8.out.to hp)
        have LaT9 := Lib.hid (LaT8.out.to hp)
        have Ks9 := Lib.hid (Ks8.out.to hp)
        have Kt9 := Lib.hid (At2.of hx)
        clear hp hP8 HA8 HC8 HB8 HG8 HR18 LaB8 LaS8 LaT8 Ks8
        clear hx
        obtain ⟨za0, za1, za2, za3, zal⟩ := HA9.out
        obtain ⟨zc0, zc1, zc2, zc3, zcl⟩ := HC9.out
        go_wp2_with fail
        refine (Least_any w9 ba bap bac hsba LaB9.out HG9.out).mono ?_
        rintro e w10 ⟨hq, hp⟩
        obtain ⟨s1, t1, rfl, ls1, lt1⟩ := truth_lists (gr := false) hq HCKba.out HNO.out (pick_lo ba)
        clear hq
        have hP10 : Hid (Pure w w10) := hP9.out.trans hp
        have HA10 := Lib.hid (HA9.out.pure hp)
        have HC10 := Lib.hid (HC9.out.pure hp)
        have HB10 := Lib.hid (HB9.out.to hp)
        have HG10 := Lib.hid (HG9.out.to hp)
        have HR110 := Lib.hid (HR19.out.to hp)
        have LaB10 := Lib.hid (LaB9.out.to hp)
        have LaS10 := Lib.hid (LaS9.out.to hp)
        have LaT10 := Lib.hid (LaT9.out.to hp)
        have Ks10 := Lib.hid (Ks9.out.to hp)
        have Kt10 := Lib.hid (Kt9.out.to hp)
        have LS10 := Lib.hid (ls1)
        have LT10 := Lib.hid (lt1)
        clear hp hP9 HA9 HC9 za0 za1 za2 za3 zal zc0 zc1 zc2 zc3 zcl HB9 HG9 HR19 LaB9 LaS9 LaT9 Ks9 Kt9
        obtain ⟨za0, za1, za2, za3, zal⟩ := HA10.out
        obtain ⟨zc0, zc1, zc2, zc3, zcl⟩ := HC10.out
        obtain ⟨s1p, s1c, rfl⟩ := ls1.form
        obtain ⟨t1p, t1c, rfl⟩ := lt1.form
        clear ls1 lt1
        go_wp2_with fail
        refine (Greatest_any w10 ba bap bac hsba LaB10.out HG10.out).mono ?_
        rintro e w11 ⟨hq, hp⟩
        obtain ⟨s2, t2, rfl, ls1, lt1⟩ := truth_lists (gr := true) hq HCKba.out HNO.out (pick_hi ba)
        clear hq
        have hP11 : Hid (Pure w w11) := hP10.out.trans hp
        have HA11 := Lib.hid (HA10.out.pure hp)
        have HC11 := Lib.hid (HC10.out.pure hp)
        have HB11 := Lib.hid (HB10.out.to hp)
        have HG11 := Lib.hid (HG10.out.to hp)
        have HR111 := Lib.hid (HR110.out.to hp)
        have LaB11 := Lib.hid (LaB10.out.to hp)
        have LaS11 := Lib.hid (LaS10.out.to hp)
        have LaT11 := Lib.hid (LaT10.out.to hp)
        have Ks11 := Lib.hid (Ks10.out.to hp)
        have Kt11 := Lib.hid (Kt10.out.to hp)
        have LS11 := Lib.hid (LS10.out.to hp)
        have LT11 := Lib.hid (LT10.out.to hp)
        have MS11 := Lib.hid (ls1)
        have MT11 := Lib.hid (lt1)
        clear hp hP10 HA10 HC10 za0 za1 za2 za3 zal zc0 zc1 zc2 zc3 zcl HB10 HG10 HR110 LaB10 LaS10 LaT10 Ks10 Kt10 LS10 LT10
        obtain ⟨za0, za1, za2, za3, zal⟩ := HA11.out
        obtain ⟨zc0, zc1, zc2, zc3, zcl⟩ := HC11.out
        obtain ⟨s2p, s2c, rfl⟩ := ls1.form
        obtain ⟨t2p, t2c, rfl⟩ := lt1.form
        clear ls1 lt1
        go_wp2_with fail
        refine (CheckTruth_any w11 ba bap bac _ _ (hXs b u1) (hYs b u1) hsba LaB11.out HG11.out LaS11.out LaT11.out).mono ?_
        rintro e w12 ⟨rfl, hp⟩
        rw [HT1.out]
        have hP12 : Hid (Pure w w12) := hP11.out.trans hp
        have HA12 := Lib.hid (HA11.out.pure hp)
        have HC12 := Lib.hid (HC11.out.pure hp)
        have HB12 := Lib.hid (HB11.out.to hp)
        have HG12 := Lib.hid (HG11.out.to hp)
        have HR112 := Lib.hid (HR111.out.to hp)
        have LaB12 := Lib.hid (LaB11.out.to hp)
        have LaS12 := Lib.hid (LaS11.out.to hp)
        have LaT12 := Lib.hid (LaT11.out.to hp)
        have Ks12 := Lib.hid (Ks11.out.to hp)
        have Kt12 := Lib.hid (Kt11.out.to hp)
        have LS12 := Lib.hid (LS11.out.to hp)
        have LT12 := Lib.hid (LT11.out.to hp)
        have MS12 := Lib.hid (MS11.out.to hp)
        have MT12 := Lib.hid (MT11.out.to hp)
        clear hp hP11 HA11 HC11 za0 za1 za2 za3 zal zc0 zc1 zc2 zc3 zcl HB11 HG11 HR111 LaB11 LaS11 LaT11 Ks11 Kt11 LS11 LT11 MS11 MT11
        obtain ⟨za0, za1, za2, za3, zal⟩ := HA12.out
        obtain ⟨zc0, zc1, zc2, zc3, zcl⟩ := HC12.out
        have m1 : ∀ g, (lsX ba g).length = N := fun g => by rw [lsX_length, HE1.out]; rfl
        have m2 : ∀ g, (lsY ba g).length = M := fun g => by rw [lsY_length, HE2.out]
        rw [m1] at LS12
        rw [m1] at MS12
        rw [m2] at LT12
        rw [m2] at MT12
        rw [m1, m1, m2, m2]
        clear m1 m2
        rw [HLN.out] at za2
        go_wp2_with fail
        have RA12 := Lib.hid LaS12.out.row2.2
        have RB12 := Lib.hid LS12.out.row2.2
        have RC12 := Lib.hid MS12.out.row2.2
        have RD12 := Lib.hid LaT12.out.row2.2
        have RE12 := Lib.hid LT12.out.row2.2
        have RF12 := Lib.hid MT12.out.row2.2
        clear LaS12
        clear LS12
        clear MS12
        clear LaT12
        clear LT12
        clear MT12
        go_loopw [24] (fun i wr => ∃ (jo : Nat), jo ≤ N ∧ i = .int .i64 jo ∧ Hid (Pure w12 wr)) (fun i _ => N - (intOf i).toNat)
        case atStart => exact ⟨0, Nat.zero_le _, rfl, Diff.refl _⟩
        case round =>
          obtain ⟨jo, hjo, rfl, HZ⟩ := hrel
          have hjo0 : 0 ≤ (jo : Int) := by omega
          by_cases hjon : jo < N
          · have hjoi : (jo : Int) < (N : Int) := by omega
            obtain ⟨gax, iax, hqa, hga, ya⟩ := RA12.out jo hjon
            obtain ⟨gbx, ibx, hqb, hgb, yb⟩ := RB12.out jo hjon
            obtain ⟨gcx, icx, hqc, hgc, yc⟩ := RC12.out jo hjon
            subst hqa hqb hqc
            change _ = some (Value.int .i64 (nthI (hXs b u1) jo)) at ya
            change _ = some (Value.int .i64 (nthI (lsX ba false) jo)) at yb
            change _ = some (Value.int .i64 (nthI (lsX ba true) jo)) at yc
            have hbt := HT4.out jo hjon
            rw [lsX_nth _ _ _ (by rw [HE1.out]; exact hjon)] at yb yc
            obtain ⟨x, hx⟩ : ∃ x, nthI (hXs b u1) jo = x := ⟨_, rfl⟩
            obtain ⟨lo, hlo⟩ : ∃ x, endV ba false (1 + jo) = x := ⟨_, rfl⟩
            obtain ⟨hi, hhi⟩ : ∃ x, endV ba true (1 + jo) = x := ⟨_, rfl⟩
            rw [hx, hlo, hhi] at hbt
            rw [hx] at ya
            rw [hlo] at yb
            rw [hhi] at yc
            have h1 : ¬ x < lo := by omega
            have h2 : ¬ hi < x := by omega
            have h1l : lo ≤ x := by omega
            have h2l : x ≤ hi := by omega
            have HYA := Lib.hid ya
            have HYB := Lib.hid yb
            have HYC := Lib.hid yc
            have HGA := Lib.hid hga
            have HGB := Lib.hid hgb
            have HGC := Lib.hid hgc
            clear hx hlo hhi hbt ya yb yc hga hgb hgc
            go_wp2_with fail
            obtain ⟨V, hV⟩ : ∃ V, wr = V := ⟨_, rfl⟩
            rw [hV] at HZ ⊢
            clear hV
            refine reg_invW (fun d a W => a = { tmps := #[bookV b p cap, Value.slice q1 n1 c1, Value.int IntKind.u8 x2, Value.int IntKind.u8 x3, Value.pointer (some { block := g0, off := 0 }), undef, undef, undef, u8, Value.pointer (some { block := g3, off := 0 }), Value.slice (some { block := gax, off := iax }) N Lad, Value.slice Lar M Lae, Value.int IntKind.i64 (A : Int), Value.int IntKind.i64 (Z : Int), Value.pointer (some { block := gs, off := 0 }), Value.int IntKind.i64 0, Value.pointer (some { block := gt, off := 0 }), Value.int IntKind.i64 0, Value.slice (some { block := gbx, off := ibx }) N s1c, Value.slice t1p M t1c, Value.int IntKind.i64 0, Value.slice (some { block := gcx, off := icx }) N s2c, Value.slice t2p M t2c, Value.int IntKind.i64 0, Value.int IntKind.i64 (jo : Int), undef, undef, Value.agg #[Value.int IntKind.i64 b.lo, Value.int IntKind.i64 b.hi, Value.int IntKind.i64 b.lots, Value.slice p b.n cap], Value.bool true, Value.bool false, Value.bool false, Value.slice q1 n1 c1, Value.int IntKind.i64 (n1 : Int), Value.bool (decide (30 < (n1 : Int))), Value.bool (decide (30 < (n1 : Int))), undef, Value.tuple #[bookV ba bap bac, Value.slice (some { block := gax, off := iax }) N Lad, Value.slice Lar M Lae], Value.agg #[Value.int IntKind.i64 b.lo, Value.int IntKind.i64 b.hi, Value.int IntKind.i64 b.lots, Value.slice p b.n cap], Value.slice q1 n1 c1, Value.tuple #[bookV ba bap bac, Value.slice (some { block := gax, off := iax }) N Lad, Value.slice Lar M Lae], bookV ba bap bac, Value.slice (some { block := gax, off := iax }) N Lad, Value.slice Lar M Lae, Value.agg #[Value.int IntKind.i64 ba.lo, Value.int IntKind.i64 ba.hi, Value.int IntKind.i64 ba.lots, Value.slice bap ba.n bac], Value.bool true, Value.bool false, undef, Value.int IntKind.u8 x2, Value.int IntKind.i64 x2, Value.pointer (some { block := g0, off := 2 }), Value.int IntKind.i64 (N : Int), Value.int IntKind.i64 (A : Int), Value.int IntKind.u8 x3, Value.int IntKind.i64 x3, Value.pointer (some { block := g0, off := 2 }), Value.int IntKind.i64 (N : Int), Value.int IntKind.i64 (Z : Int), Value.tuple #[Value.agg #[Value.int IntKind.i64 sl, Value.int IntKind.i64 sh], Value.int IntKind.i64 0], Value.agg #[Value.int IntKind.i64 ba.lo, Value.int IntKind.i64 ba.hi, Value.int IntKind.i64 ba.lots, Value.slice bap ba.n bac], Value.int IntKind.i64 (A : Int), Value.tuple #[Value.agg #[Value.int IntKind.i64 sl, Value.int IntKind.i64 sh], Value.int IntKind.i64 0], Value.agg #[Value.int IntKind.i64 sl, Value.int IntKind.i64 sh], Value.int IntKind.i64 0, Value.tuple #[Value.agg #[Value.int IntKind.i64 al, Value.int IntKind.i64 ah], Value.int IntKind.i64 0], Value.agg #[Value.int IntKind.i64 ba.lo, Value.int IntKind.i64 ba.hi, Value.int IntKind.i64 ba.lots, Value.slice bap ba.n bac], Value.int IntKind.i64 (A : Int), Value.int IntKind.i64 (Z : Int), Value.tuple #[Value.agg #[Value.int IntKind.i64 al, Value.int IntKind.i64 ah], Value.int IntKind.i64 0], Value.agg #[Value.int IntKind.i64 al, Value.int IntKind.i64 ah], Value.int IntKind.i64 0, Value.tuple #[Value.slice (some { block := gbx, off := ibx }) N s1c, Value.slice t1p M t1c, Value.int IntKind.i64 0], Value.agg #[Value.int IntKind.i64 ba.lo, Value.int IntKind.i64 ba.hi, Value.int IntKind.i64 ba.lots, Value.slice bap ba.n bac], Value.tuple #[Value.slice (some { block := gbx, off := ibx }) N s1c, Value.slice t1p M t1c, Value.int IntKind.i64 0], Value.slice (some { block := gbx, off := ibx }) N s1c, Value.slice t1p M t1c, Value.int IntKind.i64 0, Value.tuple #[Value.slice (some { block := gcx, off := icx }) N s2c, Value.slice t2p M t2c, Value.int IntKind.i64 0], Value.agg #[Value.int IntKind.i64 ba.lo, Value.int IntKind.i64 ba.hi, Value.int IntKind.i64 ba.lots, Value.slice bap ba.n bac], Value.tuple #[Value.slice (some { block := gcx, off := icx }) N s2c, Value.slice t2p M t2c, Value.int IntKind.i64 0], Value.slice (some { block := gcx, off := icx }) N s2c, Value.slice t2p M t2c, Value.int IntKind.i64 0, Value.agg #[Value.int IntKind.i64 ba.lo, Value.int IntKind.i64 ba.hi, Value.int IntKind.i64 ba.lots, Value.slice bap ba.n bac], Value.slice (some { block := gax, off := iax }) N Lad, Value.slice Lar M Lae, Value.int IntKind.i64 0, Value.bool false, Value.bool false, Value.int IntKind.i64 0, Value.bool false, Value.bool false, Value.bool false, Value.int IntKind.i64 0, Value.bool false, Value.bool false, Value.bool false, Value.int IntKind.i64 0, Value.bool false, Value.bool false, Value.bool false, Value.int IntKind.i64 0, Value.bool false, Value.bool false, Value.bool false, Value.slice (some { block := gbx, off := ibx }) N s1c, Value.int IntKind.i64 (N : Int), Value.pointer (some { block := g0, off := 2 }), Value.int IntKind.i64 (N : Int), Value.bool false, Value.bool false, Value.bool false, Value.slice (some { block := gcx, off := icx }) N s2c, Value.int IntKind.i64 (N : Int), Value.pointer (some { block := g0, off := 2 }), Value.int IntKind.i64 (N : Int), Value.bool false, Value.bool false, Value.bool false, Value.slice t1p M t1c, Value.int IntKind.i64 (M : Int), Value.slice Lar M Lae, Value.int IntKind.i64 (M : Int), Value.bool false, Value.bool false, Value.bool false, Value.slice t2p M t2c, Value.int IntKind.i64 (M : Int), Value.slice Lar M Lae, Value.int IntKind.i64 (M : Int), Value.bool false, Value.bool false, Value.int IntKind.i64 (jo : Int), Value.slice (some { block := gax, off := iax }) N Lad, Value.int IntKind.i64 (N : Int), Value.bool true, u135, u136, (bif d 0 then Value.slice (some { block := gax, off := iax }) N Lad else u137), (bif d 1 then Value.int IntKind.i64 ((jo : Int)) else u138), (bif d 2 then Value.pointer (some { block := gax, off := iax + jo }) else u139), (bif d 3 then Value.int IntKind.i64 (x) else u140), (bif d 4 then Value.slice (some { block := gbx, off := ibx }) N s1c else u141), (bif d 5 then Value.int IntKind.i64 ((jo : Int)) else u142), (bif d 6 then Value.pointer (some { block := gbx, off := ibx + jo }) else u143), (bif d 7 then Value.int IntKind.i64 (lo) else u144), (bif d 8 then Value.bool false else u145), (bif d 9 then Value.bool false else u146), (bif d 10 then Value.slice (some { block := gax, off := iax }) N Lad else u147), (bif d 11 then Value.int IntKind.i64 ((jo : Int)) else u148), (bif d 12 then Value.pointer (some { block := gax, off := iax + jo }) else u149), (bif d 13 then Value.int IntKind.i64 (x) else u150), (bif d 14 then Value.slice (some { block := gcx, off := icx }) N s2c else u151), (bif d 15 then Value.int IntKind.i64 ((jo : Int)) else u152), (bif d 16 then Value.pointer (some { block := gcx, off := icx + jo }) else u153), (bif d 17 then Value.int IntKind.i64 (hi) else u154), (bif d 18 then Value.bool false else u155), (bif d 19 then Value.bool false else u156), undef, undef, undef, undef, undef, undef, undef, undef, undef, undef, undef, undef, undef, undef, undef, undef, undef, undef, undef, undef, undef, undef, undef, undef, undef, undef, undef, undef, undef, undef, undef, undef, undef, undef, undef, undef, undef, undef, undef, undef, undef, undef, undef, undef, undef, undef, undef, undef, undef, undef, undef, undef, undef, undef, undef, undef, undef, undef, undef, undef, undef], defers := [] } ∧ Hid (Pure V W)) hmx (by kernel_rfl) ?_ ?_ ?_
            · exact ⟨rfl, (Diff.refl V).drew⟩
            · refine ⟨?_, ?_, ?_, ?_, ?_, ?_, ?_, ?_, ?_, ?_, ?_, ?_, ?_, ?_, ?_, ?_, ?_, ?_, ?_, ?_, trivial⟩
              · rintro d a W hdi hdep hcl ⟨rfl, hw⟩ K hK
                have E := hcl.facts 0 hdi rfl hdep [] [2, 3, 8, 9, 10, 11, 12, 13, 14, 15, 16, 17, 18, 19] (by kernel_rfl) (by kernel_rfl)
                simp only [AllT, AllF] at E
                clear hdi hdep hcl
                go_simp
                exact hK _ _ ⟨by simp [upd, E], hw⟩
              · rintro d a W hdi hdep hcl ⟨rfl, hw⟩ K hK
                have E := hcl.facts 1 hdi rfl hdep [] [2, 3, 8, 9, 10, 11, 12, 13, 14, 15, 16, 17, 18, 19] (by kernel_rfl) (by kernel_rfl)
                simp only [AllT, AllF] at E
                clear hdi hdep hcl
                go_simp
                exact hK _ _ ⟨by simp [upd, E], hw⟩
              · rintro d a W hdi hdep hcl ⟨rfl, hw⟩ K hK
                have E := hcl.facts 2 hdi rfl hdep [0, 1] [3, 8, 9, 10, 11, 12, 13, 14, 15, 16, 17, 18, 19] (by kernel_rfl) (by kernel_rfl)
                simp only [AllT, AllF] at E
                clear hdi hdep hcl
                go_simp
                exact hK _ _ ⟨by simp [upd, E], hw⟩
              · rintro d a W hdi hdep hcl ⟨rfl, hw⟩ K hK
                have E := hcl.facts 3 hdi rfl hdep [0, 1, 2] [8, 9, 10, 11, 12, 13, 14, 15, 16, 17, 18, 19] (by kernel_rfl) (by kernel_rfl)
                simp only [AllT, AllF] at E
                clear hdi hdep hcl
                have z := ((pcell (HZ.out.trans hw.out)).1 _ _ HGA.out).trans HYA.out
                go_simp
                exact hK _ _ ⟨by simp [upd, E], hw⟩
              · rintro d a W hdi hdep hcl ⟨rfl, hw⟩ K hK
                have E := hcl.facts 4 hdi rfl hdep [] [6, 7, 8, 9, 10, 11, 12, 13, 14, 15, 16, 17, 18, 19] (by kernel_rfl) (by kernel_rfl)
                simp only [AllT, AllF] at E
                clear hdi hdep hcl
                go_simp
                exact hK _ _ ⟨by simp [upd, E], hw⟩
              · rintro d a W hdi hdep hcl ⟨rfl, hw⟩ K hK
                have E := hcl.facts 5 hdi rfl hdep [] [6, 7, 8, 9, 10, 11, 12, 13, 14, 15, 16, 17, 18, 19] (by kernel_rfl) (by kernel_rfl)
                simp only [AllT, AllF] at E
                clear hdi hdep hcl
                go_simp
                exact hK _ _ ⟨by simp [upd, E], hw⟩
              · rintro d a W hdi hdep hcl ⟨rfl, hw⟩ K hK
                have E := hcl.facts 6 hdi rfl hdep [4, 5] [7, 8, 9, 10, 11, 12, 13, 14, 15, 16, 17, 18, 19] (by kernel_rfl) (by kernel_rfl)
                simp only [AllT, AllF] at E
                clear hdi hdep hcl
                go_simp
                exact hK _ _ ⟨by simp [upd, E], hw⟩
              · rintro d a W hdi hdep hcl ⟨rfl, hw⟩ K hK
                have E := hcl.facts 7 hdi rfl hdep [4, 5, 6] [8, 9, 10, 11, 12, 13, 14, 15, 16, 17, 18, 19] (by kernel_rfl) (by kernel_rfl)
                simp only [AllT, AllF] at E
                clear hdi hdep hcl
                have z := ((pcell (HZ.out.trans hw.out)).1 _ _ HGB.out).trans HYB.out
                go_simp
                exact hK _ _ ⟨by simp [upd, E], hw⟩
              · rintro d a W hdi hdep hcl ⟨rfl, hw⟩ K hK
                have E := hcl.facts 8 hdi rfl hdep [0, 1, 2, 3, 4, 5, 6, 7] [9, 10, 11, 12, 13, 14, 15, 16, 17, 18, 19] (by kernel_rfl) (by kernel_rfl)
                simp only [AllT, AllF] at E
                clear hdi hdep hcl
                go_simp
                exact hK _ _ ⟨by simp [upd, E, h1l, h2l], hw⟩
              · rintro d a W hdi hdep hcl ⟨rfl, hw⟩ K hK
                have E := hcl.facts 9 hdi rfl hdep [0, 1, 2, 3, 4, 5, 6, 7, 8] [10, 11, 12, 13, 14, 15, 16, 17, 18, 19] (by kernel_rfl) (by kernel_rfl)
                simp only [AllT, AllF] at E
                clear hdi hdep hcl
                go_simp
                exact hK _ _ ⟨by simp [upd, E], hw⟩
              · rintro d a W hdi hdep hcl ⟨rfl, hw⟩ K hK
                have E := hcl.facts 10 hdi rfl hdep [0, 1, 2, 3, 4, 5, 6, 7, 8, 9] [12, 13, 18, 19] (by kernel_rfl) (by kernel_rfl)
                simp only [AllT, AllF] at E
                clear hdi hdep hcl
                go_simp
                exact hK _ _ ⟨by simp [upd, E], hw⟩
              · rintro d a W hdi hdep hcl ⟨rfl, hw⟩ K hK
                have E := hcl.facts 11 hdi rfl hdep [0, 1, 2, 3, 4, 5, 6, 7, 8, 9] [12, 13, 18, 19] (by kernel_rfl) (by kernel_rfl)
                simp only [AllT, AllF] at E
                clear hdi hdep hcl
                go_simp
                exact hK _ _ ⟨by simp [upd, E], hw⟩
              · rintro d a W hdi hdep hcl ⟨rfl, hw⟩ K hK
                have E := hcl.facts 12 hdi rfl hdep [0, 1, 2, 3, 4, 5, 6, 7, 8, 9, 10, 11] [13, 18, 19] (by kernel_rfl) (by kernel_rfl)
                simp only [AllT, AllF] at E
                clear hdi hdep hcl
                go_simp
                exact hK _ _ ⟨by simp [upd, E], hw⟩
              · rintro d a W hdi hdep hcl ⟨rfl, hw⟩ K hK
                have E := hcl.facts 13 hdi rfl hdep [0, 1, 2, 3, 4, 5, 6, 7, 8, 9, 10, 11, 12] [18, 19] (by kernel_rfl) (by kernel_rfl)
                simp only [AllT, AllF] at E
                clear hdi hdep hcl
                have z := ((pcell (HZ.out.trans hw.out)).1 _ _ HGA.out).trans HYA.out
                go_simp
                exact hK _ _ ⟨by simp [upd, E], hw⟩
              · rintro d a W hdi hdep hcl ⟨rfl, hw⟩ K hK
                have E := hcl.facts 14 hdi rfl hdep [0, 1, 2, 3, 4, 5, 6, 7, 8, 9] [16, 17, 18, 19] (by kernel_rfl) (by kernel_rfl)
                simp only [AllT, AllF] at E
                clear hdi hdep hcl
                go_simp
                exact hK _ _ ⟨by simp [upd, E], hw⟩
              · rintro d a W hdi hdep hcl ⟨rfl, hw⟩ K hK
                have E := hcl.facts 15 hdi rfl hdep [0, 1, 2, 3, 4, 5, 6, 7, 8, 9] [16, 17, 18, 19] (by kernel_rfl) (by kernel_rfl)
                simp only [AllT, AllF] at E
                clear hdi hdep hcl
                go_simp
                exact hK _ _ ⟨by simp [upd, E], hw⟩
              · rintro d a W hdi hdep hcl ⟨rfl, hw⟩ K hK
                have E := hcl.facts 16 hdi rfl hdep [0, 1, 2, 3, 4, 5, 6, 7, 8, 9, 14, 15] [17, 18, 19] (by kernel_rfl) (by kernel_rfl)
                simp only [AllT, AllF] at E
                clear hdi hdep hcl
                go_simp
                exact hK _ _ ⟨by simp [upd, E], hw⟩
              · rintro d a W hdi hdep hcl ⟨rfl, hw⟩ K hK
                have E := hcl.facts 17 hdi rfl hdep [0, 1, 2, 3, 4, 5, 6, 7, 8, 9, 14, 15, 16] [18, 19] (by kernel_rfl) (by kernel_rfl)
                simp only [AllT, AllF] at E
                clear hdi hdep hcl
                have z := ((pcell (HZ.out.trans hw.out)).1 _ _ HGC.out).trans HYC.out
                go_simp
                exact hK _ _ ⟨by simp [upd, E], hw⟩
              · rintro d a W hdi hdep hcl ⟨rfl, hw⟩ K hK
                have E := hcl.facts 18 hdi rfl hdep [0, 1, 2, 3, 4, 5, 6, 7, 8, 9, 10, 11, 12, 13, 14, 15, 16, 17] [19] (by kernel_rfl) (by kernel_rfl)
                simp only [AllT, AllF] at E
                clear hdi hdep hcl
                go_simp
                exact hK _ _ ⟨by simp [upd, E, h1l, h2l], hw⟩
              · rintro d a W hdi hdep hcl ⟨rfl, hw⟩ K hK
                have E := hcl.facts 19 hdi rfl hdep [0, 1, 2, 3, 4, 5, 6, 7, 8, 9, 10, 11, 12, 13, 14, 15, 16, 17, 18] [] (by kernel_rfl) (by kernel_rfl)
                simp only [AllT, AllF] at E
                clear hdi hdep hcl
                go_simp
                exact hK _ _ ⟨by simp [upd, E], hw⟩
            · rintro d a W hall ⟨rfl, hw⟩
              have E := AllT.all hall [0, 1, 2, 3, 4, 5, 6, 7, 8, 9, 10, 11, 12, 13, 14, 15, 16, 17, 18, 19] (by kernel_rfl)
              simp only [AllT] at E
              simp only [E, cond_true] at hw ⊢
              clear E hall
              have HZ2 : Hid (Pure w12 W) := HZ.out.trans hw.out
              go_wp2_with fail
              exact ⟨⟨jo + 1, by omega, by push_cast; rfl, HZ2.out⟩, by simp only [intOf]; omega⟩
          · have hjoi : ¬ (jo : Int) < (N : Int) := by omega
            obtain ⟨w13, hww⟩ : ∃ v, wr = v := ⟨_, rfl⟩
            rw [hww] at HZ ⊢
            clear hww
            have hp : Pure w12 w13 := HZ.out
            clear HZ
            clear za0 za1 za2 za3 zal
            clear zc0 zc1 zc2 zc3 zcl
            have hP13 : Hid (Pure w w13) := hP12.out.trans hp
            have HA13 := Lib.hid (HA12.out.pure hp)
            have HC13 := Lib.hid (HC12.out.pure hp)
            have HB13 := Lib.hid (HB12.out.to hp)
            have HG13 := Lib.hid (HG12.out.to hp)
            have HR113 := Lib.hid (HR112.out.to hp)
            have LaB13 := Lib.hid (LaB12.out.to hp)
            have Ks13 := Lib.hid (Ks12.out.to hp)
            have Kt13 := Lib.hid (Kt12.out.to hp)
            have RA13 := Lib.hid (RA12.out.to hp)
            have RB13 := Lib.hid (RB12.out.to hp)
            have RC13 := Lib.hid (RC12.out.to hp)
            have RD13 := Lib.hid (RD12.out.to hp)
            have RE13 := Lib.hid (RE12.out.to hp)
            have RF13 := Lib.hid (RF12.out.to hp)
            clear hp hP12 HA12 HC12 HB12 HG12 HR112 LaB12 Ks12 Kt12 RA12 RB12 RC12 RD12 RE12 RF12
            obtain ⟨za0, za1, za2, za3, zal⟩ := HA13.out
            obtain ⟨zc0, zc1, zc2, zc3, zcl⟩ := HC13.out
            go_wp2_with fail
            go_loopw [25] (fun i wr => ∃ (j : Nat), j ≤ M ∧ i = .int .i64 j ∧ Hid (Pure w13 wr)) (fun i _ => M - (intOf i).toNat)
            case atStart => exact ⟨0, Nat.zero_le _, rfl, Diff.refl _⟩
            case round =>
              obtain ⟨j, hj, rfl, HZ⟩ := hrel
              have hj0 : 0 ≤ (j : Int) := by omega
              by_cases hjn : j < M
              · have hji : (j : Int) < (M : Int) := by omega
                obtain ⟨gax, iax, hqa, hga, ya⟩ := RD13.out j hjn
                obtain ⟨gbx, ibx, hqb, hgb, yb⟩ := RE13.out j hjn
                obtain ⟨gcx, icx, hqc, hgc, yc⟩ := RF13.out j hjn
                subst hqa hqb hqc
                change _ = some (Value.int .i64 (nthI (hYs b u1) j)) at ya
                change _ = some (Value.int .i64 (nthI (lsY ba false) j)) at yb
                change _ = some (Value.int .i64 (nthI (lsY ba true) j)) at yc
                have hbt := HT5.out j hjn
                rw [lsY_nth _ _ _ (by rw [HE2.out]; exact hjn)] at yb yc
                rw [HE1.out, Int.toNat_natCast] at yb yc
                obtain ⟨x, hx⟩ : ∃ x, nthI (hYs b u1) j = x := ⟨_, rfl⟩
                obtain ⟨lo, hlo⟩ : ∃ x, endV ba false (1 + N + j) = x := ⟨_, rfl⟩
                obtain ⟨hi, hhi⟩ : ∃ x, endV ba true (1 + N + j) = x := ⟨_, rfl⟩
                rw [hx, hlo, hhi] at hbt
                rw [hx] at ya
                rw [hlo] at yb
                rw [hhi] at yc
                have h1 : ¬ x < lo := by omega
                have h2 : ¬ hi < x := by omega
                have h1l : lo ≤ x := by omega
                have h2l : x ≤ hi := by omega
                have HYA := Lib.hid ya
                have HYB := Lib.hid yb
                have HYC := Lib.hid yc
                have HGA := Lib.hid hga
                have HGB := Lib.hid hgb
                have HGC := Lib.hid hgc
                clear hx hlo hhi hbt ya yb yc hga hgb hgc
                go_wp2_with fail
                obtain ⟨V, hV⟩ : ∃ V, wr = V := ⟨_, rfl⟩
                rw [hV] at HZ ⊢
                clear hV
                refine reg_invW (fun d a W => a = { tmps := #[bookV b p cap, Value.slice q1 n1 c1, Value.int IntKind.u8 x2, Value.int IntKind.u8 x3, Value.pointer (some { block := g0, off := 0 }), undef, undef, undef, u8, Value.pointer (some { block := g3, off := 0 }), Value.slice Laq N Lad, Value.slice (some { block := gax, off := iax }) M Lae, Value.int IntKind.i64 (A : Int), Value.int IntKind.i64 (Z : Int), Value.pointer (some { block := gs, off := 0 }), Value.int IntKind.i64 0, Value.pointer (some { block := gt, off := 0 }), Value.int IntKind.i64 0, Value.slice s1p N s1c, Value.slice (some { block := gbx, off := ibx }) M t1c, Value.int IntKind.i64 0, Value.slice s2p N s2c, Value.slice (some { block := gcx, off := icx }) M t2c, Value.int IntKind.i64 0, Value.int IntKind.i64 (jo : Int), Value.int IntKind.i64 (j : Int), undef, Value.agg #[Value.int IntKind.i64 b.lo, Value.int IntKind.i64 b.hi, Value.int IntKind.i64 b.lots, Value.slice p b.n cap], Value.bool true, Value.bool false, Value.bool false, Value.slice q1 n1 c1, Value.int IntKind.i64 (n1 : Int), Value.bool (decide (30 < (n1 : Int))), Value.bool (decide (30 < (n1 : Int))), undef, Value.tuple #[bookV ba bap bac, Value.slice Laq N Lad, Value.slice (some { block := gax, off := iax }) M Lae], Value.agg #[Value.int IntKind.i64 b.lo, Value.int IntKind.i64 b.hi, Value.int IntKind.i64 b.lots, Value.slice p b.n cap], Value.slice q1 n1 c1, Value.tuple #[bookV ba bap bac, Value.slice Laq N Lad, Value.slice (some { block := gax, off := iax }) M Lae], bookV ba bap bac, Value.slice Laq N Lad, Value.slice (some { block := gax, off := iax }) M Lae, Value.agg #[Value.int IntKind.i64 ba.lo, Value.int IntKind.i64 ba.hi, Value.int IntKind.i64 ba.lots, Value.slice bap ba.n bac], Value.bool true, Value.bool false, undef, Value.int IntKind.u8 x2, Value.int IntKind.i64 x2, Value.pointer (some { block := g0, off := 2 }), Value.int IntKind.i64 (N : Int), Value.int IntKind.i64 (A : Int), Value.int IntKind.u8 x3, Value.int IntKind.i64 x3, Value.pointer (some { block := g0, off := 2 }), Value.int IntKind.i64 (N : Int), Value.int IntKind.i64 (Z : Int), Value.tuple #[Value.agg #[Value.int IntKind.i64 sl, Value.int IntKind.i64 sh], Value.int IntKind.i64 0], Value.agg #[Value.int IntKind.i64 ba.lo, Value.int IntKind.i64 ba.hi, Value.int IntKind.i64 ba.lots, Value.slice bap ba.n bac], Value.int IntKind.i64 (A : Int), Value.tuple #[Value.agg #[Value.int IntKind.i64 sl, Value.int IntKind.i64 sh], Value.int IntKind.i64 0], Value.agg #[Value.int IntKind.i64 sl, Value.int IntKind.i64 sh], Value.int IntKind.i64 0, Value.tuple #[Value.agg #[Value.int IntKind.i64 al, Value.int IntKind.i64 ah], Value.int IntKind.i64 0], Value.agg #[Value.int IntKind.i64 ba.lo, Value.int IntKind.i64 ba.hi, Value.int IntKind.i64 ba.lots, Value.slice bap ba.n bac], Value.int IntKind.i64 (A : Int), Value.int IntKind.i64 (Z : Int), Value.tuple #[Value.agg #[Value.int IntKind.i64 al, Value.int IntKind.i64 ah], Value.int IntKind.i64 0], Value.agg #[Value.int IntKind.i64 al, Value.int IntKind.i64 ah], Value.int IntKind.i64 0, Value.tuple #[Value.slice s1p N s1c, Value.slice (some { block := gbx, off := ibx }) M t1c, Value.int IntKind.i64 0], Value.agg #[Value.int IntKind.i64 ba.lo, Value.int IntKind.i64 ba.hi, Value.int IntKind.i64 ba.lots, Value.slice bap ba.n bac], Value.tuple #[Value.slice s1p N s1c, Value.slice (some { block := gbx, off := ibx }) M t1c, Value.int IntKind.i64 0], Value.slice s1p N s1c, Value.slice (some { block := gbx, off := ibx }) M t1c, Value.int IntKind.i64 0, Value.tuple #[Value.slice s2p N s2c, Value.slice (some { block := gcx, off := icx }) M t2c, Value.int IntKind.i64 0], Value.agg #[Value.int IntKind.i64 ba.lo, Value.int IntKind.i64 ba.hi, Value.int IntKind.i64 ba.lots, Value.slice bap ba.n bac], Value.tuple #[Value.slice s2p N s2c, Value.slice (some { block := gcx, off := icx }) M t2c, Value.int IntKind.i64 0], Value.slice s2p N s2c, Value.slice (some { block := gcx, off := icx }) M t2c, Value.int IntKind.i64 0, Value.agg #[Value.int IntKind.i64 ba.lo, Value.int IntKind.i64 ba.hi, Value.int IntKind.i64 ba.lots, Value.slice bap ba.n bac], Value.slice Laq N Lad, Value.slice (some { block := gax, off := iax }) M Lae, Value.int IntKind.i64 0, Value.bool false, Value.bool false, Value.int IntKind.i64 0, Value.bool false, Value.bool false, Value.bool false, Value.int IntKind.i64 0, Value.bool false, Value.bool false, Value.bool false, Value.int IntKind.i64 0, Value.bool false, Value.bool false, Value.bool false, Value.int IntKind.i64 0, Value.bool false, Value.bool false, Value.bool false, Value.slice s1p N s1c, Value.int IntKind.i64 (N : Int), Value.pointer (some { block := g0, off := 2 }), Value.int IntKind.i64 (N : Int), Value.bool false, Value.bool false, Value.bool false, Value.slice s2p N s2c, Value.int IntKind.i64 (N : Int), Value.pointer (some { block := g0, off := 2 }), Value.int IntKind.i64 (N : Int), Value.bool false, Value.bool false, Value.bool false, Value.slice (some { block := gbx, off := ibx }) M t1c, Value.int IntKind.i64 (M : Int), Value.slice (some { block := gax, off := iax }) M Lae, Value.int IntKind.i64 (M : Int), Value.bool false, Value.bool false, Value.bool false, Value.slice (some { block := gcx, off := icx }) M t2c, Value.int IntKind.i64 (M : Int), Value.slice (some { block := gax, off := iax }) M Lae, Value.int IntKind.i64 (M : Int), Value.bool false, Value.bool false, Value.int IntKind.i64 (jo : Int), Value.slice Laq N Lad, Value.int IntKind.i64 (N : Int), Value.bool false, u135, u136, u137, u138, u139, u140, u141, u142, u143, u144, u145, u146, u147, u148, u149, u150, u151, u152, u153, u154, u155, u156, Value.int IntKind.i64 (j : Int), Value.slice (some { block := gax, off := iax }) M Lae, Value.int IntKind.i64 (M : Int), Value.bool true, u161, u162, (bif d 0 then Value.slice (some { block := gax, off := iax }) M Lae else u163), (bif d 1 then Value.int IntKind.i64 ((j : Int)) else u164), (bif d 2 then Value.pointer (some { block := gax, off := iax + j }) else u165), (bif d 3 then Value.int IntKind.i64 (x) else u166), (bif d 4 then Value.slice (some { block := gbx, off := ibx }) M t1c else u167), (bif d 5 then Value.int IntKind.i64 ((j : Int)) else u168), (bif d 6 then Value.pointer (some { block := gbx, off := ibx + j }) else u169), (bif d 7 then Value.int IntKind.i64 (lo) else u170), (bif d 8 then Value.bool false else u171), (bif d 9 then Value.bool false else u172), (bif d 10 then Value.slice (some { block := gax, off := iax }) M Lae else u173), (bif d 11 then Value.int IntKind.i64 ((j : Int)) else u174), (bif d 12 then Value.pointer (some { block := gax, off := iax + j }) else u175), (bif d 13 then Value.int IntKind.i64 (x) else u176), (bif d 14 then Value.slice (some { block := gcx, off := icx }) M t2c else u177), (bif d 15 then Value.int IntKind.i64 ((j : Int)) else u178), (bif d 16 then Value.pointer (some { block := gcx, off := icx + j }) else u179), (bif d 17 then Value.int IntKind.i64 (hi) else u180), (bif d 18 then Value.bool false else u181), (bif d 19 then Value.bool false else u182), undef, undef, undef, undef, undef, undef, undef, undef, undef, undef, undef, undef, undef, undef, undef, undef, undef, undef, undef, undef, undef, undef, undef, undef, undef, undef, undef, undef, undef, undef, undef, undef, undef, undef, undef], defers := [] } ∧ Hid (Pure V W)) hmx (by kernel_rfl) ?_ ?_ ?_
                · exact ⟨rfl, (Diff.refl V).drew⟩
                · refine ⟨?_, ?_, ?_, ?_, ?_, ?_, ?_, ?_, ?_, ?_, ?_, ?_, ?_, ?_, ?_, ?_, ?_, ?_, ?_, ?_, trivial⟩
                  · rintro d a W hdi hdep hcl ⟨rfl, hw⟩ K hK
                    have E := hcl.facts 0 hdi rfl hdep [] [2, 3, 8, 9, 10, 11, 12, 13, 14, 15, 16, 17, 18, 19] (by kernel_rfl) (by kernel_rfl)
                    simp only [AllT, AllF] at E
                    clear hdi hdep hcl
                    go_simp
                    exact hK _ _ ⟨by simp [upd, E], hw⟩
                  · rintro d a W hdi hdep hcl ⟨rfl, hw⟩ K hK
                    have E := hcl.facts 1 hdi rfl hdep [] [2, 3, 8, 9, 10, 11, 12, 13, 14, 15, 16, 17, 18, 19] (by kernel_rfl) (by kernel_rfl)
                    simp only [AllT, AllF] at E
                    clear hdi hdep hcl
                    go_simp
                    exact hK _ _ ⟨by simp [upd, E], hw⟩
                  · rintro d a W hdi hdep hcl ⟨rfl, hw⟩ K hK
                    have E := hcl.facts 2 hdi rfl hdep [0, 1] [3, 8, 9, 10, 11, 12, 13, 14, 15, 16, 17, 18, 19] (by kernel_rfl) (by kernel_rfl)
                    simp only [AllT, AllF] at E
                    clear hdi hdep hcl
                    go_simp
                    exact hK _ _ ⟨by simp [upd, E], hw⟩
                  · rintro d a W hdi hdep hcl ⟨rfl, hw⟩ K hK
                    have E := hcl.facts 3 hdi rfl hdep [0, 1, 2] [8, 9, 10, 11, 12, 13, 14, 15, 16, 17, 18, 19] (by kernel_rfl) (by kernel_rfl)
                    simp only [AllT, AllF] at E
                    clear hdi hdep hcl
                    have z := ((pcell (HZ.out.trans hw.out)).1 _ _ HGA.out).trans HYA.out
                    go_simp
                    exact hK _ _ ⟨by simp [upd, E], hw⟩
                  · rintro d a W hdi hdep hcl ⟨rfl, hw⟩ K hK
                    have E := hcl.facts 4 hdi rfl hdep [] [6, 7, 8, 9, 10, 11, 12, 13, 14, 15, 16, 17, 18, 19] (by kernel_rfl) (by kernel_rfl)
                    simp only [AllT, AllF] at E
                    clear hdi hdep hcl
                    go_simp
                    exact hK _ _ ⟨by simp [upd, E], hw⟩
                  · rintro d a W hdi hdep hcl ⟨rfl, hw⟩ K hK
                    have E := hcl.facts 5 hdi rfl hdep [] [6, 7, 8, 9, 10, 11, 12, 13, 14, 15, 16, 17, 18, 19] (by kernel_rfl) (by kernel_rfl)
                    simp only [AllT, AllF] at E
                    clear hdi hdep hcl
                    go_simp
                    exact hK _ _ ⟨by simp [upd, E], hw⟩
                  · rintro d a W hdi hdep hcl ⟨rfl, hw⟩ K hK
                    have E := hcl.facts 6 hdi rfl hdep [4, 5] [7, 8, 9, 10, 11, 12, 13, 14, 15, 16, 17, 18, 19] (by kernel_rfl) (by kernel_rfl)
                    simp only [AllT, AllF] at E
                    clear hdi hdep hcl
                    go_simp
                    exact hK _ _ ⟨by simp [upd, E], hw⟩
                  · rintro d a W hdi hdep hcl ⟨rfl, hw⟩ K hK
                    have E := hcl.facts 7 hdi rfl hdep [4, 5, 6] [8, 9, 10, 11, 12, 13, 14, 15, 16, 17, 18, 19] (by kernel_rfl) (by kernel_rfl)
                    simp only [AllT, AllF] at E
                    clear hdi hdep hcl
                    have z := ((pcell (HZ.out.trans hw.out)).1 _ _ HGB.out).trans HYB.out
                    go_simp
                    exact hK _ _ ⟨by simp [upd, E], hw⟩
                  · rintro d a W hdi hdep hcl ⟨rfl, hw⟩ K hK
                    have E := hcl.facts 8 hdi rfl hdep [0, 1, 2, 3, 4, 5, 6, 7] [9, 10, 11, 12, 13, 14, 15, 16, 17, 18, 19] (by kernel_rfl) (by kernel_rfl)
                    simp only [AllT, AllF] at E
                    clear hdi hdep hcl
                    go_simp
                    exact hK _ _ ⟨by simp [upd, E, h1l, h2l], hw⟩
                  · rintro d a W hdi hdep hcl ⟨rfl, hw⟩ K hK
                    have E := hcl.facts 9 hdi rfl hdep [0, 1, 2, 3, 4, 5, 6, 7, 8] [10, 11, 12, 13, 14, 15, 16, 17, 18, 19] (by kernel_rfl) (by kernel_rfl)
                    simp only [AllT, AllF] at E
                    clear hdi hdep hcl
                    go_simp
                    exact hK _ _ ⟨by simp [upd, E], hw⟩
                  · rintro d a W hdi hdep hcl ⟨rfl, hw⟩ K hK
                    have E := hcl.facts 10 hdi rfl hdep [0, 1, 2, 3, 4, 5, 6, 7, 8, 9] [12, 13, 18, 19] (by kernel_rfl) (by kernel_rfl)
                    simp only [AllT, AllF] at E
                    clear hdi hdep hcl
                    go_simp
                    exact hK _ _ ⟨by simp [upd, E], hw⟩
                  · rintro d a W hdi hdep hcl ⟨rfl, hw⟩ K hK
                    have E := hcl.facts 11 hdi rfl hdep [0, 1, 2, 3, 4, 5, 6, 7, 8, 9] [12, 13, 18, 19] (by kernel_rfl) (by kernel_rfl)
                    simp only [AllT, AllF] at E
                    clear hdi hdep hcl
                    go_simp
                    exact hK _ _ ⟨by simp [upd, E], hw⟩
                  · rintro d a W hdi hdep hcl ⟨rfl, hw⟩ K hK
                    have E := hcl.facts 12 hdi rfl hdep [0, 1, 2, 3, 4, 5, 6, 7, 8, 9, 10, 11] [13, 18, 19] (by kernel_rfl) (by kernel_rfl)
                    simp only [AllT, AllF] at E
                    clear hdi hdep hcl
                    go_simp
                    exact hK _ _ ⟨by simp [upd, E], hw⟩
                  · rintro d a W hdi hdep hcl ⟨rfl, hw⟩ K hK
                    have E := hcl.facts 13 hdi rfl hdep [0, 1, 2, 3, 4, 5, 6, 7, 8, 9, 10, 11, 12] [18, 19] (by kernel_rfl) (by kernel_rfl)
                    simp only [AllT, AllF] at E
                    clear hdi hdep hcl
                    have z := ((pcell (HZ.out.trans hw.out)).1 _ _ HGA.out).trans HYA.out
                    go_simp
                    exact hK _ _ ⟨by simp [upd, E], hw⟩
                  · rintro d a W hdi hdep hcl ⟨rfl, hw⟩ K hK
                    have E := hcl.facts 14 hdi rfl hdep [0, 1, 2, 3, 4, 5, 6, 7, 8, 9] [16, 17, 18, 19] (by kernel_rfl) (by kernel_rfl)
                    simp only [AllT, AllF] at E
                    clear hdi hdep hcl
                    go_simp
                    exact hK _ _ ⟨by simp [upd, E], hw⟩
                  · rintro d a W hdi hdep hcl ⟨rfl, hw⟩ K hK
                    have E := hcl.facts 15 hdi rfl hdep [0, 1, 2, 3, 4, 5, 6, 7, 8, 9] [16, 17, 18, 19] (by kernel_rfl) (by kernel_rfl)
                    simp only [AllT, AllF] at E
                    clear hdi hdep hcl
                    go_simp
                    exact hK _ _ ⟨by simp [upd, E], hw⟩
                  · rintro d a W hdi hdep hcl ⟨rfl, hw⟩ K hK
                    have E := hcl.facts 16 hdi rfl hdep [0, 1, 2, 3, 4, 5, 6, 7, 8, 9, 14, 15] [17, 18, 19] (by kernel_rfl) (by kernel_rfl)
                    simp only [AllT, AllF] at E
                    clear hdi hdep hcl
                    go_simp
                    exact hK _ _ ⟨by simp [upd, E], hw⟩
                  · rintro d a W hdi hdep hcl ⟨rfl, hw⟩ K hK
                    have E := hcl.facts 17 hdi rfl hdep [0, 1, 2, 3, 4, 5, 6, 7, 8, 9, 14, 15, 16] [18, 19] (by kernel_rfl) (by kernel_rfl)
                    simp only [AllT, AllF] at E
                    clear hdi hdep hcl
                    have z := ((pcell (HZ.out.trans hw.out)).1 _ _ HGC.out).trans HYC.out
                    go_simp
                    exact hK _ _ ⟨by simp [upd, E], hw⟩
                  · rintro d a W hdi hdep hcl ⟨rfl, hw⟩ K hK
                    have E := hcl.facts 18 hdi rfl hdep [0, 1, 2, 3, 4, 5, 6, 7, 8, 9, 10, 11, 12, 13, 14, 15, 16, 17] [19] (by kernel_rfl) (by kernel_rfl)
                    simp only [AllT, AllF] at E
                    clear hdi hdep hcl
                    go_simp
                    exact hK _ _ ⟨by simp [upd, E, h1l, h2l], hw⟩
                  · rintro d a W hdi hdep hcl ⟨rfl, hw⟩ K hK
                    have E := hcl.facts 19 hdi rfl hdep [0, 1, 2, 3, 4, 5, 6, 7, 8, 9, 10, 11, 12, 13, 14, 15, 16, 17, 18] [] (by kernel_rfl) (by kernel_rfl)
                    simp only [AllT, AllF] at E
                    clear hdi hdep hcl
                    go_simp
                    exact hK _ _ ⟨by simp [upd, E], hw⟩
                · rintro d a W hall ⟨rfl, hw⟩
                  have E := AllT.all hall [0, 1, 2, 3, 4, 5, 6, 7, 8, 9, 10, 11, 12, 13, 14, 15, 16, 17, 18, 19] (by kernel_rfl)
                  simp only [AllT] at E
                  simp only [E, cond_true] at hw ⊢
                  clear E hall
                  have HZ2 : Hid (Pure w13 W) := HZ.out.trans hw.out
                  go_wp2_with fail
                  exact ⟨⟨j + 1, by omega, by push_cast; rfl, HZ2.out⟩, by simp only [intOf]; omega⟩
              · have hji : ¬ (j : Int) < (M : Int) := by omega
                obtain ⟨w14, hww⟩ : ∃ v, wr = v := ⟨_, rfl⟩
                rw [hww] at HZ ⊢
                clear hww
                have hp : Pure w13 w14 := HZ.out
                clear HZ
                clear za0 za1 za2 za3 zal
                clear zc0 zc1 zc2 zc3 zcl
                have hP14 : Hid (Pure w w14) := hP13.out.trans hp
                have HA14 := Lib.hid (HA13.out.pure hp)
                have HC14 := Lib.hid (HC13.out.pure hp)
                have HB14 := Lib.hid (HB13.out.to hp)
                have HG14 := Lib.hid (HG13.out.to hp)
                have HR114 := Lib.hid (HR113.out.to hp)
                have LaB14 := Lib.hid (LaB13.out.to hp)
                have Ks14 := Lib.hid (Ks13.out.to hp)
                have Kt14 := Lib.hid (Kt13.out.to hp)
                have RA14 := Lib.hid (RA13.out.to hp)
                have RB14 := Lib.hid (RB13.out.to hp)
                have RC14 := Lib.hid (RC13.out.to hp)
                have RD14 := Lib.hid (RD13.out.to hp)
                have RE14 := Lib.hid (RE13.out.to hp)
                have RF14 := Lib.hid (RF13.out.to hp)
                clear hp hP13 HA13 HC13 HB13 HG13 HR113 LaB13 Ks13 Kt13 RA13 RB13 RC13 RD13 RE13 RF13
                obtain ⟨za0, za1, za2, za3, zal⟩ := HA14.out
                obtain ⟨zc0, zc1, zc2, zc3, zcl⟩ := HC14.out
                go_wp2_with fail
                have sa := hS_in u1 A
                have sz := hS_in u1 Z
                rw [← hXs_nth b u1 A (by have := HLN.out; omega)] at sa
                rw [← hXs_nth b u1 Z (by have := HLN.out; omega)] at sz
                obtain ⟨gax, iax, hqa, hga, ya⟩ := RA14.out A hAN
                obtain ⟨gbx, ibx, hqb, hgb, yb⟩ := RB14.out A hAN
                obtain ⟨gcx, icx, hqc, hgc, yc⟩ := RC14.out A hAN
                have yz0 := RA14.out Z hZN
                subst hqa hqb hqc
                obtain ⟨gzx, izx, hqz, -, yz⟩ := yz0
                cases hqz
                change _ = some (Value.int .i64 (nthI (hXs b u1) A)) at ya
                change _ = some (Value.int .i64 (nthI (hXs b u1) Z)) at yz
                change _ = some (Value.int .i64 (nthI (lsX ba false) A)) at yb
                change _ = some (Value.int .i64 (nthI (lsX ba true) A)) at yc
                rw [lsX_nth _ _ _ (by rw [HE1.out]; exact hAN)] at yb yc
                rw [HSL.out] at yb
                rw [HSH.out] at yc
                have h8 := HT8.out
                obtain ⟨xa, hxa⟩ : ∃ x, nthI (hXs b u1) A = x := ⟨_, rfl⟩
                obtain ⟨xz, hxz⟩ : ∃ x, nthI (hXs b u1) Z = x := ⟨_, rfl⟩
                rw [hxa] at ya sa
                rw [hxz] at yz sz
                rw [hxa, hxz] at h8
                obtain ⟨dd, hdd⟩ : ∃ x, xa - xz = x := ⟨_, rfl⟩
                rw [hdd] at h8
                have hwd : IntKind.i64.wrap (xa - xz) = dd := by rw [← hdd]; exact IntWalk.i64_in _ (by omega)
                have h81 := h8.1
                have h82 := h8.2
                have hA0 : 0 ≤ (A : Int) := by omega
                have hZ0 : 0 ≤ (Z : Int) := by omega
                have hAi : (A : Int) < N := by omega
                have hZi : (Z : Int) < N := by omega
                have HYA := Lib.hid ya
                have HYB := Lib.hid yb
                have HYC := Lib.hid yc
                have HYZ := Lib.hid yz
                have HGAx := Lib.hid hga
                have HGBx := Lib.hid hgb
                have HGCx := Lib.hid hgc
                clear sa sz hxa hxz hdd h8 ya yb yc yz hga hgb hgc
                refine reg_invW (fun d a W => a = { tmps := #[bookV b p cap, Value.slice q1 n1 c1, Value.int IntKind.u8 x2, Value.int IntKind.u8 x3, Value.pointer (some { block := g0, off := 0 }), undef, undef, undef, u8, Value.pointer (some { block := g3, off := 0 }), Value.slice (some { block := gax, off := iax }) N Lad, Value.slice Lar M Lae, Value.int IntKind.i64 (A : Int), Value.int IntKind.i64 (Z : Int), Value.pointer (some { block := gs, off := 0 }), Value.int IntKind.i64 0, Value.pointer (some { block := gt, off := 0 }), Value.int IntKind.i64 0, Value.slice (some { block := gbx, off := ibx }) N s1c, Value.slice t1p M t1c, Value.int IntKind.i64 0, Value.slice (some { block := gcx, off := icx }) N s2c, Value.slice t2p M t2c, Value.int IntKind.i64 0, Value.int IntKind.i64 (jo : Int), Value.int IntKind.i64 (j : Int), (bif d 9 then Value.int IntKind.i64 (dd) else undef), Value.agg #[Value.int IntKind.i64 b.lo, Value.int IntKind.i64 b.hi, Value.int IntKind.i64 b.lots, Value.slice p b.n cap], Value.bool true, Value.bool false, Value.bool false, Value.slice q1 n1 c1, Value.int IntKind.i64 (n1 : Int), Value.bool (decide (30 < (n1 : Int))), Value.bool (decide (30 < (n1 : Int))), undef, Value.tuple #[bookV ba bap bac, Value.slice (some { block := gax, off := iax }) N Lad, Value.slice Lar M Lae], Value.agg #[Value.int IntKind.i64 b.lo, Value.int IntKind.i64 b.hi, Value.int IntKind.i64 b.lots, Value.slice p b.n cap], Value.slice q1 n1 c1, Value.tuple #[bookV ba bap bac, Value.slice (some { block := gax, off := iax }) N Lad, Value.slice Lar M Lae], bookV ba bap bac, Value.slice (some { block := gax, off := iax }) N Lad, Value.slice Lar M Lae, Value.agg #[Value.int IntKind.i64 ba.lo, Value.int IntKind.i64 ba.hi, Value.int IntKind.i64 ba.lots, Value.slice bap ba.n bac], Value.bool true, Value.bool false, undef, Value.int IntKind.u8 x2, Value.int IntKind.i64 x2, Value.pointer (some { block := g0, off := 2 }), Value.int IntKind.i64 (N : Int), Value.int IntKind.i64 (A : Int), Value.int IntKind.u8 x3, Value.int IntKind.i64 x3, Value.pointer (some { block := g0, off := 2 }), Value.int IntKind.i64 (N : Int), Value.int IntKind.i64 (Z : Int), Value.tuple #[Value.agg #[Value.int IntKind.i64 sl, Value.int IntKind.i64 sh], Value.int IntKind.i64 0], Value.agg #[Value.int IntKind.i64 ba.lo, Value.int IntKind.i64 ba.hi, Value.int IntKind.i64 ba.lots, Value.slice bap ba.n bac], Value.int IntKind.i64 (A : Int), Value.tuple #[Value.agg #[Value.int IntKind.i64 sl, Value.int IntKind.i64 sh], Value.int IntKind.i64 0], Value.agg #[Value.int IntKind.i64 sl, Value.int IntKind.i64 sh], Value.int IntKind.i64 0, Value.tuple #[Value.agg #[Value.int IntKind.i64 al, Value.int IntKind.i64 ah], Value.int IntKind.i64 0], Value.agg #[Value.int IntKind.i64 ba.lo, Value.int IntKind.i64 ba.hi, Value.int IntKind.i64 ba.lots, Value.slice bap ba.n bac], Value.int IntKind.i64 (A : Int), Value.int IntKind.i64 (Z : Int), Value.tuple #[Value.agg #[Value.int IntKind.i64 al, Value.int IntKind.i64 ah], Value.int IntKind.i64 0], Value.agg #[Value.int IntKind.i64 al, Value.int IntKind.i64 ah], Value.int IntKind.i64 0, Value.tuple #[Value.slice (some { block := gbx, off := ibx }) N s1c, Value.slice t1p M t1c, Value.int IntKind.i64 0], Value.agg #[Value.int IntKind.i64 ba.lo, Value.int IntKind.i64 ba.hi, Value.int IntKind.i64 ba.lots, Value.slice bap ba.n bac], Value.tuple #[Value.slice (some { block := gbx, off := ibx }) N s1c, Value.slice t1p M t1c, Value.int IntKind.i64 0], Value.slice (some { block := gbx, off := ibx }) N s1c, Value.slice t1p M t1c, Value.int IntKind.i64 0, Value.tuple #[Value.slice (some { block := gcx, off := icx }) N s2c, Value.slice t2p M t2c, Value.int IntKind.i64 0], Value.agg #[Value.int IntKind.i64 ba.lo, Value.int IntKind.i64 ba.hi, Value.int IntKind.i64 ba.lots, Value.slice bap ba.n bac], Value.tuple #[Value.slice (some { block := gcx, off := icx }) N s2c, Value.slice t2p M t2c, Value.int IntKind.i64 0], Value.slice (some { block := gcx, off := icx }) N s2c, Value.slice t2p M t2c, Value.int IntKind.i64 0, Value.agg #[Value.int IntKind.i64 ba.lo, Value.int IntKind.i64 ba.hi, Value.int IntKind.i64 ba.lots, Value.slice bap ba.n bac], Value.slice (some { block := gax, off := iax }) N Lad, Value.slice Lar M Lae, Value.int IntKind.i64 0, Value.bool false, Value.bool false, Value.int IntKind.i64 0, Value.bool false, Value.bool false, Value.bool false, Value.int IntKind.i64 0, Value.bool false, Value.bool false, Value.bool false, Value.int IntKind.i64 0, Value.bool false, Value.bool false, Value.bool false, Value.int IntKind.i64 0, Value.bool false, Value.bool false, Value.bool false, Value.slice (some { block := gbx, off := ibx }) N s1c, Value.int IntKind.i64 (N : Int), Value.pointer (some { block := g0, off := 2 }), Value.int IntKind.i64 (N : Int), Value.bool false, Value.bool false, Value.bool false, Value.slice (some { block := gcx, off := icx }) N s2c, Value.int IntKind.i64 (N : Int), Value.pointer (some { block := g0, off := 2 }), Value.int IntKind.i64 (N : Int), Value.bool false, Value.bool false, Value.bool false, Value.slice t1p M t1c, Value.int IntKind.i64 (M : Int), Value.slice Lar M Lae, Value.int IntKind.i64 (M : Int), Value.bool false, Value.bool false, Value.bool false, Value.slice t2p M t2c, Value.int IntKind.i64 (M : Int), Value.slice Lar M Lae, Value.int IntKind.i64 (M : Int), Value.bool false, Value.bool false, Value.int IntKind.i64 (jo : Int), Value.slice (some { block := gax, off := iax }) N Lad, Value.int IntKind.i64 (N : Int), Value.bool false, u135, u136, u137, u138, u139, u140, u141, u142, u143, u144, u145, u146, u147, u148, u149, u150, u151, u152, u153, u154, u155, u156, Value.int IntKind.i64 (j : Int), Value.slice Lar M Lae, Value.int IntKind.i64 (M : Int), Value.bool false, u161, u162, u163, u164, u165, u166, u167, u168, u169, u170, u171, u172, u173, u174, u175, u176, u177, u178, u179, u180, u181, u182, (bif d 0 then Value.slice (some { block := gax, off := iax }) N Lad else undef), (bif d 1 then Value.int IntKind.i64 ((A : Int)) else undef), (bif d 2 then Value.pointer (some { block := gax, off := iax + A }) else undef), (bif d 3 then Value.int IntKind.i64 (xa) else undef), (bif d 4 then Value.slice (some { block := gax, off := iax }) N Lad else undef), (bif d 5 then Value.int IntKind.i64 ((Z : Int)) else undef), (bif d 6 then Value.pointer (some { block := gax, off := iax + Z }) else undef), (bif d 7 then Value.int IntKind.i64 (xz) else undef), (bif d 8 then Value.int IntKind.i64 (dd) else undef), undef, undef, undef, undef, undef, undef, undef, undef, undef, undef, undef, undef, undef, undef, undef, undef, undef, undef, undef, undef, undef, undef, undef, undef, undef, undef], defers := [] } ∧ Hid (Pure w14 W)) hmx (by kernel_rfl) ?_ ?_ ?_
                · exact ⟨rfl, (Diff.refl w14).drew⟩
                · refine ⟨?_, ?_, ?_, ?_, ?_, ?_, ?_, ?_, ?_, ?_, trivial⟩
                  · rintro d a W hdi hdep hcl ⟨rfl, hw⟩ K hK
                    have E := hcl.facts 0 hdi rfl hdep [] [2, 3, 8, 9] (by kernel_rfl) (by kernel_rfl)
                    simp only [AllT, AllF] at E
                    clear hdi hdep hcl
                    go_simp
                    exact hK _ _ ⟨by simp [upd, E], hw⟩
                  · rintro d a W hdi hdep hcl ⟨rfl, hw⟩ K hK
                    have E := hcl.facts 1 hdi rfl hdep [] [2, 3, 8, 9] (by kernel_rfl) (by kernel_rfl)
                    simp only [AllT, AllF] at E
                    clear hdi hdep hcl
                    go_simp
                    exact hK _ _ ⟨by simp [upd, E], hw⟩
                  · rintro d a W hdi hdep hcl ⟨rfl, hw⟩ K hK
                    have E := hcl.facts 2 hdi rfl hdep [0, 1] [3, 8, 9] (by kernel_rfl) (by kernel_rfl)
                    simp only [AllT, AllF] at E
                    clear hdi hdep hcl
                    go_simp
                    exact hK _ _ ⟨by simp [upd, E], hw⟩
                  · rintro d a W hdi hdep hcl ⟨rfl, hw⟩ K hK
                    have E := hcl.facts 3 hdi rfl hdep [0, 1, 2] [8, 9] (by kernel_rfl) (by kernel_rfl)
                    simp only [AllT, AllF] at E
                    clear hdi hdep hcl
                    have z := ((pcell hw.out).1 _ _ HGAx.out).trans HYA.out
                    go_simp
                    exact hK _ _ ⟨by simp [upd, E], hw⟩
                  · rintro d a W hdi hdep hcl ⟨rfl, hw⟩ K hK
                    have E := hcl.facts 4 hdi rfl hdep [] [6, 7, 8, 9] (by kernel_rfl) (by kernel_rfl)
                    simp only [AllT, AllF] at E
                    clear hdi hdep hcl
                    go_simp
                    exact hK _ _ ⟨by simp [upd, E], hw⟩
                  · rintro d a W hdi hdep hcl ⟨rfl, hw⟩ K hK
                    have E := hcl.facts 5 hdi rfl hdep [] [6, 7, 8, 9] (by kernel_rfl) (by kernel_rfl)
                    simp only [AllT, AllF] at E
                    clear hdi hdep hcl
                    go_simp
                    exact hK _ _ ⟨by simp [upd, E], hw⟩
                  · rintro d a W hdi hdep hcl ⟨rfl, hw⟩ K hK
                    have E := hcl.facts 6 hdi rfl hdep [4, 5] [7, 8, 9] (by kernel_rfl) (by kernel_rfl)
                    simp only [AllT, AllF] at E
                    clear hdi hdep hcl
                    go_simp
                    exact hK _ _ ⟨by simp [upd, E], hw⟩
                  · rintro d a W hdi hdep hcl ⟨rfl, hw⟩ K hK
                    have E := hcl.facts 7 hdi rfl hdep [4, 5, 6] [8, 9] (by kernel_rfl) (by kernel_rfl)
                    simp only [AllT, AllF] at E
                    clear hdi hdep hcl
                    have z := ((pcell hw.out).1 _ _ HGAx.out).trans HYZ.out
                    go_simp
                    exact hK _ _ ⟨by simp [upd, E], hw⟩
                  · rintro d a W hdi hdep hcl ⟨rfl, hw⟩ K hK
                    have E := hcl.facts 8 hdi rfl hdep [0, 1, 2, 3, 4, 5, 6, 7] [9] (by kernel_rfl) (by kernel_rfl)
                    simp only [AllT, AllF] at E
                    clear hdi hdep hcl
                    go_simp
                    exact hK _ _ ⟨by simp [upd, E], hw⟩
                  · rintro d a W hdi hdep hcl ⟨rfl, hw⟩ K hK
                    have E := hcl.facts 9 hdi rfl hdep [0, 1, 2, 3, 4, 5, 6, 7, 8] [] (by kernel_rfl) (by kernel_rfl)
                    simp only [AllT, AllF] at E
                    clear hdi hdep hcl
                    go_simp
                    exact hK _ _ ⟨by simp [upd, E], hw⟩
                · rintro d a W hall ⟨rfl, hw⟩
                  have E := AllT.all hall [0, 1, 2, 3, 4, 5, 6, 7, 8, 9] (by kernel_rfl)
                  simp only [AllT] at E
                  simp only [E, cond_true] at hw ⊢
                  clear E hall
                  have HW1 : Hid (Pure w14 W) := hw
                  clear hw d
                  obtain ⟨V, hV⟩ : ∃ V, W = V := ⟨_, rfl⟩
                  rw [hV] at HW1 ⊢
                  clear hV W
                  go_wp2_with fail
                  refine reg_invW (fun d a W => a = { tmps := #[bookV b p cap, Value.slice q1 n1 c1, Value.int IntKind.u8 x2, Value.int IntKind.u8 x3, Value.pointer (some { block := g0, off := 0 }), undef, undef, undef, (bif d 26 then Value.bool true else u8), Value.pointer (some { block := g3, off := 0 }), Value.slice (some { block := gax, off := iax }) N Lad, Value.slice Lar M Lae, Value.int IntKind.i64 (A : Int), Value.int IntKind.i64 (Z : Int), Value.pointer (some { block := gs, off := 0 }), Value.int IntKind.i64 0, Value.pointer (some { block := gt, off := 0 }), Value.int IntKind.i64 0, Value.slice (some { block := gbx, off := ibx }) N s1c, Value.slice t1p M t1c, Value.int IntKind.i64 0, Value.slice (some { block := gcx, off := icx }) N s2c, Value.slice t2p M t2c, Value.int IntKind.i64 0, Value.int IntKind.i64 (jo : Int), Value.int IntKind.i64 (j : Int), Value.int IntKind.i64 dd, Value.agg #[Value.int IntKind.i64 b.lo, Value.int IntKind.i64 b.hi, Value.int IntKind.i64 b.lots, Value.slice p b.n cap], Value.bool true, Value.bool false, Value.bool false, Value.slice q1 n1 c1, Value.int IntKind.i64 (n1 : Int), Value.bool (decide (30 < (n1 : Int))), Value.bool (decide (30 < (n1 : Int))), undef, Value.tuple #[bookV ba bap bac, Value.slice (some { block := gax, off := iax }) N Lad, Value.slice Lar M Lae], Value.agg #[Value.int IntKind.i64 b.lo, Value.int IntKind.i64 b.hi, Value.int IntKind.i64 b.lots, Value.slice p b.n cap], Value.slice q1 n1 c1, Value.tuple #[bookV ba bap bac, Value.slice (some { block := gax, off := iax }) N Lad, Value.slice Lar M Lae], bookV ba bap bac, Value.slice (some { block := gax, off := iax }) N Lad, Value.slice Lar M Lae, Value.agg #[Value.int IntKind.i64 ba.lo, Value.int IntKind.i64 ba.hi, Value.int IntKind.i64 ba.lots, Value.slice bap ba.n bac], Value.bool true, Value.bool false, undef, Value.int IntKind.u8 x2, Value.int IntKind.i64 x2, Value.pointer (some { block := g0, off := 2 }), Value.int IntKind.i64 (N : Int), Value.int IntKind.i64 (A : Int), Value.int IntKind.u8 x3, Value.int IntKind.i64 x3, Value.pointer (some { block := g0, off := 2 }), Value.int IntKind.i64 (N : Int), Value.int IntKind.i64 (Z : Int), Value.tuple #[Value.agg #[Value.int IntKind.i64 sl, Value.int IntKind.i64 sh], Value.int IntKind.i64 0], Value.agg #[Value.int IntKind.i64 ba.lo, Value.int IntKind.i64 ba.hi, Value.int IntKind.i64 ba.lots, Value.slice bap ba.n bac], Value.int IntKind.i64 (A : Int), Value.tuple #[Value.agg #[Value.int IntKind.i64 sl, Value.int IntKind.i64 sh], Value.int IntKind.i64 0], Value.agg #[Value.int IntKind.i64 sl, Value.int IntKind.i64 sh], Value.int IntKind.i64 0, Value.tuple #[Value.agg #[Value.int IntKind.i64 al, Value.int IntKind.i64 ah], Value.int IntKind.i64 0], Value.agg #[Value.int IntKind.i64 ba.lo, Value.int IntKind.i64 ba.hi, Value.int IntKind.i64 ba.lots, Value.slice bap ba.n bac], Value.int IntKind.i64 (A : Int), Value.int IntKind.i64 (Z : Int), Value.tuple #[Value.agg #[Value.int IntKind.i64 al, Value.int IntKind.i64 ah], Value.int IntKind.i64 0], Value.agg #[Value.int IntKind.i64 al, Value.int IntKind.i64 ah], Value.int IntKind.i64 0, Value.tuple #[Value.slice (some { block := gbx, off := ibx }) N s1c, Value.slice t1p M t1c, Value.int IntKind.i64 0], Value.agg #[Value.int IntKind.i64 ba.lo, Value.int IntKind.i64 ba.hi, Value.int IntKind.i64 ba.lots, Value.slice bap ba.n bac], Value.tuple #[Value.slice (some { block := gbx, off := ibx }) N s1c, Value.slice t1p M t1c, Value.int IntKind.i64 0], Value.slice (some { block := gbx, off := ibx }) N s1c, Value.slice t1p M t1c, Value.int IntKind.i64 0, Value.tuple #[Value.slice (some { block := gcx, off := icx }) N s2c, Value.slice t2p M t2c, Value.int IntKind.i64 0], Value.agg #[Value.int IntKind.i64 ba.lo, Value.int IntKind.i64 ba.hi, Value.int IntKind.i64 ba.lots, Value.slice bap ba.n bac], Value.tuple #[Value.slice (some { block := gcx, off := icx }) N s2c, Value.slice t2p M t2c, Value.int IntKind.i64 0], Value.slice (some { block := gcx, off := icx }) N s2c, Value.slice t2p M t2c, Value.int IntKind.i64 0, Value.agg #[Value.int IntKind.i64 ba.lo, Value.int IntKind.i64 ba.hi, Value.int IntKind.i64 ba.lots, Value.slice bap ba.n bac], Value.slice (some { block := gax, off := iax }) N Lad, Value.slice Lar M Lae, Value.int IntKind.i64 0, Value.bool false, Value.bool false, Value.int IntKind.i64 0, Value.bool false, Value.bool false, Value.bool false, Value.int IntKind.i64 0, Value.bool false, Value.bool false, Value.bool false, Value.int IntKind.i64 0, Value.bool false, Value.bool false, Value.bool false, Value.int IntKind.i64 0, Value.bool false, Value.bool false, Value.bool false, Value.slice (some { block := gbx, off := ibx }) N s1c, Value.int IntKind.i64 (N : Int), Value.pointer (some { block := g0, off := 2 }), Value.int IntKind.i64 (N : Int), Value.bool false, Value.bool false, Value.bool false, Value.slice (some { block := gcx, off := icx }) N s2c, Value.int IntKind.i64 (N : Int), Value.pointer (some { block := g0, off := 2 }), Value.int IntKind.i64 (N : Int), Value.bool false, Value.bool false, Value.bool false, Value.slice t1p M t1c, Value.int IntKind.i64 (M : Int), Value.slice Lar M Lae, Value.int IntKind.i64 (M : Int), Value.bool false, Value.bool false, Value.bool false, Value.slice t2p M t2c, Value.int IntKind.i64 (M : Int), Value.slice Lar M Lae, Value.int IntKind.i64 (M : Int), Value.bool false, Value.bool false, Value.int IntKind.i64 (jo : Int), Value.slice (some { block := gax, off := iax }) N Lad, Value.int IntKind.i64 (N : Int), Value.bool false, u135, u136, u137, u138, u139, u140, u141, u142, u143, u144, u145, u146, u147, u148, u149, u150, u151, u152, u153, u154, u155, u156, Value.int IntKind.i64 (j : Int), Value.slice Lar M Lae, Value.int IntKind.i64 (M : Int), Value.bool false, u161, u162, u163, u164, u165, u166, u167, u168, u169, u170, u171, u172, u173, u174, u175, u176, u177, u178, u179, u180, u181, u182, Value.slice (some { block := gax, off := iax }) N Lad, Value.int IntKind.i64 (A : Int), Value.pointer (some { block := gax, off := iax + A }), Value.int IntKind.i64 xa, Value.slice (some { block := gax, off := iax }) N Lad, Value.int IntKind.i64 (Z : Int), Value.pointer (some { block := gax, off := iax + Z }), Value.int IntKind.i64 xz, Value.int IntKind.i64 dd, (bif d 0 then Value.agg #[Value.int IntKind.i64 sl, Value.int IntKind.i64 sh] else undef), (bif d 1 then Value.slice (some { block := gbx, off := ibx }) N s1c else undef), (bif d 2 then Value.int IntKind.i64 ((A : Int)) else undef), (bif d 3 then Value.pointer (some { block := gbx, off := ibx + A }) else undef), (bif d 4 then Value.int IntKind.i64 (sl) else undef), (bif d 5 then Value.slice (some { block := gcx, off := icx }) N s2c else undef), (bif d 6 then Value.int IntKind.i64 ((A : Int)) else undef), (bif d 7 then Value.pointer (some { block := gcx, off := icx + A }) else undef), (bif d 8 then Value.int IntKind.i64 (sh) else undef), (bif d 9 then Value.agg #[Value.int IntKind.i64 sl, Value.int IntKind.i64 sh] else undef), (bif d 10 then Value.bool true else undef), (bif d 11 then Value.bool true else undef), (bif d 12 then Value.pointer (some { block := gt, off := 0 }) else undef), (bif d 13 then Value.int IntKind.i64 (al) else undef), (bif d 14 then Value.int IntKind.i64 (dd) else undef), (bif d 15 then Value.bool true else undef), (bif d 16 then Value.bool true else undef), (bif d 17 then Value.bool true else undef), (bif d 18 then Value.int IntKind.i64 (dd) else undef), (bif d 19 then Value.pointer (some { block := gt, off := 1 }) else undef), (bif d 20 then Value.int IntKind.i64 (ah) else undef), (bif d 21 then Value.bool true else undef), (bif d 22 then Value.bool true else undef), (bif d 23 then Value.bool true else undef), (bif d 24 then Value.bool true else undef), (bif d 25 then Value.bool true else undef)], defers := [] } ∧ Hid (Pure V W)) hmx (by kernel_rfl) ?_ ?_ ?_
                  · exact ⟨rfl, (Diff.refl V).drew⟩
                  · refine ⟨?_, ?_, ?_, ?_, ?_, ?_, ?_, ?_, ?_, ?_, ?_, ?_, ?_, ?_, ?_, ?_, ?_, ?_, ?_, ?_, ?_, ?_, ?_, ?_, ?_, ?_, ?_, trivial⟩
                    · rintro d a W hdi hdep hcl ⟨rfl, hw⟩ K hK
                      have E := hcl.facts 0 hdi rfl hdep [] [10, 11, 12, 13, 14, 15, 16, 17, 18, 19, 20, 21, 22, 23, 24, 25, 26] (by kernel_rfl) (by kernel_rfl)
                      simp only [AllT, AllF] at E
                      clear hdi hdep hcl
                      have z0 := ((pcell (HW1.out.trans hw.out)).1 _ _ Ks14.out.lt).trans Ks14.out.c0
                      have z1 := ((pcell (HW1.out.trans hw.out)).1 _ _ Ks14.out.lt).trans Ks14.out.c1
                      go_simp
                      exact hK _ _ ⟨by simp [upd, E], hw⟩
                    · rintro d a W hdi hdep hcl ⟨rfl, hw⟩ K hK
                      have E := hcl.facts 1 hdi rfl hdep [] [3, 4, 9, 10, 11, 12, 13, 14, 15, 16, 17, 18, 19, 20, 21, 22, 23, 24, 25, 26] (by kernel_rfl) (by kernel_rfl)
                      simp only [AllT, AllF] at E
                      clear hdi hdep hcl
                      go_simp
                      exact hK _ _ ⟨by simp [upd, E, h81, h82], hw⟩
                    · rintro d a W hdi hdep hcl ⟨rfl, hw⟩ K hK
                      have E := hcl.facts 2 hdi rfl hdep [] [3, 4, 9, 10, 11, 12, 13, 14, 15, 16, 17, 18, 19, 20, 21, 22, 23, 24, 25, 26] (by kernel_rfl) (by kernel_rfl)
                      simp only [AllT, AllF] at E
                      clear hdi hdep hcl
                      go_simp
                      exact hK _ _ ⟨by simp [upd, E, h81, h82], hw⟩
                    · rintro d a W hdi hdep hcl ⟨rfl, hw⟩ K hK
                      have E := hcl.facts 3 hdi rfl hdep [1, 2] [4, 9, 10, 11, 12, 13, 14, 15, 16, 17, 18, 19, 20, 21, 22, 23, 24, 25, 26] (by kernel_rfl) (by kernel_rfl)
                      simp only [AllT, AllF] at E
                      clear hdi hdep hcl
                      go_simp
                      exact hK _ _ ⟨by simp [upd, E, h81, h82], hw⟩
                    · rintro d a W hdi hdep hcl ⟨rfl, hw⟩ K hK
                      have E := hcl.facts 4 hdi rfl hdep [1, 2, 3] [9, 10, 11, 12, 13, 14, 15, 16, 17, 18, 19, 20, 21, 22, 23, 24, 25, 26] (by kernel_rfl) (by kernel_rfl)
                      simp only [AllT, AllF] at E
                      clear hdi hdep hcl
                      have z := ((pcell (HW1.out.trans hw.out)).1 _ _ HGBx.out).trans HYB.out
                      go_simp
                      exact hK _ _ ⟨by simp [upd, E], hw⟩
                    · rintro d a W hdi hdep hcl ⟨rfl, hw⟩ K hK
                      have E := hcl.facts 5 hdi rfl hdep [] [7, 8, 9, 10, 11, 12, 13, 14, 15, 16, 17, 18, 19, 20, 21, 22, 23, 24, 25, 26] (by kernel_rfl) (by kernel_rfl)
                      simp only [AllT, AllF] at E
                      clear hdi hdep hcl
                      go_simp
                      exact hK _ _ ⟨by simp [upd, E, h81, h82], hw⟩
                    · rintro d a W hdi hdep hcl ⟨rfl, hw⟩ K hK
                      have E := hcl.facts 6 hdi rfl hdep [] [7, 8, 9, 10, 11, 12, 13, 14, 15, 16, 17, 18, 19, 20, 21, 22, 23, 24, 25, 26] (by kernel_rfl) (by kernel_rfl)
                      simp only [AllT, AllF] at E
                      clear hdi hdep hcl
                      go_simp
                      exact hK _ _ ⟨by simp [upd, E, h81, h82], hw⟩
                    · rintro d a W hdi hdep hcl ⟨rfl, hw⟩ K hK
                      have E := hcl.facts 7 hdi rfl hdep [5, 6] [8, 9, 10, 11, 12, 13, 14, 15, 16, 17, 18, 19, 20, 21, 22, 23, 24, 25, 26] (by kernel_rfl) (by kernel_rfl)
                      simp only [AllT, AllF] at E
                      clear hdi hdep hcl
                      go_simp
                      exact hK _ _ ⟨by simp [upd, E, h81, h82], hw⟩
                    · rintro d a W hdi hdep hcl ⟨rfl, hw⟩ K hK
                      have E := hcl.facts 8 hdi rfl hdep [5, 6, 7] [9, 10, 11, 12, 13, 14, 15, 16, 17, 18, 19, 20, 21, 22, 23, 24, 25, 26] (by kernel_rfl) (by kernel_rfl)
                      simp only [AllT, AllF] at E
                      clear hdi hdep hcl
                      have z := ((pcell (HW1.out.trans hw.out)).1 _ _ HGCx.out).trans HYC.out
                      go_simp
                      exact hK _ _ ⟨by simp [upd, E], hw⟩
                    · rintro d a W hdi hdep hcl ⟨rfl, hw⟩ K hK
                      have E := hcl.facts 9 hdi rfl hdep [1, 2, 3, 4, 5, 6, 7, 8] [10, 11, 12, 13, 14, 15, 16, 17, 18, 19, 20, 21, 22, 23, 24, 25, 26] (by kernel_rfl) (by kernel_rfl)
                      simp only [AllT, AllF] at E
                      clear hdi hdep hcl
                      go_simp
                      refine (to_any _ _ _).mono ?_
                      rintro e w6 ⟨rfl, hp6⟩
                      exact hK _ _ ⟨by simp [upd, E], hw.out.trans hp6⟩
                    · rintro d a W hdi hdep hcl ⟨rfl, hw⟩ K hK
                      have E := hcl.facts 10 hdi rfl hdep [0, 1, 2, 3, 4, 5, 6, 7, 8, 9] [11, 12, 13, 14, 15, 16, 17, 18, 19, 20, 21, 22, 23, 24, 25, 26] (by kernel_rfl) (by kernel_rfl)
                      simp only [AllT, AllF] at E
                      clear hdi hdep hcl
                      go_simp
                      exact hK _ _ ⟨by simp [upd, E, h81, h82], hw⟩
                    · rintro d a W hdi hdep hcl ⟨rfl, hw⟩ K hK
                      have E := hcl.facts 11 hdi rfl hdep [0, 1, 2, 3, 4, 5, 6, 7, 8, 9, 10] [12, 13, 14, 15, 16, 17, 18, 19, 20, 21, 22, 23, 24, 25, 26] (by kernel_rfl) (by kernel_rfl)
                      simp only [AllT, AllF] at E
                      clear hdi hdep hcl
                      go_simp
                      exact hK _ _ ⟨by simp [upd, E, h81, h82], hw⟩
                    · rintro d a W hdi hdep hcl ⟨rfl, hw⟩ K hK
                      have E := hcl.facts 12 hdi rfl hdep [0, 1, 2, 3, 4, 5, 6, 7, 8, 9, 10, 11] [13, 15, 16, 17, 18, 19, 20, 21, 22, 23, 24, 25, 26] (by kernel_rfl) (by kernel_rfl)
                      simp only [AllT, AllF] at E
                      clear hdi hdep hcl
                      go_simp
                      exact hK _ _ ⟨by simp [upd, E, h81, h82], hw⟩
                    · rintro d a W hdi hdep hcl ⟨rfl, hw⟩ K hK
                      have E := hcl.facts 13 hdi rfl hdep [0, 1, 2, 3, 4, 5, 6, 7, 8, 9, 10, 11, 12] [15, 16, 17, 18, 19, 20, 21, 22, 23, 24, 25, 26] (by kernel_rfl) (by kernel_rfl)
                      simp only [AllT, AllF] at E
                      clear hdi hdep hcl
                      have z := ((pcell (HW1.out.trans hw.out)).1 _ _ Kt14.out.lt).trans Kt14.out.c0
                      go_simp
                      exact hK _ _ ⟨by simp [upd, E], hw⟩
                    · rintro d a W hdi hdep hcl ⟨rfl, hw⟩ K hK
                      have E := hcl.facts 14 hdi rfl hdep [0, 1, 2, 3, 4, 5, 6, 7, 8, 9, 10, 11] [15, 16, 17, 18, 19, 20, 21, 22, 23, 24, 25, 26] (by kernel_rfl) (by kernel_rfl)
                      simp only [AllT, AllF] at E
                      clear hdi hdep hcl
                      go_simp
                      exact hK _ _ ⟨by simp [upd, E, h81, h82], hw⟩
                    · rintro d a W hdi hdep hcl ⟨rfl, hw⟩ K hK
                      have E := hcl.facts 15 hdi rfl hdep [0, 1, 2, 3, 4, 5, 6, 7, 8, 9, 10, 11, 12, 13, 14] [16, 17, 18, 19, 20, 21, 22, 23, 24, 25, 26] (by kernel_rfl) (by kernel_rfl)
                      simp only [AllT, AllF] at E
                      clear hdi hdep hcl
                      go_simp
                      exact hK _ _ ⟨by simp [upd, E, h81, h82], hw⟩
                    · rintro d a W hdi hdep hcl ⟨rfl, hw⟩ K hK
                      have E := hcl.facts 16 hdi rfl hdep [0, 1, 2, 3, 4, 5, 6, 7, 8, 9, 10, 11, 12, 13, 14, 15] [17, 18, 19, 20, 21, 22, 23, 24, 25, 26] (by kernel_rfl) (by kernel_rfl)
                      simp only [AllT, AllF] at E
                      clear hdi hdep hcl
                      go_simp
                      exact hK _ _ ⟨by simp [upd, E, h81, h82], hw⟩
                    · rintro d a W hdi hdep hcl ⟨rfl, hw⟩ K hK
                      have E := hcl.facts 17 hdi rfl hdep [0, 1, 2, 3, 4, 5, 6, 7, 8, 9, 10, 11, 12, 13, 14, 15, 16] [18, 19, 20, 21, 22, 23, 24, 25, 26] (by kernel_rfl) (by kernel_rfl)
                      simp only [AllT, AllF] at E
                      clear hdi hdep hcl
                      go_simp
                      exact hK _ _ ⟨by simp [upd, E, h81, h82], hw⟩
                    · rintro d a W hdi hdep hcl ⟨rfl, hw⟩ K hK
                      have E := hcl.facts 18 hdi rfl hdep [0, 1, 2, 3, 4, 5, 6, 7, 8, 9, 10, 11, 12, 13, 14, 15, 16, 17] [21, 22, 23, 24, 25, 26] (by kernel_rfl) (by kernel_rfl)
                      simp only [AllT, AllF] at E
                      clear hdi hdep hcl
                      go_simp
                      exact hK _ _ ⟨by simp [upd, E, h81, h82], hw⟩
                    · rintro d a W hdi hdep hcl ⟨rfl, hw⟩ K hK
                      have E := hcl.facts 19 hdi rfl hdep [0, 1, 2, 3, 4, 5, 6, 7, 8, 9, 10, 11, 12, 13, 14, 15, 16, 17] [20, 21, 22, 23, 24, 25, 26] (by kernel_rfl) (by kernel_rfl)
                      simp only [AllT, AllF] at E
                      clear hdi hdep hcl
                      go_simp
                      exact hK _ _ ⟨by simp [upd, E, h81, h82], hw⟩
                    · rintro d a W hdi hdep hcl ⟨rfl, hw⟩ K hK
                      have E := hcl.facts 20 hdi rfl hdep [0, 1, 2, 3, 4, 5, 6, 7, 8, 9, 10, 11, 12, 13, 14, 15, 16, 17, 19] [21, 22, 23, 24, 25, 26] (by kernel_rfl) (by kernel_rfl)
                      simp only [AllT, AllF] at E
                      clear hdi hdep hcl
                      have z := ((pcell (HW1.out.trans hw.out)).1 _ _ Kt14.out.lt).trans Kt14.out.c1
                      go_simp
                      exact hK _ _ ⟨by simp [upd, E], hw⟩
                    · rintro d a W hdi hdep hcl ⟨rfl, hw⟩ K hK
                      have E := hcl.facts 21 hdi rfl hdep [0, 1, 2, 3, 4, 5, 6, 7, 8, 9, 10, 11, 12, 13, 14, 15, 16, 17, 18, 19, 20] [22, 23, 24, 25, 26] (by kernel_rfl) (by kernel_rfl)
                      simp only [AllT, AllF] at E
                      clear hdi hdep hcl
                      go_simp
                      exact hK _ _ ⟨by simp [upd, E, h81, h82], hw⟩
                    · rintro d a W hdi hdep hcl ⟨rfl, hw⟩ K hK
                      have E := hcl.facts 22 hdi rfl hdep [0, 1, 2, 3, 4, 5, 6, 7, 8, 9, 10, 11, 12, 13, 14, 15, 16, 17, 18, 19, 20, 21] [23, 24, 25, 26] (by kernel_rfl) (by kernel_rfl)
                      simp only [AllT, AllF] at E
                      clear hdi hdep hcl
                      go_simp
                      exact hK _ _ ⟨by simp [upd, E, h81, h82], hw⟩
                    · rintro d a W hdi hdep hcl ⟨rfl, hw⟩ K hK
                      have E := hcl.facts 23 hdi rfl hdep [0, 1, 2, 3, 4, 5, 6, 7, 8, 9, 10, 11, 12, 13, 14, 15, 16, 17, 18, 19, 20, 21, 22] [24, 25, 26] (by kernel_rfl) (by kernel_rfl)
                      simp only [AllT, AllF] at E
                      clear hdi hdep hcl
                      go_simp
                      exact hK _ _ ⟨by simp [upd, E, h81, h82], hw⟩
                    · rintro d a W hdi hdep hcl ⟨rfl, hw⟩ K hK
                      have E := hcl.facts 24 hdi rfl hdep [0, 1, 2, 3, 4, 5, 6, 7, 8, 9, 10, 11, 12, 13, 14, 15, 16, 17, 18, 19, 20, 21, 22, 23] [25, 26] (by kernel_rfl) (by kernel_rfl)
                      simp only [AllT, AllF] at E
                      clear hdi hdep hcl
                      go_simp
                      refine (Works_any _ (HG14.out.to (HW1.out.trans hw.out))).mono ?_
                      rintro e w6 ⟨rfl, hp6⟩
                      exact hK _ _ ⟨by simp [upd, E], hw.out.trans hp6⟩
                    · rintro d a W hdi hdep hcl ⟨rfl, hw⟩ K hK
                      have E := hcl.facts 25 hdi rfl hdep [0, 1, 2, 3, 4, 5, 6, 7, 8, 9, 10, 11, 12, 13, 14, 15, 16, 17, 18, 19, 20, 21, 22, 23, 24] [26] (by kernel_rfl) (by kernel_rfl)
                      simp only [AllT, AllF] at E
                      clear hdi hdep hcl
                      go_simp
                      exact hK _ _ ⟨by simp [upd, E, h81, h82], hw⟩
                    · rintro d a W hdi hdep hcl ⟨rfl, hw⟩ K hK
                      have E := hcl.facts 26 hdi rfl hdep [0, 1, 2, 3, 4, 5, 6, 7, 8, 9, 10, 11, 12, 13, 14, 15, 16, 17, 18, 19, 20, 21, 22, 23, 24, 25] [] (by kernel_rfl) (by kernel_rfl)
                      simp only [AllT, AllF] at E
                      clear hdi hdep hcl
                      go_simp
                      exact hK _ _ ⟨by simp [upd, E, h81, h82], hw⟩
                  · rintro d a W hall ⟨rfl, hw⟩
                    have E := AllT.all hall [0, 1, 2, 3, 4, 5, 6, 7, 8, 9, 10, 11, 12, 13, 14, 15, 16, 17, 18, 19, 20, 21, 22, 23, 24, 25, 26] (by kernel_rfl)
                    simp only [AllT] at E
                    simp only [E, cond_true] at hw ⊢
                    clear E hall
                    have hfin : Hid (Pure w W) := hP14.out.trans (HW1.out.trans hw.out)
                    go_wp2_with fail
                    exact bodyPost_ret (v := .bool true) (by simp [results, Tryd.results9, go_sem]) rfl ⟨rfl, hfin.out⟩
end Go.Proofs.YtmedkmbfggphdaaDoor
