/- Walk of BlendMoved. -/
import Derived.Test.YtgpfmnjianflaaaDoorE5
set_option linter.unusedSimpArgs false
set_option linter.unusedVariables false
set_option linter.constructorNameAsVariable false
namespace Go.Proofs.YtgpfmnjianflaaaDoor
open Go.RowKit

theorem wf_u16 {n : Int} (h : (Lit.int .u16 n).wf = true) : 0 ≤ n ∧ n ≤ 65535 := by
  unfold Lit.wf at h
  rw [Bool.and_eq_true] at h
  exact ⟨of_decide_eq_true h.1, of_decide_eq_true h.2⟩
theorem dear_y {L : LT} (hL : L.Ok) {e t : Int} (hM : (L.dearer e).Ok) (ht : 0 ≤ t ∧ t ≤ 100) {x1 x2 y1 y2 : Int} {i1 i2 : Bool} (e1 : cheapP L t = (x1, x2)) (e2 : cheapP (L.dearer e) t = (y1, y2)) (f1 : (cheapE L t == 0) = i1) (f2 : (cheapE (L.dearer e) t == 0) = i2) :
    i2 = i1 ∧ (i1 = true → Sm x1 x2 ∧ redN (x1 + e * x2) x2 = y1 ∧ redD (x1 + e * x2) x2 = y2) := by
  have h := dear_facts hL hM (m := 1) (e := e) ht (by omega) rfl (fun _ _ => rfl) (fun i _ => by show L.p i + e = 1 * L.p i + e; omega) e1 e2 f1 f2
  rw [Int.one_mul] at h
  exact ⟨h.1, fun k => ⟨(h.2 k).1, (h.2 k).2.1.symm, (h.2 k).2.2.symm⟩⟩
theorem dear_z {L : LT} (hL : L.Ok) {m t : Int} (hm : 0 < m) (hM : (L.times m).Ok) (ht : 0 ≤ t ∧ t ≤ 100) {x1 x2 y1 y2 : Int} {i1 i2 : Bool} (e1 : cheapP L t = (x1, x2)) (e2 : cheapP (L.times m) t = (y1, y2)) (f1 : (cheapE L t == 0) = i1) (f2 : (cheapE (L.times m) t == 0) = i2) :
    i2 = i1 ∧ (i1 = true → Sm x1 x2 ∧ redN (m * x1) x2 = y1 ∧ redD (m * x1) x2 = y2) := by
  have h := dear_facts hL hM (m := m) (e := 0) ht hm rfl (fun _ _ => rfl) (fun i _ => by show m * L.p i = m * L.p i + 0; omega) e1 e2 f1 f2
  rw [Int.zero_mul, Int.add_zero] at h
  exact ⟨h.1, fun k => ⟨(h.2 k).1, (h.2 k).2.1.symm, (h.2 k).2.2.symm⟩⟩
set_option maxRecDepth 20000 in
set_option maxHeartbeats 40000000 in
theorem MovedLaw_any (w : World) (L : LT) (p : Option Addr) (cap : Nat) (n1 n2 n3 n4 : Int) (hl : LotsAt w.heap.size w p L) (h1 : (Lit.int .u8 n1).wf = true) (h2 : (Lit.int .u8 n2).wf = true) (h3 : (Lit.int .u16 n3).wf = true) (h4 : (Lit.int .u8 n4).wf = true) (hg : Gl w) :
    Calls Tryd.prog 12 #[.slice p L.n cap, .int .u8 n1, .int .u8 n2, .int .u16 n3, .int .u8 n4] w fun e w' => e = .returned (.bool true) ∧ Pure w w' := by
  have hmx : Tryd.prog.follows .mixedOrders = true := by kernel_rfl
  have HG := Lib.hid hg
  have HL := Lib.hid hl
  have H1 := Lib.hid (wf_u8 h1)
  have H2 := Lib.hid (wf_u8 h2)
  have H3 := Lib.hid (wf_u16 h3)
  have H4 := Lib.hid (wf_u8 h4)
  clear hg hl h1 h2 h3 h4
  go_enter Tryd.func12, Tryd.ntmps12
  go_wp2_with fail
  refine (fine_any w L p cap HL.out).mono ?_
  rintro e w1 ⟨rfl, hp1⟩
  have HP1 := Lib.hid hp1
  have HG1 := Lib.hid (HG.out.to HP1.out)
  have HL1 := Lib.hid (HL.out.to HP1.out)
  clear hp1
  cases hfb : fineB L with
  | false =>
    clear hfb
    go_wp2_with fail
    refine (Works_any w1 HG1.out).mono ?_
    rintro e w9 ⟨rfl, hp9⟩
    have HP9 := Lib.hid (HP1.out.trans hp9)
    clear hp9
    go_wp2
    exact bodyPost_ret (v := .bool true) (by simp [results, Tryd.results12, go_sem]) rfl ⟨rfl, HP9.out⟩
  | true =>
    have HOK := Lib.hid (fineB_iff.1 hfb)
    clear hfb
    have HSA : Hid (0 ≤ shp n1 ∧ shp n1 ≤ 100) := shp_in n1
    go_wp2_with fail
    refine (sharpness_any w1 n1 H1.out).mono ?_
    rintro e v0 ⟨rfl, hp⟩
    have HP_0 := Lib.hid (HP1.out.trans hp)
    have HW_0 := Lib.hid (HG1.out.to hp)
    have L_0 := Lib.hid (HL1.out.to hp)
    clear hp  HP1 HG1 HL1
    obtain ⟨t, ht⟩ : ∃ z, shp n1 = z := ⟨_, rfl⟩
    rw [ht] at HSA ⊢
    clear ht
    obtain ⟨d, b1⟩ : ∃ d, n2.tmod 50 = d := ⟨_, rfl⟩
    obtain ⟨ee, b2⟩ : ∃ d, n3.tmod 600 = d := ⟨_, rfl⟩
    obtain ⟨mm, b3⟩ : ∃ d, n4.tmod 4 + 1 = d := ⟨_, rfl⟩
    have HD : Hid (0 ≤ d ∧ d ≤ 49) := by have e := Int.tmod_eq_emod_of_nonneg (b := 50) H2.out.1; exact (by omega : 0 ≤ d ∧ d ≤ 49)
    have HE : Hid (0 ≤ ee ∧ ee ≤ 599) := by have e := Int.tmod_eq_emod_of_nonneg (b := 600) H3.out.1; exact (by omega : 0 ≤ ee ∧ ee ≤ 599)
    have HM4 : Hid (1 ≤ mm ∧ mm ≤ 4) := by have e := Int.tmod_eq_emod_of_nonneg (b := 4) H4.out.1; exact (by omega : 1 ≤ mm ∧ mm ≤ 4)
    have b4 : n4.tmod 4 = mm - 1 := by omega
    have b5 : IntKind.u8.wrap d = d := IntWalk.u8_in _ (by have := HD.out; omega)
    have b6 : IntKind.i64.wrap d = d := IntWalk.i64_in _ (by have := HD.out; omega)
    have b7 : IntKind.u8.wrap (mm - 1) = mm - 1 := IntWalk.u8_in _ (by have := HM4.out; omega)
    have b8 : IntKind.i64.wrap (mm - 1) = mm - 1 := IntWalk.i64_in _ (by have := HM4.out; omega)
    have b9 : IntKind.i64.wrap (1 + (mm - 1)) = mm := by rw [show 1 + (mm - 1) = mm by omega]; exact IntWalk.i64_in _ (by have := HM4.out; omega)
    have B2 := Lib.hid b2
    clear b2 b3
    obtain ⟨m, hm⟩ : ∃ m, L.n = m := ⟨_, rfl⟩
    have HM := Lib.hid hm
    rw [hm]
    clear hm
    have HMM : Hid (1 ≤ m ∧ m ≤ 8) := by have h1 := HOK.out.n0; have h2 := HOK.out.n8; rw [HM.out] at h1 h2; exact ⟨h1, h2⟩
    go_wp2_with fail
    clear b1 b4 b5 b6 b7 b8 b9
    go_loopw [14, 15, 16, 17] (fun u v z i wr => ∃ k : Nat, k ≤ m ∧ i = .int .i64 k ∧ Hid (wr.ownsRow w.heap.size 71 2 u k (valsL (L.sharper d) k)) ∧ Hid (wr.ownsRow w.heap.size 71 2 v k (valsL (L.dearer ee) k)) ∧ Hid (wr.ownsRow w.heap.size 71 2 z k (valsL (L.times mm) k)) ∧ Hid (∀ g, u.ownBlock = some g → v.ownBlock = some g → False) ∧ Hid (∀ g, u.ownBlock = some g → z.ownBlock = some g → False) ∧ Hid (∀ g, v.ownBlock = some g → z.ownBlock = some g → False) ∧ Hid (Pure w wr)) (fun _ _ _ i _ => m - (intOf i).toNat)
    case atStart => exact ⟨0, Nat.zero_le _, rfl, World.ownsRow_nil _ _ _ _, World.ownsRow_nil _ _ _ _, World.ownsRow_nil _ _ _ _, (fun g h => by cases h), (fun g h => by cases h), (fun g h => by cases h), HP_0.out⟩
    case round =>
      obtain ⟨k, hk, rfl, HX, HY, HZ, HN1, HN2, HN3, HP⟩ := hrel
      have hm8 : m ≤ 8 := HMM.out.2
      by_cases hlt : k < m
      · obtain ⟨b, o, rfl, hb, hs0, hs1⟩ := HL.out k (by rw [HM.out]; exact hlt)
        have d0 := ((pcell HP.out).1 _ _ hb).trans hs0
        have d1 := ((pcell HP.out).1 _ _ hb).trans hs1
        have lb := Nat.lt_of_lt_of_le hb HP.out.size
        have hki : (k : Int) < (m : Int) := by omega
        have hsk : 0 ≤ L.s k ∧ L.s k ≤ 100 := ⟨HOK.out.s0 k (by rw [HM.out]; exact hlt), HOK.out.s1 k (by rw [HM.out]; exact hlt)⟩
        have hpk : 0 ≤ L.p k ∧ L.p k ≤ 1000 := ⟨HOK.out.p0 k (by rw [HM.out]; exact hlt), HOK.out.p1 k (by rw [HM.out]; exact hlt)⟩
        have m1 := mul_bnd (a := mm) (b := L.p k) 4 1000 (by have := HM4.out; omega) (by have := HM4.out; omega) (by omega) (by omega)
        have hw1 : IntKind.i64.wrap (L.s k + d) = L.s k + d := IntWalk.i64_in _ (by have := HD.out; omega)
        have hw2 : IntKind.i64.wrap (L.p k + ee) = L.p k + ee := IntWalk.i64_in _ (by have := HE.out; omega)
        have hw3 : IntKind.i64.wrap (mm * L.p k) = mm * L.p k := IntWalk.i64_in _ (by omega)
        have b2 := B2.out
        have b5 : IntKind.u16.wrap ee = ee := IntWalk.u16_in _ (by have := HE.out; omega)
        have b6 : IntKind.i64.wrap ee = ee := IntWalk.i64_in _ (by have := HE.out; omega)
        obtain ⟨u', wA, hr1, ho1, hd1, hob1, hbk⟩ := push_lot2 HX.out (by omega) HP.out.size (L.s k) (L.p k) (L.s k + d) (L.p k)
        have qY := own_apart2 HY.out hd1 HN1.out hob1
        have qZ := own_apart2 HZ.out hd1 HN2.out hob1
        have HPA : Hid (Pure w wA) := HP.out.trans' hd1 (fun x hx hh => by have := (HX.out.lt x hh.symm).1; omega)
        have BK1 := Lib.hid hbk
        have X1 := Lib.hid ho1
        have Y1 := Lib.hid qY.1
        have Z1 := Lib.hid qZ.1
        have N1 := Lib.hid qY.2
        have N2 := Lib.hid qZ.2
        clear ho1 hd1 hob1 hbk qY qZ
        obtain ⟨v', wB, hr2, ho2, hd2, hob2⟩ := push_lot Y1.out (by omega) HPA.out.size (L.s k) (L.p k + ee)
        have qX := own_apart X1.out hd2 (fun g h1 h2 => N1.out g h2 h1) hob2
        have qZ := own_apart Z1.out hd2 HN3.out hob2
        have HPB : Hid (Pure w wB) := HPA.out.trans' hd2 (fun x hx hh => by have := (Y1.out.lt x hh.symm).1; omega)
        have hne2 : u15.ownBlock ≠ some wr.heap.size := fun e => by have := (HY.out.lt _ e).2; omega
        have BK2 := Lib.hid (BK1.out.grow hd2 hne2)
        have X2 := Lib.hid qX.1
        have Y2 := Lib.hid ho2
        have Z2 := Lib.hid qZ.1
        have N3 := Lib.hid qX.2
        have N4 := Lib.hid qZ.2
        clear ho2 hd2 hob2 qX qZ
        obtain ⟨z', wC, hr3, ho3, hd3, hob3⟩ := push_lot Z2.out (by omega) HPB.out.size (L.s k) (mm * L.p k)
        have qX := own_apart X2.out hd3 (fun g h1 h2 => N2.out g h2 h1) hob3
        have qY := own_apart Y2.out hd3 (fun g h1 h2 => N4.out g h2 h1) hob3
        have HPC : Hid (Pure w wC) := HPB.out.trans' hd3 (fun x hx hh => by have := (Z2.out.lt x hh.symm).1; omega)
        have X3 := Lib.hid qX.1
        have Y3 := Lib.hid qY.1
        have Z3 := Lib.hid ho3
        have N5 := Lib.hid qX.2
        have N6 := Lib.hid qY.2
        clear ho3 hd3 hob3 qX qY m1 hs0 hs1 hb hsk hpk hne2
        have k0 := BK1.out.at 0
        have k1 := BK1.out.at 1
        have kl := BK1.out.lt
        have l0 := BK2.out.at 0
        have l1 := BK2.out.at 1
        have ll := BK2.out.lt
        go_wp2_with (at_builtin; first | refine Lib.wpList_append_run _ rfl _ _ _ _ rfl _ _ rfl rfl _ _ hr1 ?_ | refine Lib.wpList_append_run _ rfl _ _ _ _ rfl _ _ rfl rfl _ _ hr2 ?_ | refine Lib.wpList_append_run _ rfl _ _ _ _ rfl _ _ rfl rfl _ _ hr3 ?_)
        go_roundw
        case rel =>
          refine ⟨k + 1, by omega, by go_num, ?_, ?_, ?_, fun g h1 h2 => N3.out g h2 h1, fun g h1 h2 => N5.out g h2 h1, fun g h1 h2 => N6.out g h2 h1, HPC.out⟩
          · show World.ownsRow _ _ _ _ _ _ _
            rw [valsL_succ]
            exact X3.out
          · show World.ownsRow _ _ _ _ _ _ _
            rw [valsL_succ]
            exact Y3.out
          · show World.ownsRow _ _ _ _ _ _ _
            rw [valsL_succ]
            exact Z3.out
        case measure => simp [intOf]; omega
      · obtain rfl : k = m := by omega
        have HGr := Lib.hid (HG.out.to HP.out)
        have HLr := Lib.hid (HL.out.to HP.out)
        obtain ⟨q1, c1, rfl, hx⟩ := all_own (L := L.sharper d) HX.out HM.out
        obtain ⟨q2, c2, rfl, hy⟩ := all_own (L := L.dearer ee) HY.out HM.out
        obtain ⟨q3, c3, rfl, hz⟩ := all_own (L := L.times mm) HZ.out HM.out
        have HXr := Lib.hid hx
        have HYr := Lib.hid hy
        have HZr := Lib.hid hz
        clear hx hy hz HX HY HZ HN1 HN2 HN3
        obtain rfl : L.n = k := HM.out
        clear hm8
        go_wp2_with fail
        refine (cheapest_any wr L p cap t HOK.out HSA.out HLr.out HGr.out).mono ?_
        rintro e v0 ⟨rfl, hp⟩
        have HP_0 := Lib.hid (HP.out.trans hp)
        have HW_0 := Lib.hid (HGr.out.to hp)
        have L_0 := Lib.hid (HLr.out.to hp)
        have X_0 := Lib.hid (HXr.out.to hp)
        have Y_0 := Lib.hid (HYr.out.to hp)
        have Z_0 := Lib.hid (HZr.out.to hp)
        clear hp  HP HGr HLr HXr HYr HZr
        obtain ⟨x1, hx1⟩ : ∃ zz, (cheapP L t).1 = zz := ⟨_, rfl⟩
        obtain ⟨x2, hx2⟩ : ∃ zz, (cheapP L t).2 = zz := ⟨_, rfl⟩
        obtain ⟨i1, hi1⟩ : ∃ zz, (cheapE L t == 0) = zz := ⟨_, rfl⟩
        have HNA : Hid (cheapP L t = (x1, x2) ∧ (cheapE L t == 0) = i1) := ⟨by rw [← hx1, ← hx2], hi1⟩
        rw [hx1, hx2, hi1]
        clear hx1 hx2 hi1
        go_wp2_with fail
        obtain ⟨X1, hX1⟩ : ∃ V : World, v0.alloc (Obj.cells #[Value.int IntKind.i64 x1, Value.int IntKind.i64 x2] 29) = V := ⟨_, rfl⟩
        have hpX1 : Pure v0 X1 := by rw [← hX1]; exact ((Diff.refl v0).alloc _)
        have bA : Blk (v0.heap.size) 29 #[Value.int IntKind.i64 x1, Value.int IntKind.i64 x2] X1 := by rw [← hX1]; exact (blk0 v0 29 _)
        rw [hX1]
        obtain ⟨g1_0, hg1_0⟩ : ∃ g, v0.heap.size = g := ⟨_, rfl⟩
        rw [hg1_0] at bA ⊢
        have HP_1 := Lib.hid (HP_0.out.trans hpX1)
        have HW_1 := Lib.hid (HW_0.out.to hpX1)
        have L_1 := Lib.hid (L_0.out.to hpX1)
        have X_1 := Lib.hid (X_0.out.to hpX1)
        have Y_1 := Lib.hid (Y_0.out.to hpX1)
        have Z_1 := Lib.hid (Z_0.out.to hpX1)
        have A_1 := Lib.hid bA
        clear hX1 hpX1 hg1_0 bA HP_0 HW_0 L_0 X_0 Y_0 Z_0
        go_wp2_with fail
        refine (fine_any X1 (L.sharper d) q1 c1 X_1.out).mono ?_
        rintro e v2 ⟨rfl, hp⟩
        have HP_2 := Lib.hid (HP_1.out.trans hp)
        have HW_2 := Lib.hid (HW_1.out.to hp)
        have L_2 := Lib.hid (L_1.out.to hp)
        have X_2 := Lib.hid (X_1.out.to hp)
        have Y_2 := Lib.hid (Y_1.out.to hp)
        have Z_2 := Lib.hid (Z_1.out.to hp)
        have A_2 := Lib.hid (A_1.out.to hp)
        clear hp  HP_1 HW_1 L_1 X_1 Y_1 Z_1 A_1
        have b2 := B2.out
        have b5 : IntKind.u16.wrap ee = ee := IntWalk.u16_in _ (by have := HE.out; omega)
        have b6 : IntKind.i64.wrap ee = ee := IntWalk.i64_in _ (by have := HE.out; omega)
        have hwtd : IntKind.i64.wrap (t + d) = t + d := IntWalk.i64_in _ (by have := HSA.out; have := HD.out; omega)
        cases i1
        · cases hfx : fineB (L.sharper d)
          · clear hfx
            go_wp2_with fail
            refine (fine_any v2 (L.dearer ee) q2 c2 Y_2.out).mono ?_
            rintro e v3 ⟨rfl, hp⟩
            have HP_3 := Lib.hid (HP_2.out.trans hp)
            have HW_3 := Lib.hid (HW_2.out.to hp)
            have L_3 := Lib.hid (L_2.out.to hp)
            have X_3 := Lib.hid (X_2.out.to hp)
            have Y_3 := Lib.hid (Y_2.out.to hp)
            have Z_3 := Lib.hid (Z_2.out.to hp)
            have A_3 := Lib.hid (A_2.out.to hp)
            clear hp  HP_2 HW_2 L_2 X_2 Y_2 Z_2 A_2
            cases hfy : fineB (L.dearer ee)
            · clear hfy
              go_wp2_with fail
              refine (fine_any v3 (L.times mm) q3 c3 Z_3.out).mono ?_
              rintro e v4 ⟨rfl, hp⟩
              have HP_4 := Lib.hid (HP_3.out.trans hp)
              have HW_4 := Lib.hid (HW_3.out.to hp)
              have L_4 := Lib.hid (L_3.out.to hp)
              have X_4 := Lib.hid (X_3.out.to hp)
              have Y_4 := Lib.hid (Y_3.out.to hp)
              have Z_4 := Lib.hid (Z_3.out.to hp)
              have A_4 := Lib.hid (A_3.out.to hp)
              clear hp  HP_3 HW_3 L_3 X_3 Y_3 Z_3 A_3
              cases hfz : fineB (L.times mm)
              · clear hfz
                go_wp2_with fail
                refine (Works_any v4 HW_4.out).mono ?_
                rintro e v5 ⟨rfl, hp⟩
                have HP_5 := Lib.hid (HP_4.out.trans hp)
                have HW_5 := Lib.hid (HW_4.out.to hp)
                have L_5 := Lib.hid (L_4.out.to hp)
                have X_5 := Lib.hid (X_4.out.to hp)
                have Y_5 := Lib.hid (Y_4.out.to hp)
                have Z_5 := Lib.hid (Z_4.out.to hp)
                have A_5 := Lib.hid (A_4.out.to hp)
                clear hp  HP_4 HW_4 L_4 X_4 Y_4 Z_4 A_4
                go_wp2
                exact bodyPost_ret (v := .bool true) (by simp [results, Tryd.results12, go_sem]) rfl ⟨rfl, HP_5.out⟩
              · have HOKZ := Lib.hid (fineB_iff.1 hfz)
                clear hfz
                go_wp2_with fail
                refine (cheapest_any v4 (L.times mm) q3 c3 t HOKZ.out HSA.out Z_4.out HW_4.out).mono ?_
                rintro e v5 ⟨rfl, hp⟩
                have HP_5 := Lib.hid (HP_4.out.trans hp)
                have HW_5 := Lib.hid (HW_4.out.to hp)
                have L_5 := Lib.hid (L_4.out.to hp)
                have X_5 := Lib.hid (X_4.out.to hp)
                have Y_5 := Lib.hid (Y_4.out.to hp)
                have Z_5 := Lib.hid (Z_4.out.to hp)
                have A_5 := Lib.hid (A_4.out.to hp)
                clear hp  HP_4 HW_4 L_4 X_4 Y_4 Z_4 A_4
                obtain ⟨z1, hz1⟩ : ∃ zz, (cheapP (L.times mm) t).1 = zz := ⟨_, rfl⟩
                obtain ⟨z2, hz2⟩ : ∃ zz, (cheapP (L.times mm) t).2 = zz := ⟨_, rfl⟩
                obtain ⟨i3, hi3⟩ : ∃ zz, (cheapE (L.times mm) t == 0) = zz := ⟨_, rfl⟩
                have HNZ : Hid (cheapP (L.times mm) t = (z1, z2) ∧ (cheapE (L.times mm) t == 0) = i3) := ⟨by rw [← hz1, ← hz2], hi3⟩
                rw [hz1, hz2, hi3]
                clear hz1 hz2 hi3
                obtain ⟨rfl, hz⟩ := dear_z HOK.out (show 0 < mm by have := HM4.out; omega) HOKZ.out HSA.out HNA.out.1 HNZ.out.1 HNA.out.2 HNZ.out.2
                clear hz
                go_wp2_with fail
                obtain ⟨X6, hX6⟩ : ∃ V : World, v5.alloc (Obj.cells #[Value.int IntKind.i64 z1, Value.int IntKind.i64 z2] 29) = V := ⟨_, rfl⟩
                have hpX6 : Pure v5 X6 := by rw [← hX6]; exact ((Diff.refl v5).alloc _)
                have bC : Blk (v5.heap.size) 29 #[Value.int IntKind.i64 z1, Value.int IntKind.i64 z2] X6 := by rw [← hX6]; exact (blk0 v5 29 _)
                rw [hX6]
                obtain ⟨g6_0, hg6_0⟩ : ∃ g, v5.heap.size = g := ⟨_, rfl⟩
                rw [hg6_0] at bC ⊢
                have HP_6 := Lib.hid (HP_5.out.trans hpX6)
                have HW_6 := Lib.hid (HW_5.out.to hpX6)
                have L_6 := Lib.hid (L_5.out.to hpX6)
                have X_6 := Lib.hid (X_5.out.to hpX6)
                have Y_6 := Lib.hid (Y_5.out.to hpX6)
                have Z_6 := Lib.hid (Z_5.out.to hpX6)
                have A_6 := Lib.hid (A_5.out.to hpX6)
                have C_6 := Lib.hid bC
                clear hX6 hpX6 hg6_0 bC HP_5 HW_5 L_5 X_5 Y_5 Z_5 A_5
                refine WQ.region (C := Pure X6) hmx (by kernel_rfl) ((Diff.refl _).drew) ?_
                iterate 10 (refine WQ.step (fun K hK => ?_); go_simp; first | refine hK _ ?_ | refine ⟨_, fun _ _ => rfl, hK _ ?_⟩; clear hK K)
                refine WQ.skipK (by rfl) (fun K hK => ?_); go_simp; refine hK _ ?_; clear hK K
                refine WQ.skipK (by rfl) (fun K hK => ?_); go_simp; refine hK _ ?_; clear hK K
                refine WQ.skipK (by rfl) (fun K hK => ?_); go_simp; refine hK _ ?_; clear hK K
                refine WQ.skipK (by rfl) (fun K hK => ?_); go_simp; refine hK _ ?_; clear hK K
                refine WQ.skipK (by rfl) (fun K hK => ?_); go_simp; refine hK _ ?_; clear hK K
                refine WQ.skipK (by rfl) (fun K hK => ?_); go_simp; refine hK _ ?_; clear hK K
                refine WQ.skipK (by rfl) (fun K hK => ?_); go_simp; refine hK _ ?_; clear hK K
                refine WQ.skipK (by rfl) (fun K hK => ?_); go_simp; refine hK _ ?_; clear hK K
                refine WQ.skipK (by rfl) (fun K hK => ?_); go_simp; refine hK _ ?_; clear hK K
                iterate 3 (refine WQ.step (fun K hK => ?_); go_simp; first | refine hK _ ?_ | refine ⟨_, fun _ _ => rfl, hK _ ?_⟩; clear hK K)
                refine WQ.call (by rfl) 17 #[] (.bool true) (fun V => by unfold execOp; simp [go_sem]) (fun V hV => (Works_any V (HW_6.out.to hV)).mono fun e V2 h => ⟨h.1, hV.trans h.2⟩) ?_
                iterate 2 (refine WQ.step (fun K hK => ?_); go_simp; first | refine hK _ ?_ | refine ⟨_, fun _ _ => rfl, hK _ ?_⟩; clear hK K)
                refine WQ.nil ?_
                rintro V hV
                have HPE := Lib.hid hV
                clear hV
                go_wp2
                exact bodyPost_ret (v := .bool true) (by simp [results, Tryd.results12, go_sem]) rfl ⟨rfl, HP_6.out.trans HPE.out⟩
            · have HOKY := Lib.hid (fineB_iff.1 hfy)
              clear hfy
              go_wp2_with fail
              refine (cheapest_any v3 (L.dearer ee) q2 c2 t HOKY.out HSA.out Y_3.out HW_3.out).mono ?_
              rintro e v4 ⟨rfl, hp⟩
              have HP_4 := Lib.hid (HP_3.out.trans hp)
              have HW_4 := Lib.hid (HW_3.out.to hp)
              have L_4 := Lib.hid (L_3.out.to hp)
              have X_4 := Lib.hid (X_3.out.to hp)
              have Y_4 := Lib.hid (Y_3.out.to hp)
              have Z_4 := Lib.hid (Z_3.out.to hp)
              have A_4 := Lib.hid (A_3.out.to hp)
              clear hp  HP_3 HW_3 L_3 X_3 Y_3 Z_3 A_3
              obtain ⟨y1, hy1⟩ : ∃ zz, (cheapP (L.dearer ee) t).1 = zz := ⟨_, rfl⟩
              obtain ⟨y2, hy2⟩ : ∃ zz, (cheapP (L.dearer ee) t).2 = zz := ⟨_, rfl⟩
              obtain ⟨i2, hi2⟩ : ∃ zz, (cheapE (L.dearer ee) t == 0) = zz := ⟨_, rfl⟩
              have HNY : Hid (cheapP (L.dearer ee) t = (y1, y2) ∧ (cheapE (L.dearer ee) t == 0) = i2) := ⟨by rw [← hy1, ← hy2], hi2⟩
              rw [hy1, hy2, hi2]
              clear hy1 hy2 hi2
              obtain ⟨rfl, hz⟩ := dear_y HOK.out HOKY.out HSA.out HNA.out.1 HNY.out.1 HNA.out.2 HNY.out.2
              clear hz
              go_wp2_with fail
              obtain ⟨X5, hX5⟩ : ∃ V : World, v4.alloc (Obj.cells #[Value.int IntKind.i64 y1, Value.int IntKind.i64 y2] 29) = V := ⟨_, rfl⟩
              have hpX5 : Pure v4 X5 := by rw [← hX5]; exact ((Diff.refl v4).alloc _)
              have bB : Blk (v4.heap.size) 29 #[Value.int IntKind.i64 y1, Value.int IntKind.i64 y2] X5 := by rw [← hX5]; exact (blk0 v4 29 _)
              rw [hX5]
              obtain ⟨g5_0, hg5_0⟩ : ∃ g, v4.heap.size = g := ⟨_, rfl⟩
              rw [hg5_0] at bB ⊢
              have HP_5 := Lib.hid (HP_4.out.trans hpX5)
              have HW_5 := Lib.hid (HW_4.out.to hpX5)
              have L_5 := Lib.hid (L_4.out.to hpX5)
              have X_5 := Lib.hid (X_4.out.to hpX5)
              have Y_5 := Lib.hid (Y_4.out.to hpX5)
              have Z_5 := Lib.hid (Z_4.out.to hpX5)
              have A_5 := Lib.hid (A_4.out.to hpX5)
              have B_5 := Lib.hid bB
              clear hX5 hpX5 hg5_0 bB HP_4 HW_4 L_4 X_4 Y_4 Z_4 A_4
              refine WQ.region (C := Pure X5) hmx (by kernel_rfl) ((Diff.refl _).drew) ?_
              iterate 10 (refine WQ.step (fun K hK => ?_); go_simp; first | refine hK _ ?_ | refine ⟨_, fun _ _ => rfl, hK _ ?_⟩; clear hK K)
              refine WQ.skipK (by rfl) (fun K hK => ?_); go_simp; refine hK _ ?_; clear hK K
              refine WQ.skipK (by rfl) (fun K hK => ?_); go_simp; refine hK _ ?_; clear hK K
              refine WQ.skipK (by rfl) (fun K hK => ?_); go_simp; refine hK _ ?_; clear hK K
              refine WQ.skipK (by rfl) (fun K hK => ?_); go_simp; refine hK _ ?_; clear hK K
              refine WQ.skipK (by rfl) (fun K hK => ?_); go_simp; refine hK _ ?_; clear hK K
              refine WQ.skipK (by rfl) (fun K hK => ?_); go_simp; refine hK _ ?_; clear hK K
              refine WQ.skipK (by rfl) (fun K hK => ?_); go_simp; refine hK _ ?_; clear hK K
              refine WQ.skipK (by rfl) (fun K hK => ?_); go_simp; refine hK _ ?_; clear hK K
              refine WQ.skipK (by rfl) (fun K hK => ?_); go_simp; refine hK _ ?_; clear hK K
              refine WQ.skipK (by rfl) (fun K hK => ?_); go_simp; refine hK _ ?_; clear hK K
              refine WQ.skipK (by rfl) (fun K hK => ?_); go_simp; refine hK _ ?_; clear hK K
              refine WQ.skipK (by rfl) (fun K hK => ?_); go_simp; refine hK _ ?_; clear hK K
              refine WQ.skipK (by rfl) (fun K hK => ?_); go_simp; refine hK _ ?_; clear hK K
              refine WQ.skipK (by rfl) (fun K hK => ?_); go_simp; refine hK _ ?_; clear hK K
              iterate 2 (refine WQ.step (fun K hK => ?_); go_simp; first | refine hK _ ?_ | refine ⟨_, fun _ _ => rfl, hK _ ?_⟩; clear hK K)
              refine WQ.nil ?_
              rintro V hV
              have HP_6 := Lib.hid (HP_5.out.trans hV)
              have HW_6 := Lib.hid (HW_5.out.to hV)
              have L_6 := Lib.hid (L_5.out.to hV)
              have X_6 := Lib.hid (X_5.out.to hV)
              have Y_6 := Lib.hid (Y_5.out.to hV)
              have Z_6 := Lib.hid (Z_5.out.to hV)
              have A_6 := Lib.hid (A_5.out.to hV)
              have B_6 := Lib.hid (B_5.out.to hV)
              clear hV HP_5 HW_5 L_5 X_5 Y_5 Z_5 A_5 B_5
              go_wp2_with fail
              refine (fine_any V (L.times mm) q3 c3 Z_6.out).mono ?_
              rintro e v7 ⟨rfl, hp⟩
              have HP_7 := Lib.hid (HP_6.out.trans hp)
              have HW_7 := Lib.hid (HW_6.out.to hp)
              have L_7 := Lib.hid (L_6.out.to hp)
              have X_7 := Lib.hid (X_6.out.to hp)
              have Y_7 := Lib.hid (Y_6.out.to hp)
              have Z_7 := Lib.hid (Z_6.out.to hp)
              have A_7 := Lib.hid (A_6.out.to hp)
              have B_7 := Lib.hid (B_6.out.to hp)
              clear hp  HP_6 HW_6 L_6 X_6 Y_6 Z_6 A_6 B_6
              cases hfz : fineB (L.times mm)
              · clear hfz
                go_wp2_with fail
                refine (Works_any v7 HW_7.out).mono ?_
                rintro e v8 ⟨rfl, hp⟩
                have HP_8 := Lib.hid (HP_7.out.trans hp)
                have HW_8 := Lib.hid (HW_7.out.to hp)
                have L_8 := Lib.hid (L_7.out.to hp)
                have X_8 := Lib.hid (X_7.out.to hp)
                have Y_8 := Lib.hid (Y_7.out.to hp)
                have Z_8 := Lib.hid (Z_7.out.to hp)
                have A_8 := Lib.hid (A_7.out.to hp)
                have B_8 := Lib.hid (B_7.out.to hp)
                clear hp  HP_7 HW_7 L_7 X_7 Y_7 Z_7 A_7 B_7
                go_wp2
                exact bodyPost_ret (v := .bool true) (by simp [results, Tryd.results12, go_sem]) rfl ⟨rfl, HP_8.out⟩
              · have HOKZ := Lib.hid (fineB_iff.1 hfz)
                clear hfz
                go_wp2_with fail
                refine (cheapest_any v7 (L.times mm) q3 c3 t HOKZ.out HSA.out Z_7.out HW_7.out).mono ?_
                rintro e v8 ⟨rfl, hp⟩
                have HP_8 := Lib.hid (HP_7.out.trans hp)
                have HW_8 := Lib.hid (HW_7.out.to hp)
                have L_8 := Lib.hid (L_7.out.to hp)
                have X_8 := Lib.hid (X_7.out.to hp)
                have Y_8 := Lib.hid (Y_7.out.to hp)
                have Z_8 := Lib.hid (Z_7.out.to hp)
                have A_8 := Lib.hid (A_7.out.to hp)
                have B_8 := Lib.hid (B_7.out.to hp)
                clear hp  HP_7 HW_7 L_7 X_7 Y_7 Z_7 A_7 B_7
                obtain ⟨z1, hz1⟩ : ∃ zz, (cheapP (L.times mm) t).1 = zz := ⟨_, rfl⟩
                obtain ⟨z2, hz2⟩ : ∃ zz, (cheapP (L.times mm) t).2 = zz := ⟨_, rfl⟩
                obtain ⟨i3, hi3⟩ : ∃ zz, (cheapE (L.times mm) t == 0) = zz := ⟨_, rfl⟩
                have HNZ : Hid (cheapP (L.times mm) t = (z1, z2) ∧ (cheapE (L.times mm) t == 0) = i3) := ⟨by rw [← hz1, ← hz2], hi3⟩
                rw [hz1, hz2, hi3]
                clear hz1 hz2 hi3
                obtain ⟨rfl, hz⟩ := dear_z HOK.out (show 0 < mm by have := HM4.out; omega) HOKZ.out HSA.out HNA.out.1 HNZ.out.1 HNA.out.2 HNZ.out.2
                clear hz
                go_wp2_with fail
                obtain ⟨X9, hX9⟩ : ∃ V : World, v8.alloc (Obj.cells #[Value.int IntKind.i64 z1, Value.int IntKind.i64 z2] 29) = V := ⟨_, rfl⟩
                have hpX9 : Pure v8 X9 := by rw [← hX9]; exact ((Diff.refl v8).alloc _)
                have bC : Blk (v8.heap.size) 29 #[Value.int IntKind.i64 z1, Value.int IntKind.i64 z2] X9 := by rw [← hX9]; exact (blk0 v8 29 _)
                rw [hX9]
                obtain ⟨g9_0, hg9_0⟩ : ∃ g, v8.heap.size = g := ⟨_, rfl⟩
                rw [hg9_0] at bC ⊢
                have HP_9 := Lib.hid (HP_8.out.trans hpX9)
                have HW_9 := Lib.hid (HW_8.out.to hpX9)
                have L_9 := Lib.hid (L_8.out.to hpX9)
                have X_9 := Lib.hid (X_8.out.to hpX9)
                have Y_9 := Lib.hid (Y_8.out.to hpX9)
                have Z_9 := Lib.hid (Z_8.out.to hpX9)
                have A_9 := Lib.hid (A_8.out.to hpX9)
                have B_9 := Lib.hid (B_8.out.to hpX9)
                have C_9 := Lib.hid bC
                clear hX9 hpX9 hg9_0 bC HP_8 HW_8 L_8 X_8 Y_8 Z_8 A_8 B_8
                refine WQ.region (C := Pure X9) hmx (by kernel_rfl) ((Diff.refl _).drew) ?_
                iterate 10 (refine WQ.step (fun K hK => ?_); go_simp; first | refine hK _ ?_ | refine ⟨_, fun _ _ => rfl, hK _ ?_⟩; clear hK K)
                refine WQ.skipK (by rfl) (fun K hK => ?_); go_simp; refine hK _ ?_; clear hK K
                refine WQ.skipK (by rfl) (fun K hK => ?_); go_simp; refine hK _ ?_; clear hK K
                refine WQ.skipK (by rfl) (fun K hK => ?_); go_simp; refine hK _ ?_; clear hK K
                refine WQ.skipK (by rfl) (fun K hK => ?_); go_simp; refine hK _ ?_; clear hK K
                refine WQ.skipK (by rfl) (fun K hK => ?_); go_simp; refine hK _ ?_; clear hK K
                refine WQ.skipK (by rfl) (fun K hK => ?_); go_simp; refine hK _ ?_; clear hK K
                refine WQ.skipK (by rfl) (fun K hK => ?_); go_simp; refine hK _ ?_; clear hK K
                refine WQ.skipK (by rfl) (fun K hK => ?_); go_simp; refine hK _ ?_; clear hK K
                refine WQ.skipK (by rfl) (fun K hK => ?_); go_simp; refine hK _ ?_; clear hK K
                iterate 3 (refine WQ.step (fun K hK => ?_); go_simp; first | refine hK _ ?_ | refine ⟨_, fun _ _ => rfl, hK _ ?_⟩; clear hK K)
                refine WQ.call (by rfl) 17 #[] (.bool true) (fun V => by unfold execOp; simp [go_sem]) (fun V hV => (Works_any V (HW_9.out.to hV)).mono fun e V2 h => ⟨h.1, hV.trans h.2⟩) ?_
                iterate 2 (refine WQ.step (fun K hK => ?_); go_simp; first | refine hK _ ?_ | refine ⟨_, fun _ _ => rfl, hK _ ?_⟩; clear hK K)
                refine WQ.nil ?_
                rintro V hV
                have HPE := Lib.hid hV
                clear hV
                go_wp2
                exact bodyPost_ret (v := .bool true) (by simp [results, Tryd.results12, go_sem]) rfl ⟨rfl, HP_9.out.trans HPE.out⟩
          · by_cases htd : t + d ≤ 100
            · have HOKX := Lib.hid (fineB_iff.1 hfx)
              clear hfx
              go_wp2_with fail
              refine (cheapest_any v2 (L.sharper d) q1 c1 (t + d) HOKX.out ⟨by have := HSA.out; have := HD.out; omega, htd⟩ X_2.out HW_2.out).mono ?_
              rintro e v3 ⟨rfl, hp⟩
              have HP_3 := Lib.hid (HP_2.out.trans hp)
              have HW_3 := Lib.hid (HW_2.out.to hp)
              have L_3 := Lib.hid (L_2.out.to hp)
              have X_3 := Lib.hid (X_2.out.to hp)
              have Y_3 := Lib.hid (Y_2.out.to hp)
              have Z_3 := Lib.hid (Z_2.out.to hp)
              have A_3 := Lib.hid (A_2.out.to hp)
              clear hp  HP_2 HW_2 L_2 X_2 Y_2 Z_2 A_2
              have hsh := sharper_facts HOK.out HSA.out HD.out.1 HOKX.out htd
              rw [hsh.1, hsh.2, HNA.out.1, HNA.out.2]
              clear hsh
              have k0 := A_3.out.at 0
              have k1 := A_3.out.at 1
              have kl := A_3.out.lt
              go_wp2_with fail
              clear k0 k1 kl
              obtain ⟨X4, hX4⟩ : ∃ V : World, v3.alloc (Obj.cells #[Value.int IntKind.i64 x1, Value.int IntKind.i64 x2] 29) = V := ⟨_, rfl⟩
              have hpX4 : Pure v3 X4 := by rw [← hX4]; exact ((Diff.refl v3).alloc _)
              have bX2 : Blk (v3.heap.size) 29 #[Value.int IntKind.i64 x1, Value.int IntKind.i64 x2] X4 := by rw [← hX4]; exact (blk0 v3 29 _)
              rw [hX4]
              obtain ⟨g4_0, hg4_0⟩ : ∃ g, v3.heap.size = g := ⟨_, rfl⟩
              rw [hg4_0] at bX2 ⊢
              have HP_4 := Lib.hid (HP_3.out.trans hpX4)
              have HW_4 := Lib.hid (HW_3.out.to hpX4)
              have L_4 := Lib.hid (L_3.out.to hpX4)
              have X_4 := Lib.hid (X_3.out.to hpX4)
              have Y_4 := Lib.hid (Y_3.out.to hpX4)
              have Z_4 := Lib.hid (Z_3.out.to hpX4)
              have A_4 := Lib.hid (A_3.out.to hpX4)
              have X2_4 := Lib.hid bX2
              clear hX4 hpX4 hg4_0 bX2 HP_3 HW_3 L_3 X_3 Y_3 Z_3 A_3
              have k0 := A_4.out.at 0
              have k1 := A_4.out.at 1
              have kl := A_4.out.lt
              have l0 := X2_4.out.at 0
              have l1 := X2_4.out.at 1
              have ll := X2_4.out.lt
              go_wp2_with fail
              clear k0 k1 kl
              clear l0 l1 ll
              refine (fine_any X4 (L.dearer ee) q2 c2 Y_4.out).mono ?_
              rintro e v5 ⟨rfl, hp⟩
              have HP_5 := Lib.hid (HP_4.out.trans hp)
              have HW_5 := Lib.hid (HW_4.out.to hp)
              have L_5 := Lib.hid (L_4.out.to hp)
              have X_5 := Lib.hid (X_4.out.to hp)
              have Y_5 := Lib.hid (Y_4.out.to hp)
              have Z_5 := Lib.hid (Z_4.out.to hp)
              have A_5 := Lib.hid (A_4.out.to hp)
              have X2_5 := Lib.hid (X2_4.out.to hp)
              clear hp  HP_4 HW_4 L_4 X_4 Y_4 Z_4 A_4 X2_4
              cases hfy : fineB (L.dearer ee)
              · clear hfy
                go_wp2_with fail
                refine (fine_any v5 (L.times mm) q3 c3 Z_5.out).mono ?_
                rintro e v6 ⟨rfl, hp⟩
                have HP_6 := Lib.hid (HP_5.out.trans hp)
                have HW_6 := Lib.hid (HW_5.out.to hp)
                have L_6 := Lib.hid (L_5.out.to hp)
                have X_6 := Lib.hid (X_5.out.to hp)
                have Y_6 := Lib.hid (Y_5.out.to hp)
                have Z_6 := Lib.hid (Z_5.out.to hp)
                have A_6 := Lib.hid (A_5.out.to hp)
                have X2_6 := Lib.hid (X2_5.out.to hp)
                clear hp  HP_5 HW_5 L_5 X_5 Y_5 Z_5 A_5 X2_5
                cases hfz : fineB (L.times mm)
                · clear hfz
                  go_wp2_with fail
                  refine (Works_any v6 HW_6.out).mono ?_
                  rintro e v7 ⟨rfl, hp⟩
                  have HP_7 := Lib.hid (HP_6.out.trans hp)
                  have HW_7 := Lib.hid (HW_6.out.to hp)
                  have L_7 := Lib.hid (L_6.out.to hp)
                  have X_7 := Lib.hid (X_6.out.to hp)
                  have Y_7 := Lib.hid (Y_6.out.to hp)
                  have Z_7 := Lib.hid (Z_6.out.to hp)
                  have A_7 := Lib.hid (A_6.out.to hp)
                  have X2_7 := Lib.hid (X2_6.out.to hp)
                  clear hp  HP_6 HW_6 L_6 X_6 Y_6 Z_6 A_6 X2_6
                  go_wp2
                  exact bodyPost_ret (v := .bool true) (by simp [results, Tryd.results12, go_sem]) rfl ⟨rfl, HP_7.out⟩
                · have HOKZ := Lib.hid (fineB_iff.1 hfz)
                  clear hfz
                  go_wp2_with fail
                  refine (cheapest_any v6 (L.times mm) q3 c3 t HOKZ.out HSA.out Z_6.out HW_6.out).mono ?_
                  rintro e v7 ⟨rfl, hp⟩
                  have HP_7 := Lib.hid (HP_6.out.trans hp)
                  have HW_7 := Lib.hid (HW_6.out.to hp)
                  have L_7 := Lib.hid (L_6.out.to hp)
                  have X_7 := Lib.hid (X_6.out.to hp)
                  have Y_7 := Lib.hid (Y_6.out.to hp)
                  have Z_7 := Lib.hid (Z_6.out.to hp)
                  have A_7 := Lib.hid (A_6.out.to hp)
                  have X2_7 := Lib.hid (X2_6.out.to hp)
                  clear hp  HP_6 HW_6 L_6 X_6 Y_6 Z_6 A_6 X2_6
                  obtain ⟨z1, hz1⟩ : ∃ zz, (cheapP (L.times mm) t).1 = zz := ⟨_, rfl⟩
                  obtain ⟨z2, hz2⟩ : ∃ zz, (cheapP (L.times mm) t).2 = zz := ⟨_, rfl⟩
                  obtain ⟨i3, hi3⟩ : ∃ zz, (cheapE (L.times mm) t == 0) = zz := ⟨_, rfl⟩
                  have HNZ : Hid (cheapP (L.times mm) t = (z1, z2) ∧ (cheapE (L.times mm) t == 0) = i3) := ⟨by rw [← hz1, ← hz2], hi3⟩
                  rw [hz1, hz2, hi3]
                  clear hz1 hz2 hi3
                  obtain ⟨rfl, hz⟩ := dear_z HOK.out (show 0 < mm by have := HM4.out; omega) HOKZ.out HSA.out HNA.out.1 HNZ.out.1 HNA.out.2 HNZ.out.2
                  clear hz
                  go_wp2_with fail
                  obtain ⟨X8, hX8⟩ : ∃ V : World, v7.alloc (Obj.cells #[Value.int IntKind.i64 z1, Value.int IntKind.i64 z2] 29) = V := ⟨_, rfl⟩
                  have hpX8 : Pure v7 X8 := by rw [← hX8]; exact ((Diff.refl v7).alloc _)
                  have bC : Blk (v7.heap.size) 29 #[Value.int IntKind.i64 z1, Value.int IntKind.i64 z2] X8 := by rw [← hX8]; exact (blk0 v7 29 _)
                  rw [hX8]
                  obtain ⟨g8_0, hg8_0⟩ : ∃ g, v7.heap.size = g := ⟨_, rfl⟩
                  rw [hg8_0] at bC ⊢
                  have HP_8 := Lib.hid (HP_7.out.trans hpX8)
                  have HW_8 := Lib.hid (HW_7.out.to hpX8)
                  have L_8 := Lib.hid (L_7.out.to hpX8)
                  have X_8 := Lib.hid (X_7.out.to hpX8)
                  have Y_8 := Lib.hid (Y_7.out.to hpX8)
                  have Z_8 := Lib.hid (Z_7.out.to hpX8)
                  have A_8 := Lib.hid (A_7.out.to hpX8)
                  have X2_8 := Lib.hid (X2_7.out.to hpX8)
                  have C_8 := Lib.hid bC
                  clear hX8 hpX8 hg8_0 bC HP_7 HW_7 L_7 X_7 Y_7 Z_7 A_7 X2_7
                  refine WQ.region (C := Pure X8) hmx (by kernel_rfl) ((Diff.refl _).drew) ?_
                  iterate 10 (refine WQ.step (fun K hK => ?_); go_simp; first | refine hK _ ?_ | refine ⟨_, fun _ _ => rfl, hK _ ?_⟩; clear hK K)
                  refine WQ.skipK (by rfl) (fun K hK => ?_); go_simp; refine hK _ ?_; clear hK K
                  refine WQ.skipK (by rfl) (fun K hK => ?_); go_simp; refine hK _ ?_; clear hK K
                  refine WQ.skipK (by rfl) (fun K hK => ?_); go_simp; refine hK _ ?_; clear hK K
                  refine WQ.skipK (by rfl) (fun K hK => ?_); go_simp; refine hK _ ?_; clear hK K
                  refine WQ.skipK (by rfl) (fun K hK => ?_); go_simp; refine hK _ ?_; clear hK K
                  refine WQ.skipK (by rfl) (fun K hK => ?_); go_simp; refine hK _ ?_; clear hK K
                  refine WQ.skipK (by rfl) (fun K hK => ?_); go_simp; refine hK _ ?_; clear hK K
                  refine WQ.skipK (by rfl) (fun K hK => ?_); go_simp; refine hK _ ?_; clear hK K
                  refine WQ.skipK (by rfl) (fun K hK => ?_); go_simp; refine hK _ ?_; clear hK K
                  iterate 3 (refine WQ.step (fun K hK => ?_); go_simp; first | refine hK _ ?_ | refine ⟨_, fun _ _ => rfl, hK _ ?_⟩; clear hK K)
                  refine WQ.call (by rfl) 17 #[] (.bool true) (fun V => by unfold execOp; simp [go_sem]) (fun V hV => (Works_any V (HW_8.out.to hV)).mono fun e V2 h => ⟨h.1, hV.trans h.2⟩) ?_
                  iterate 2 (refine WQ.step (fun K hK => ?_); go_simp; first | refine hK _ ?_ | refine ⟨_, fun _ _ => rfl, hK _ ?_⟩; clear hK K)
                  refine WQ.nil ?_
                  rintro V hV
                  have HPE := Lib.hid hV
                  clear hV
                  go_wp2
                  exact bodyPost_ret (v := .bool true) (by simp [results, Tryd.results12, go_sem]) rfl ⟨rfl, HP_8.out.trans HPE.out⟩
              · have HOKY := Lib.hid (fineB_iff.1 hfy)
                clear hfy
                go_wp2_with fail
                refine (cheapest_any v5 (L.dearer ee) q2 c2 t HOKY.out HSA.out Y_5.out HW_5.out).mono ?_
                rintro e v6 ⟨rfl, hp⟩
                have HP_6 := Lib.hid (HP_5.out.trans hp)
                have HW_6 := Lib.hid (HW_5.out.to hp)
                have L_6 := Lib.hid (L_5.out.to hp)
                have X_6 := Lib.hid (X_5.out.to hp)
                have Y_6 := Lib.hid (Y_5.out.to hp)
                have Z_6 := Lib.hid (Z_5.out.to hp)
                have A_6 := Lib.hid (A_5.out.to hp)
                have X2_6 := Lib.hid (X2_5.out.to hp)
                clear hp  HP_5 HW_5 L_5 X_5 Y_5 Z_5 A_5 X2_5
                obtain ⟨y1, hy1⟩ : ∃ zz, (cheapP (L.dearer ee) t).1 = zz := ⟨_, rfl⟩
                obtain ⟨y2, hy2⟩ : ∃ zz, (cheapP (L.dearer ee) t).2 = zz := ⟨_, rfl⟩
                obtain ⟨i2, hi2⟩ : ∃ zz, (cheapE (L.dearer ee) t == 0) = zz := ⟨_, rfl⟩
                have HNY : Hid (cheapP (L.dearer ee) t = (y1, y2) ∧ (cheapE (L.dearer ee) t == 0) = i2) := ⟨by rw [← hy1, ← hy2], hi2⟩
                rw [hy1, hy2, hi2]
                clear hy1 hy2 hi2
                obtain ⟨rfl, hz⟩ := dear_y HOK.out HOKY.out HSA.out HNA.out.1 HNY.out.1 HNA.out.2 HNY.out.2
                clear hz
                go_wp2_with fail
                obtain ⟨X7, hX7⟩ : ∃ V : World, v6.alloc (Obj.cells #[Value.int IntKind.i64 y1, Value.int IntKind.i64 y2] 29) = V := ⟨_, rfl⟩
                have hpX7 : Pure v6 X7 := by rw [← hX7]; exact ((Diff.refl v6).alloc _)
                have bB : Blk (v6.heap.size) 29 #[Value.int IntKind.i64 y1, Value.int IntKind.i64 y2] X7 := by rw [← hX7]; exact (blk0 v6 29 _)
                rw [hX7]
                obtain ⟨g7_0, hg7_0⟩ : ∃ g, v6.heap.size = g := ⟨_, rfl⟩
                rw [hg7_0] at bB ⊢
                have HP_7 := Lib.hid (HP_6.out.trans hpX7)
                have HW_7 := Lib.hid (HW_6.out.to hpX7)
                have L_7 := Lib.hid (L_6.out.to hpX7)
                have X_7 := Lib.hid (X_6.out.to hpX7)
                have Y_7 := Lib.hid (Y_6.out.to hpX7)
                have Z_7 := Lib.hid (Z_6.out.to hpX7)
                have A_7 := Lib.hid (A_6.out.to hpX7)
                have X2_7 := Lib.hid (X2_6.out.to hpX7)
                have B_7 := Lib.hid bB
                clear hX7 hpX7 hg7_0 bB HP_6 HW_6 L_6 X_6 Y_6 Z_6 A_6 X2_6
                refine WQ.region (C := Pure X7) hmx (by kernel_rfl) ((Diff.refl _).drew) ?_
                iterate 10 (refine WQ.step (fun K hK => ?_); go_simp; first | refine hK _ ?_ | refine ⟨_, fun _ _ => rfl, hK _ ?_⟩; clear hK K)
                refine WQ.skipK (by rfl) (fun K hK => ?_); go_simp; refine hK _ ?_; clear hK K
                refine WQ.skipK (by rfl) (fun K hK => ?_); go_simp; refine hK _ ?_; clear hK K
                refine WQ.skipK (by rfl) (fun K hK => ?_); go_simp; refine hK _ ?_; clear hK K
                refine WQ.skipK (by rfl) (fun K hK => ?_); go_simp; refine hK _ ?_; clear hK K
                refine WQ.skipK (by rfl) (fun K hK => ?_); go_simp; refine hK _ ?_; clear hK K
                refine WQ.skipK (by rfl) (fun K hK => ?_); go_simp; refine hK _ ?_; clear hK K
                refine WQ.skipK (by rfl) (fun K hK => ?_); go_simp; refine hK _ ?_; clear hK K
                refine WQ.skipK (by rfl) (fun K hK => ?_); go_simp; refine hK _ ?_; clear hK K
                refine WQ.skipK (by rfl) (fun K hK => ?_); go_simp; refine hK _ ?_; clear hK K
                refine WQ.skipK (by rfl) (fun K hK => ?_); go_simp; refine hK _ ?_; clear hK K
                refine WQ.skipK (by rfl) (fun K hK => ?_); go_simp; refine hK _ ?_; clear hK K
                refine WQ.skipK (by rfl) (fun K hK => ?_); go_simp; refine hK _ ?_; clear hK K
                refine WQ.skipK (by rfl) (fun K hK => ?_); go_simp; refine hK _ ?_; clear hK K
                refine WQ.skipK (by rfl) (fun K hK => ?_); go_simp; refine hK _ ?_; clear hK K
                iterate 2 (refine WQ.step (fun K hK => ?_); go_simp; first | refine hK _ ?_ | refine ⟨_, fun _ _ => rfl, hK _ ?_⟩; clear hK K)
                refine WQ.nil ?_
                rintro V hV
                have HP_8 := Lib.hid (HP_7.out.trans hV)
                have HW_8 := Lib.hid (HW_7.out.to hV)
                have L_8 := Lib.hid (L_7.out.to hV)
                have X_8 := Lib.hid (X_7.out.to hV)
                have Y_8 := Lib.hid (Y_7.out.to hV)
                have Z_8 := Lib.hid (Z_7.out.to hV)
                have A_8 := Lib.hid (A_7.out.to hV)
                have X2_8 := Lib.hid (X2_7.out.to hV)
                have B_8 := Lib.hid (B_7.out.to hV)
                clear hV HP_7 HW_7 L_7 X_7 Y_7 Z_7 A_7 X2_7 B_7
                go_wp2_with fail
                refine (fine_any V (L.times mm) q3 c3 Z_8.out).mono ?_
                rintro e v9 ⟨rfl, hp⟩
                have HP_9 := Lib.hid (HP_8.out.trans hp)
                have HW_9 := Lib.hid (HW_8.out.to hp)
                have L_9 := Lib.hid (L_8.out.to hp)
                have X_9 := Lib.hid (X_8.out.to hp)
                have Y_9 := Lib.hid (Y_8.out.to hp)
                have Z_9 := Lib.hid (Z_8.out.to hp)
                have A_9 := Lib.hid (A_8.out.to hp)
                have X2_9 := Lib.hid (X2_8.out.to hp)
                have B_9 := Lib.hid (B_8.out.to hp)
                clear hp  HP_8 HW_8 L_8 X_8 Y_8 Z_8 A_8 X2_8 B_8
                cases hfz : fineB (L.times mm)
                · clear hfz
                  go_wp2_with fail
                  refine (Works_any v9 HW_9.out).mono ?_
                  rintro e v10 ⟨rfl, hp⟩
                  have HP_10 := Lib.hid (HP_9.out.trans hp)
                  have HW_10 := Lib.hid (HW_9.out.to hp)
                  have L_10 := Lib.hid (L_9.out.to hp)
                  have X_10 := Lib.hid (X_9.out.to hp)
                  have Y_10 := Lib.hid (Y_9.out.to hp)
                  have Z_10 := Lib.hid (Z_9.out.to hp)
                  have A_10 := Lib.hid (A_9.out.to hp)
                  have X2_10 := Lib.hid (X2_9.out.to hp)
                  have B_10 := Lib.hid (B_9.out.to hp)
                  clear hp  HP_9 HW_9 L_9 X_9 Y_9 Z_9 A_9 X2_9 B_9
                  go_wp2
                  exact bodyPost_ret (v := .bool true) (by simp [results, Tryd.results12, go_sem]) rfl ⟨rfl, HP_10.out⟩
                · have HOKZ := Lib.hid (fineB_iff.1 hfz)
                  clear hfz
                  go_wp2_with fail
                  refine (cheapest_any v9 (L.times mm) q3 c3 t HOKZ.out HSA.out Z_9.out HW_9.out).mono ?_
                  rintro e v10 ⟨rfl, hp⟩
                  have HP_10 := Lib.hid (HP_9.out.trans hp)
                  have HW_10 := Lib.hid (HW_9.out.to hp)
                  have L_10 := Lib.hid (L_9.out.to hp)
                  have X_10 := Lib.hid (X_9.out.to hp)
                  have Y_10 := Lib.hid (Y_9.out.to hp)
                  have Z_10 := Lib.hid (Z_9.out.to hp)
                  have A_10 := Lib.hid (A_9.out.to hp)
                  have X2_10 := Lib.hid (X2_9.out.to hp)
                  have B_10 := Lib.hid (B_9.out.to hp)
                  clear hp  HP_9 HW_9 L_9 X_9 Y_9 Z_9 A_9 X2_9 B_9
                  obtain ⟨z1, hz1⟩ : ∃ zz, (cheapP (L.times mm) t).1 = zz := ⟨_, rfl⟩
                  obtain ⟨z2, hz2⟩ : ∃ zz, (cheapP (L.times mm) t).2 = zz := ⟨_, rfl⟩
                  obtain ⟨i3, hi3⟩ : ∃ zz, (cheapE (L.times mm) t == 0) = zz := ⟨_, rfl⟩
                  have HNZ : Hid (cheapP (L.times mm) t = (z1, z2) ∧ (cheapE (L.times mm) t == 0) = i3) := ⟨by rw [← hz1, ← hz2], hi3⟩
                  rw [hz1, hz2, hi3]
                  clear hz1 hz2 hi3
                  obtain ⟨rfl, hz⟩ := dear_z HOK.out (show 0 < mm by have := HM4.out; omega) HOKZ.out HSA.out HNA.out.1 HNZ.out.1 HNA.out.2 HNZ.out.2
                  clear hz
                  go_wp2_with fail
                  obtain ⟨X11, hX11⟩ : ∃ V : World, v10.alloc (Obj.cells #[Value.int IntKind.i64 z1, Value.int IntKind.i64 z2] 29) = V := ⟨_, rfl⟩
                  have hpX11 : Pure v10 X11 := by rw [← hX11]; exact ((Diff.refl v10).alloc _)
                  have bC : Blk (v10.heap.size) 29 #[Value.int IntKind.i64 z1, Value.int IntKind.i64 z2] X11 := by rw [← hX11]; exact (blk0 v10 29 _)
                  rw [hX11]
                  obtain ⟨g11_0, hg11_0⟩ : ∃ g, v10.heap.size = g := ⟨_, rfl⟩
                  rw [hg11_0] at bC ⊢
                  have HP_11 := Lib.hid (HP_10.out.trans hpX11)
                  have HW_11 := Lib.hid (HW_10.out.to hpX11)
                  have L_11 := Lib.hid (L_10.out.to hpX11)
                  have X_11 := Lib.hid (X_10.out.to hpX11)
                  have Y_11 := Lib.hid (Y_10.out.to hpX11)
                  have Z_11 := Lib.hid (Z_10.out.to hpX11)
                  have A_11 := Lib.hid (A_10.out.to hpX11)
                  have X2_11 := Lib.hid (X2_10.out.to hpX11)
                  have B_11 := Lib.hid (B_10.out.to hpX11)
                  have C_11 := Lib.hid bC
                  clear hX11 hpX11 hg11_0 bC HP_10 HW_10 L_10 X_10 Y_10 Z_10 A_10 X2_10 B_10
                  refine WQ.region (C := Pure X11) hmx (by kernel_rfl) ((Diff.refl _).drew) ?_
                  iterate 10 (refine WQ.step (fun K hK => ?_); go_simp; first | refine hK _ ?_ | refine ⟨_, fun _ _ => rfl, hK _ ?_⟩; clear hK K)
                  refine WQ.skipK (by rfl) (fun K hK => ?_); go_simp; refine hK _ ?_; clear hK K
                  refine WQ.skipK (by rfl) (fun K hK => ?_); go_simp; refine hK _ ?_; clear hK K
                  refine WQ.skipK (by rfl) (fun K hK => ?_); go_simp; refine hK _ ?_; clear hK K
                  refine WQ.skipK (by rfl) (fun K hK => ?_); go_simp; refine hK _ ?_; clear hK K
                  refine WQ.skipK (by rfl) (fun K hK => ?_); go_simp; refine hK _ ?_; clear hK K
                  refine WQ.skipK (by rfl) (fun K hK => ?_); go_simp; refine hK _ ?_; clear hK K
                  refine WQ.skipK (by rfl) (fun K hK => ?_); go_simp; refine hK _ ?_; clear hK K
                  refine WQ.skipK (by rfl) (fun K hK => ?_); go_simp; refine hK _ ?_; clear hK K
                  refine WQ.skipK (by rfl) (fun K hK => ?_); go_simp; refine hK _ ?_; clear hK K
                  iterate 3 (refine WQ.step (fun K hK => ?_); go_simp; first | refine hK _ ?_ | refine ⟨_, fun _ _ => rfl, hK _ ?_⟩; clear hK K)
                  refine WQ.call (by rfl) 17 #[] (.bool true) (fun V => by unfold execOp; simp [go_sem]) (fun V hV => (Works_any V (HW_11.out.to hV)).mono fun e V2 h => ⟨h.1, hV.trans h.2⟩) ?_
                  iterate 2 (refine WQ.step (fun K hK => ?_); go_simp; first | refine hK _ ?_ | refine ⟨_, fun _ _ => rfl, hK _ ?_⟩; clear hK K)
                  refine WQ.nil ?_
                  rintro V hV
                  have HPE := Lib.hid hV
                  clear hV
                  go_wp2
                  exact bodyPost_ret (v := .bool true) (by simp [results, Tryd.results12, go_sem]) rfl ⟨rfl, HP_11.out.trans HPE.out⟩
            · clear hfx
              go_wp2_with fail
              refine (fine_any v2 (L.dearer ee) q2 c2 Y_2.out).mono ?_
              rintro e v3 ⟨rfl, hp⟩
              have HP_3 := Lib.hid (HP_2.out.trans hp)
              have HW_3 := Lib.hid (HW_2.out.to hp)
              have L_3 := Lib.hid (L_2.out.to hp)
              have X_3 := Lib.hid (X_2.out.to hp)
              have Y_3 := Lib.hid (Y_2.out.to hp)
              have Z_3 := Lib.hid (Z_2.out.to hp)
              have A_3 := Lib.hid (A_2.out.to hp)
              clear hp  HP_2 HW_2 L_2 X_2 Y_2 Z_2 A_2
              cases hfy : fineB (L.dearer ee)
              · clear hfy
                go_wp2_with fail
                refine (fine_any v3 (L.times mm) q3 c3 Z_3.out).mono ?_
                rintro e v4 ⟨rfl, hp⟩
                have HP_4 := Lib.hid (HP_3.out.trans hp)
                have HW_4 := Lib.hid (HW_3.out.to hp)
                have L_4 := Lib.hid (L_3.out.to hp)
                have X_4 := Lib.hid (X_3.out.to hp)
                have Y_4 := Lib.hid (Y_3.out.to hp)
                have Z_4 := Lib.hid (Z_3.out.to hp)
                have A_4 := Lib.hid (A_3.out.to hp)
                clear hp  HP_3 HW_3 L_3 X_3 Y_3 Z_3 A_3
                cases hfz : fineB (L.times mm)
                · clear hfz
                  go_wp2_with fail
                  refine (Works_any v4 HW_4.out).mono ?_
                  rintro e v5 ⟨rfl, hp⟩
                  have HP_5 := Lib.hid (HP_4.out.trans hp)
                  have HW_5 := Lib.hid (HW_4.out.to hp)
                  have L_5 := Lib.hid (L_4.out.to hp)
                  have X_5 := Lib.hid (X_4.out.to hp)
                  have Y_5 := Lib.hid (Y_4.out.to hp)
                  have Z_5 := Lib.hid (Z_4.out.to hp)
                  have A_5 := Lib.hid (A_4.out.to hp)
                  clear hp  HP_4 HW_4 L_4 X_4 Y_4 Z_4 A_4
                  go_wp2
                  exact bodyPost_ret (v := .bool true) (by simp [results, Tryd.results12, go_sem]) rfl ⟨rfl, HP_5.out⟩
                · have HOKZ := Lib.hid (fineB_iff.1 hfz)
                  clear hfz
                  go_wp2_with fail
                  refine (cheapest_any v4 (L.times mm) q3 c3 t HOKZ.out HSA.out Z_4.out HW_4.out).mono ?_
                  rintro e v5 ⟨rfl, hp⟩
                  have HP_5 := Lib.hid (HP_4.out.trans hp)
                  have HW_5 := Lib.hid (HW_4.out.to hp)
                  have L_5 := Lib.hid (L_4.out.to hp)
                  have X_5 := Lib.hid (X_4.out.to hp)
                  have Y_5 := Lib.hid (Y_4.out.to hp)
                  have Z_5 := Lib.hid (Z_4.out.to hp)
                  have A_5 := Lib.hid (A_4.out.to hp)
                  clear hp  HP_4 HW_4 L_4 X_4 Y_4 Z_4 A_4
                  obtain ⟨z1, hz1⟩ : ∃ zz, (cheapP (L.times mm) t).1 = zz := ⟨_, rfl⟩
                  obtain ⟨z2, hz2⟩ : ∃ zz, (cheapP (L.times mm) t).2 = zz := ⟨_, rfl⟩
                  obtain ⟨i3, hi3⟩ : ∃ zz, (cheapE (L.times mm) t == 0) = zz := ⟨_, rfl⟩
                  have HNZ : Hid (cheapP (L.times mm) t = (z1, z2) ∧ (cheapE (L.times mm) t == 0) = i3) := ⟨by rw [← hz1, ← hz2], hi3⟩
                  rw [hz1, hz2, hi3]
                  clear hz1 hz2 hi3
                  obtain ⟨rfl, hz⟩ := dear_z HOK.out (show 0 < mm by have := HM4.out; omega) HOKZ.out HSA.out HNA.out.1 HNZ.out.1 HNA.out.2 HNZ.out.2
                  clear hz
                  go_wp2_with fail
                  obtain ⟨X6, hX6⟩ : ∃ V : World, v5.alloc (Obj.cells #[Value.int IntKind.i64 z1, Value.int IntKind.i64 z2] 29) = V := ⟨_, rfl⟩
                  have hpX6 : Pure v5 X6 := by rw [← hX6]; exact ((Diff.refl v5).alloc _)
                  have bC : Blk (v5.heap.size) 29 #[Value.int IntKind.i64 z1, Value.int IntKind.i64 z2] X6 := by rw [← hX6]; exact (blk0 v5 29 _)
                  rw [hX6]
                  obtain ⟨g6_0, hg6_0⟩ : ∃ g, v5.heap.size = g := ⟨_, rfl⟩
                  rw [hg6_0] at bC ⊢
                  have HP_6 := Lib.hid (HP_5.out.trans hpX6)
                  have HW_6 := Lib.hid (HW_5.out.to hpX6)
                  have L_6 := Lib.hid (L_5.out.to hpX6)
                  have X_6 := Lib.hid (X_5.out.to hpX6)
                  have Y_6 := Lib.hid (Y_5.out.to hpX6)
                  have Z_6 := Lib.hid (Z_5.out.to hpX6)
                  have A_6 := Lib.hid (A_5.out.to hpX6)
                  have C_6 := Lib.hid bC
                  clear hX6 hpX6 hg6_0 bC HP_5 HW_5 L_5 X_5 Y_5 Z_5 A_5
                  refine WQ.region (C := Pure X6) hmx (by kernel_rfl) ((Diff.refl _).drew) ?_
                  iterate 10 (refine WQ.step (fun K hK => ?_); go_simp; first | refine hK _ ?_ | refine ⟨_, fun _ _ => rfl, hK _ ?_⟩; clear hK K)
                  refine WQ.skipK (by rfl) (fun K hK => ?_); go_simp; refine hK _ ?_; clear hK K
                  refine WQ.skipK (by rfl) (fun K hK => ?_); go_simp; refine hK _ ?_; clear hK K
                  refine WQ.skipK (by rfl) (fun K hK => ?_); go_simp; refine hK _ ?_; clear hK K
                  refine WQ.skipK (by rfl) (fun K hK => ?_); go_simp; refine hK _ ?_; clear hK K
                  refine WQ.skipK (by rfl) (fun K hK => ?_); go_simp; refine hK _ ?_; clear hK K
                  refine WQ.skipK (by rfl) (fun K hK => ?_); go_simp; refine hK _ ?_; clear hK K
                  refine WQ.skipK (by rfl) (fun K hK => ?_); go_simp; refine hK _ ?_; clear hK K
                  refine WQ.skipK (by rfl) (fun K hK => ?_); go_simp; refine hK _ ?_; clear hK K
                  refine WQ.skipK (by rfl) (fun K hK => ?_); go_simp; refine hK _ ?_; clear hK K
                  iterate 3 (refine WQ.step (fun K hK => ?_); go_simp; first | refine hK _ ?_ | refine ⟨_, fun _ _ => rfl, hK _ ?_⟩; clear hK K)
                  refine WQ.call (by rfl) 17 #[] (.bool true) (fun V => by unfold execOp; simp [go_sem]) (fun V hV => (Works_any V (HW_6.out.to hV)).mono fun e V2 h => ⟨h.1, hV.trans h.2⟩) ?_
                  iterate 2 (refine WQ.step (fun K hK => ?_); go_simp; first | refine hK _ ?_ | refine ⟨_, fun _ _ => rfl, hK _ ?_⟩; clear hK K)
                  refine WQ.nil ?_
                  rintro V hV
                  have HPE := Lib.hid hV
                  clear hV
                  go_wp2
                  exact bodyPost_ret (v := .bool true) (by simp [results, Tryd.results12, go_sem]) rfl ⟨rfl, HP_6.out.trans HPE.out⟩
              · have HOKY := Lib.hid (fineB_iff.1 hfy)
                clear hfy
                go_wp2_with fail
                refine (cheapest_any v3 (L.dearer ee) q2 c2 t HOKY.out HSA.out Y_3.out HW_3.out).mono ?_
                rintro e v4 ⟨rfl, hp⟩
                have HP_4 := Lib.hid (HP_3.out.trans hp)
                have HW_4 := Lib.hid (HW_3.out.to hp)
                have L_4 := Lib.hid (L_3.out.to hp)
                have X_4 := Lib.hid (X_3.out.to hp)
                have Y_4 := Lib.hid (Y_3.out.to hp)
                have Z_4 := Lib.hid (Z_3.out.to hp)
                have A_4 := Lib.hid (A_3.out.to hp)
                clear hp  HP_3 HW_3 L_3 X_3 Y_3 Z_3 A_3
                obtain ⟨y1, hy1⟩ : ∃ zz, (cheapP (L.dearer ee) t).1 = zz := ⟨_, rfl⟩
                obtain ⟨y2, hy2⟩ : ∃ zz, (cheapP (L.dearer ee) t).2 = zz := ⟨_, rfl⟩
                obtain ⟨i2, hi2⟩ : ∃ zz, (cheapE (L.dearer ee) t == 0) = zz := ⟨_, rfl⟩
                have HNY : Hid (cheapP (L.dearer ee) t = (y1, y2) ∧ (cheapE (L.dearer ee) t == 0) = i2) := ⟨by rw [← hy1, ← hy2], hi2⟩
                rw [hy1, hy2, hi2]
                clear hy1 hy2 hi2
                obtain ⟨rfl, hz⟩ := dear_y HOK.out HOKY.out HSA.out HNA.out.1 HNY.out.1 HNA.out.2 HNY.out.2
                clear hz
                go_wp2_with fail
                obtain ⟨X5, hX5⟩ : ∃ V : World, v4.alloc (Obj.cells #[Value.int IntKind.i64 y1, Value.int IntKind.i64 y2] 29) = V := ⟨_, rfl⟩
                have hpX5 : Pure v4 X5 := by rw [← hX5]; exact ((Diff.refl v4).alloc _)
                have bB : Blk (v4.heap.size) 29 #[Value.int IntKind.i64 y1, Value.int IntKind.i64 y2] X5 := by rw [← hX5]; exact (blk0 v4 29 _)
                rw [hX5]
                obtain ⟨g5_0, hg5_0⟩ : ∃ g, v4.heap.size = g := ⟨_, rfl⟩
                rw [hg5_0] at bB ⊢
                have HP_5 := Lib.hid (HP_4.out.trans hpX5)
                have HW_5 := Lib.hid (HW_4.out.to hpX5)
                have L_5 := Lib.hid (L_4.out.to hpX5)
                have X_5 := Lib.hid (X_4.out.to hpX5)
                have Y_5 := Lib.hid (Y_4.out.to hpX5)
                have Z_5 := Lib.hid (Z_4.out.to hpX5)
                have A_5 := Lib.hid (A_4.out.to hpX5)
                have B_5 := Lib.hid bB
                clear hX5 hpX5 hg5_0 bB HP_4 HW_4 L_4 X_4 Y_4 Z_4 A_4
                refine WQ.region (C := Pure X5) hmx (by kernel_rfl) ((Diff.refl _).drew) ?_
                iterate 10 (refine WQ.step (fun K hK => ?_); go_simp; first | refine hK _ ?_ | refine ⟨_, fun _ _ => rfl, hK _ ?_⟩; clear hK K)
                refine WQ.skipK (by rfl) (fun K hK => ?_); go_simp; refine hK _ ?_; clear hK K
                refine WQ.skipK (by rfl) (fun K hK => ?_); go_simp; refine hK _ ?_; clear hK K
                refine WQ.skipK (by rfl) (fun K hK => ?_); go_simp; refine hK _ ?_; clear hK K
                refine WQ.skipK (by rfl) (fun K hK => ?_); go_simp; refine hK _ ?_; clear hK K
                refine WQ.skipK (by rfl) (fun K hK => ?_); go_simp; refine hK _ ?_; clear hK K
                refine WQ.skipK (by rfl) (fun K hK => ?_); go_simp; refine hK _ ?_; clear hK K
                refine WQ.skipK (by rfl) (fun K hK => ?_); go_simp; refine hK _ ?_; clear hK K
                refine WQ.skipK (by rfl) (fun K hK => ?_); go_simp; refine hK _ ?_; clear hK K
                refine WQ.skipK (by rfl) (fun K hK => ?_); go_simp; refine hK _ ?_; clear hK K
                refine WQ.skipK (by rfl) (fun K hK => ?_); go_simp; refine hK _ ?_; clear hK K
                refine WQ.skipK (by rfl) (fun K hK => ?_); go_simp; refine hK _ ?_; clear hK K
                refine WQ.skipK (by rfl) (fun K hK => ?_); go_simp; refine hK _ ?_; clear hK K
                refine WQ.skipK (by rfl) (fun K hK => ?_); go_simp; refine hK _ ?_; clear hK K
                refine WQ.skipK (by rfl) (fun K hK => ?_); go_simp; refine hK _ ?_; clear hK K
                iterate 2 (refine WQ.step (fun K hK => ?_); go_simp; first | refine hK _ ?_ | refine ⟨_, fun _ _ => rfl, hK _ ?_⟩; clear hK K)
                refine WQ.nil ?_
                rintro V hV
                have HP_6 := Lib.hid (HP_5.out.trans hV)
                have HW_6 := Lib.hid (HW_5.out.to hV)
                have L_6 := Lib.hid (L_5.out.to hV)
                have X_6 := Lib.hid (X_5.out.to hV)
                have Y_6 := Lib.hid (Y_5.out.to hV)
                have Z_6 := Lib.hid (Z_5.out.to hV)
                have A_6 := Lib.hid (A_5.out.to hV)
                have B_6 := Lib.hid (B_5.out.to hV)
                clear hV HP_5 HW_5 L_5 X_5 Y_5 Z_5 A_5 B_5
                go_wp2_with fail
                refine (fine_any V (L.times mm) q3 c3 Z_6.out).mono ?_
                rintro e v7 ⟨rfl, hp⟩
                have HP_7 := Lib.hid (HP_6.out.trans hp)
                have HW_7 := Lib.hid (HW_6.out.to hp)
                have L_7 := Lib.hid (L_6.out.to hp)
                have X_7 := Lib.hid (X_6.out.to hp)
                have Y_7 := Lib.hid (Y_6.out.to hp)
                have Z_7 := Lib.hid (Z_6.out.to hp)
                have A_7 := Lib.hid (A_6.out.to hp)
                have B_7 := Lib.hid (B_6.out.to hp)
                clear hp  HP_6 HW_6 L_6 X_6 Y_6 Z_6 A_6 B_6
                cases hfz : fineB (L.times mm)
                · clear hfz
                  go_wp2_with fail
                  refine (Works_any v7 HW_7.out).mono ?_
                  rintro e v8 ⟨rfl, hp⟩
                  have HP_8 := Lib.hid (HP_7.out.trans hp)
                  have HW_8 := Lib.hid (HW_7.out.to hp)
                  have L_8 := Lib.hid (L_7.out.to hp)
                  have X_8 := Lib.hid (X_7.out.to hp)
                  have Y_8 := Lib.hid (Y_7.out.to hp)
                  have Z_8 := Lib.hid (Z_7.out.to hp)
                  have A_8 := Lib.hid (A_7.out.to hp)
                  have B_8 := Lib.hid (B_7.out.to hp)
                  clear hp  HP_7 HW_7 L_7 X_7 Y_7 Z_7 A_7 B_7
                  go_wp2
                  exact bodyPost_ret (v := .bool true) (by simp [results, Tryd.results12, go_sem]) rfl ⟨rfl, HP_8.out⟩
                · have HOKZ := Lib.hid (fineB_iff.1 hfz)
                  clear hfz
                  go_wp2_with fail
                  refine (cheapest_any v7 (L.times mm) q3 c3 t HOKZ.out HSA.out Z_7.out HW_7.out).mono ?_
                  rintro e v8 ⟨rfl, hp⟩
                  have HP_8 := Lib.hid (HP_7.out.trans hp)
                  have HW_8 := Lib.hid (HW_7.out.to hp)
                  have L_8 := Lib.hid (L_7.out.to hp)
                  have X_8 := Lib.hid (X_7.out.to hp)
                  have Y_8 := Lib.hid (Y_7.out.to hp)
                  have Z_8 := Lib.hid (Z_7.out.to hp)
                  have A_8 := Lib.hid (A_7.out.to hp)
                  have B_8 := Lib.hid (B_7.out.to hp)
                  clear hp  HP_7 HW_7 L_7 X_7 Y_7 Z_7 A_7 B_7
                  obtain ⟨z1, hz1⟩ : ∃ zz, (cheapP (L.times mm) t).1 = zz := ⟨_, rfl⟩
                  obtain ⟨z2, hz2⟩ : ∃ zz, (cheapP (L.times mm) t).2 = zz := ⟨_, rfl⟩
                  obtain ⟨i3, hi3⟩ : ∃ zz, (cheapE (L.times mm) t == 0) = zz := ⟨_, rfl⟩
                  have HNZ : Hid (cheapP (L.times mm) t = (z1, z2) ∧ (cheapE (L.times mm) t == 0) = i3) := ⟨by rw [← hz1, ← hz2], hi3⟩
                  rw [hz1, hz2, hi3]
                  clear hz1 hz2 hi3
                  obtain ⟨rfl, hz⟩ := dear_z HOK.out (show 0 < mm by have := HM4.out; omega) HOKZ.out HSA.out HNA.out.1 HNZ.out.1 HNA.out.2 HNZ.out.2
                  clear hz
                  go_wp2_with fail
                  obtain ⟨X9, hX9⟩ : ∃ V : World, v8.alloc (Obj.cells #[Value.int IntKind.i64 z1, Value.int IntKind.i64 z2] 29) = V := ⟨_, rfl⟩
                  have hpX9 : Pure v8 X9 := by rw [← hX9]; exact ((Diff.refl v8).alloc _)
                  have bC : Blk (v8.heap.size) 29 #[Value.int IntKind.i64 z1, Value.int IntKind.i64 z2] X9 := by rw [← hX9]; exact (blk0 v8 29 _)
                  rw [hX9]
                  obtain ⟨g9_0, hg9_0⟩ : ∃ g, v8.heap.size = g := ⟨_, rfl⟩
                  rw [hg9_0] at bC ⊢
                  have HP_9 := Lib.hid (HP_8.out.trans hpX9)
                  have HW_9 := Lib.hid (HW_8.out.to hpX9)
                  have L_9 := Lib.hid (L_8.out.to hpX9)
                  have X_9 := Lib.hid (X_8.out.to hpX9)
                  have Y_9 := Lib.hid (Y_8.out.to hpX9)
                  have Z_9 := Lib.hid (Z_8.out.to hpX9)
                  have A_9 := Lib.hid (A_8.out.to hpX9)
                  have B_9 := Lib.hid (B_8.out.to hpX9)
                  have C_9 := Lib.hid bC
                  clear hX9 hpX9 hg9_0 bC HP_8 HW_8 L_8 X_8 Y_8 Z_8 A_8 B_8
                  refine WQ.region (C := Pure X9) hmx (by kernel_rfl) ((Diff.refl _).drew) ?_
                  iterate 10 (refine WQ.step (fun K hK => ?_); go_simp; first | refine hK _ ?_ | refine ⟨_, fun _ _ => rfl, hK _ ?_⟩; clear hK K)
                  refine WQ.skipK (by rfl) (fun K hK => ?_); go_simp; refine hK _ ?_; clear hK K
                  refine WQ.skipK (by rfl) (fun K hK => ?_); go_simp; refine hK _ ?_; clear hK K
                  refine WQ.skipK (by rfl) (fun K hK => ?_); go_simp; refine hK _ ?_; clear hK K
                  refine WQ.skipK (by rfl) (fun K hK => ?_); go_simp; refine hK _ ?_; clear hK K
                  refine WQ.skipK (by rfl) (fun K hK => ?_); go_simp; refine hK _ ?_; clear hK K
                  refine WQ.skipK (by rfl) (fun K hK => ?_); go_simp; refine hK _ ?_; clear hK K
                  refine WQ.skipK (by rfl) (fun K hK => ?_); go_simp; refine hK _ ?_; clear hK K
                  refine WQ.skipK (by rfl) (fun K hK => ?_); go_simp; refine hK _ ?_; clear hK K
                  refine WQ.skipK (by rfl) (fun K hK => ?_); go_simp; refine hK _ ?_; clear hK K
                  iterate 3 (refine WQ.step (fun K hK => ?_); go_simp; first | refine hK _ ?_ | refine ⟨_, fun _ _ => rfl, hK _ ?_⟩; clear hK K)
                  refine WQ.call (by rfl) 17 #[] (.bool true) (fun V => by unfold execOp; simp [go_sem]) (fun V hV => (Works_any V (HW_9.out.to hV)).mono fun e V2 h => ⟨h.1, hV.trans h.2⟩) ?_
                  iterate 2 (refine WQ.step (fun K hK => ?_); go_simp; first | refine hK _ ?_ | refine ⟨_, fun _ _ => rfl, hK _ ?_⟩; clear hK K)
                  refine WQ.nil ?_
                  rintro V hV
                  have HPE := Lib.hid hV
                  clear hV
                  go_wp2
                  exact bodyPost_ret (v := .bool true) (by simp [results, Tryd.results12, go_sem]) rfl ⟨rfl, HP_9.out.trans HPE.out⟩
        · cases hfx : fineB (L.sharper d)
          · clear hfx
            go_wp2_with fail
            refine (fine_any v2 (L.dearer ee) q2 c2 Y_2.out).mono ?_
            rintro e v3 ⟨rfl, hp⟩
            have HP_3 := Lib.hid (HP_2.out.trans hp)
            have HW_3 := Lib.hid (HW_2.out.to hp)
            have L_3 := Lib.hid (L_2.out.to hp)
            have X_3 := Lib.hid (X_2.out.to hp)
            have Y_3 := Lib.hid (Y_2.out.to hp)
            have Z_3 := Lib.hid (Z_2.out.to hp)
            have A_3 := Lib.hid (A_2.out.to hp)
            clear hp  HP_2 HW_2 L_2 X_2 Y_2 Z_2 A_2
            cases hfy : fineB (L.dearer ee)
            · clear hfy
              go_wp2_with fail
              refine (fine_any v3 (L.times mm) q3 c3 Z_3.out).mono ?_
              rintro e v4 ⟨rfl, hp⟩
              have HP_4 := Lib.hid (HP_3.out.trans hp)
              have HW_4 := Lib.hid (HW_3.out.to hp)
              have L_4 := Lib.hid (L_3.out.to hp)
              have X_4 := Lib.hid (X_3.out.to hp)
              have Y_4 := Lib.hid (Y_3.out.to hp)
              have Z_4 := Lib.hid (Z_3.out.to hp)
              have A_4 := Lib.hid (A_3.out.to hp)
              clear hp  HP_3 HW_3 L_3 X_3 Y_3 Z_3 A_3
              cases hfz : fineB (L.times mm)
              · clear hfz
                go_wp2_with fail
                refine (Works_any v4 HW_4.out).mono ?_
                rintro e v5 ⟨rfl, hp⟩
                have HP_5 := Lib.hid (HP_4.out.trans hp)
                have HW_5 := Lib.hid (HW_4.out.to hp)
                have L_5 := Lib.hid (L_4.out.to hp)
                have X_5 := Lib.hid (X_4.out.to hp)
                have Y_5 := Lib.hid (Y_4.out.to hp)
                have Z_5 := Lib.hid (Z_4.out.to hp)
                have A_5 := Lib.hid (A_4.out.to hp)
                clear hp  HP_4 HW_4 L_4 X_4 Y_4 Z_4 A_4
                go_wp2
                exact bodyPost_ret (v := .bool true) (by simp [results, Tryd.results12, go_sem]) rfl ⟨rfl, HP_5.out⟩
              · have HOKZ := Lib.hid (fineB_iff.1 hfz)
                clear hfz
                go_wp2_with fail
                refine (cheapest_any v4 (L.times mm) q3 c3 t HOKZ.out HSA.out Z_4.out HW_4.out).mono ?_
                rintro e v5 ⟨rfl, hp⟩
                have HP_5 := Lib.hid (HP_4.out.trans hp)
                have HW_5 := Lib.hid (HW_4.out.to hp)
                have L_5 := Lib.hid (L_4.out.to hp)
                have X_5 := Lib.hid (X_4.out.to hp)
                have Y_5 := Lib.hid (Y_4.out.to hp)
                have Z_5 := Lib.hid (Z_4.out.to hp)
                have A_5 := Lib.hid (A_4.out.to hp)
                clear hp  HP_4 HW_4 L_4 X_4 Y_4 Z_4 A_4
                obtain ⟨z1, hz1⟩ : ∃ zz, (cheapP (L.times mm) t).1 = zz := ⟨_, rfl⟩
                obtain ⟨z2, hz2⟩ : ∃ zz, (cheapP (L.times mm) t).2 = zz := ⟨_, rfl⟩
                obtain ⟨i3, hi3⟩ : ∃ zz, (cheapE (L.times mm) t == 0) = zz := ⟨_, rfl⟩
                have HNZ : Hid (cheapP (L.times mm) t = (z1, z2) ∧ (cheapE (L.times mm) t == 0) = i3) := ⟨by rw [← hz1, ← hz2], hi3⟩
                rw [hz1, hz2, hi3]
                clear hz1 hz2 hi3
                obtain ⟨rfl, hz⟩ := dear_z HOK.out (show 0 < mm by have := HM4.out; omega) HOKZ.out HSA.out HNA.out.1 HNZ.out.1 HNA.out.2 HNZ.out.2
                have HS := Lib.hid (hz rfl)
                have mb := mul_bnd (a := mm) (b := x1) 4 100000 (by have := HM4.out; omega) (by have := HM4.out; omega) (by have := HS.out.1.a0; omega) (by have := HS.out.1.a1; have := HS.out.1.b1; omega)
                have hv3 : IntKind.i64.wrap (mm * x1) = mm * x1 := IntWalk.i64_in _ (by omega)
                have HMB := Lib.hid mb
                clear mb
                clear hz
                go_wp2_with fail
                obtain ⟨X6, hX6⟩ : ∃ V : World, v5.alloc (Obj.cells #[Value.int IntKind.i64 z1, Value.int IntKind.i64 z2] 29) = V := ⟨_, rfl⟩
                have hpX6 : Pure v5 X6 := by rw [← hX6]; exact ((Diff.refl v5).alloc _)
                have bC : Blk (v5.heap.size) 29 #[Value.int IntKind.i64 z1, Value.int IntKind.i64 z2] X6 := by rw [← hX6]; exact (blk0 v5 29 _)
                rw [hX6]
                obtain ⟨g6_0, hg6_0⟩ : ∃ g, v5.heap.size = g := ⟨_, rfl⟩
                rw [hg6_0] at bC ⊢
                have HP_6 := Lib.hid (HP_5.out.trans hpX6)
                have HW_6 := Lib.hid (HW_5.out.to hpX6)
                have L_6 := Lib.hid (L_5.out.to hpX6)
                have X_6 := Lib.hid (X_5.out.to hpX6)
                have Y_6 := Lib.hid (Y_5.out.to hpX6)
                have Z_6 := Lib.hid (Z_5.out.to hpX6)
                have A_6 := Lib.hid (A_5.out.to hpX6)
                have C_6 := Lib.hid bC
                clear hX6 hpX6 hg6_0 bC HP_5 HW_5 L_5 X_5 Y_5 Z_5 A_5
                refine WQ.region (C := Pure X6) hmx (by kernel_rfl) ((Diff.refl _).drew) ?_
                iterate 10 (refine WQ.step (fun K hK => ?_); go_simp; first | refine hK _ ?_ | refine ⟨_, fun _ _ => rfl, hK _ ?_⟩; clear hK K)
                refine WQ.val (by rfl) _ (fun V hV => exec_load_pair (.tmp 28) rfl g6_0 z1 z2 rfl (C_6.out.to hV)) ?_
                iterate 2 (refine WQ.step (fun K hK => ?_); go_simp; first | refine hK _ ?_ | refine ⟨_, fun _ _ => rfl, hK _ ?_⟩; clear hK K)
                refine WQ.val (by rfl) _ (fun V hV => exec_load_cell (.tmp 181) rfl g1_0 0 x1 rfl ((A_6.out.to hV).at 0) (A_6.out.to hV).lt) ?_
                iterate 2 (refine WQ.step (fun K hK => ?_); go_simp; first | refine hK _ ?_ | refine ⟨_, fun _ _ => rfl, hK _ ?_⟩; clear hK K)
                refine WQ.val (by rfl) _ (fun V hV => exec_load_cell (.tmp 184) rfl g1_0 1 x2 rfl ((A_6.out.to hV).at 1) (A_6.out.to hV).lt) ?_
                refine WQ.call (by rfl) 51 #[.int .i64 (mm * x1), .int .i64 x2] (.agg #[.int .i64 z1, .int .i64 z2]) (fun V => by unfold execOp; simp [go_sem]) (fun V hV => by have h := RBy_any V (mm * x1) x2 ⟨by have := HMB.out; omega, by have := HMB.out; omega⟩ ⟨by have := HS.out.1.b0; omega, by have := HS.out.1.b1; omega⟩; rw [HS.out.2.1, HS.out.2.2] at h; exact h.mono fun e V2 h => ⟨h.1, hV.trans h.2⟩) ?_
                iterate 4 (refine WQ.step (fun K hK => ?_); go_simp; first | refine hK _ ?_ | refine ⟨_, fun _ _ => rfl, hK _ ?_⟩; clear hK K)
                refine WQ.call (by rfl) 17 #[] (.bool true) (fun V => by unfold execOp; simp [go_sem]) (fun V hV => (Works_any V (HW_6.out.to hV)).mono fun e V2 h => ⟨h.1, hV.trans h.2⟩) ?_
                iterate 2 (refine WQ.step (fun K hK => ?_); go_simp; first | refine hK _ ?_ | refine ⟨_, fun _ _ => rfl, hK _ ?_⟩; clear hK K)
                refine WQ.nil ?_
                rintro V hV
                have HPE := Lib.hid hV
                clear hV
                go_wp2
                exact bodyPost_ret (v := .bool true) (by simp [results, Tryd.results12, go_sem]) rfl ⟨rfl, HP_6.out.trans HPE.out⟩
            · have HOKY := Lib.hid (fineB_iff.1 hfy)
              clear hfy
              go_wp2_with fail
              refine (cheapest_any v3 (L.dearer ee) q2 c2 t HOKY.out HSA.out Y_3.out HW_3.out).mono ?_
              rintro e v4 ⟨rfl, hp⟩
              have HP_4 := Lib.hid (HP_3.out.trans hp)
              have HW_4 := Lib.hid (HW_3.out.to hp)
              have L_4 := Lib.hid (L_3.out.to hp)
              have X_4 := Lib.hid (X_3.out.to hp)
              have Y_4 := Lib.hid (Y_3.out.to hp)
              have Z_4 := Lib.hid (Z_3.out.to hp)
              have A_4 := Lib.hid (A_3.out.to hp)
              clear hp  HP_3 HW_3 L_3 X_3 Y_3 Z_3 A_3
              obtain ⟨y1, hy1⟩ : ∃ zz, (cheapP (L.dearer ee) t).1 = zz := ⟨_, rfl⟩
              obtain ⟨y2, hy2⟩ : ∃ zz, (cheapP (L.dearer ee) t).2 = zz := ⟨_, rfl⟩
              obtain ⟨i2, hi2⟩ : ∃ zz, (cheapE (L.dearer ee) t == 0) = zz := ⟨_, rfl⟩
              have HNY : Hid (cheapP (L.dearer ee) t = (y1, y2) ∧ (cheapE (L.dearer ee) t == 0) = i2) := ⟨by rw [← hy1, ← hy2], hi2⟩
              rw [hy1, hy2, hi2]
              clear hy1 hy2 hi2
              obtain ⟨rfl, hz⟩ := dear_y HOK.out HOKY.out HSA.out HNA.out.1 HNY.out.1 HNA.out.2 HNY.out.2
              have HS := Lib.hid (hz rfl)
              have mb := mul_bnd (a := ee) (b := x2) 599 100 (by have := HE.out; omega) (by have := HE.out; omega) (by have := HS.out.1.b0; omega) (by have := HS.out.1.b1; omega)
              have hv3 : IntKind.i64.wrap (ee * x2) = ee * x2 := IntWalk.i64_in _ (by omega)
              have hv4 : IntKind.i64.wrap (x1 + ee * x2) = x1 + ee * x2 := IntWalk.i64_in _ (by have := HS.out.1.a0; have := HS.out.1.a1; have := HS.out.1.b1; omega)
              have HMB := Lib.hid mb
              clear mb
              clear hz
              go_wp2_with fail
              obtain ⟨X5, hX5⟩ : ∃ V : World, v4.alloc (Obj.cells #[Value.int IntKind.i64 y1, Value.int IntKind.i64 y2] 29) = V := ⟨_, rfl⟩
              have hpX5 : Pure v4 X5 := by rw [← hX5]; exact ((Diff.refl v4).alloc _)
              have bB : Blk (v4.heap.size) 29 #[Value.int IntKind.i64 y1, Value.int IntKind.i64 y2] X5 := by rw [← hX5]; exact (blk0 v4 29 _)
              rw [hX5]
              obtain ⟨g5_0, hg5_0⟩ : ∃ g, v4.heap.size = g := ⟨_, rfl⟩
              rw [hg5_0] at bB ⊢
              have HP_5 := Lib.hid (HP_4.out.trans hpX5)
              have HW_5 := Lib.hid (HW_4.out.to hpX5)
              have L_5 := Lib.hid (L_4.out.to hpX5)
              have X_5 := Lib.hid (X_4.out.to hpX5)
              have Y_5 := Lib.hid (Y_4.out.to hpX5)
              have Z_5 := Lib.hid (Z_4.out.to hpX5)
              have A_5 := Lib.hid (A_4.out.to hpX5)
              have B_5 := Lib.hid bB
              clear hX5 hpX5 hg5_0 bB HP_4 HW_4 L_4 X_4 Y_4 Z_4 A_4
              refine WQ.region (C := Pure X5) hmx (by kernel_rfl) ((Diff.refl _).drew) ?_
              iterate 10 (refine WQ.step (fun K hK => ?_); go_simp; first | refine hK _ ?_ | refine ⟨_, fun _ _ => rfl, hK _ ?_⟩; clear hK K)
              refine WQ.val (by rfl) _ (fun V hV => exec_load_pair (.tmp 25) rfl g5_0 y1 y2 rfl (B_5.out.to hV)) ?_
              iterate 1 (refine WQ.step (fun K hK => ?_); go_simp; first | refine hK _ ?_ | refine ⟨_, fun _ _ => rfl, hK _ ?_⟩; clear hK K)
              refine WQ.val (by rfl) _ (fun V hV => exec_load_cell (.tmp 143) rfl g1_0 0 x1 rfl ((A_5.out.to hV).at 0) (A_5.out.to hV).lt) ?_
              iterate 4 (refine WQ.step (fun K hK => ?_); go_simp; first | refine hK _ ?_ | refine ⟨_, fun _ _ => rfl, hK _ ?_⟩; clear hK K)
              refine WQ.val (by rfl) _ (fun V hV => exec_load_cell (.tmp 148) rfl g1_0 1 x2 rfl ((A_5.out.to hV).at 1) (A_5.out.to hV).lt) ?_
              iterate 3 (refine WQ.step (fun K hK => ?_); go_simp; first | refine hK _ ?_ | refine ⟨_, fun _ _ => rfl, hK _ ?_⟩; clear hK K)
              refine WQ.val (by rfl) _ (fun V hV => exec_load_cell (.tmp 152) rfl g1_0 1 x2 rfl ((A_5.out.to hV).at 1) (A_5.out.to hV).lt) ?_
              refine WQ.call (by rfl) 51 #[.int .i64 (x1 + ee * x2), .int .i64 x2] (.agg #[.int .i64 y1, .int .i64 y2]) (fun V => by unfold execOp; simp [go_sem]) (fun V hV => by have h := RBy_any V (x1 + ee * x2) x2 ⟨by have := HMB.out; have := HS.out.1.a0; omega, by have := HMB.out; have := HS.out.1.a1; have := HS.out.1.b1; omega⟩ ⟨by have := HS.out.1.b0; omega, by have := HS.out.1.b1; omega⟩; rw [HS.out.2.1, HS.out.2.2] at h; exact h.mono fun e V2 h => ⟨h.1, hV.trans h.2⟩) ?_
              iterate 3 (refine WQ.step (fun K hK => ?_); go_simp; first | refine hK _ ?_ | refine ⟨_, fun _ _ => rfl, hK _ ?_⟩; clear hK K)
              refine WQ.nil ?_
              rintro V hV
              clear hv3 hv4
              have HP_6 := Lib.hid (HP_5.out.trans hV)
              have HW_6 := Lib.hid (HW_5.out.to hV)
              have L_6 := Lib.hid (L_5.out.to hV)
              have X_6 := Lib.hid (X_5.out.to hV)
              have Y_6 := Lib.hid (Y_5.out.to hV)
              have Z_6 := Lib.hid (Z_5.out.to hV)
              have A_6 := Lib.hid (A_5.out.to hV)
              have B_6 := Lib.hid (B_5.out.to hV)
              clear hV HP_5 HW_5 L_5 X_5 Y_5 Z_5 A_5 B_5
              go_wp2_with fail
              refine (fine_any V (L.times mm) q3 c3 Z_6.out).mono ?_
              rintro e v7 ⟨rfl, hp⟩
              have HP_7 := Lib.hid (HP_6.out.trans hp)
              have HW_7 := Lib.hid (HW_6.out.to hp)
              have L_7 := Lib.hid (L_6.out.to hp)
              have X_7 := Lib.hid (X_6.out.to hp)
              have Y_7 := Lib.hid (Y_6.out.to hp)
              have Z_7 := Lib.hid (Z_6.out.to hp)
              have A_7 := Lib.hid (A_6.out.to hp)
              have B_7 := Lib.hid (B_6.out.to hp)
              clear hp  HP_6 HW_6 L_6 X_6 Y_6 Z_6 A_6 B_6
              cases hfz : fineB (L.times mm)
              · clear hfz
                go_wp2_with fail
                refine (Works_any v7 HW_7.out).mono ?_
                rintro e v8 ⟨rfl, hp⟩
                have HP_8 := Lib.hid (HP_7.out.trans hp)
                have HW_8 := Lib.hid (HW_7.out.to hp)
                have L_8 := Lib.hid (L_7.out.to hp)
                have X_8 := Lib.hid (X_7.out.to hp)
                have Y_8 := Lib.hid (Y_7.out.to hp)
                have Z_8 := Lib.hid (Z_7.out.to hp)
                have A_8 := Lib.hid (A_7.out.to hp)
                have B_8 := Lib.hid (B_7.out.to hp)
                clear hp  HP_7 HW_7 L_7 X_7 Y_7 Z_7 A_7 B_7
                go_wp2
                exact bodyPost_ret (v := .bool true) (by simp [results, Tryd.results12, go_sem]) rfl ⟨rfl, HP_8.out⟩
              · have HOKZ := Lib.hid (fineB_iff.1 hfz)
                clear hfz
                go_wp2_with fail
                refine (cheapest_any v7 (L.times mm) q3 c3 t HOKZ.out HSA.out Z_7.out HW_7.out).mono ?_
                rintro e v8 ⟨rfl, hp⟩
                have HP_8 := Lib.hid (HP_7.out.trans hp)
                have HW_8 := Lib.hid (HW_7.out.to hp)
                have L_8 := Lib.hid (L_7.out.to hp)
                have X_8 := Lib.hid (X_7.out.to hp)
                have Y_8 := Lib.hid (Y_7.out.to hp)
                have Z_8 := Lib.hid (Z_7.out.to hp)
                have A_8 := Lib.hid (A_7.out.to hp)
                have B_8 := Lib.hid (B_7.out.to hp)
                clear hp  HP_7 HW_7 L_7 X_7 Y_7 Z_7 A_7 B_7
                obtain ⟨z1, hz1⟩ : ∃ zz, (cheapP (L.times mm) t).1 = zz := ⟨_, rfl⟩
                obtain ⟨z2, hz2⟩ : ∃ zz, (cheapP (L.times mm) t).2 = zz := ⟨_, rfl⟩
                obtain ⟨i3, hi3⟩ : ∃ zz, (cheapE (L.times mm) t == 0) = zz := ⟨_, rfl⟩
                have HNZ : Hid (cheapP (L.times mm) t = (z1, z2) ∧ (cheapE (L.times mm) t == 0) = i3) := ⟨by rw [← hz1, ← hz2], hi3⟩
                rw [hz1, hz2, hi3]
                clear hz1 hz2 hi3
                obtain ⟨rfl, hz⟩ := dear_z HOK.out (show 0 < mm by have := HM4.out; omega) HOKZ.out HSA.out HNA.out.1 HNZ.out.1 HNA.out.2 HNZ.out.2
                have HS := Lib.hid (hz rfl)
                have mb := mul_bnd (a := mm) (b := x1) 4 100000 (by have := HM4.out; omega) (by have := HM4.out; omega) (by have := HS.out.1.a0; omega) (by have := HS.out.1.a1; have := HS.out.1.b1; omega)
                have hv3 : IntKind.i64.wrap (mm * x1) = mm * x1 := IntWalk.i64_in _ (by omega)
                have HMB := Lib.hid mb
                clear mb
                clear hz
                go_wp2_with fail
                obtain ⟨X9, hX9⟩ : ∃ V : World, v8.alloc (Obj.cells #[Value.int IntKind.i64 z1, Value.int IntKind.i64 z2] 29) = V := ⟨_, rfl⟩
                have hpX9 : Pure v8 X9 := by rw [← hX9]; exact ((Diff.refl v8).alloc _)
                have bC : Blk (v8.heap.size) 29 #[Value.int IntKind.i64 z1, Value.int IntKind.i64 z2] X9 := by rw [← hX9]; exact (blk0 v8 29 _)
                rw [hX9]
                obtain ⟨g9_0, hg9_0⟩ : ∃ g, v8.heap.size = g := ⟨_, rfl⟩
                rw [hg9_0] at bC ⊢
                have HP_9 := Lib.hid (HP_8.out.trans hpX9)
                have HW_9 := Lib.hid (HW_8.out.to hpX9)
                have L_9 := Lib.hid (L_8.out.to hpX9)
                have X_9 := Lib.hid (X_8.out.to hpX9)
                have Y_9 := Lib.hid (Y_8.out.to hpX9)
                have Z_9 := Lib.hid (Z_8.out.to hpX9)
                have A_9 := Lib.hid (A_8.out.to hpX9)
                have B_9 := Lib.hid (B_8.out.to hpX9)
                have C_9 := Lib.hid bC
                clear hX9 hpX9 hg9_0 bC HP_8 HW_8 L_8 X_8 Y_8 Z_8 A_8 B_8
                refine WQ.region (C := Pure X9) hmx (by kernel_rfl) ((Diff.refl _).drew) ?_
                iterate 10 (refine WQ.step (fun K hK => ?_); go_simp; first | refine hK _ ?_ | refine ⟨_, fun _ _ => rfl, hK _ ?_⟩; clear hK K)
                refine WQ.val (by rfl) _ (fun V hV => exec_load_pair (.tmp 28) rfl g9_0 z1 z2 rfl (C_9.out.to hV)) ?_
                iterate 2 (refine WQ.step (fun K hK => ?_); go_simp; first | refine hK _ ?_ | refine ⟨_, fun _ _ => rfl, hK _ ?_⟩; clear hK K)
                refine WQ.val (by rfl) _ (fun V hV => exec_load_cell (.tmp 181) rfl g1_0 0 x1 rfl ((A_9.out.to hV).at 0) (A_9.out.to hV).lt) ?_
                iterate 2 (refine WQ.step (fun K hK => ?_); go_simp; first | refine hK _ ?_ | refine ⟨_, fun _ _ => rfl, hK _ ?_⟩; clear hK K)
                refine WQ.val (by rfl) _ (fun V hV => exec_load_cell (.tmp 184) rfl g1_0 1 x2 rfl ((A_9.out.to hV).at 1) (A_9.out.to hV).lt) ?_
                refine WQ.call (by rfl) 51 #[.int .i64 (mm * x1), .int .i64 x2] (.agg #[.int .i64 z1, .int .i64 z2]) (fun V => by unfold execOp; simp [go_sem]) (fun V hV => by have h := RBy_any V (mm * x1) x2 ⟨by have := HMB.out; omega, by have := HMB.out; omega⟩ ⟨by have := HS.out.1.b0; omega, by have := HS.out.1.b1; omega⟩; rw [HS.out.2.1, HS.out.2.2] at h; exact h.mono fun e V2 h => ⟨h.1, hV.trans h.2⟩) ?_
                iterate 4 (refine WQ.step (fun K hK => ?_); go_simp; first | refine hK _ ?_ | refine ⟨_, fun _ _ => rfl, hK _ ?_⟩; clear hK K)
                refine WQ.call (by rfl) 17 #[] (.bool true) (fun V => by unfold execOp; simp [go_sem]) (fun V hV => (Works_any V (HW_9.out.to hV)).mono fun e V2 h => ⟨h.1, hV.trans h.2⟩) ?_
                iterate 2 (refine WQ.step (fun K hK => ?_); go_simp; first | refine hK _ ?_ | refine ⟨_, fun _ _ => rfl, hK _ ?_⟩; clear hK K)
                refine WQ.nil ?_
                rintro V hV
                have HPE := Lib.hid hV
                clear hV
                go_wp2
                exact bodyPost_ret (v := .bool true) (by simp [results, Tryd.results12, go_sem]) rfl ⟨rfl, HP_9.out.trans HPE.out⟩
          · by_cases htd : t + d ≤ 100
            · have HOKX := Lib.hid (fineB_iff.1 hfx)
              clear hfx
              go_wp2_with fail
              refine (cheapest_any v2 (L.sharper d) q1 c1 (t + d) HOKX.out ⟨by have := HSA.out; have := HD.out; omega, htd⟩ X_2.out HW_2.out).mono ?_
              rintro e v3 ⟨rfl, hp⟩
              have HP_3 := Lib.hid (HP_2.out.trans hp)
              have HW_3 := Lib.hid (HW_2.out.to hp)
              have L_3 := Lib.hid (L_2.out.to hp)
              have X_3 := Lib.hid (X_2.out.to hp)
              have Y_3 := Lib.hid (Y_2.out.to hp)
              have Z_3 := Lib.hid (Z_2.out.to hp)
              have A_3 := Lib.hid (A_2.out.to hp)
              clear hp  HP_2 HW_2 L_2 X_2 Y_2 Z_2 A_2
              have hsh := sharper_facts HOK.out HSA.out HD.out.1 HOKX.out htd
              rw [hsh.1, hsh.2, HNA.out.1, HNA.out.2]
              clear hsh
              have k0 := A_3.out.at 0
              have k1 := A_3.out.at 1
              have kl := A_3.out.lt
              go_wp2_with fail
              clear k0 k1 kl
              obtain ⟨X4, hX4⟩ : ∃ V : World, v3.alloc (Obj.cells #[Value.int IntKind.i64 x1, Value.int IntKind.i64 x2] 29) = V := ⟨_, rfl⟩
              have hpX4 : Pure v3 X4 := by rw [← hX4]; exact ((Diff.refl v3).alloc _)
              have bX2 : Blk (v3.heap.size) 29 #[Value.int IntKind.i64 x1, Value.int IntKind.i64 x2] X4 := by rw [← hX4]; exact (blk0 v3 29 _)
              rw [hX4]
              obtain ⟨g4_0, hg4_0⟩ : ∃ g, v3.heap.size = g := ⟨_, rfl⟩
              rw [hg4_0] at bX2 ⊢
              have HP_4 := Lib.hid (HP_3.out.trans hpX4)
              have HW_4 := Lib.hid (HW_3.out.to hpX4)
              have L_4 := Lib.hid (L_3.out.to hpX4)
              have X_4 := Lib.hid (X_3.out.to hpX4)
              have Y_4 := Lib.hid (Y_3.out.to hpX4)
              have Z_4 := Lib.hid (Z_3.out.to hpX4)
              have A_4 := Lib.hid (A_3.out.to hpX4)
              have X2_4 := Lib.hid bX2
              clear hX4 hpX4 hg4_0 bX2 HP_3 HW_3 L_3 X_3 Y_3 Z_3 A_3
              have k0 := A_4.out.at 0
              have k1 := A_4.out.at 1
              have kl := A_4.out.lt
              have l0 := X2_4.out.at 0
              have l1 := X2_4.out.at 1
              have ll := X2_4.out.lt
              go_wp2_with fail
              clear k0 k1 kl
              clear l0 l1 ll
              refine (fine_any X4 (L.dearer ee) q2 c2 Y_4.out).mono ?_
              rintro e v5 ⟨rfl, hp⟩
              have HP_5 := Lib.hid (HP_4.out.trans hp)
              have HW_5 := Lib.hid (HW_4.out.to hp)
              have L_5 := Lib.hid (L_4.out.to hp)
              have X_5 := Lib.hid (X_4.out.to hp)
              have Y_5 := Lib.hid (Y_4.out.to hp)
              have Z_5 := Lib.hid (Z_4.out.to hp)
              have A_5 := Lib.hid (A_4.out.to hp)
              have X2_5 := Lib.hid (X2_4.out.to hp)
              clear hp  HP_4 HW_4 L_4 X_4 Y_4 Z_4 A_4 X2_4
              cases hfy : fineB (L.dearer ee)
              · clear hfy
                go_wp2_with fail
                refine (fine_any v5 (L.times mm) q3 c3 Z_5.out).mono ?_
                rintro e v6 ⟨rfl, hp⟩
                have HP_6 := Lib.hid (HP_5.out.trans hp)
                have HW_6 := Lib.hid (HW_5.out.to hp)
                have L_6 := Lib.hid (L_5.out.to hp)
                have X_6 := Lib.hid (X_5.out.to hp)
                have Y_6 := Lib.hid (Y_5.out.to hp)
                have Z_6 := Lib.hid (Z_5.out.to hp)
                have A_6 := Lib.hid (A_5.out.to hp)
                have X2_6 := Lib.hid (X2_5.out.to hp)
                clear hp  HP_5 HW_5 L_5 X_5 Y_5 Z_5 A_5 X2_5
                cases hfz : fineB (L.times mm)
                · clear hfz
                  go_wp2_with fail
                  refine (Works_any v6 HW_6.out).mono ?_
                  rintro e v7 ⟨rfl, hp⟩
                  have HP_7 := Lib.hid (HP_6.out.trans hp)
                  have HW_7 := Lib.hid (HW_6.out.to hp)
                  have L_7 := Lib.hid (L_6.out.to hp)
                  have X_7 := Lib.hid (X_6.out.to hp)
                  have Y_7 := Lib.hid (Y_6.out.to hp)
                  have Z_7 := Lib.hid (Z_6.out.to hp)
                  have A_7 := Lib.hid (A_6.out.to hp)
                  have X2_7 := Lib.hid (X2_6.out.to hp)
                  clear hp  HP_6 HW_6 L_6 X_6 Y_6 Z_6 A_6 X2_6
                  go_wp2
                  exact bodyPost_ret (v := .bool true) (by simp [results, Tryd.results12, go_sem]) rfl ⟨rfl, HP_7.out⟩
                · have HOKZ := Lib.hid (fineB_iff.1 hfz)
                  clear hfz
                  go_wp2_with fail
                  refine (cheapest_any v6 (L.times mm) q3 c3 t HOKZ.out HSA.out Z_6.out HW_6.out).mono ?_
                  rintro e v7 ⟨rfl, hp⟩
                  have HP_7 := Lib.hid (HP_6.out.trans hp)
                  have HW_7 := Lib.hid (HW_6.out.to hp)
                  have L_7 := Lib.hid (L_6.out.to hp)
                  have X_7 := Lib.hid (X_6.out.to hp)
                  have Y_7 := Lib.hid (Y_6.out.to hp)
                  have Z_7 := Lib.hid (Z_6.out.to hp)
                  have A_7 := Lib.hid (A_6.out.to hp)
                  have X2_7 := Lib.hid (X2_6.out.to hp)
                  clear hp  HP_6 HW_6 L_6 X_6 Y_6 Z_6 A_6 X2_6
                  obtain ⟨z1, hz1⟩ : ∃ zz, (cheapP (L.times mm) t).1 = zz := ⟨_, rfl⟩
                  obtain ⟨z2, hz2⟩ : ∃ zz, (cheapP (L.times mm) t).2 = zz := ⟨_, rfl⟩
                  obtain ⟨i3, hi3⟩ : ∃ zz, (cheapE (L.times mm) t == 0) = zz := ⟨_, rfl⟩
                  have HNZ : Hid (cheapP (L.times mm) t = (z1, z2) ∧ (cheapE (L.times mm) t == 0) = i3) := ⟨by rw [← hz1, ← hz2], hi3⟩
                  rw [hz1, hz2, hi3]
                  clear hz1 hz2 hi3
                  obtain ⟨rfl, hz⟩ := dear_z HOK.out (show 0 < mm by have := HM4.out; omega) HOKZ.out HSA.out HNA.out.1 HNZ.out.1 HNA.out.2 HNZ.out.2
                  have HS := Lib.hid (hz rfl)
                  have mb := mul_bnd (a := mm) (b := x1) 4 100000 (by have := HM4.out; omega) (by have := HM4.out; omega) (by have := HS.out.1.a0; omega) (by have := HS.out.1.a1; have := HS.out.1.b1; omega)
                  have hv3 : IntKind.i64.wrap (mm * x1) = mm * x1 := IntWalk.i64_in _ (by omega)
                  have HMB := Lib.hid mb
                  clear mb
                  clear hz
                  go_wp2_with fail
                  obtain ⟨X8, hX8⟩ : ∃ V : World, v7.alloc (Obj.cells #[Value.int IntKind.i64 z1, Value.int IntKind.i64 z2] 29) = V := ⟨_, rfl⟩
                  have hpX8 : Pure v7 X8 := by rw [← hX8]; exact ((Diff.refl v7).alloc _)
                  have bC : Blk (v7.heap.size) 29 #[Value.int IntKind.i64 z1, Value.int IntKind.i64 z2] X8 := by rw [← hX8]; exact (blk0 v7 29 _)
                  rw [hX8]
                  obtain ⟨g8_0, hg8_0⟩ : ∃ g, v7.heap.size = g := ⟨_, rfl⟩
                  rw [hg8_0] at bC ⊢
                  have HP_8 := Lib.hid (HP_7.out.trans hpX8)
                  have HW_8 := Lib.hid (HW_7.out.to hpX8)
                  have L_8 := Lib.hid (L_7.out.to hpX8)
                  have X_8 := Lib.hid (X_7.out.to hpX8)
                  have Y_8 := Lib.hid (Y_7.out.to hpX8)
                  have Z_8 := Lib.hid (Z_7.out.to hpX8)
                  have A_8 := Lib.hid (A_7.out.to hpX8)
                  have X2_8 := Lib.hid (X2_7.out.to hpX8)
                  have C_8 := Lib.hid bC
                  clear hX8 hpX8 hg8_0 bC HP_7 HW_7 L_7 X_7 Y_7 Z_7 A_7 X2_7
                  refine WQ.region (C := Pure X8) hmx (by kernel_rfl) ((Diff.refl _).drew) ?_
                  iterate 10 (refine WQ.step (fun K hK => ?_); go_simp; first | refine hK _ ?_ | refine ⟨_, fun _ _ => rfl, hK _ ?_⟩; clear hK K)
                  refine WQ.val (by rfl) _ (fun V hV => exec_load_pair (.tmp 28) rfl g8_0 z1 z2 rfl (C_8.out.to hV)) ?_
                  iterate 2 (refine WQ.step (fun K hK => ?_); go_simp; first | refine hK _ ?_ | refine ⟨_, fun _ _ => rfl, hK _ ?_⟩; clear hK K)
                  refine WQ.val (by rfl) _ (fun V hV => exec_load_cell (.tmp 181) rfl g1_0 0 x1 rfl ((A_8.out.to hV).at 0) (A_8.out.to hV).lt) ?_
                  iterate 2 (refine WQ.step (fun K hK => ?_); go_simp; first | refine hK _ ?_ | refine ⟨_, fun _ _ => rfl, hK _ ?_⟩; clear hK K)
                  refine WQ.val (by rfl) _ (fun V hV => exec_load_cell (.tmp 184) rfl g1_0 1 x2 rfl ((A_8.out.to hV).at 1) (A_8.out.to hV).lt) ?_
                  refine WQ.call (by rfl) 51 #[.int .i64 (mm * x1), .int .i64 x2] (.agg #[.int .i64 z1, .int .i64 z2]) (fun V => by unfold execOp; simp [go_sem]) (fun V hV => by have h := RBy_any V (mm * x1) x2 ⟨by have := HMB.out; omega, by have := HMB.out; omega⟩ ⟨by have := HS.out.1.b0; omega, by have := HS.out.1.b1; omega⟩; rw [HS.out.2.1, HS.out.2.2] at h; exact h.mono fun e V2 h => ⟨h.1, hV.trans h.2⟩) ?_
                  iterate 4 (refine WQ.step (fun K hK => ?_); go_simp; first | refine hK _ ?_ | refine ⟨_, fun _ _ => rfl, hK _ ?_⟩; clear hK K)
                  refine WQ.call (by rfl) 17 #[] (.bool true) (fun V => by unfold execOp; simp [go_sem]) (fun V hV => (Works_any V (HW_8.out.to hV)).mono fun e V2 h => ⟨h.1, hV.trans h.2⟩) ?_
                  iterate 2 (refine WQ.step (fun K hK => ?_); go_simp; first | refine hK _ ?_ | refine ⟨_, fun _ _ => rfl, hK _ ?_⟩; clear hK K)
                  refine WQ.nil ?_
                  rintro V hV
                  have HPE := Lib.hid hV
                  clear hV
                  go_wp2
                  exact bodyPost_ret (v := .bool true) (by simp [results, Tryd.results12, go_sem]) rfl ⟨rfl, HP_8.out.trans HPE.out⟩
              · have HOKY := Lib.hid (fineB_iff.1 hfy)
                clear hfy
                go_wp2_with fail
                refine (cheapest_any v5 (L.dearer ee) q2 c2 t HOKY.out HSA.out Y_5.out HW_5.out).mono ?_
                rintro e v6 ⟨rfl, hp⟩
                have HP_6 := Lib.hid (HP_5.out.trans hp)
                have HW_6 := Lib.hid (HW_5.out.to hp)
                have L_6 := Lib.hid (L_5.out.to hp)
                have X_6 := Lib.hid (X_5.out.to hp)
                have Y_6 := Lib.hid (Y_5.out.to hp)
                have Z_6 := Lib.hid (Z_5.out.to hp)
                have A_6 := Lib.hid (A_5.out.to hp)
                have X2_6 := Lib.hid (X2_5.out.to hp)
                clear hp  HP_5 HW_5 L_5 X_5 Y_5 Z_5 A_5 X2_5
                obtain ⟨y1, hy1⟩ : ∃ zz, (cheapP (L.dearer ee) t).1 = zz := ⟨_, rfl⟩
                obtain ⟨y2, hy2⟩ : ∃ zz, (cheapP (L.dearer ee) t).2 = zz := ⟨_, rfl⟩
                obtain ⟨i2, hi2⟩ : ∃ zz, (cheapE (L.dearer ee) t == 0) = zz := ⟨_, rfl⟩
                have HNY : Hid (cheapP (L.dearer ee) t = (y1, y2) ∧ (cheapE (L.dearer ee) t == 0) = i2) := ⟨by rw [← hy1, ← hy2], hi2⟩
                rw [hy1, hy2, hi2]
                clear hy1 hy2 hi2
                obtain ⟨rfl, hz⟩ := dear_y HOK.out HOKY.out HSA.out HNA.out.1 HNY.out.1 HNA.out.2 HNY.out.2
                have HS := Lib.hid (hz rfl)
                have mb := mul_bnd (a := ee) (b := x2) 599 100 (by have := HE.out; omega) (by have := HE.out; omega) (by have := HS.out.1.b0; omega) (by have := HS.out.1.b1; omega)
                have hv3 : IntKind.i64.wrap (ee * x2) = ee * x2 := IntWalk.i64_in _ (by omega)
                have hv4 : IntKind.i64.wrap (x1 + ee * x2) = x1 + ee * x2 := IntWalk.i64_in _ (by have := HS.out.1.a0; have := HS.out.1.a1; have := HS.out.1.b1; omega)
                have HMB := Lib.hid mb
                clear mb
                clear hz
                go_wp2_with fail
                obtain ⟨X7, hX7⟩ : ∃ V : World, v6.alloc (Obj.cells #[Value.int IntKind.i64 y1, Value.int IntKind.i64 y2] 29) = V := ⟨_, rfl⟩
                have hpX7 : Pure v6 X7 := by rw [← hX7]; exact ((Diff.refl v6).alloc _)
                have bB : Blk (v6.heap.size) 29 #[Value.int IntKind.i64 y1, Value.int IntKind.i64 y2] X7 := by rw [← hX7]; exact (blk0 v6 29 _)
                rw [hX7]
                obtain ⟨g7_0, hg7_0⟩ : ∃ g, v6.heap.size = g := ⟨_, rfl⟩
                rw [hg7_0] at bB ⊢
                have HP_7 := Lib.hid (HP_6.out.trans hpX7)
                have HW_7 := Lib.hid (HW_6.out.to hpX7)
                have L_7 := Lib.hid (L_6.out.to hpX7)
                have X_7 := Lib.hid (X_6.out.to hpX7)
                have Y_7 := Lib.hid (Y_6.out.to hpX7)
                have Z_7 := Lib.hid (Z_6.out.to hpX7)
                have A_7 := Lib.hid (A_6.out.to hpX7)
                have X2_7 := Lib.hid (X2_6.out.to hpX7)
                have B_7 := Lib.hid bB
                clear hX7 hpX7 hg7_0 bB HP_6 HW_6 L_6 X_6 Y_6 Z_6 A_6 X2_6
                refine WQ.region (C := Pure X7) hmx (by kernel_rfl) ((Diff.refl _).drew) ?_
                iterate 10 (refine WQ.step (fun K hK => ?_); go_simp; first | refine hK _ ?_ | refine ⟨_, fun _ _ => rfl, hK _ ?_⟩; clear hK K)
                refine WQ.val (by rfl) _ (fun V hV => exec_load_pair (.tmp 25) rfl g7_0 y1 y2 rfl (B_7.out.to hV)) ?_
                iterate 1 (refine WQ.step (fun K hK => ?_); go_simp; first | refine hK _ ?_ | refine ⟨_, fun _ _ => rfl, hK _ ?_⟩; clear hK K)
                refine WQ.val (by rfl) _ (fun V hV => exec_load_cell (.tmp 143) rfl g1_0 0 x1 rfl ((A_7.out.to hV).at 0) (A_7.out.to hV).lt) ?_
                iterate 4 (refine WQ.step (fun K hK => ?_); go_simp; first | refine hK _ ?_ | refine ⟨_, fun _ _ => rfl, hK _ ?_⟩; clear hK K)
                refine WQ.val (by rfl) _ (fun V hV => exec_load_cell (.tmp 148) rfl g1_0 1 x2 rfl ((A_7.out.to hV).at 1) (A_7.out.to hV).lt) ?_
                iterate 3 (refine WQ.step (fun K hK => ?_); go_simp; first | refine hK _ ?_ | refine ⟨_, fun _ _ => rfl, hK _ ?_⟩; clear hK K)
                refine WQ.val (by rfl) _ (fun V hV => exec_load_cell (.tmp 152) rfl g1_0 1 x2 rfl ((A_7.out.to hV).at 1) (A_7.out.to hV).lt) ?_
                refine WQ.call (by rfl) 51 #[.int .i64 (x1 + ee * x2), .int .i64 x2] (.agg #[.int .i64 y1, .int .i64 y2]) (fun V => by unfold execOp; simp [go_sem]) (fun V hV => by have h := RBy_any V (x1 + ee * x2) x2 ⟨by have := HMB.out; have := HS.out.1.a0; omega, by have := HMB.out; have := HS.out.1.a1; have := HS.out.1.b1; omega⟩ ⟨by have := HS.out.1.b0; omega, by have := HS.out.1.b1; omega⟩; rw [HS.out.2.1, HS.out.2.2] at h; exact h.mono fun e V2 h => ⟨h.1, hV.trans h.2⟩) ?_
                iterate 3 (refine WQ.step (fun K hK => ?_); go_simp; first | refine hK _ ?_ | refine ⟨_, fun _ _ => rfl, hK _ ?_⟩; clear hK K)
                refine WQ.nil ?_
                rintro V hV
                clear hv3 hv4
                have HP_8 := Lib.hid (HP_7.out.trans hV)
                have HW_8 := Lib.hid (HW_7.out.to hV)
                have L_8 := Lib.hid (L_7.out.to hV)
                have X_8 := Lib.hid (X_7.out.to hV)
                have Y_8 := Lib.hid (Y_7.out.to hV)
                have Z_8 := Lib.hid (Z_7.out.to hV)
                have A_8 := Lib.hid (A_7.out.to hV)
                have X2_8 := Lib.hid (X2_7.out.to hV)
                have B_8 := Lib.hid (B_7.out.to hV)
                clear hV HP_7 HW_7 L_7 X_7 Y_7 Z_7 A_7 X2_7 B_7
                go_wp2_with fail
                refine (fine_any V (L.times mm) q3 c3 Z_8.out).mono ?_
                rintro e v9 ⟨rfl, hp⟩
                have HP_9 := Lib.hid (HP_8.out.trans hp)
                have HW_9 := Lib.hid (HW_8.out.to hp)
                have L_9 := Lib.hid (L_8.out.to hp)
                have X_9 := Lib.hid (X_8.out.to hp)
                have Y_9 := Lib.hid (Y_8.out.to hp)
                have Z_9 := Lib.hid (Z_8.out.to hp)
                have A_9 := Lib.hid (A_8.out.to hp)
                have X2_9 := Lib.hid (X2_8.out.to hp)
                have B_9 := Lib.hid (B_8.out.to hp)
                clear hp  HP_8 HW_8 L_8 X_8 Y_8 Z_8 A_8 X2_8 B_8
                cases hfz : fineB (L.times mm)
                · clear hfz
                  go_wp2_with fail
                  refine (Works_any v9 HW_9.out).mono ?_
                  rintro e v10 ⟨rfl, hp⟩
                  have HP_10 := Lib.hid (HP_9.out.trans hp)
                  have HW_10 := Lib.hid (HW_9.out.to hp)
                  have L_10 := Lib.hid (L_9.out.to hp)
                  have X_10 := Lib.hid (X_9.out.to hp)
                  have Y_10 := Lib.hid (Y_9.out.to hp)
                  have Z_10 := Lib.hid (Z_9.out.to hp)
                  have A_10 := Lib.hid (A_9.out.to hp)
                  have X2_10 := Lib.hid (X2_9.out.to hp)
                  have B_10 := Lib.hid (B_9.out.to hp)
                  clear hp  HP_9 HW_9 L_9 X_9 Y_9 Z_9 A_9 X2_9 B_9
                  go_wp2
                  exact bodyPost_ret (v := .bool true) (by simp [results, Tryd.results12, go_sem]) rfl ⟨rfl, HP_10.out⟩
                · have HOKZ := Lib.hid (fineB_iff.1 hfz)
                  clear hfz
                  go_wp2_with fail
                  refine (cheapest_any v9 (L.times mm) q3 c3 t HOKZ.out HSA.out Z_9.out HW_9.out).mono ?_
                  rintro e v10 ⟨rfl, hp⟩
                  have HP_10 := Lib.hid (HP_9.out.trans hp)
                  have HW_10 := Lib.hid (HW_9.out.to hp)
                  have L_10 := Lib.hid (L_9.out.to hp)
                  have X_10 := Lib.hid (X_9.out.to hp)
                  have Y_10 := Lib.hid (Y_9.out.to hp)
                  have Z_10 := Lib.hid (Z_9.out.to hp)
                  have A_10 := Lib.hid (A_9.out.to hp)
                  have X2_10 := Lib.hid (X2_9.out.to hp)
                  have B_10 := Lib.hid (B_9.out.to hp)
                  clear hp  HP_9 HW_9 L_9 X_9 Y_9 Z_9 A_9 X2_9 B_9
                  obtain ⟨z1, hz1⟩ : ∃ zz, (cheapP (L.times mm) t).1 = zz := ⟨_, rfl⟩
                  obtain ⟨z2, hz2⟩ : ∃ zz, (cheapP (L.times mm) t).2 = zz := ⟨_, rfl⟩
                  obtain ⟨i3, hi3⟩ : ∃ zz, (cheapE (L.times mm) t == 0) = zz := ⟨_, rfl⟩
                  have HNZ : Hid (cheapP (L.times mm) t = (z1, z2) ∧ (cheapE (L.times mm) t == 0) = i3) := ⟨by rw [← hz1, ← hz2], hi3⟩
                  rw [hz1, hz2, hi3]
                  clear hz1 hz2 hi3
                  obtain ⟨rfl, hz⟩ := dear_z HOK.out (show 0 < mm by have := HM4.out; omega) HOKZ.out HSA.out HNA.out.1 HNZ.out.1 HNA.out.2 HNZ.out.2
                  have HS := Lib.hid (hz rfl)
                  have mb := mul_bnd (a := mm) (b := x1) 4 100000 (by have := HM4.out; omega) (by have := HM4.out; omega) (by have := HS.out.1.a0; omega) (by have := HS.out.1.a1; have := HS.out.1.b1; omega)
                  have hv3 : IntKind.i64.wrap (mm * x1) = mm * x1 := IntWalk.i64_in _ (by omega)
                  have HMB := Lib.hid mb
                  clear mb
                  clear hz
                  go_wp2_with fail
                  obtain ⟨X11, hX11⟩ : ∃ V : World, v10.alloc (Obj.cells #[Value.int IntKind.i64 z1, Value.int IntKind.i64 z2] 29) = V := ⟨_, rfl⟩
                  have hpX11 : Pure v10 X11 := by rw [← hX11]; exact ((Diff.refl v10).alloc _)
                  have bC : Blk (v10.heap.size) 29 #[Value.int IntKind.i64 z1, Value.int IntKind.i64 z2] X11 := by rw [← hX11]; exact (blk0 v10 29 _)
                  rw [hX11]
                  obtain ⟨g11_0, hg11_0⟩ : ∃ g, v10.heap.size = g := ⟨_, rfl⟩
                  rw [hg11_0] at bC ⊢
                  have HP_11 := Lib.hid (HP_10.out.trans hpX11)
                  have HW_11 := Lib.hid (HW_10.out.to hpX11)
                  have L_11 := Lib.hid (L_10.out.to hpX11)
                  have X_11 := Lib.hid (X_10.out.to hpX11)
                  have Y_11 := Lib.hid (Y_10.out.to hpX11)
                  have Z_11 := Lib.hid (Z_10.out.to hpX11)
                  have A_11 := Lib.hid (A_10.out.to hpX11)
                  have X2_11 := Lib.hid (X2_10.out.to hpX11)
                  have B_11 := Lib.hid (B_10.out.to hpX11)
                  have C_11 := Lib.hid bC
                  clear hX11 hpX11 hg11_0 bC HP_10 HW_10 L_10 X_10 Y_10 Z_10 A_10 X2_10 B_10
                  refine WQ.region (C := Pure X11) hmx (by kernel_rfl) ((Diff.refl _).drew) ?_
                  iterate 10 (refine WQ.step (fun K hK => ?_); go_simp; first | refine hK _ ?_ | refine ⟨_, fun _ _ => rfl, hK _ ?_⟩; clear hK K)
                  refine WQ.val (by rfl) _ (fun V hV => exec_load_pair (.tmp 28) rfl g11_0 z1 z2 rfl (C_11.out.to hV)) ?_
                  iterate 2 (refine WQ.step (fun K hK => ?_); go_simp; first | refine hK _ ?_ | refine ⟨_, fun _ _ => rfl, hK _ ?_⟩; clear hK K)
                  refine WQ.val (by rfl) _ (fun V hV => exec_load_cell (.tmp 181) rfl g1_0 0 x1 rfl ((A_11.out.to hV).at 0) (A_11.out.to hV).lt) ?_
                  iterate 2 (refine WQ.step (fun K hK => ?_); go_simp; first | refine hK _ ?_ | refine ⟨_, fun _ _ => rfl, hK _ ?_⟩; clear hK K)
                  refine WQ.val (by rfl) _ (fun V hV => exec_load_cell (.tmp 184) rfl g1_0 1 x2 rfl ((A_11.out.to hV).at 1) (A_11.out.to hV).lt) ?_
                  refine WQ.call (by rfl) 51 #[.int .i64 (mm * x1), .int .i64 x2] (.agg #[.int .i64 z1, .int .i64 z2]) (fun V => by unfold execOp; simp [go_sem]) (fun V hV => by have h := RBy_any V (mm * x1) x2 ⟨by have := HMB.out; omega, by have := HMB.out; omega⟩ ⟨by have := HS.out.1.b0; omega, by have := HS.out.1.b1; omega⟩; rw [HS.out.2.1, HS.out.2.2] at h; exact h.mono fun e V2 h => ⟨h.1, hV.trans h.2⟩) ?_
                  iterate 4 (refine WQ.step (fun K hK => ?_); go_simp; first | refine hK _ ?_ | refine ⟨_, fun _ _ => rfl, hK _ ?_⟩; clear hK K)
                  refine WQ.call (by rfl) 17 #[] (.bool true) (fun V => by unfold execOp; simp [go_sem]) (fun V hV => (Works_any V (HW_11.out.to hV)).mono fun e V2 h => ⟨h.1, hV.trans h.2⟩) ?_
                  iterate 2 (refine WQ.step (fun K hK => ?_); go_simp; first | refine hK _ ?_ | refine ⟨_, fun _ _ => rfl, hK _ ?_⟩; clear hK K)
                  refine WQ.nil ?_
                  rintro V hV
                  have HPE := Lib.hid hV
                  clear hV
                  go_wp2
                  exact bodyPost_ret (v := .bool true) (by simp [results, Tryd.results12, go_sem]) rfl ⟨rfl, HP_11.out.trans HPE.out⟩
            · clear hfx
              go_wp2_with fail
              refine (fine_any v2 (L.dearer ee) q2 c2 Y_2.out).mono ?_
              rintro e v3 ⟨rfl, hp⟩
              have HP_3 := Lib.hid (HP_2.out.trans hp)
              have HW_3 := Lib.hid (HW_2.out.to hp)
              have L_3 := Lib.hid (L_2.out.to hp)
              have X_3 := Lib.hid (X_2.out.to hp)
              have Y_3 := Lib.hid (Y_2.out.to hp)
              have Z_3 := Lib.hid (Z_2.out.to hp)
              have A_3 := Lib.hid (A_2.out.to hp)
              clear hp  HP_2 HW_2 L_2 X_2 Y_2 Z_2 A_2
              cases hfy : fineB (L.dearer ee)
              · clear hfy
                go_wp2_with fail
                refine (fine_any v3 (L.times mm) q3 c3 Z_3.out).mono ?_
                rintro e v4 ⟨rfl, hp⟩
                have HP_4 := Lib.hid (HP_3.out.trans hp)
                have HW_4 := Lib.hid (HW_3.out.to hp)
                have L_4 := Lib.hid (L_3.out.to hp)
                have X_4 := Lib.hid (X_3.out.to hp)
                have Y_4 := Lib.hid (Y_3.out.to hp)
                have Z_4 := Lib.hid (Z_3.out.to hp)
                have A_4 := Lib.hid (A_3.out.to hp)
                clear hp  HP_3 HW_3 L_3 X_3 Y_3 Z_3 A_3
                cases hfz : fineB (L.times mm)
                · clear hfz
                  go_wp2_with fail
                  refine (Works_any v4 HW_4.out).mono ?_
                  rintro e v5 ⟨rfl, hp⟩
                  have HP_5 := Lib.hid (HP_4.out.trans hp)
                  have HW_5 := Lib.hid (HW_4.out.to hp)
                  have L_5 := Lib.hid (L_4.out.to hp)
                  have X_5 := Lib.hid (X_4.out.to hp)
                  have Y_5 := Lib.hid (Y_4.out.to hp)
                  have Z_5 := Lib.hid (Z_4.out.to hp)
                  have A_5 := Lib.hid (A_4.out.to hp)
                  clear hp  HP_4 HW_4 L_4 X_4 Y_4 Z_4 A_4
                  go_wp2
                  exact bodyPost_ret (v := .bool true) (by simp [results, Tryd.results12, go_sem]) rfl ⟨rfl, HP_5.out⟩
                · have HOKZ := Lib.hid (fineB_iff.1 hfz)
                  clear hfz
                  go_wp2_with fail
                  refine (cheapest_any v4 (L.times mm) q3 c3 t HOKZ.out HSA.out Z_4.out HW_4.out).mono ?_
                  rintro e v5 ⟨rfl, hp⟩
                  have HP_5 := Lib.hid (HP_4.out.trans hp)
                  have HW_5 := Lib.hid (HW_4.out.to hp)
                  have L_5 := Lib.hid (L_4.out.to hp)
                  have X_5 := Lib.hid (X_4.out.to hp)
                  have Y_5 := Lib.hid (Y_4.out.to hp)
                  have Z_5 := Lib.hid (Z_4.out.to hp)
                  have A_5 := Lib.hid (A_4.out.to hp)
                  clear hp  HP_4 HW_4 L_4 X_4 Y_4 Z_4 A_4
                  obtain ⟨z1, hz1⟩ : ∃ zz, (cheapP (L.times mm) t).1 = zz := ⟨_, rfl⟩
                  obtain ⟨z2, hz2⟩ : ∃ zz, (cheapP (L.times mm) t).2 = zz := ⟨_, rfl⟩
                  obtain ⟨i3, hi3⟩ : ∃ zz, (cheapE (L.times mm) t == 0) = zz := ⟨_, rfl⟩
                  have HNZ : Hid (cheapP (L.times mm) t = (z1, z2) ∧ (cheapE (L.times mm) t == 0) = i3) := ⟨by rw [← hz1, ← hz2], hi3⟩
                  rw [hz1, hz2, hi3]
                  clear hz1 hz2 hi3
                  obtain ⟨rfl, hz⟩ := dear_z HOK.out (show 0 < mm by have := HM4.out; omega) HOKZ.out HSA.out HNA.out.1 HNZ.out.1 HNA.out.2 HNZ.out.2
                  have HS := Lib.hid (hz rfl)
                  have mb := mul_bnd (a := mm) (b := x1) 4 100000 (by have := HM4.out; omega) (by have := HM4.out; omega) (by have := HS.out.1.a0; omega) (by have := HS.out.1.a1; have := HS.out.1.b1; omega)
                  have hv3 : IntKind.i64.wrap (mm * x1) = mm * x1 := IntWalk.i64_in _ (by omega)
                  have HMB := Lib.hid mb
                  clear mb
                  clear hz
                  go_wp2_with fail
                  obtain ⟨X6, hX6⟩ : ∃ V : World, v5.alloc (Obj.cells #[Value.int IntKind.i64 z1, Value.int IntKind.i64 z2] 29) = V := ⟨_, rfl⟩
                  have hpX6 : Pure v5 X6 := by rw [← hX6]; exact ((Diff.refl v5).alloc _)
                  have bC : Blk (v5.heap.size) 29 #[Value.int IntKind.i64 z1, Value.int IntKind.i64 z2] X6 := by rw [← hX6]; exact (blk0 v5 29 _)
                  rw [hX6]
                  obtain ⟨g6_0, hg6_0⟩ : ∃ g, v5.heap.size = g := ⟨_, rfl⟩
                  rw [hg6_0] at bC ⊢
                  have HP_6 := Lib.hid (HP_5.out.trans hpX6)
                  have HW_6 := Lib.hid (HW_5.out.to hpX6)
                  have L_6 := Lib.hid (L_5.out.to hpX6)
                  have X_6 := Lib.hid (X_5.out.to hpX6)
                  have Y_6 := Lib.hid (Y_5.out.to hpX6)
                  have Z_6 := Lib.hid (Z_5.out.to hpX6)
                  have A_6 := Lib.hid (A_5.out.to hpX6)
                  have C_6 := Lib.hid bC
                  clear hX6 hpX6 hg6_0 bC HP_5 HW_5 L_5 X_5 Y_5 Z_5 A_5
                  refine WQ.region (C := Pure X6) hmx (by kernel_rfl) ((Diff.refl _).drew) ?_
                  iterate 10 (refine WQ.step (fun K hK => ?_); go_simp; first | refine hK _ ?_ | refine ⟨_, fun _ _ => rfl, hK _ ?_⟩; clear hK K)
                  refine WQ.val (by rfl) _ (fun V hV => exec_load_pair (.tmp 28) rfl g6_0 z1 z2 rfl (C_6.out.to hV)) ?_
                  iterate 2 (refine WQ.step (fun K hK => ?_); go_simp; first | refine hK _ ?_ | refine ⟨_, fun _ _ => rfl, hK _ ?_⟩; clear hK K)
                  refine WQ.val (by rfl) _ (fun V hV => exec_load_cell (.tmp 181) rfl g1_0 0 x1 rfl ((A_6.out.to hV).at 0) (A_6.out.to hV).lt) ?_
                  iterate 2 (refine WQ.step (fun K hK => ?_); go_simp; first | refine hK _ ?_ | refine ⟨_, fun _ _ => rfl, hK _ ?_⟩; clear hK K)
                  refine WQ.val (by rfl) _ (fun V hV => exec_load_cell (.tmp 184) rfl g1_0 1 x2 rfl ((A_6.out.to hV).at 1) (A_6.out.to hV).lt) ?_
                  refine WQ.call (by rfl) 51 #[.int .i64 (mm * x1), .int .i64 x2] (.agg #[.int .i64 z1, .int .i64 z2]) (fun V => by unfold execOp; simp [go_sem]) (fun V hV => by have h := RBy_any V (mm * x1) x2 ⟨by have := HMB.out; omega, by have := HMB.out; omega⟩ ⟨by have := HS.out.1.b0; omega, by have := HS.out.1.b1; omega⟩; rw [HS.out.2.1, HS.out.2.2] at h; exact h.mono fun e V2 h => ⟨h.1, hV.trans h.2⟩) ?_
                  iterate 4 (refine WQ.step (fun K hK => ?_); go_simp; first | refine hK _ ?_ | refine ⟨_, fun _ _ => rfl, hK _ ?_⟩; clear hK K)
                  refine WQ.call (by rfl) 17 #[] (.bool true) (fun V => by unfold execOp; simp [go_sem]) (fun V hV => (Works_any V (HW_6.out.to hV)).mono fun e V2 h => ⟨h.1, hV.trans h.2⟩) ?_
                  iterate 2 (refine WQ.step (fun K hK => ?_); go_simp; first | refine hK _ ?_ | refine ⟨_, fun _ _ => rfl, hK _ ?_⟩; clear hK K)
                  refine WQ.nil ?_
                  rintro V hV
                  have HPE := Lib.hid hV
                  clear hV
                  go_wp2
                  exact bodyPost_ret (v := .bool true) (by simp [results, Tryd.results12, go_sem]) rfl ⟨rfl, HP_6.out.trans HPE.out⟩
              · have HOKY := Lib.hid (fineB_iff.1 hfy)
                clear hfy
                go_wp2_with fail
                refine (cheapest_any v3 (L.dearer ee) q2 c2 t HOKY.out HSA.out Y_3.out HW_3.out).mono ?_
                rintro e v4 ⟨rfl, hp⟩
                have HP_4 := Lib.hid (HP_3.out.trans hp)
                have HW_4 := Lib.hid (HW_3.out.to hp)
                have L_4 := Lib.hid (L_3.out.to hp)
                have X_4 := Lib.hid (X_3.out.to hp)
                have Y_4 := Lib.hid (Y_3.out.to hp)
                have Z_4 := Lib.hid (Z_3.out.to hp)
                have A_4 := Lib.hid (A_3.out.to hp)
                clear hp  HP_3 HW_3 L_3 X_3 Y_3 Z_3 A_3
                obtain ⟨y1, hy1⟩ : ∃ zz, (cheapP (L.dearer ee) t).1 = zz := ⟨_, rfl⟩
                obtain ⟨y2, hy2⟩ : ∃ zz, (cheapP (L.dearer ee) t).2 = zz := ⟨_, rfl⟩
                obtain ⟨i2, hi2⟩ : ∃ zz, (cheapE (L.dearer ee) t == 0) = zz := ⟨_, rfl⟩
                have HNY : Hid (cheapP (L.dearer ee) t = (y1, y2) ∧ (cheapE (L.dearer ee) t == 0) = i2) := ⟨by rw [← hy1, ← hy2], hi2⟩
                rw [hy1, hy2, hi2]
                clear hy1 hy2 hi2
                obtain ⟨rfl, hz⟩ := dear_y HOK.out HOKY.out HSA.out HNA.out.1 HNY.out.1 HNA.out.2 HNY.out.2
                have HS := Lib.hid (hz rfl)
                have mb := mul_bnd (a := ee) (b := x2) 599 100 (by have := HE.out; omega) (by have := HE.out; omega) (by have := HS.out.1.b0; omega) (by have := HS.out.1.b1; omega)
                have hv3 : IntKind.i64.wrap (ee * x2) = ee * x2 := IntWalk.i64_in _ (by omega)
                have hv4 : IntKind.i64.wrap (x1 + ee * x2) = x1 + ee * x2 := IntWalk.i64_in _ (by have := HS.out.1.a0; have := HS.out.1.a1; have := HS.out.1.b1; omega)
                have HMB := Lib.hid mb
                clear mb
                clear hz
                go_wp2_with fail
                obtain ⟨X5, hX5⟩ : ∃ V : World, v4.alloc (Obj.cells #[Value.int IntKind.i64 y1, Value.int IntKind.i64 y2] 29) = V := ⟨_, rfl⟩
                have hpX5 : Pure v4 X5 := by rw [← hX5]; exact ((Diff.refl v4).alloc _)
                have bB : Blk (v4.heap.size) 29 #[Value.int IntKind.i64 y1, Value.int IntKind.i64 y2] X5 := by rw [← hX5]; exact (blk0 v4 29 _)
                rw [hX5]
                obtain ⟨g5_0, hg5_0⟩ : ∃ g, v4.heap.size = g := ⟨_, rfl⟩
                rw [hg5_0] at bB ⊢
                have HP_5 := Lib.hid (HP_4.out.trans hpX5)
                have HW_5 := Lib.hid (HW_4.out.to hpX5)
                have L_5 := Lib.hid (L_4.out.to hpX5)
                have X_5 := Lib.hid (X_4.out.to hpX5)
                have Y_5 := Lib.hid (Y_4.out.to hpX5)
                have Z_5 := Lib.hid (Z_4.out.to hpX5)
                have A_5 := Lib.hid (A_4.out.to hpX5)
                have B_5 := Lib.hid bB
                clear hX5 hpX5 hg5_0 bB HP_4 HW_4 L_4 X_4 Y_4 Z_4 A_4
                refine WQ.region (C := Pure X5) hmx (by kernel_rfl) ((Diff.refl _).drew) ?_
                iterate 10 (refine WQ.step (fun K hK => ?_); go_simp; first | refine hK _ ?_ | refine ⟨_, fun _ _ => rfl, hK _ ?_⟩; clear hK K)
                refine WQ.val (by rfl) _ (fun V hV => exec_load_pair (.tmp 25) rfl g5_0 y1 y2 rfl (B_5.out.to hV)) ?_
                iterate 1 (refine WQ.step (fun K hK => ?_); go_simp; first | refine hK _ ?_ | refine ⟨_, fun _ _ => rfl, hK _ ?_⟩; clear hK K)
                refine WQ.val (by rfl) _ (fun V hV => exec_load_cell (.tmp 143) rfl g1_0 0 x1 rfl ((A_5.out.to hV).at 0) (A_5.out.to hV).lt) ?_
                iterate 4 (refine WQ.step (fun K hK => ?_); go_simp; first | refine hK _ ?_ | refine ⟨_, fun _ _ => rfl, hK _ ?_⟩; clear hK K)
                refine WQ.val (by rfl) _ (fun V hV => exec_load_cell (.tmp 148) rfl g1_0 1 x2 rfl ((A_5.out.to hV).at 1) (A_5.out.to hV).lt) ?_
                iterate 3 (refine WQ.step (fun K hK => ?_); go_simp; first | refine hK _ ?_ | refine ⟨_, fun _ _ => rfl, hK _ ?_⟩; clear hK K)
                refine WQ.val (by rfl) _ (fun V hV => exec_load_cell (.tmp 152) rfl g1_0 1 x2 rfl ((A_5.out.to hV).at 1) (A_5.out.to hV).lt) ?_
                refine WQ.call (by rfl) 51 #[.int .i64 (x1 + ee * x2), .int .i64 x2] (.agg #[.int .i64 y1, .int .i64 y2]) (fun V => by unfold execOp; simp [go_sem]) (fun V hV => by have h := RBy_any V (x1 + ee * x2) x2 ⟨by have := HMB.out; have := HS.out.1.a0; omega, by have := HMB.out; have := HS.out.1.a1; have := HS.out.1.b1; omega⟩ ⟨by have := HS.out.1.b0; omega, by have := HS.out.1.b1; omega⟩; rw [HS.out.2.1, HS.out.2.2] at h; exact h.mono fun e V2 h => ⟨h.1, hV.trans h.2⟩) ?_
                iterate 3 (refine WQ.step (fun K hK => ?_); go_simp; first | refine hK _ ?_ | refine ⟨_, fun _ _ => rfl, hK _ ?_⟩; clear hK K)
                refine WQ.nil ?_
                rintro V hV
                clear hv3 hv4
                have HP_6 := Lib.hid (HP_5.out.trans hV)
                have HW_6 := Lib.hid (HW_5.out.to hV)
                have L_6 := Lib.hid (L_5.out.to hV)
                have X_6 := Lib.hid (X_5.out.to hV)
                have Y_6 := Lib.hid (Y_5.out.to hV)
                have Z_6 := Lib.hid (Z_5.out.to hV)
                have A_6 := Lib.hid (A_5.out.to hV)
                have B_6 := Lib.hid (B_5.out.to hV)
                clear hV HP_5 HW_5 L_5 X_5 Y_5 Z_5 A_5 B_5
                go_wp2_with fail
                refine (fine_any V (L.times mm) q3 c3 Z_6.out).mono ?_
                rintro e v7 ⟨rfl, hp⟩
                have HP_7 := Lib.hid (HP_6.out.trans hp)
                have HW_7 := Lib.hid (HW_6.out.to hp)
                have L_7 := Lib.hid (L_6.out.to hp)
                have X_7 := Lib.hid (X_6.out.to hp)
                have Y_7 := Lib.hid (Y_6.out.to hp)
                have Z_7 := Lib.hid (Z_6.out.to hp)
                have A_7 := Lib.hid (A_6.out.to hp)
                have B_7 := Lib.hid (B_6.out.to hp)
                clear hp  HP_6 HW_6 L_6 X_6 Y_6 Z_6 A_6 B_6
                cases hfz : fineB (L.times mm)
                · clear hfz
                  go_wp2_with fail
                  refine (Works_any v7 HW_7.out).mono ?_
                  rintro e v8 ⟨rfl, hp⟩
                  have HP_8 := Lib.hid (HP_7.out.trans hp)
                  have HW_8 := Lib.hid (HW_7.out.to hp)
                  have L_8 := Lib.hid (L_7.out.to hp)
                  have X_8 := Lib.hid (X_7.out.to hp)
                  have Y_8 := Lib.hid (Y_7.out.to hp)
                  have Z_8 := Lib.hid (Z_7.out.to hp)
                  have A_8 := Lib.hid (A_7.out.to hp)
                  have B_8 := Lib.hid (B_7.out.to hp)
                  clear hp  HP_7 HW_7 L_7 X_7 Y_7 Z_7 A_7 B_7
                  go_wp2
                  exact bodyPost_ret (v := .bool true) (by simp [results, Tryd.results12, go_sem]) rfl ⟨rfl, HP_8.out⟩
                · have HOKZ := Lib.hid (fineB_iff.1 hfz)
                  clear hfz
                  go_wp2_with fail
                  refine (cheapest_any v7 (L.times mm) q3 c3 t HOKZ.out HSA.out Z_7.out HW_7.out).mono ?_
                  rintro e v8 ⟨rfl, hp⟩
                  have HP_8 := Lib.hid (HP_7.out.trans hp)
                  have HW_8 := Lib.hid (HW_7.out.to hp)
                  have L_8 := Lib.hid (L_7.out.to hp)
                  have X_8 := Lib.hid (X_7.out.to hp)
                  have Y_8 := Lib.hid (Y_7.out.to hp)
                  have Z_8 := Lib.hid (Z_7.out.to hp)
                  have A_8 := Lib.hid (A_7.out.to hp)
                  have B_8 := Lib.hid (B_7.out.to hp)
                  clear hp  HP_7 HW_7 L_7 X_7 Y_7 Z_7 A_7 B_7
                  obtain ⟨z1, hz1⟩ : ∃ zz, (cheapP (L.times mm) t).1 = zz := ⟨_, rfl⟩
                  obtain ⟨z2, hz2⟩ : ∃ zz, (cheapP (L.times mm) t).2 = zz := ⟨_, rfl⟩
                  obtain ⟨i3, hi3⟩ : ∃ zz, (cheapE (L.times mm) t == 0) = zz := ⟨_, rfl⟩
                  have HNZ : Hid (cheapP (L.times mm) t = (z1, z2) ∧ (cheapE (L.times mm) t == 0) = i3) := ⟨by rw [← hz1, ← hz2], hi3⟩
                  rw [hz1, hz2, hi3]
                  clear hz1 hz2 hi3
                  obtain ⟨rfl, hz⟩ := dear_z HOK.out (show 0 < mm by have := HM4.out; omega) HOKZ.out HSA.out HNA.out.1 HNZ.out.1 HNA.out.2 HNZ.out.2
                  have HS := Lib.hid (hz rfl)
                  have mb := mul_bnd (a := mm) (b := x1) 4 100000 (by have := HM4.out; omega) (by have := HM4.out; omega) (by have := HS.out.1.a0; omega) (by have := HS.out.1.a1; have := HS.out.1.b1; omega)
                  have hv3 : IntKind.i64.wrap (mm * x1) = mm * x1 := IntWalk.i64_in _ (by omega)
                  have HMB := Lib.hid mb
                  clear mb
                  clear hz
                  go_wp2_with fail
                  obtain ⟨X9, hX9⟩ : ∃ V : World, v8.alloc (Obj.cells #[Value.int IntKind.i64 z1, Value.int IntKind.i64 z2] 29) = V := ⟨_, rfl⟩
                  have hpX9 : Pure v8 X9 := by rw [← hX9]; exact ((Diff.refl v8).alloc _)
                  have bC : Blk (v8.heap.size) 29 #[Value.int IntKind.i64 z1, Value.int IntKind.i64 z2] X9 := by rw [← hX9]; exact (blk0 v8 29 _)
                  rw [hX9]
                  obtain ⟨g9_0, hg9_0⟩ : ∃ g, v8.heap.size = g := ⟨_, rfl⟩
                  rw [hg9_0] at bC ⊢
                  have HP_9 := Lib.hid (HP_8.out.trans hpX9)
                  have HW_9 := Lib.hid (HW_8.out.to hpX9)
                  have L_9 := Lib.hid (L_8.out.to hpX9)
                  have X_9 := Lib.hid (X_8.out.to hpX9)
                  have Y_9 := Lib.hid (Y_8.out.to hpX9)
                  have Z_9 := Lib.hid (Z_8.out.to hpX9)
                  have A_9 := Lib.hid (A_8.out.to hpX9)
                  have B_9 := Lib.hid (B_8.out.to hpX9)
                  have C_9 := Lib.hid bC
                  clear hX9 hpX9 hg9_0 bC HP_8 HW_8 L_8 X_8 Y_8 Z_8 A_8 B_8
                  refine WQ.region (C := Pure X9) hmx (by kernel_rfl) ((Diff.refl _).drew) ?_
                  iterate 10 (refine WQ.step (fun K hK => ?_); go_simp; first | refine hK _ ?_ | refine ⟨_, fun _ _ => rfl, hK _ ?_⟩; clear hK K)
                  refine WQ.val (by rfl) _ (fun V hV => exec_load_pair (.tmp 28) rfl g9_0 z1 z2 rfl (C_9.out.to hV)) ?_
                  iterate 2 (refine WQ.step (fun K hK => ?_); go_simp; first | refine hK _ ?_ | refine ⟨_, fun _ _ => rfl, hK _ ?_⟩; clear hK K)
                  refine WQ.val (by rfl) _ (fun V hV => exec_load_cell (.tmp 181) rfl g1_0 0 x1 rfl ((A_9.out.to hV).at 0) (A_9.out.to hV).lt) ?_
                  iterate 2 (refine WQ.step (fun K hK => ?_); go_simp; first | refine hK _ ?_ | refine ⟨_, fun _ _ => rfl, hK _ ?_⟩; clear hK K)
                  refine WQ.val (by rfl) _ (fun V hV => exec_load_cell (.tmp 184) rfl g1_0 1 x2 rfl ((A_9.out.to hV).at 1) (A_9.out.to hV).lt) ?_
                  refine WQ.call (by rfl) 51 #[.int .i64 (mm * x1), .int .i64 x2] (.agg #[.int .i64 z1, .int .i64 z2]) (fun V => by unfold execOp; simp [go_sem]) (fun V hV => by have h := RBy_any V (mm * x1) x2 ⟨by have := HMB.out; omega, by have := HMB.out; omega⟩ ⟨by have := HS.out.1.b0; omega, by have := HS.out.1.b1; omega⟩; rw [HS.out.2.1, HS.out.2.2] at h; exact h.mono fun e V2 h => ⟨h.1, hV.trans h.2⟩) ?_
                  iterate 4 (refine WQ.step (fun K hK => ?_); go_simp; first | refine hK _ ?_ | refine ⟨_, fun _ _ => rfl, hK _ ?_⟩; clear hK K)
                  refine WQ.call (by rfl) 17 #[] (.bool true) (fun V => by unfold execOp; simp [go_sem]) (fun V hV => (Works_any V (HW_9.out.to hV)).mono fun e V2 h => ⟨h.1, hV.trans h.2⟩) ?_
                  iterate 2 (refine WQ.step (fun K hK => ?_); go_simp; first | refine hK _ ?_ | refine ⟨_, fun _ _ => rfl, hK _ ?_⟩; clear hK K)
                  refine WQ.nil ?_
                  rintro V hV
                  have HPE := Lib.hid hV
                  clear hV
                  go_wp2
                  exact bodyPost_ret (v := .bool true) (by simp [results, Tryd.results12, go_sem]) rfl ⟨rfl, HP_9.out.trans HPE.out⟩
end Go.Proofs.YtgpfmnjianflaaaDoor
