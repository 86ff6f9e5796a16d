/- Walk of BlendTurned. -/
import Derived.Test.YtgpfmnjianflaaaDoorE1
set_option linter.unusedSimpArgs false
set_option linter.unusedVariables false
set_option linter.constructorNameAsVariable false
namespace Go.Proofs.YtgpfmnjianflaaaDoor
open Go.RowKit

set_option maxRecDepth 20000 in
set_option maxHeartbeats 4000000 in
theorem TurnedLaw_any (w : World) (L : LT) (p : Option Addr) (cap : Nat) (n1 n2 : Int) (hl : LotsAt w.heap.size w p L) (h1 : (Lit.int .u8 n1).wf = true) (h2 : (Lit.int .u8 n2).wf = true) (hg : Gl w) :
    Calls Tryd.prog 13 #[.slice p L.n cap, .int .u8 n1, .int .u8 n2] w fun e w' => e = .returned (.bool true) ∧ Pure w w' := by
  have hmx : Tryd.prog.follows .mixedOrders = true := by kernel_rfl
  have HG := Lib.hid hg
  have HL := Lib.hid hl
  have H1 := Lib.hid (wf_u8 h1)
  have H2 := Lib.hid (wf_u8 h2)
  clear hg hl h1 h2
  go_enter Tryd.func13, Tryd.ntmps13
  go_wp2_with fail
  refine (fine_any w L p cap HL.out).mono ?_
  rintro e w1 ⟨rfl, hp1⟩
  have HP1 := Lib.hid hp1
  have HG1 := Lib.hid (HG.out.to HP1.out)
  have HL1 := Lib.hid (HL.out.to HP1.out)
  clear hp1
  cases hfb : fineB L with
  | false =>
    clear hfb
    go_wp2_with fail
    refine (Works_any w1 HG1.out).mono ?_
    rintro e w9 ⟨rfl, hp9⟩
    have HP9 := Lib.hid (HP1.out.trans hp9)
    clear hp9
    go_wp2
    exact bodyPost_ret (v := .bool true) (by simp [results, Tryd.results13, go_sem]) rfl ⟨rfl, HP9.out⟩
  | true =>
    have HOK := Lib.hid (fineB_iff.1 hfb)
    clear hfb
    have HSA : Hid (0 ≤ shp n1 ∧ shp n1 ≤ 100) := shp_in n1
    go_wp2_with fail
    refine (sharpness_any w1 n1 H1.out).mono ?_
    rintro e v0 ⟨rfl, hp⟩
    have HP_0 := Lib.hid (HP1.out.trans hp)
    have HW_0 := Lib.hid (HG1.out.to hp)
    have L_0 := Lib.hid (HL1.out.to hp)
    clear hp  HP1 HG1 HL1
    obtain ⟨t, ht⟩ : ∃ z, shp n1 = z := ⟨_, rfl⟩
    rw [ht] at HSA ⊢
    clear ht
    obtain ⟨r, hr⟩ : ∃ r : Nat, n2 = (r : Int) := ⟨n2.toNat, by have := H2.out; omega⟩
    subst hr
    have HF := Lib.hid (turned_facts HOK.out HSA.out r)
    obtain ⟨m, hm⟩ : ∃ m, L.n = m := ⟨_, rfl⟩
    have HM := Lib.hid hm
    rw [hm]
    clear hm
    have hm1 : 1 ≤ m ∧ m ≤ 8 := by have := HOK.out.n0; have := HOK.out.n8; have := HM.out; omega
    have HMM := Lib.hid hm1
    clear hm1
    go_wp2_with fail
    go_loopw [8, 9, 10] (fun u v i wr => ∃ k : Nat, k ≤ m ∧ i = .int .i64 k ∧ Hid (wr.ownsRow w.heap.size 71 2 u k (valsL (L.rnd r) k)) ∧ Hid (wr.ownsRow w.heap.size 71 2 v k (valsL L.turn k)) ∧ Hid (∀ g, u.ownBlock = some g → v.ownBlock = some g → False) ∧ Hid (Pure w wr)) (fun _ _ i _ => m - (intOf i).toNat)
    case atStart => exact ⟨0, Nat.zero_le _, rfl, World.ownsRow_nil _ _ _ _, World.ownsRow_nil _ _ _ _, (fun g h => by cases h), HP_0.out⟩
    case round =>
      obtain ⟨k, hk, rfl, HX, HY, HN, HP⟩ := hrel
      have hm8 : m ≤ 8 := HMM.out.2
      by_cases hlt : k < m
      · obtain ⟨j, hj⟩ : ∃ j : Nat, (k + r) % m = j := ⟨_, rfl⟩
        have HJ := Lib.hid hj
        have hjm : j < m := by rw [← hj]; exact Nat.mod_lt _ (by omega)
        have hj' : ((k : Int) + (r : Int)).tmod (m : Int) = (j : Int) := by rw [Int.tmod_eq_emod_of_nonneg (by omega), ← hj, Int.natCast_emod, Int.natCast_add]
        obtain ⟨b, o, rfl, hb, hs0, hs1⟩ := HL.out j (by rw [HM.out]; exact hjm)
        obtain ⟨b', o', he, -, hs2, hs3⟩ := HL.out k (by rw [HM.out]; exact hlt)
        cases he
        have HB := Lib.hid hb
        have d0 := ((pcell HP.out).1 _ _ hb).trans hs0
        have d1 := ((pcell HP.out).1 _ _ hb).trans hs1
        have C2 := Lib.hid hs2
        have C3 := Lib.hid hs3
        have lb := Nat.lt_of_lt_of_le hb HP.out.size
        have hki : (k : Int) < (m : Int) := by omega
        have hji : (j : Int) < (m : Int) := by omega
        have hm0 : ¬ (m : Int) = 0 := by omega
        have hr0 : 0 ≤ (r : Int) ∧ (r : Int) ≤ 255 := H2.out
        have hw1 : IntKind.i64.wrap (r : Int) = (r : Int) := IntWalk.i64_in _ (by omega)
        have hw2 : IntKind.i64.wrap ((k : Int) + (r : Int)) = (k : Int) + (r : Int) := IntWalk.i64_in _ (by have := HMM.out; omega)
        have hw3 : IntKind.i64.wrap (j : Int) = (j : Int) := IntWalk.i64_in _ (by have := HMM.out; omega)
        have hw4 : IntKind.i64.wrap (100 - L.s k) = 100 - L.s k := IntWalk.i64_in _ (by have := HOK.out.s0 k (by rw [HM.out]; exact hlt); have := HOK.out.s1 k (by rw [HM.out]; exact hlt); omega)
        clear hs0 hs1 hs2 hs3 hj hb
        obtain ⟨u', wA, hr1, ho1, hd1, hob1⟩ := push_lot HX.out (by have := HMM.out; omega) HP.out.size (L.s j) (L.p j)
        have HX1 := Lib.hid ho1
        have HD1 := Lib.hid hd1
        have hq := own_apart HY.out hd1 HN.out hob1
        have HY1 := Lib.hid hq.1
        have HN1 := Lib.hid hq.2
        have HPA : Hid (Pure w wA) := HP.out.trans' HD1.out (fun x hx hh => by have := (HX.out.lt x hh.symm).1; omega)
        clear ho1 hd1 hob1 hq
        obtain ⟨v', wB, hr2, ho2, hd2, hob2⟩ := push_lot (own_pure HY1.out (Diff.refl wA).drew) (by have := HMM.out; omega) HPA.out.size (100 - L.s k) (L.p k)
        have HY2 := Lib.hid ho2
        have hwd : wA.drew.heap.size = wA.heap.size := rfl
        rw [hwd] at hr2
        have hq := own_apart (own_pure HX1.out (Diff.refl wA).drew) hd2 (fun g h1 h2 => HN1.out g h2 h1) hob2
        have HX2 := Lib.hid hq.1
        have HN2 := Lib.hid hq.2
        have HPB : Hid (Pure w wB) := HPA.out.drew.trans' hd2 (fun x hx hh => by have := (HY1.out.lt x hh.symm).1; omega)
        clear ho2 hd2 hob2 hq hwd
        go_wp2_with (at_builtin; refine Lib.wpList_append_run _ rfl _ _ _ _ rfl _ _ rfl rfl _ _ hr1 ?_)
        have KEY : Hid (∀ V, Pure w V → V.cell? ⟨b, o + k * 2, none⟩ = some (.int .i64 (L.s k)) ∧ V.cell? ⟨b, o + k * 2 + 1, none⟩ = some (.int .i64 (L.p k)) ∧ Hid (Pure w V)) := fun V hp => ⟨((pcell hp).1 _ _ HB.out).trans C2.out, ((pcell hp).1 _ _ HB.out).trans C3.out, hp⟩
        have hp0 : Hid (Pure w wA.drew) := HPA.out.drew
        clear d0 d1 hr1
        go_region_held3 (fun V => V.cell? ⟨b, o + k * 2, none⟩ = some (.int .i64 (L.s k)) ∧ V.cell? ⟨b, o + k * 2 + 1, none⟩ = some (.int .i64 (L.p k)) ∧ Hid (Pure w V))
          (exact KEY.out _ (by first | exact hp0.out | exact hp0.out.alloc _ | exact HPB.out))
          (first | (refine wp_append_run _ _ _ rfl _ _ _ _ rfl rfl hr2 ?_))
        rename_i hHeld
        clear hHeld KEY hp0
        go_wp2
        go_roundw
        case rel =>
          refine ⟨k + 1, by omega, by go_num, ?_, ?_, fun g h1 h2 => HN2.out g h2 h1, HPB.out⟩
          · show World.ownsRow _ _ _ _ _ _ _
            rw [valsL_succ]
            have e : (k + r) % L.n = j := by rw [HM.out]; exact HJ.out
            have e1 : (L.rnd r).s k = L.s j := by show L.s ((k + r) % L.n) = _; rw [e]
            have e2 : (L.rnd r).p k = L.p j := by show L.p ((k + r) % L.n) = _; rw [e]
            rw [e1, e2]
            exact HX2.out
          · show World.ownsRow _ _ _ _ _ _ _
            rw [valsL_succ]
            exact HY2.out
        case measure => simp [intOf]; omega
      · obtain rfl : k = m := by omega
        have HGr := Lib.hid (HG.out.to HP.out)
        have HLr := Lib.hid (HL.out.to HP.out)
        obtain ⟨q1, c1, rfl, hx⟩ := all_own (L := L.rnd r) HX.out HM.out
        obtain ⟨q2, c2, rfl, hy⟩ := all_own (L := L.turn) HY.out HM.out
        have HXr := Lib.hid hx
        have HYr := Lib.hid hy
        clear hx hy HX HY HN
        obtain rfl : L.n = k := HM.out
        have hw1 : IntKind.i64.wrap (100 - t) = 100 - t := IntWalk.i64_in _ (by have := HSA.out; omega)
        go_wp2_with fail
        refine (cheapest_any wr L p cap t HOK.out HSA.out HLr.out HGr.out).mono ?_
        rintro e v0 ⟨rfl, hp⟩
        have HP_0 := Lib.hid (HP.out.trans hp)
        have HW_0 := Lib.hid (HGr.out.to hp)
        have L_0 := Lib.hid (HLr.out.to hp)
        have X_0 := Lib.hid (HXr.out.to hp)
        have Y_0 := Lib.hid (HYr.out.to hp)
        clear hp  HP HGr HLr HXr HYr
        obtain ⟨x1, hx1⟩ : ∃ zz, (cheapP L t).1 = zz := ⟨_, rfl⟩
        obtain ⟨x2, hx2⟩ : ∃ zz, (cheapP L t).2 = zz := ⟨_, rfl⟩
        obtain ⟨i1, hi1⟩ : ∃ zz, (cheapE L t == 0) = zz := ⟨_, rfl⟩
        have HNA : Hid (((cheapP L t).1 = x1 ∧ (cheapP L t).2 = x2) ∧ (cheapE L t == 0) = i1) := ⟨⟨hx1, hx2⟩, hi1⟩
        rw [hx1, hx2, hi1]
        clear hx1 hx2 hi1
        go_wp2_with fail
        obtain ⟨X1, hX1⟩ : ∃ V : World, v0.alloc (Obj.cells #[Value.int IntKind.i64 x1, Value.int IntKind.i64 x2] 29) = V := ⟨_, rfl⟩
        have hpX1 : Pure v0 X1 := by rw [← hX1]; exact ((Diff.refl v0).alloc _)
        have bA : Blk (v0.heap.size) 29 #[Value.int IntKind.i64 x1, Value.int IntKind.i64 x2] X1 := by rw [← hX1]; exact (blk0 v0 29 _)
        rw [hX1]
        obtain ⟨g1_0, hg1_0⟩ : ∃ g, v0.heap.size = g := ⟨_, rfl⟩
        rw [hg1_0] at bA ⊢
        have HP_1 := Lib.hid (HP_0.out.trans hpX1)
        have HW_1 := Lib.hid (HW_0.out.to hpX1)
        have L_1 := Lib.hid (L_0.out.to hpX1)
        have X_1 := Lib.hid (X_0.out.to hpX1)
        have Y_1 := Lib.hid (Y_0.out.to hpX1)
        have A_1 := Lib.hid bA
        clear hX1 hpX1 hg1_0 bA HP_0 HW_0 L_0 X_0 Y_0
        go_wp2_with fail
        refine (cheapest_any X1 (L.rnd r) q1 c1 t HF.out.1 HSA.out X_1.out HW_1.out).mono ?_
        rintro e v2 ⟨rfl, hp⟩
        have HP_2 := Lib.hid (HP_1.out.trans hp)
        have HW_2 := Lib.hid (HW_1.out.to hp)
        have L_2 := Lib.hid (L_1.out.to hp)
        have X_2 := Lib.hid (X_1.out.to hp)
        have Y_2 := Lib.hid (Y_1.out.to hp)
        have A_2 := Lib.hid (A_1.out.to hp)
        clear hp  HP_1 HW_1 L_1 X_1 Y_1 A_1
        rw [HF.out.2.2.1, HF.out.2.2.2.1, HNA.out.1.1, HNA.out.1.2, HNA.out.2]
        go_wp2_with fail
        obtain ⟨X3, hX3⟩ : ∃ V : World, v2.alloc (Obj.cells #[Value.int IntKind.i64 x1, Value.int IntKind.i64 x2] 29) = V := ⟨_, rfl⟩
        have hpX3 : Pure v2 X3 := by rw [← hX3]; exact ((Diff.refl v2).alloc _)
        have bB : Blk (v2.heap.size) 29 #[Value.int IntKind.i64 x1, Value.int IntKind.i64 x2] X3 := by rw [← hX3]; exact (blk0 v2 29 _)
        rw [hX3]
        obtain ⟨g3_0, hg3_0⟩ : ∃ g, v2.heap.size = g := ⟨_, rfl⟩
        rw [hg3_0] at bB ⊢
        have HP_3 := Lib.hid (HP_2.out.trans hpX3)
        have HW_3 := Lib.hid (HW_2.out.to hpX3)
        have L_3 := Lib.hid (L_2.out.to hpX3)
        have X_3 := Lib.hid (X_2.out.to hpX3)
        have Y_3 := Lib.hid (Y_2.out.to hpX3)
        have A_3 := Lib.hid (A_2.out.to hpX3)
        have B_3 := Lib.hid bB
        clear hX3 hpX3 hg3_0 bB HP_2 HW_2 L_2 X_2 Y_2 A_2
        go_wp2_with fail
        refine (cheapest_any X3 L.turn q2 c2 (100 - t) HF.out.2.1 ⟨by have := HSA.out; omega, by have := HSA.out; omega⟩ Y_3.out HW_3.out).mono ?_
        rintro e v4 ⟨rfl, hp⟩
        have HP_4 := Lib.hid (HP_3.out.trans hp)
        have HW_4 := Lib.hid (HW_3.out.to hp)
        have L_4 := Lib.hid (L_3.out.to hp)
        have X_4 := Lib.hid (X_3.out.to hp)
        have Y_4 := Lib.hid (Y_3.out.to hp)
        have A_4 := Lib.hid (A_3.out.to hp)
        have B_4 := Lib.hid (B_3.out.to hp)
        clear hp  HP_3 HW_3 L_3 X_3 Y_3 A_3 B_3
        rw [HF.out.2.2.2.2.1, HF.out.2.2.2.2.2.1, HNA.out.1.1, HNA.out.1.2, HNA.out.2]
        go_wp2_with fail
        obtain ⟨X5, hX5⟩ : ∃ V : World, v4.alloc (Obj.cells #[Value.int IntKind.i64 x1, Value.int IntKind.i64 x2] 29) = V := ⟨_, rfl⟩
        have hpX5 : Pure v4 X5 := by rw [← hX5]; exact ((Diff.refl v4).alloc _)
        have bC : Blk (v4.heap.size) 29 #[Value.int IntKind.i64 x1, Value.int IntKind.i64 x2] X5 := by rw [← hX5]; exact (blk0 v4 29 _)
        rw [hX5]
        obtain ⟨g5_0, hg5_0⟩ : ∃ g, v4.heap.size = g := ⟨_, rfl⟩
        rw [hg5_0] at bC ⊢
        have HP_5 := Lib.hid (HP_4.out.trans hpX5)
        have HW_5 := Lib.hid (HW_4.out.to hpX5)
        have L_5 := Lib.hid (L_4.out.to hpX5)
        have X_5 := Lib.hid (X_4.out.to hpX5)
        have Y_5 := Lib.hid (Y_4.out.to hpX5)
        have A_5 := Lib.hid (A_4.out.to hpX5)
        have B_5 := Lib.hid (B_4.out.to hpX5)
        have C_5 := Lib.hid bC
        clear hX5 hpX5 hg5_0 bC HP_4 HW_4 L_4 X_4 Y_4 A_4 B_4
        go_wp2_with fail
        refine (least_any X5 L p cap t HOK.out HSA.out L_5.out HW_5.out).mono ?_
        rintro e v6 ⟨rfl, hp⟩
        have HP_6 := Lib.hid (HP_5.out.trans hp)
        have HW_6 := Lib.hid (HW_5.out.to hp)
        have L_6 := Lib.hid (L_5.out.to hp)
        have X_6 := Lib.hid (X_5.out.to hp)
        have Y_6 := Lib.hid (Y_5.out.to hp)
        have A_6 := Lib.hid (A_5.out.to hp)
        have B_6 := Lib.hid (B_5.out.to hp)
        have C_6 := Lib.hid (C_5.out.to hp)
        clear hp  HP_5 HW_5 L_5 X_5 Y_5 A_5 B_5 C_5
        obtain ⟨u1, hu1⟩ : ∃ zz, (atP L t).1 = zz := ⟨_, rfl⟩
        obtain ⟨u2, hu2⟩ : ∃ zz, (atP L t).2 = zz := ⟨_, rfl⟩
        obtain ⟨i3, hi3⟩ : ∃ zz, (atE L t == 0) = zz := ⟨_, rfl⟩
        have HND : Hid (((atP L t).1 = u1 ∧ (atP L t).2 = u2) ∧ (atE L t == 0) = i3) := ⟨⟨hu1, hu2⟩, hi3⟩
        rw [hu1, hu2, hi3]
        clear hu1 hu2 hi3
        go_wp2_with fail
        obtain ⟨X7, hX7⟩ : ∃ V : World, v6.alloc (Obj.cells #[Value.int IntKind.i64 u1, Value.int IntKind.i64 u2] 29) = V := ⟨_, rfl⟩
        have hpX7 : Pure v6 X7 := by rw [← hX7]; exact ((Diff.refl v6).alloc _)
        have bD : Blk (v6.heap.size) 29 #[Value.int IntKind.i64 u1, Value.int IntKind.i64 u2] X7 := by rw [← hX7]; exact (blk0 v6 29 _)
        rw [hX7]
        obtain ⟨g7_0, hg7_0⟩ : ∃ g, v6.heap.size = g := ⟨_, rfl⟩
        rw [hg7_0] at bD ⊢
        have HP_7 := Lib.hid (HP_6.out.trans hpX7)
        have HW_7 := Lib.hid (HW_6.out.to hpX7)
        have L_7 := Lib.hid (L_6.out.to hpX7)
        have X_7 := Lib.hid (X_6.out.to hpX7)
        have Y_7 := Lib.hid (Y_6.out.to hpX7)
        have A_7 := Lib.hid (A_6.out.to hpX7)
        have B_7 := Lib.hid (B_6.out.to hpX7)
        have C_7 := Lib.hid (C_6.out.to hpX7)
        have D_7 := Lib.hid bD
        clear hX7 hpX7 hg7_0 bD HP_6 HW_6 L_6 X_6 Y_6 A_6 B_6 C_6
        go_wp2_with fail
        refine (least_any X7 (L.rnd r) q1 c1 t HF.out.1 HSA.out X_7.out HW_7.out).mono ?_
        rintro e v8 ⟨rfl, hp⟩
        have HP_8 := Lib.hid (HP_7.out.trans hp)
        have HW_8 := Lib.hid (HW_7.out.to hp)
        have L_8 := Lib.hid (L_7.out.to hp)
        have X_8 := Lib.hid (X_7.out.to hp)
        have Y_8 := Lib.hid (Y_7.out.to hp)
        have A_8 := Lib.hid (A_7.out.to hp)
        have B_8 := Lib.hid (B_7.out.to hp)
        have C_8 := Lib.hid (C_7.out.to hp)
        have D_8 := Lib.hid (D_7.out.to hp)
        clear hp  HP_7 HW_7 L_7 X_7 Y_7 A_7 B_7 C_7 D_7
        rw [HF.out.2.2.2.2.2.2.1, HF.out.2.2.2.2.2.2.2, HND.out.1.1, HND.out.1.2, HND.out.2]
        clear HNA HND HF
        cases i1 <;> cases i3
        · have k0 := A_8.out.at 0
          have k1 := A_8.out.at 1
          have kl := A_8.out.lt
          have l0 := B_8.out.at 0
          have l1 := B_8.out.at 1
          have ll := B_8.out.lt
          have mm0 := C_8.out.at 0
          have mm1 := C_8.out.at 1
          have mml := C_8.out.lt
          have n0 := D_8.out.at 0
          have n1 := D_8.out.at 1
          have nl := D_8.out.lt
          go_wp2_with fail
          clear k0 k1 kl
          clear l0 l1 ll
          clear mm0 mm1 mml
          clear n0 n1 nl
          obtain ⟨X9, hX9⟩ : ∃ V : World, v8.alloc (Obj.cells #[Value.int IntKind.i64 u1, Value.int IntKind.i64 u2] 29) = V := ⟨_, rfl⟩
          have hpX9 : Pure v8 X9 := by rw [← hX9]; exact ((Diff.refl v8).alloc _)
          have bE : Blk (v8.heap.size) 29 #[Value.int IntKind.i64 u1, Value.int IntKind.i64 u2] X9 := by rw [← hX9]; exact (blk0 v8 29 _)
          rw [hX9]
          obtain ⟨g9_0, hg9_0⟩ : ∃ g, v8.heap.size = g := ⟨_, rfl⟩
          rw [hg9_0] at bE ⊢
          have HP_9 := Lib.hid (HP_8.out.trans hpX9)
          have HW_9 := Lib.hid (HW_8.out.to hpX9)
          have L_9 := Lib.hid (L_8.out.to hpX9)
          have X_9 := Lib.hid (X_8.out.to hpX9)
          have Y_9 := Lib.hid (Y_8.out.to hpX9)
          have A_9 := Lib.hid (A_8.out.to hpX9)
          have B_9 := Lib.hid (B_8.out.to hpX9)
          have C_9 := Lib.hid (C_8.out.to hpX9)
          have D_9 := Lib.hid (D_8.out.to hpX9)
          have E_9 := Lib.hid bE
          clear hX9 hpX9 hg9_0 bE HP_8 HW_8 L_8 X_8 Y_8 A_8 B_8 C_8 D_8
          have k0 := A_9.out.at 0
          have k1 := A_9.out.at 1
          have kl := A_9.out.lt
          have l0 := B_9.out.at 0
          have l1 := B_9.out.at 1
          have ll := B_9.out.lt
          have mm0 := C_9.out.at 0
          have mm1 := C_9.out.at 1
          have mml := C_9.out.lt
          have n0 := D_9.out.at 0
          have n1 := D_9.out.at 1
          have nl := D_9.out.lt
          have ee0 := E_9.out.at 0
          have ee1 := E_9.out.at 1
          have eel := E_9.out.lt
          go_wp2_with fail
          clear k0 k1 kl
          clear l0 l1 ll
          clear mm0 mm1 mml
          clear n0 n1 nl
          clear ee0 ee1 eel
          refine (Works_any X9 HW_9.out).mono ?_
          rintro e v10 ⟨rfl, hp⟩
          have HP_10 := Lib.hid (HP_9.out.trans hp)
          have HW_10 := Lib.hid (HW_9.out.to hp)
          have L_10 := Lib.hid (L_9.out.to hp)
          have X_10 := Lib.hid (X_9.out.to hp)
          have Y_10 := Lib.hid (Y_9.out.to hp)
          have A_10 := Lib.hid (A_9.out.to hp)
          have B_10 := Lib.hid (B_9.out.to hp)
          have C_10 := Lib.hid (C_9.out.to hp)
          have D_10 := Lib.hid (D_9.out.to hp)
          have E_10 := Lib.hid (E_9.out.to hp)
          clear hp  HP_9 HW_9 L_9 X_9 Y_9 A_9 B_9 C_9 D_9 E_9
          go_wp2
          exact bodyPost_ret (v := .bool true) (by simp [results, Tryd.results13, go_sem]) rfl ⟨rfl, HP_10.out⟩
        · have k0 := A_8.out.at 0
          have k1 := A_8.out.at 1
          have kl := A_8.out.lt
          have l0 := B_8.out.at 0
          have l1 := B_8.out.at 1
          have ll := B_8.out.lt
          have mm0 := C_8.out.at 0
          have mm1 := C_8.out.at 1
          have mml := C_8.out.lt
          have n0 := D_8.out.at 0
          have n1 := D_8.out.at 1
          have nl := D_8.out.lt
          go_wp2_with fail
          clear k0 k1 kl
          clear l0 l1 ll
          clear mm0 mm1 mml
          clear n0 n1 nl
          obtain ⟨X9, hX9⟩ : ∃ V : World, v8.alloc (Obj.cells #[Value.int IntKind.i64 u1, Value.int IntKind.i64 u2] 29) = V := ⟨_, rfl⟩
          have hpX9 : Pure v8 X9 := by rw [← hX9]; exact ((Diff.refl v8).alloc _)
          have bE : Blk (v8.heap.size) 29 #[Value.int IntKind.i64 u1, Value.int IntKind.i64 u2] X9 := by rw [← hX9]; exact (blk0 v8 29 _)
          rw [hX9]
          obtain ⟨g9_0, hg9_0⟩ : ∃ g, v8.heap.size = g := ⟨_, rfl⟩
          rw [hg9_0] at bE ⊢
          have HP_9 := Lib.hid (HP_8.out.trans hpX9)
          have HW_9 := Lib.hid (HW_8.out.to hpX9)
          have L_9 := Lib.hid (L_8.out.to hpX9)
          have X_9 := Lib.hid (X_8.out.to hpX9)
          have Y_9 := Lib.hid (Y_8.out.to hpX9)
          have A_9 := Lib.hid (A_8.out.to hpX9)
          have B_9 := Lib.hid (B_8.out.to hpX9)
          have C_9 := Lib.hid (C_8.out.to hpX9)
          have D_9 := Lib.hid (D_8.out.to hpX9)
          have E_9 := Lib.hid bE
          clear hX9 hpX9 hg9_0 bE HP_8 HW_8 L_8 X_8 Y_8 A_8 B_8 C_8 D_8
          have k0 := A_9.out.at 0
          have k1 := A_9.out.at 1
          have kl := A_9.out.lt
          have l0 := B_9.out.at 0
          have l1 := B_9.out.at 1
          have ll := B_9.out.lt
          have mm0 := C_9.out.at 0
          have mm1 := C_9.out.at 1
          have mml := C_9.out.lt
          have n0 := D_9.out.at 0
          have n1 := D_9.out.at 1
          have nl := D_9.out.lt
          have ee0 := E_9.out.at 0
          have ee1 := E_9.out.at 1
          have eel := E_9.out.lt
          go_wp2_with fail
          clear k0 k1 kl
          clear l0 l1 ll
          clear mm0 mm1 mml
          clear n0 n1 nl
          clear ee0 ee1 eel
          refine (Works_any X9 HW_9.out).mono ?_
          rintro e v10 ⟨rfl, hp⟩
          have HP_10 := Lib.hid (HP_9.out.trans hp)
          have HW_10 := Lib.hid (HW_9.out.to hp)
          have L_10 := Lib.hid (L_9.out.to hp)
          have X_10 := Lib.hid (X_9.out.to hp)
          have Y_10 := Lib.hid (Y_9.out.to hp)
          have A_10 := Lib.hid (A_9.out.to hp)
          have B_10 := Lib.hid (B_9.out.to hp)
          have C_10 := Lib.hid (C_9.out.to hp)
          have D_10 := Lib.hid (D_9.out.to hp)
          have E_10 := Lib.hid (E_9.out.to hp)
          clear hp  HP_9 HW_9 L_9 X_9 Y_9 A_9 B_9 C_9 D_9 E_9
          go_wp2
          exact bodyPost_ret (v := .bool true) (by simp [results, Tryd.results13, go_sem]) rfl ⟨rfl, HP_10.out⟩
        · have k0 := A_8.out.at 0
          have k1 := A_8.out.at 1
          have kl := A_8.out.lt
          have l0 := B_8.out.at 0
          have l1 := B_8.out.at 1
          have ll := B_8.out.lt
          have mm0 := C_8.out.at 0
          have mm1 := C_8.out.at 1
          have mml := C_8.out.lt
          have n0 := D_8.out.at 0
          have n1 := D_8.out.at 1
          have nl := D_8.out.lt
          go_wp2_with fail
          clear k0 k1 kl
          clear l0 l1 ll
          clear mm0 mm1 mml
          clear n0 n1 nl
          obtain ⟨X9, hX9⟩ : ∃ V : World, v8.alloc (Obj.cells #[Value.int IntKind.i64 u1, Value.int IntKind.i64 u2] 29) = V := ⟨_, rfl⟩
          have hpX9 : Pure v8 X9 := by rw [← hX9]; exact ((Diff.refl v8).alloc _)
          have bE : Blk (v8.heap.size) 29 #[Value.int IntKind.i64 u1, Value.int IntKind.i64 u2] X9 := by rw [← hX9]; exact (blk0 v8 29 _)
          rw [hX9]
          obtain ⟨g9_0, hg9_0⟩ : ∃ g, v8.heap.size = g := ⟨_, rfl⟩
          rw [hg9_0] at bE ⊢
          have HP_9 := Lib.hid (HP_8.out.trans hpX9)
          have HW_9 := Lib.hid (HW_8.out.to hpX9)
          have L_9 := Lib.hid (L_8.out.to hpX9)
          have X_9 := Lib.hid (X_8.out.to hpX9)
          have Y_9 := Lib.hid (Y_8.out.to hpX9)
          have A_9 := Lib.hid (A_8.out.to hpX9)
          have B_9 := Lib.hid (B_8.out.to hpX9)
          have C_9 := Lib.hid (C_8.out.to hpX9)
          have D_9 := Lib.hid (D_8.out.to hpX9)
          have E_9 := Lib.hid bE
          clear hX9 hpX9 hg9_0 bE HP_8 HW_8 L_8 X_8 Y_8 A_8 B_8 C_8 D_8
          have k0 := A_9.out.at 0
          have k1 := A_9.out.at 1
          have kl := A_9.out.lt
          have l0 := B_9.out.at 0
          have l1 := B_9.out.at 1
          have ll := B_9.out.lt
          have mm0 := C_9.out.at 0
          have mm1 := C_9.out.at 1
          have mml := C_9.out.lt
          have n0 := D_9.out.at 0
          have n1 := D_9.out.at 1
          have nl := D_9.out.lt
          have ee0 := E_9.out.at 0
          have ee1 := E_9.out.at 1
          have eel := E_9.out.lt
          go_wp2_with fail
          clear k0 k1 kl
          clear l0 l1 ll
          clear mm0 mm1 mml
          clear n0 n1 nl
          clear ee0 ee1 eel
          refine (Works_any X9 HW_9.out).mono ?_
          rintro e v10 ⟨rfl, hp⟩
          have HP_10 := Lib.hid (HP_9.out.trans hp)
          have HW_10 := Lib.hid (HW_9.out.to hp)
          have L_10 := Lib.hid (L_9.out.to hp)
          have X_10 := Lib.hid (X_9.out.to hp)
          have Y_10 := Lib.hid (Y_9.out.to hp)
          have A_10 := Lib.hid (A_9.out.to hp)
          have B_10 := Lib.hid (B_9.out.to hp)
          have C_10 := Lib.hid (C_9.out.to hp)
          have D_10 := Lib.hid (D_9.out.to hp)
          have E_10 := Lib.hid (E_9.out.to hp)
          clear hp  HP_9 HW_9 L_9 X_9 Y_9 A_9 B_9 C_9 D_9 E_9
          go_wp2
          exact bodyPost_ret (v := .bool true) (by simp [results, Tryd.results13, go_sem]) rfl ⟨rfl, HP_10.out⟩
        · have k0 := A_8.out.at 0
          have k1 := A_8.out.at 1
          have kl := A_8.out.lt
          have l0 := B_8.out.at 0
          have l1 := B_8.out.at 1
          have ll := B_8.out.lt
          have mm0 := C_8.out.at 0
          have mm1 := C_8.out.at 1
          have mml := C_8.out.lt
          have n0 := D_8.out.at 0
          have n1 := D_8.out.at 1
          have nl := D_8.out.lt
          go_wp2_with fail
          clear k0 k1 kl
          clear l0 l1 ll
          clear mm0 mm1 mml
          clear n0 n1 nl
          obtain ⟨X9, hX9⟩ : ∃ V : World, v8.alloc (Obj.cells #[Value.int IntKind.i64 u1, Value.int IntKind.i64 u2] 29) = V := ⟨_, rfl⟩
          have hpX9 : Pure v8 X9 := by rw [← hX9]; exact ((Diff.refl v8).alloc _)
          have bE : Blk (v8.heap.size) 29 #[Value.int IntKind.i64 u1, Value.int IntKind.i64 u2] X9 := by rw [← hX9]; exact (blk0 v8 29 _)
          rw [hX9]
          obtain ⟨g9_0, hg9_0⟩ : ∃ g, v8.heap.size = g := ⟨_, rfl⟩
          rw [hg9_0] at bE ⊢
          have HP_9 := Lib.hid (HP_8.out.trans hpX9)
          have HW_9 := Lib.hid (HW_8.out.to hpX9)
          have L_9 := Lib.hid (L_8.out.to hpX9)
          have X_9 := Lib.hid (X_8.out.to hpX9)
          have Y_9 := Lib.hid (Y_8.out.to hpX9)
          have A_9 := Lib.hid (A_8.out.to hpX9)
          have B_9 := Lib.hid (B_8.out.to hpX9)
          have C_9 := Lib.hid (C_8.out.to hpX9)
          have D_9 := Lib.hid (D_8.out.to hpX9)
          have E_9 := Lib.hid bE
          clear hX9 hpX9 hg9_0 bE HP_8 HW_8 L_8 X_8 Y_8 A_8 B_8 C_8 D_8
          have k0 := A_9.out.at 0
          have k1 := A_9.out.at 1
          have kl := A_9.out.lt
          have l0 := B_9.out.at 0
          have l1 := B_9.out.at 1
          have ll := B_9.out.lt
          have mm0 := C_9.out.at 0
          have mm1 := C_9.out.at 1
          have mml := C_9.out.lt
          have n0 := D_9.out.at 0
          have n1 := D_9.out.at 1
          have nl := D_9.out.lt
          have ee0 := E_9.out.at 0
          have ee1 := E_9.out.at 1
          have eel := E_9.out.lt
          go_wp2_with fail
          clear k0 k1 kl
          clear l0 l1 ll
          clear mm0 mm1 mml
          clear n0 n1 nl
          clear ee0 ee1 eel
          refine (Works_any X9 HW_9.out).mono ?_
          rintro e v10 ⟨rfl, hp⟩
          have HP_10 := Lib.hid (HP_9.out.trans hp)
          have HW_10 := Lib.hid (HW_9.out.to hp)
          have L_10 := Lib.hid (L_9.out.to hp)
          have X_10 := Lib.hid (X_9.out.to hp)
          have Y_10 := Lib.hid (Y_9.out.to hp)
          have A_10 := Lib.hid (A_9.out.to hp)
          have B_10 := Lib.hid (B_9.out.to hp)
          have C_10 := Lib.hid (C_9.out.to hp)
          have D_10 := Lib.hid (D_9.out.to hp)
          have E_10 := Lib.hid (E_9.out.to hp)
          clear hp  HP_9 HW_9 L_9 X_9 Y_9 A_9 B_9 C_9 D_9 E_9
          go_wp2
          exact bodyPost_ret (v := .bool true) (by simp [results, Tryd.results13, go_sem]) rfl ⟨rfl, HP_10.out⟩
end Go.Proofs.YtgpfmnjianflaaaDoor
