/- Walk of BlendLost. -/
import Derived.Test.YtgpfmnjianflaaaDoorE4
set_option linter.unusedSimpArgs false
set_option linter.unusedVariables false
set_option linter.constructorNameAsVariable false
namespace Go.Proofs.YtgpfmnjianflaaaDoor
open Go.RowKit

set_option maxRecDepth 20000 in
set_option maxHeartbeats 4000000 in
theorem LostLaw_any (w : World) (L : LT) (p : Option Addr) (cap : Nat) (n1 n2 : Int) (hl : LotsAt w.heap.size w p L) (h1 : (Lit.int .u8 n1).wf = true) (h2 : (Lit.int .u8 n2).wf = true) (hg : Gl w) :
    Calls Tryd.prog 14 #[.slice p L.n cap, .int .u8 n1, .int .u8 n2] w fun e w' => e = .returned (.bool true) ∧ Pure w w' := by
  have hmx : Tryd.prog.follows .mixedOrders = true := by kernel_rfl
  have HG := Lib.hid hg
  have HL := Lib.hid hl
  have H1 := Lib.hid (wf_u8 h1)
  have H2 := Lib.hid (wf_u8 h2)
  clear hg hl h1 h2
  go_enter Tryd.func14, Tryd.ntmps14
  go_wp2_with fail
  refine (fine_any w L p cap HL.out).mono ?_
  rintro e w1 ⟨rfl, hp1⟩
  have HP1 := Lib.hid hp1
  have HG1 := Lib.hid (HG.out.to HP1.out)
  have HL1 := Lib.hid (HL.out.to HP1.out)
  clear hp1
  cases hfb : fineB L with
  | false =>
    clear hfb
    go_wp2_with fail
    refine (Works_any w1 HG1.out).mono ?_
    rintro e w9 ⟨rfl, hp9⟩
    have HP9 := Lib.hid (HP1.out.trans hp9)
    clear hp9
    go_wp2
    exact bodyPost_ret (v := .bool true) (by simp [results, Tryd.results14, go_sem]) rfl ⟨rfl, HP9.out⟩
  | true =>
    have HOK := Lib.hid (fineB_iff.1 hfb)
    clear hfb
    have b1 : IntKind.i64.wrap n1 = n1 := IntWalk.i64_in _ (by have := H1.out; omega)
    have b2 : IntKind.i64.wrap n2 = n2 := IntWalk.i64_in _ (by have := H2.out; omega)
    obtain ⟨t, ht⟩ : ∃ t, n1.tmod 100 + 1 = t := ⟨_, rfl⟩
    obtain ⟨d, hd⟩ : ∃ d, n2.tmod 100 + 1 = d := ⟨_, rfl⟩
    have HT : Hid (1 ≤ t ∧ t ≤ 100) := by have e := Int.tmod_eq_emod_of_nonneg (b := 100) H1.out.1; exact (by omega : 1 ≤ t ∧ t ≤ 100)
    have HD : Hid (1 ≤ d ∧ d ≤ 100) := by have e := Int.tmod_eq_emod_of_nonneg (b := 100) H2.out.1; exact (by omega : 1 ≤ d ∧ d ≤ 100)
    have b3 : n1.tmod 100 = t - 1 := by omega
    have b4 : n2.tmod 100 = d - 1 := by omega
    have b5 : IntKind.i64.wrap (t - 1) = t - 1 := IntWalk.i64_in _ (by have := HT.out; omega)
    have b6 : IntKind.i64.wrap (d - 1) = d - 1 := IntWalk.i64_in _ (by have := HD.out; omega)
    have b7 : IntKind.i64.wrap (1 + (t - 1)) = t := by rw [show 1 + (t - 1) = t by omega]; exact IntWalk.i64_in _ (by have := HT.out; omega)
    have b8 : IntKind.i64.wrap (1 + (d - 1)) = d := by rw [show 1 + (d - 1) = d by omega]; exact IntWalk.i64_in _ (by have := HD.out; omega)
    have HF := Lib.hid (lost_facts HOK.out HT.out HD.out)
    clear ht hd
    go_wp2_with fail
    clear b1 b2 b3 b4 b5 b6 b7 b8
    refine (Last_any w1 L p cap t d (by have := HOK.out.n8; omega) HL1.out HG1.out).mono ?_
    rintro e v0 ⟨rfl, hp⟩
    have HP_0 := Lib.hid (HP1.out.trans hp)
    have HW_0 := Lib.hid (HG1.out.to hp)
    have L_0 := Lib.hid (HL1.out.to hp)
    clear hp  HP1 HG1 HL1
    obtain ⟨le, hle⟩ : ∃ zz, lastE L t d = zz := ⟨_, rfl⟩
    obtain ⟨y, hy⟩ : ∃ zz, lastV L t d = zz := ⟨_, rfl⟩
    rw [hle, hy] at HF ⊢
    clear hle hy
    go_wp2_with fail
    refine (least_any v0 L p cap t HOK.out ⟨by have := HT.out; omega, HT.out.2⟩ L_0.out HW_0.out).mono ?_
    rintro e v1 ⟨rfl, hp⟩
    have HP_1 := Lib.hid (HP_0.out.trans hp)
    have HW_1 := Lib.hid (HW_0.out.to hp)
    have L_1 := Lib.hid (L_0.out.to hp)
    clear hp  HP_0 HW_0 L_0
    obtain ⟨u1, hu1⟩ : ∃ zz, (atP L t).1 = zz := ⟨_, rfl⟩
    obtain ⟨u2, hu2⟩ : ∃ zz, (atP L t).2 = zz := ⟨_, rfl⟩
    obtain ⟨i1, hi1⟩ : ∃ zz, (atE L t == 0) = zz := ⟨_, rfl⟩
    rw [hi1] at HF
    rw [hu1, hu2, hi1]
    clear hu1 hu2 hi1
    rcases HF.out with ⟨rfl, rfl, hy0, hy1, hf1, hf2⟩ | ⟨rfl, rfl, rfl⟩
    · have HY : Hid (0 ≤ y ∧ y ≤ 100) := ⟨hy0, hy1⟩
      have HF1 := Lib.hid hf1
      have HF2 := Lib.hid hf2
      have n1 : ¬ y < 0 := by omega
      have n2 : ¬ 100 < y := by omega
      clear hf1 hf2 hy0 hy1 HF
      obtain ⟨m, hm⟩ : ∃ m, L.n = m := ⟨_, rfl⟩
      have HM := Lib.hid hm
      rw [hm]
      clear hm
      have HMM : Hid (1 ≤ m ∧ m ≤ 8) := by have h1 := HOK.out.n0; have h2 := HOK.out.n8; rw [HM.out] at h1 h2; exact ⟨h1, h2⟩
      go_wp2_with fail
      obtain ⟨X2, hX2⟩ : ∃ V : World, v1.alloc (Obj.cells #[Value.int IntKind.i64 u1, Value.int IntKind.i64 u2] 29) = V := ⟨_, rfl⟩
      have hpX2 : Pure v1 X2 := by rw [← hX2]; exact ((Diff.refl v1).alloc _)
      have bA : Blk (v1.heap.size) 29 #[Value.int IntKind.i64 u1, Value.int IntKind.i64 u2] X2 := by rw [← hX2]; exact (blk0 v1 29 _)
      rw [hX2]
      obtain ⟨g2_0, hg2_0⟩ : ∃ g, v1.heap.size = g := ⟨_, rfl⟩
      rw [hg2_0] at bA ⊢
      have HP_2 := Lib.hid (HP_1.out.trans hpX2)
      have HW_2 := Lib.hid (HW_1.out.to hpX2)
      have L_2 := Lib.hid (L_1.out.to hpX2)
      have A_2 := Lib.hid bA
      clear hX2 hpX2 hg2_0 bA HP_1 HW_1 L_1
      clear n1 n2
      go_loopw [14, 15, 16] (fun u v i wr => ∃ k : Nat, k ≤ m ∧ i = .int .i64 k ∧ Hid (wr.ownsRow w.heap.size 71 2 u k (valsL (L.lose (d * y)) k)) ∧ Hid (wr.ownsRow w.heap.size 71 2 v k (valsL (L.lose (d * (y + 1))) k)) ∧ Hid (∀ g, u.ownBlock = some g → v.ownBlock = some g → False) ∧ Hid (Pure w wr)) (fun _ _ i _ => m - (intOf i).toNat)
      case atStart => exact ⟨0, Nat.zero_le _, rfl, World.ownsRow_nil _ _ _ _, World.ownsRow_nil _ _ _ _, (fun g h => by cases h), HP_2.out⟩
      case round =>
        obtain ⟨k, hk, rfl, HX, HY2, HN, HP⟩ := hrel
        have hm8 : m ≤ 8 := HMM.out.2
        by_cases hlt : k < m
        · obtain ⟨b, o, rfl, hb, hs0, hs1⟩ := HL.out k (by rw [HM.out]; exact hlt)
          have d0 := ((pcell HP.out).1 _ _ hb).trans hs0
          have d1 := ((pcell HP.out).1 _ _ hb).trans hs1
          have lb := Nat.lt_of_lt_of_le hb HP.out.size
          have hki : (k : Int) < (m : Int) := by omega
          have hsk : 0 ≤ L.s k ∧ L.s k ≤ 100 := ⟨HOK.out.s0 k (by rw [HM.out]; exact hlt), HOK.out.s1 k (by rw [HM.out]; exact hlt)⟩
          have m1 := mul_bnd (a := d) (b := y) 100 100 (by have := HD.out; omega) (by have := HD.out; omega) (by have := HY.out; omega) (by have := HY.out; omega)
          have m2 := mul_bnd (a := d) (b := y + 1) 100 101 (by have := HD.out; omega) (by have := HD.out; omega) (by have := HY.out; omega) (by have := HY.out; omega)
          obtain ⟨z1, hz1⟩ : ∃ z, d * y = z := ⟨_, rfl⟩
          obtain ⟨z2, hz2⟩ : ∃ z, d * (y + 1) = z := ⟨_, rfl⟩
          have HZ1 := Lib.hid hz1
          have HZ2 := Lib.hid hz2
          rw [hz1] at m1
          rw [hz2] at m2
          have hw0 : IntKind.i64.wrap (y + 1) = y + 1 := IntWalk.i64_in _ (by have := HY.out; omega)
          have hw1 : IntKind.i64.wrap (d * y) = z1 := by rw [hz1]; exact IntWalk.i64_in _ (by omega)
          have hw2 : IntKind.i64.wrap (d * (y + 1)) = z2 := by rw [hz2]; exact IntWalk.i64_in _ (by omega)
          have hw3 : IntKind.i64.wrap (L.s k - z1) = L.s k - z1 := IntWalk.i64_in _ (by omega)
          have hw4 : IntKind.i64.wrap (L.s k - z2) = L.s k - z2 := IntWalk.i64_in _ (by omega)
          by_cases c1 : 0 < L.s k - z1
          · by_cases c2 : 0 < L.s k - z2
            · obtain ⟨u', wA, hr1, ho1, hd1, hob1, hbk⟩ := push_lot2 HX.out (by omega) HP.out.size (L.s k) (L.p k) (L.s k - z1) (L.p k)
              have HX1 := Lib.hid ho1
              have HD1 := Lib.hid hd1
              have hq := own_apart2 HY2.out hd1 HN.out hob1
              have HY1 := Lib.hid hq.1
              have HN1 := Lib.hid hq.2
              have HPA : Hid (Pure w wA) := HP.out.trans' HD1.out (fun x hx hh => by have := (HX.out.lt x hh.symm).1; omega)
              obtain ⟨gk, hgk⟩ : ∃ g, wr.heap.size = g := ⟨_, rfl⟩
              have HBK := Lib.hid hbk
              have HGK := Lib.hid hgk
              obtain ⟨v', wB, hr2, ho2, hd2, hob2⟩ := push_lot HY1.out (by omega) HPA.out.size (L.s k - z2) (L.p k)
              have HY3 := Lib.hid ho2
              have hq2 := own_apart HX1.out hd2 (fun g h1 h2 => HN1.out g h2 h1) hob2
              have HX2 := Lib.hid hq2.1
              have HN2 := Lib.hid hq2.2
              have HPB : Hid (Pure w wB) := HPA.out.trans' hd2 (fun x hx hh => by have := (HY1.out.lt x hh.symm).1; omega)
              clear ho1 hd1 hob1 hq hbk ho2 hd2 hob2 hq2 hgk hz1 hz2 m1 m2 hs0 hs1 hb
              have k0 := HBK.out.at 0
              have k1 := HBK.out.at 1
              have kl := HBK.out.lt
              go_wp2_with (at_builtin; first | refine Lib.wpList_append_run _ rfl _ _ _ _ rfl _ _ rfl rfl _ _ hr1 ?_ | refine Lib.wpList_append_run _ rfl _ _ _ _ rfl _ _ rfl rfl _ _ hr2 ?_)
              go_roundw
              case rel =>
                refine ⟨k + 1, by omega, by go_num, ?_, ?_, fun g h1 h2 => HN2.out g h2 h1, HPB.out⟩
                · show World.ownsRow _ _ _ _ _ _ _
                  rw [valsL_succ]
                  have e : (L.lose (d * y)).s k = L.s k - z1 := by show max 0 (L.s k - d * y) = _; rw [HZ1.out]; omega
                  rw [e]
                  exact HX2.out
                · show World.ownsRow _ _ _ _ _ _ _
                  rw [valsL_succ]
                  have e : (L.lose (d * (y + 1))).s k = L.s k - z2 := by show max 0 (L.s k - d * (y + 1)) = _; rw [HZ2.out]; omega
                  rw [e]
                  exact HY3.out
              case measure => simp [intOf]; omega
            · obtain ⟨u', wA, hr1, ho1, hd1, hob1, hbk⟩ := push_lot2 HX.out (by omega) HP.out.size (L.s k) (L.p k) (L.s k - z1) (L.p k)
              have HX1 := Lib.hid ho1
              have HD1 := Lib.hid hd1
              have hq := own_apart2 HY2.out hd1 HN.out hob1
              have HY1 := Lib.hid hq.1
              have HN1 := Lib.hid hq.2
              have HPA : Hid (Pure w wA) := HP.out.trans' HD1.out (fun x hx hh => by have := (HX.out.lt x hh.symm).1; omega)
              obtain ⟨gk, hgk⟩ : ∃ g, wr.heap.size = g := ⟨_, rfl⟩
              have HBK := Lib.hid hbk
              have HGK := Lib.hid hgk
              obtain ⟨v', wB, hr2, ho2, hd2, hob2⟩ := push_lot HY1.out (by omega) HPA.out.size 0 (L.p k)
              have HY3 := Lib.hid ho2
              have hq2 := own_apart HX1.out hd2 (fun g h1 h2 => HN1.out g h2 h1) hob2
              have HX2 := Lib.hid hq2.1
              have HN2 := Lib.hid hq2.2
              have HPB : Hid (Pure w wB) := HPA.out.trans' hd2 (fun x hx hh => by have := (HY1.out.lt x hh.symm).1; omega)
              clear ho1 hd1 hob1 hq hbk ho2 hd2 hob2 hq2 hgk hz1 hz2 m1 m2 hs0 hs1 hb
              have k0 := HBK.out.at 0
              have k1 := HBK.out.at 1
              have kl := HBK.out.lt
              go_wp2_with (at_builtin; first | refine Lib.wpList_append_run _ rfl _ _ _ _ rfl _ _ rfl rfl _ _ hr1 ?_ | refine Lib.wpList_append_run _ rfl _ _ _ _ rfl _ _ rfl rfl _ _ hr2 ?_)
              go_roundw
              case rel =>
                refine ⟨k + 1, by omega, by go_num, ?_, ?_, fun g h1 h2 => HN2.out g h2 h1, HPB.out⟩
                · show World.ownsRow _ _ _ _ _ _ _
                  rw [valsL_succ]
                  have e : (L.lose (d * y)).s k = L.s k - z1 := by show max 0 (L.s k - d * y) = _; rw [HZ1.out]; omega
                  rw [e]
                  exact HX2.out
                · show World.ownsRow _ _ _ _ _ _ _
                  rw [valsL_succ]
                  have e : (L.lose (d * (y + 1))).s k = 0 := by show max 0 (L.s k - d * (y + 1)) = _; rw [HZ2.out]; omega
                  rw [e]
                  exact HY3.out
              case measure => simp [intOf]; omega
          · by_cases c2 : 0 < L.s k - z2
            · obtain ⟨u', wA, hr1, ho1, hd1, hob1, hbk⟩ := push_lot2 HX.out (by omega) HP.out.size (L.s k) (L.p k) 0 (L.p k)
              have HX1 := Lib.hid ho1
              have HD1 := Lib.hid hd1
              have hq := own_apart2 HY2.out hd1 HN.out hob1
              have HY1 := Lib.hid hq.1
              have HN1 := Lib.hid hq.2
              have HPA : Hid (Pure w wA) := HP.out.trans' HD1.out (fun x hx hh => by have := (HX.out.lt x hh.symm).1; omega)
              obtain ⟨gk, hgk⟩ : ∃ g, wr.heap.size = g := ⟨_, rfl⟩
              have HBK := Lib.hid hbk
              have HGK := Lib.hid hgk
              obtain ⟨v', wB, hr2, ho2, hd2, hob2⟩ := push_lot HY1.out (by omega) HPA.out.size (L.s k - z2) (L.p k)
              have HY3 := Lib.hid ho2
              have hq2 := own_apart HX1.out hd2 (fun g h1 h2 => HN1.out g h2 h1) hob2
              have HX2 := Lib.hid hq2.1
              have HN2 := Lib.hid hq2.2
              have HPB : Hid (Pure w wB) := HPA.out.trans' hd2 (fun x hx hh => by have := (HY1.out.lt x hh.symm).1; omega)
              clear ho1 hd1 hob1 hq hbk ho2 hd2 hob2 hq2 hgk hz1 hz2 m1 m2 hs0 hs1 hb
              have k0 := HBK.out.at 0
              have k1 := HBK.out.at 1
              have kl := HBK.out.lt
              go_wp2_with (at_builtin; first | refine Lib.wpList_append_run _ rfl _ _ _ _ rfl _ _ rfl rfl _ _ hr1 ?_ | refine Lib.wpList_append_run _ rfl _ _ _ _ rfl _ _ rfl rfl _ _ hr2 ?_)
              go_roundw
              case rel =>
                refine ⟨k + 1, by omega, by go_num, ?_, ?_, fun g h1 h2 => HN2.out g h2 h1, HPB.out⟩
                · show World.ownsRow _ _ _ _ _ _ _
                  rw [valsL_succ]
                  have e : (L.lose (d * y)).s k = 0 := by show max 0 (L.s k - d * y) = _; rw [HZ1.out]; omega
                  rw [e]
                  exact HX2.out
                · show World.ownsRow _ _ _ _ _ _ _
                  rw [valsL_succ]
                  have e : (L.lose (d * (y + 1))).s k = L.s k - z2 := by show max 0 (L.s k - d * (y + 1)) = _; rw [HZ2.out]; omega
                  rw [e]
                  exact HY3.out
              case measure => simp [intOf]; omega
            · obtain ⟨u', wA, hr1, ho1, hd1, hob1, hbk⟩ := push_lot2 HX.out (by omega) HP.out.size (L.s k) (L.p k) 0 (L.p k)
              have HX1 := Lib.hid ho1
              have HD1 := Lib.hid hd1
              have hq := own_apart2 HY2.out hd1 HN.out hob1
              have HY1 := Lib.hid hq.1
              have HN1 := Lib.hid hq.2
              have HPA : Hid (Pure w wA) := HP.out.trans' HD1.out (fun x hx hh => by have := (HX.out.lt x hh.symm).1; omega)
              obtain ⟨gk, hgk⟩ : ∃ g, wr.heap.size = g := ⟨_, rfl⟩
              have HBK := Lib.hid hbk
              have HGK := Lib.hid hgk
              obtain ⟨v', wB, hr2, ho2, hd2, hob2⟩ := push_lot HY1.out (by omega) HPA.out.size 0 (L.p k)
              have HY3 := Lib.hid ho2
              have hq2 := own_apart HX1.out hd2 (fun g h1 h2 => HN1.out g h2 h1) hob2
              have HX2 := Lib.hid hq2.1
              have HN2 := Lib.hid hq2.2
              have HPB : Hid (Pure w wB) := HPA.out.trans' hd2 (fun x hx hh => by have := (HY1.out.lt x hh.symm).1; omega)
              clear ho1 hd1 hob1 hq hbk ho2 hd2 hob2 hq2 hgk hz1 hz2 m1 m2 hs0 hs1 hb
              have k0 := HBK.out.at 0
              have k1 := HBK.out.at 1
              have kl := HBK.out.lt
              go_wp2_with (at_builtin; first | refine Lib.wpList_append_run _ rfl _ _ _ _ rfl _ _ rfl rfl _ _ hr1 ?_ | refine Lib.wpList_append_run _ rfl _ _ _ _ rfl _ _ rfl rfl _ _ hr2 ?_)
              go_roundw
              case rel =>
                refine ⟨k + 1, by omega, by go_num, ?_, ?_, fun g h1 h2 => HN2.out g h2 h1, HPB.out⟩
                · show World.ownsRow _ _ _ _ _ _ _
                  rw [valsL_succ]
                  have e : (L.lose (d * y)).s k = 0 := by show max 0 (L.s k - d * y) = _; rw [HZ1.out]; omega
                  rw [e]
                  exact HX2.out
                · show World.ownsRow _ _ _ _ _ _ _
                  rw [valsL_succ]
                  have e : (L.lose (d * (y + 1))).s k = 0 := by show max 0 (L.s k - d * (y + 1)) = _; rw [HZ2.out]; omega
                  rw [e]
                  exact HY3.out
              case measure => simp [intOf]; omega
        · obtain rfl : k = m := by omega
          have HGr := Lib.hid (HG.out.to HP.out)
          have HLr := Lib.hid (HL.out.to HP.out)
          obtain ⟨q1, c1, rfl, hx⟩ := all_own (L := L.lose (d * y)) HX.out HM.out
          obtain ⟨q2, c2, rfl, hy⟩ := all_own (L := L.lose (d * (y + 1))) HY2.out HM.out
          have HXr := Lib.hid hx
          have HYr := Lib.hid hy
          clear hx hy HX HY2 HN
          have HK1 : Hid (L.lose (d * y)).Ok := ok_lose HOK.out (Int.mul_nonneg (by have := HD.out; omega) HY.out.1)
          have HK2 : Hid (L.lose (d * (y + 1))).Ok := ok_lose HOK.out (Int.mul_nonneg (by have := HD.out; omega) (by have := HY.out; omega))
          obtain rfl : L.n = k := HM.out
          go_wp2_with fail
          refine (least_any wr (L.lose (d * y)) q1 c1 t HK1.out ⟨by have := HT.out; omega, HT.out.2⟩ HXr.out HGr.out).mono ?_
          rintro e v0 ⟨rfl, hp⟩
          have HP_0 := Lib.hid (HP.out.trans hp)
          have HW_0 := Lib.hid (HGr.out.to hp)
          have L_0 := Lib.hid (HLr.out.to hp)
          have X_0 := Lib.hid (HXr.out.to hp)
          have Y_0 := Lib.hid (HYr.out.to hp)
          clear hp  HP HGr HLr HXr HYr
          obtain ⟨x1, hx1⟩ : ∃ zz, (atP (L.lose (d * y)) t).1 = zz := ⟨_, rfl⟩
          obtain ⟨x2, hx2⟩ : ∃ zz, (atP (L.lose (d * y)) t).2 = zz := ⟨_, rfl⟩
          rw [hx1, hx2, HF1.out]
          clear hx1 hx2
          go_wp2_with fail
          obtain ⟨X1, hX1⟩ : ∃ V : World, v0.alloc (Obj.cells #[Value.int IntKind.i64 x1, Value.int IntKind.i64 x2] 29) = V := ⟨_, rfl⟩
          have hpX1 : Pure v0 X1 := by rw [← hX1]; exact ((Diff.refl v0).alloc _)
          have bB : Blk (v0.heap.size) 29 #[Value.int IntKind.i64 x1, Value.int IntKind.i64 x2] X1 := by rw [← hX1]; exact (blk0 v0 29 _)
          rw [hX1]
          obtain ⟨g1_0, hg1_0⟩ : ∃ g, v0.heap.size = g := ⟨_, rfl⟩
          rw [hg1_0] at bB ⊢
          have HP_1 := Lib.hid (HP_0.out.trans hpX1)
          have HW_1 := Lib.hid (HW_0.out.to hpX1)
          have L_1 := Lib.hid (L_0.out.to hpX1)
          have X_1 := Lib.hid (X_0.out.to hpX1)
          have Y_1 := Lib.hid (Y_0.out.to hpX1)
          have B_1 := Lib.hid bB
          clear hX1 hpX1 hg1_0 bB HP_0 HW_0 L_0 X_0 Y_0
          go_wp2_with fail
          refine (least_any X1 (L.lose (d * (y + 1))) q2 c2 t HK2.out ⟨by have := HT.out; omega, HT.out.2⟩ Y_1.out HW_1.out).mono ?_
          rintro e v2 ⟨rfl, hp⟩
          have HP_2 := Lib.hid (HP_1.out.trans hp)
          have HW_2 := Lib.hid (HW_1.out.to hp)
          have L_2 := Lib.hid (L_1.out.to hp)
          have X_2 := Lib.hid (X_1.out.to hp)
          have Y_2 := Lib.hid (Y_1.out.to hp)
          have B_2 := Lib.hid (B_1.out.to hp)
          clear hp  HP_1 HW_1 L_1 X_1 Y_1 B_1
          obtain ⟨y1, hy1⟩ : ∃ zz, (atP (L.lose (d * (y + 1))) t).1 = zz := ⟨_, rfl⟩
          obtain ⟨y2, hy2⟩ : ∃ zz, (atP (L.lose (d * (y + 1))) t).2 = zz := ⟨_, rfl⟩
          rw [hy1, hy2, HF2.out]
          clear hy1 hy2
          go_wp2_with fail
          obtain ⟨X3, hX3⟩ : ∃ V : World, v2.alloc (Obj.cells #[Value.int IntKind.i64 y1, Value.int IntKind.i64 y2] 29) = V := ⟨_, rfl⟩
          have hpX3 : Pure v2 X3 := by rw [← hX3]; exact ((Diff.refl v2).alloc _)
          have bC : Blk (v2.heap.size) 29 #[Value.int IntKind.i64 y1, Value.int IntKind.i64 y2] X3 := by rw [← hX3]; exact (blk0 v2 29 _)
          rw [hX3]
          obtain ⟨g3_0, hg3_0⟩ : ∃ g, v2.heap.size = g := ⟨_, rfl⟩
          rw [hg3_0] at bC ⊢
          have HP_3 := Lib.hid (HP_2.out.trans hpX3)
          have HW_3 := Lib.hid (HW_2.out.to hpX3)
          have L_3 := Lib.hid (L_2.out.to hpX3)
          have X_3 := Lib.hid (X_2.out.to hpX3)
          have Y_3 := Lib.hid (Y_2.out.to hpX3)
          have B_3 := Lib.hid (B_2.out.to hpX3)
          have C_3 := Lib.hid bC
          clear hX3 hpX3 hg3_0 bC HP_2 HW_2 L_2 X_2 Y_2 B_2
          refine (Works_any X3 HW_3.out).mono ?_
          rintro e v4 ⟨rfl, hp⟩
          have HP_4 := Lib.hid (HP_3.out.trans hp)
          have HW_4 := Lib.hid (HW_3.out.to hp)
          have L_4 := Lib.hid (L_3.out.to hp)
          have X_4 := Lib.hid (X_3.out.to hp)
          have Y_4 := Lib.hid (Y_3.out.to hp)
          have B_4 := Lib.hid (B_3.out.to hp)
          have C_4 := Lib.hid (C_3.out.to hp)
          clear hp  HP_3 HW_3 L_3 X_3 Y_3 B_3 C_3
          go_wp2
          exact bodyPost_ret (v := .bool true) (by simp [results, Tryd.results14, go_sem]) rfl ⟨rfl, HP_4.out⟩
    · clear HF
      go_wp2_with fail
      obtain ⟨X2, hX2⟩ : ∃ V : World, v1.alloc (Obj.cells #[Value.int IntKind.i64 u1, Value.int IntKind.i64 u2] 29) = V := ⟨_, rfl⟩
      have hpX2 : Pure v1 X2 := by rw [← hX2]; exact ((Diff.refl v1).alloc _)
      have bA : Blk (v1.heap.size) 29 #[Value.int IntKind.i64 u1, Value.int IntKind.i64 u2] X2 := by rw [← hX2]; exact (blk0 v1 29 _)
      rw [hX2]
      obtain ⟨g2_0, hg2_0⟩ : ∃ g, v1.heap.size = g := ⟨_, rfl⟩
      rw [hg2_0] at bA ⊢
      have HP_2 := Lib.hid (HP_1.out.trans hpX2)
      have HW_2 := Lib.hid (HW_1.out.to hpX2)
      have L_2 := Lib.hid (L_1.out.to hpX2)
      have A_2 := Lib.hid bA
      clear hX2 hpX2 hg2_0 bA HP_1 HW_1 L_1
      refine (Works_any X2 HW_2.out).mono ?_
      rintro e v3 ⟨rfl, hp⟩
      have HP_3 := Lib.hid (HP_2.out.trans hp)
      have HW_3 := Lib.hid (HW_2.out.to hp)
      have L_3 := Lib.hid (L_2.out.to hp)
      have A_3 := Lib.hid (A_2.out.to hp)
      clear hp  HP_2 HW_2 L_2 A_2
      go_wp2
      exact bodyPost_ret (v := .bool true) (by simp [results, Tryd.results14, go_sem]) rfl ⟨rfl, HP_3.out⟩
end Go.Proofs.YtgpfmnjianflaaaDoor
