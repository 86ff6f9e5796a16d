/- Walk of BlendIdle. -/
import Derived.Test.YtgpfmnjianflaaaDoorR23
set_option linter.unusedSimpArgs false
set_option linter.unusedVariables false
set_option linter.constructorNameAsVariable false
namespace Go.Proofs.YtgpfmnjianflaaaDoor
open Go.RowKit

theorem exec_load_int {o : Oper} {a : Act} {w : World} (x : Operand) (ho : o.op = .load 3 x) (g j : Nat) (u : Int)
    (hx : a.eval x = .pointer (some ⟨g, j, none⟩)) (hc : w.cell? ⟨g, j, none⟩ = some (.int .i64 u)) (hl : g < w.heap.size) : (execOp a.eval o).run Tryd.prog w = .ok (.value (.int .i64 u)) w := by
  unfold execOp
  simp only [ho, hx]
  go_simp
set_option maxRecDepth 20000 in
set_option maxHeartbeats 8000000 in
theorem IdleLaw_any (w : World) (L : LT) (p : Option Addr) (cap : Nat) (n1 n2 : Int) (hl : LotsAt w.heap.size w p L) (h1 : (Lit.int .u8 n1).wf = true) (h2 : (Lit.int .u8 n2).wf = true) (hg : Gl w) :
    Calls Tryd.prog 10 #[.slice p L.n cap, .int .u8 n1, .int .u8 n2] w fun e w' => e = .returned (.bool true) ∧ Pure w w' := by
  have hmx : Tryd.prog.follows .mixedOrders = true := by kernel_rfl
  have HG := Lib.hid hg
  have HL := Lib.hid hl
  have HLw := Lib.hid hl
  have H1 := Lib.hid (wf_u8 h1)
  have H2 := Lib.hid (wf_u8 h2)
  have HP0 : Hid (Pure w w) := Diff.refl w
  clear hg hl h1 h2
  go_enter Tryd.func10, Tryd.ntmps10
  go_wp2_with fail
  refine (fine_any w L p cap HL.out).mono ?_
  rintro e v0 ⟨rfl, hp⟩
  have HP_0 := Lib.hid (HP0.out.trans hp)
  have HW_0 := Lib.hid (HG.out.to hp)
  have L_0 := Lib.hid (HL.out.to hp)
  clear hp  HP0 HG HL
  cases hfb : fineB L
  · clear hfb
    go_wp2_with fail
    refine (Works_any v0 HW_0.out).mono ?_
    rintro e v1 ⟨rfl, hp⟩
    have HP_1 := Lib.hid (HP_0.out.trans hp)
    have HW_1 := Lib.hid (HW_0.out.to hp)
    have L_1 := Lib.hid (L_0.out.to hp)
    clear hp  HP_0 HW_0 L_0
    go_wp2
    exact bodyPost_ret (v := .bool true) (by simp [results, Tryd.results10, go_sem]) rfl ⟨rfl, HP_1.out⟩
  · have HOK := Lib.hid (fineB_iff.1 hfb)
    clear hfb
    have HN : Hid (1 ≤ L.n ∧ L.n ≤ 8) := ⟨HOK.out.n0, HOK.out.n8⟩
    have HT : Hid (0 ≤ shp n1 ∧ shp n1 ≤ 100) := shp_in n1
    obtain ⟨r, hr⟩ : ∃ r : Nat, n2 = (r : Int) := ⟨n2.toNat, by have := H2.out; omega⟩
    subst hr
    obtain ⟨i, hi⟩ : ∃ i : Nat, r % L.n = i := ⟨_, rfl⟩
    have hiL : i < L.n := by rw [← hi]; exact Nat.mod_lt _ HOK.out.n0
    have HI := Lib.hid hiL
    have hq1 : IntKind.i64.wrap (r : Int) = (r : Int) := IntWalk.i64_in _ (by have := H2.out; omega)
    have hq2 : ((r : Int)).tmod (L.n : Int) = (i : Int) := by rw [Int.tmod_eq_emod_of_nonneg (by omega), ← hi, Int.natCast_emod]
    have hq3 : IntKind.i64.wrap (i : Int) = (i : Int) := IntWalk.i64_in _ (by have := HN.out; omega)
    have hq4 : ¬ L.n = 0 := by have := HN.out; omega
    clear hi hiL
    go_wp2_with fail
    refine WQ.region (C := Pure v0) hmx (by kernel_rfl) ((Diff.refl _).drew) ?_
    iterate 1 (refine WQ.step (fun K hK => ?_); go_simp; first | refine hK _ ?_ | refine ⟨_, fun _ _ => rfl, hK _ ?_⟩; clear hK K)
    refine WQ.call (by rfl) 46 #[.int .u8 n1] (.int .i64 (shp n1)) (fun V => by unfold execOp; simp [go_sem]) (fun V hV => by have h := sharpness_any V n1 H1.out; exact h.mono fun e V2 h => ⟨h.1, hV.trans h.2⟩) ?_
    iterate 7 (refine WQ.step (fun K hK => ?_); go_simp; first | refine hK _ ?_ | refine ⟨_, fun _ _ => rfl, hK _ ?_⟩; clear hK K)
    refine WQ.nil ?_
    rintro V hV
    have HP_1 := Lib.hid (HP_0.out.trans hV)
    have HW_1 := Lib.hid (HW_0.out.to hV)
    have L_1 := Lib.hid (L_0.out.to hV)
    clear hV hq1 hq2 hq3 hq4 HP_0 HW_0 L_0
    obtain ⟨t, ht⟩ : ∃ z, shp n1 = z := ⟨_, rfl⟩
    rw [ht] at HT ⊢
    clear ht
    have hc0 := checkL_ok.2 HOK.out
    have hce : L.cornersE = L.corners := by unfold LT.cornersE; rw [if_pos hc0]
    have HF := Lib.hid (idle_facts HOK.out HT.out)
    have HC0 := Lib.hid hc0
    have HCE := Lib.hid hce
    clear hc0 hce
    have HLL : Hid (L.idleE.length ≤ 8 ∧ L.corners.length ≤ 8 ∧ 0 < L.corners.length ∧ L.idleE.length + L.corners.length ≤ L.n) := by have h1 := HF.out.2.2.1; have h2 := HF.out.2.2.2.1; have h3 := HN.out; exact ⟨by omega, by omega, h1, h2⟩
    go_wp2_with fail
    refine (Idle_any V L p cap (by have := HN.out; omega) L_1.out HW_1.out).mono ?_
    rintro e v2 ⟨⟨qi, ci, rfl, hri⟩, hp⟩
    have HP_2 := Lib.hid (HP_1.out.trans hp)
    have HW_2 := Lib.hid (HW_1.out.to hp)
    have L_2 := Lib.hid (L_1.out.to hp)
    have I_2 := Lib.hid hri
    clear hp hri HP_1 HW_1 L_1
    rw [HC0.out]
    go_wp2_with fail
    refine (Corners_any v2 L p cap (by have := HN.out; omega) L_2.out HW_2.out).mono ?_
    rintro e v3 ⟨⟨qc, cc, rfl, hrc⟩, hp⟩
    have HP_3 := Lib.hid (HP_2.out.trans hp)
    have HW_3 := Lib.hid (HW_2.out.to hp)
    have L_3 := Lib.hid (L_2.out.to hp)
    have I_3 := Lib.hid (I_2.out.to hp)
    have C_3 := Lib.hid hrc
    clear hp hrc HP_2 HW_2 L_2 I_2
    rw [HCE.out] at C_3 ⊢
    rw [HC0.out]
    obtain ⟨l, hll⟩ : ∃ l, L.idleE = l := ⟨_, rfl⟩
    obtain ⟨C, hcc⟩ : ∃ C, L.corners = C := ⟨_, rfl⟩
    rw [hll] at HF HLL I_3 ⊢
    rw [hcc] at HF HLL C_3 ⊢
    clear hll hcc HCE
    go_wp2_with fail
    refine (isList_any v3 l qi ci L.n HF.out.1 (by have := HLL.out; omega) (by have := HN.out; omega) I_3.out).mono ?_
    rintro e v4 ⟨rfl, hp⟩
    have HP_4 := Lib.hid (HP_3.out.trans hp)
    have HW_4 := Lib.hid (HW_3.out.to hp)
    have L_4 := Lib.hid (L_3.out.to hp)
    have I_4 := Lib.hid (I_3.out.to hp)
    have C_4 := Lib.hid (C_3.out.to hp)
    clear hp  HP_3 HW_3 L_3 I_3 C_3
    go_wp2_with fail
    refine (isList_any v4 C qc cc L.n HF.out.2.1 (by have := HLL.out; omega) (by have := HN.out; omega) C_4.out).mono ?_
    rintro e v5 ⟨rfl, hp⟩
    have HP_5 := Lib.hid (HP_4.out.trans hp)
    have HW_5 := Lib.hid (HW_4.out.to hp)
    have L_5 := Lib.hid (L_4.out.to hp)
    have I_5 := Lib.hid (I_4.out.to hp)
    have C_5 := Lib.hid (C_4.out.to hp)
    clear hp  HP_4 HW_4 L_4 I_4 C_4
    have hz1 : ¬ C.length = 0 := by have := HLL.out; omega
    have hz4 : ¬ C = [] := fun e => hz1 (by rw [e]; rfl)
    have hz5 : ((C.length : Int) == 0) = false := by rw [beq_eq_false_iff_ne]; omega
    have hz2 : IntKind.i64.wrap ((l.length : Int) + (C.length : Int)) = (l.length : Int) + (C.length : Int) := IntWalk.i64_in _ (by have := HLL.out; omega)
    have hz3 : ¬ (L.n : Int) < (l.length : Int) + (C.length : Int) := by have := HLL.out; omega
    go_wp2_with fail
    clear hz1 hz2 hz3 hz4 hz5
    go_loopw [13, 14] (fun u j wr => ∃ k : Nat, k ≤ C.length ∧ j = .int .i64 k ∧ Hid (wr.ownsRow v5.heap.size 71 2 u k (valsL (L.sel C) k)) ∧ Hid (Pure v5 wr)) (fun _ j _ => C.length - (intOf j).toNat)
    case atStart => exact ⟨0, Nat.zero_le _, rfl, World.ownsRow_nil _ _ _ _, Diff.refl _⟩
    case round =>
      obtain ⟨k, hk, rfl, HO, HPr⟩ := hrel
      have hC8 : C.length ≤ 8 := HLL.out.2.1
      by_cases hlt : k < C.length
      · by_cases hk0 : k = 0
        · obtain ⟨x, hx⟩ : ∃ x, nthN C k = x := ⟨_, rfl⟩
          have hxL : x < L.n := by rw [← hx]; exact HF.out.2.1.1 _ (nthN_mem hlt)
          obtain ⟨bC, oC, rfl, hbC, hcC⟩ := C_5.out k hlt
          obtain ⟨bL, oL, rfl, hbL, e0, e1⟩ := L_5.out x hxL
          have hcC' : v5.cell? ⟨bC, oC + k, none⟩ = some (.int .i64 (x : Int)) := by rw [← hx]; exact hcC
          have HBC := Lib.hid hbC
          have HBL := Lib.hid hbL
          have HCC := Lib.hid hcC'
          have HE0 := Lib.hid e0
          have HSX : Hid ((L.sel C).s k = L.s x ∧ (L.sel C).p k = L.p x) := ⟨by show L.s (nthN C k) = _; rw [hx], by show L.p (nthN C k) = _; rw [hx]⟩
          have d0 := ((pcell HPr.out).1 _ _ hbC).trans hcC'
          have d1 := ((pcell HPr.out).1 _ _ hbL).trans e0
          have d2 := ((pcell HPr.out).1 _ _ hbL).trans e1
          have lC := Nat.lt_of_lt_of_le hbC HPr.out.size
          have lL := Nat.lt_of_lt_of_le hbL HPr.out.size
          have hki : (k : Int) < (C.length : Int) := by omega
          have hxi : (x : Int) < (L.n : Int) := by omega
          obtain ⟨u', wA, hr, ho, hd, hob⟩ := push_lot HO.out (by omega) HPr.out.size (L.s x) (L.p x)
          have HO' := Lib.hid ho
          have HPA : Hid (Pure v5 wA) := HPr.out.trans' hd (fun z hz hh => by have h9 := (HO.out.lt z hh.symm).1; omega)
          clear hx hxL hbC hbL e0 e1 hcC hcC' ho hd hob
          have HK0 := Lib.hid hk0
          clear hk0
          go_wp2_with (at_builtin; refine Lib.wpList_append_run _ rfl _ _ _ _ rfl _ _ rfl rfl _ _ hr ?_)
          clear d0 d1 d2 lC lL hr
          have hk9 : ¬ (0 : Int) < (k : Int) := by have := HK0.out; omega
          have hk8 : ¬ 0 < k := by have := HK0.out; omega
          refine WQ.region (C := Pure wA) hmx (by kernel_rfl) ((Diff.refl _).drew) ?_
          iterate 3 (refine WQ.step (fun K hK => ?_); go_simp; first | refine hK _ ?_ | refine ⟨_, fun _ _ => rfl, hK _ ?_⟩; clear hK K)
          refine WQ.skipK (by rfl) (fun K hK => ?_); go_simp; refine hK _ ?_; clear hK K
          refine WQ.skipK (by rfl) (fun K hK => ?_); go_simp; refine hK _ ?_; clear hK K
          refine WQ.skipK (by rfl) (fun K hK => ?_); go_simp; refine hK _ ?_; clear hK K
          refine WQ.skipK (by rfl) (fun K hK => ?_); go_simp; refine hK _ ?_; clear hK K
          refine WQ.skipK (by rfl) (fun K hK => ?_); go_simp; refine hK _ ?_; clear hK K
          refine WQ.skipK (by rfl) (fun K hK => ?_); go_simp; refine hK _ ?_; clear hK K
          refine WQ.skipK (by rfl) (fun K hK => ?_); go_simp; refine hK _ ?_; clear hK K
          refine WQ.skipK (by rfl) (fun K hK => ?_); go_simp; refine hK _ ?_; clear hK K
          refine WQ.skipK (by rfl) (fun K hK => ?_); go_simp; refine hK _ ?_; clear hK K
          refine WQ.skipK (by rfl) (fun K hK => ?_); go_simp; refine hK _ ?_; clear hK K
          refine WQ.skipK (by rfl) (fun K hK => ?_); go_simp; refine hK _ ?_; clear hK K
          refine WQ.skipK (by rfl) (fun K hK => ?_); go_simp; refine hK _ ?_; clear hK K
          refine WQ.skipK (by rfl) (fun K hK => ?_); go_simp; refine hK _ ?_; clear hK K
          refine WQ.skipK (by rfl) (fun K hK => ?_); go_simp; refine hK _ ?_; clear hK K
          refine WQ.skipK (by rfl) (fun K hK => ?_); go_simp; refine hK _ ?_; clear hK K
          refine WQ.skipK (by rfl) (fun K hK => ?_); go_simp; refine hK _ ?_; clear hK K
          refine WQ.skipK (by rfl) (fun K hK => ?_); go_simp; refine hK _ ?_; clear hK K
          refine WQ.skipK (by rfl) (fun K hK => ?_); go_simp; refine hK _ ?_; clear hK K
          iterate 1 (refine WQ.step (fun K hK => ?_); go_simp; first | refine hK _ ?_ | refine ⟨_, fun _ _ => rfl, hK _ ?_⟩; clear hK K)
          refine WQ.nil ?_
          rintro V hV
          have HPV : Hid (Pure v5 V) := HPA.out.trans hV
          have HOV : Hid (V.ownsRow v5.heap.size 71 2 u' (k + 1) (valsL (L.sel C) k ++ [.int .i64 (L.s x), .int .i64 (L.p x)])) := own_pure HO'.out hV
          clear hV
          go_wp2_with fail
          go_roundw
          case rel =>
            refine ⟨k + 1, by omega, by first | go_num | rfl, ?_, HPV.out⟩
            show World.ownsRow _ _ _ _ _ _ _
            rw [valsL_succ, HSX.out.1, HSX.out.2]
            exact HOV.out
          case measure => simp [intOf]; omega
        · obtain ⟨x, hx⟩ : ∃ x, nthN C k = x := ⟨_, rfl⟩
          have hxL : x < L.n := by rw [← hx]; exact HF.out.2.1.1 _ (nthN_mem hlt)
          obtain ⟨bC, oC, rfl, hbC, hcC⟩ := C_5.out k hlt
          obtain ⟨bL, oL, rfl, hbL, e0, e1⟩ := L_5.out x hxL
          have hcC' : v5.cell? ⟨bC, oC + k, none⟩ = some (.int .i64 (x : Int)) := by rw [← hx]; exact hcC
          have HBC := Lib.hid hbC
          have HBL := Lib.hid hbL
          have HCC := Lib.hid hcC'
          have HE0 := Lib.hid e0
          have HSX : Hid ((L.sel C).s k = L.s x ∧ (L.sel C).p k = L.p x) := ⟨by show L.s (nthN C k) = _; rw [hx], by show L.p (nthN C k) = _; rw [hx]⟩
          have d0 := ((pcell HPr.out).1 _ _ hbC).trans hcC'
          have d1 := ((pcell HPr.out).1 _ _ hbL).trans e0
          have d2 := ((pcell HPr.out).1 _ _ hbL).trans e1
          have lC := Nat.lt_of_lt_of_le hbC HPr.out.size
          have lL := Nat.lt_of_lt_of_le hbL HPr.out.size
          have hki : (k : Int) < (C.length : Int) := by omega
          have hxi : (x : Int) < (L.n : Int) := by omega
          obtain ⟨u', wA, hr, ho, hd, hob⟩ := push_lot HO.out (by omega) HPr.out.size (L.s x) (L.p x)
          have HO' := Lib.hid ho
          have HPA : Hid (Pure v5 wA) := HPr.out.trans' hd (fun z hz hh => by have h9 := (HO.out.lt z hh.symm).1; omega)
          obtain ⟨j, hj⟩ : ∃ j : Nat, k = j + 1 := ⟨k - 1, by omega⟩
          obtain ⟨y, hy⟩ : ∃ y, nthN C j = y := ⟨_, rfl⟩
          have hyL : y < L.n := by rw [← hy]; exact HF.out.2.1.1 _ (nthN_mem (by omega))
          have hlt9 : ¬ L.s x ≤ L.s y := by have h := HF.out.2.2.2.2.1 k (by omega) hlt; rw [hx, show k - 1 = j by omega, hy] at h; omega
          obtain ⟨bC', oC', ec, _, hcY⟩ := C_5.out j (by omega)
          cases ec
          obtain ⟨bL', oL', el, _, f0, _⟩ := L_5.out y hyL
          cases el
          have hcY' : v5.cell? ⟨bC, oC + j, none⟩ = some (.int .i64 (y : Int)) := by rw [← hy]; exact hcY
          have HCY := Lib.hid hcY'
          have HF0 := Lib.hid f0
          have hw1 : IntKind.i64.wrap ((k : Int) - 1) = (j : Int) := by rw [hj, show (((j + 1 : Nat) : Int) - 1) = (j : Int) by omega]; exact IntWalk.i64_in _ (by omega)
          have hyi : (y : Int) < (L.n : Int) := by omega
          have hji : (j : Int) < (C.length : Int) := by omega
          have HJ := Lib.hid hj
          clear hy hyL hcY hcY' f0 hj
          clear hx hxL hbC hbL e0 e1 hcC hcC' ho hd hob
          have HK0 := Lib.hid hk0
          clear hk0
          go_wp2_with (at_builtin; refine Lib.wpList_append_run _ rfl _ _ _ _ rfl _ _ rfl rfl _ _ hr ?_)
          clear d0 d1 d2 lC lL hr
          have hk9 : (0 : Int) < (k : Int) := by have := HK0.out; omega
          have hk8 : 0 < k := by have := HK0.out; omega
          refine WQ.region (C := Pure wA) hmx (by kernel_rfl) ((Diff.refl _).drew) ?_
          iterate 7 (refine WQ.step (fun K hK => ?_); go_simp; first | refine hK _ ?_ | refine ⟨_, fun _ _ => rfl, hK _ ?_⟩; clear hK K)
          refine WQ.val (by rfl) _ (fun V hV => exec_load_int (.tmp 107) rfl bC (oC + k) (x : Int) rfl (((pcell (HPA.out.trans hV)).1 _ _ HBC.out).trans HCC.out) (Nat.lt_of_lt_of_le HBC.out (HPA.out.trans hV).size)) ?_
          iterate 2 (refine WQ.step (fun K hK => ?_); go_simp; first | refine hK _ ?_ | refine ⟨_, fun _ _ => rfl, hK _ ?_⟩; clear hK K)
          refine WQ.val (by rfl) _ (fun V hV => exec_load_cell (.tmp 110) rfl bL (oL + x * 2) (L.s x) rfl (((pcell (HPA.out.trans hV)).1 _ _ HBL.out).trans HE0.out) (Nat.lt_of_lt_of_le HBL.out (HPA.out.trans hV).size)) ?_
          iterate 5 (refine WQ.step (fun K hK => ?_); go_simp; first | refine hK _ ?_ | refine ⟨_, fun _ _ => rfl, hK _ ?_⟩; clear hK K)
          refine WQ.val (by rfl) _ (fun V hV => exec_load_int (.tmp 116) rfl bC (oC + j) (y : Int) rfl (((pcell (HPA.out.trans hV)).1 _ _ HBC.out).trans HCY.out) (Nat.lt_of_lt_of_le HBC.out (HPA.out.trans hV).size)) ?_
          iterate 2 (refine WQ.step (fun K hK => ?_); go_simp; first | refine hK _ ?_ | refine ⟨_, fun _ _ => rfl, hK _ ?_⟩; clear hK K)
          refine WQ.val (by rfl) _ (fun V hV => exec_load_cell (.tmp 119) rfl bL (oL + y * 2) (L.s y) rfl (((pcell (HPA.out.trans hV)).1 _ _ HBL.out).trans HF0.out) (Nat.lt_of_lt_of_le HBL.out (HPA.out.trans hV).size)) ?_
          iterate 2 (refine WQ.step (fun K hK => ?_); go_simp; first | refine hK _ ?_ | refine ⟨_, fun _ _ => rfl, hK _ ?_⟩; clear hK K)
          refine WQ.nil ?_
          rintro V hV
          have HPV : Hid (Pure v5 V) := HPA.out.trans hV
          have HOV : Hid (V.ownsRow v5.heap.size 71 2 u' (k + 1) (valsL (L.sel C) k ++ [.int .i64 (L.s x), .int .i64 (L.p x)])) := own_pure HO'.out hV
          clear hV
          go_wp2_with fail
          go_roundw
          case rel =>
            refine ⟨k + 1, by omega, by first | go_num | rfl, ?_, HPV.out⟩
            show World.ownsRow _ _ _ _ _ _ _
            rw [valsL_succ, HSX.out.1, HSX.out.2]
            exact HOV.out
          case measure => simp [intOf]; omega
      · obtain rfl : k = C.length := by omega
        have HPc := Lib.hid (HP_5.out.trans HPr.out)
        have HGc := Lib.hid (HW_5.out.to HPr.out)
        have HLc := Lib.hid (L_5.out.to HPr.out)
        have HIc := Lib.hid (I_5.out.to HPr.out)
        obtain ⟨qk, ck, rfl, hyk⟩ := all_own (L := L.sel C) HO.out rfl
        have HYc := Lib.hid hyk
        clear hyk
        go_wp2_with fail
        go_loopw [15, 16] (fun bv j wv => ∃ k : Nat, k ≤ l.length ∧ j = .int .i64 k ∧ bv = .bool (inTo l i k) ∧ Hid (Pure wr wv)) (fun _ j _ => l.length - (intOf j).toNat)
        case atStart => exact ⟨0, Nat.zero_le _, rfl, rfl, Diff.refl wr⟩
        case round =>
          obtain ⟨k, hk, rfl, rfl, HPv⟩ := hrel
          have hl8 : l.length ≤ 8 := HLL.out.1
          by_cases hlt2 : k < l.length
          · obtain ⟨x, hx⟩ : ∃ x, nthN l k = x := ⟨_, rfl⟩
            obtain ⟨bb, o, rfl, hbb, hc⟩ := HIc.out k hlt2
            have hc' := ((pcell HPv.out).1 _ _ hbb).trans hc
            have d0 : wr.cell? ⟨bb, o + k, none⟩ = some (.int .i64 (x : Int)) := by rw [← hx]; exact hc'
            have lb := Nat.lt_of_lt_of_le hbb HPv.out.size
            have hin : (k : Int) < (l.length : Int) := by omega
            have HS : Hid (inTo l i (k + 1) = (inTo l i k || decide (x = i))) := by show (inTo l i k || decide (nthN l k = i)) = _; rw [hx]
            clear hc hc' hx hbb
            obtain ⟨z, hz⟩ : ∃ z, inTo l i k = z := ⟨_, rfl⟩
            rw [hz] at HS ⊢
            clear hz
            cases z
            · by_cases hxk : x = i
              · subst hxk
                go_wp2_with fail
                go_roundw
                case rel => exact ⟨k + 1, by omega, by go_num, by rw [HS.out]; simp, HPv.out⟩
                case measure => simp [intOf]; omega
              · have hxk2 : ¬ (x : Int) = (i : Int) := by omega
                go_wp2_with fail
                go_roundw
                case rel => exact ⟨k + 1, by omega, by go_num, by rw [HS.out]; simp [hxk]; try omega, HPv.out⟩
                case measure => simp [intOf]; omega
            · go_wp2_with fail
              go_roundw
              case rel => exact ⟨k + 1, by omega, by go_num, by rw [HS.out]; simp, HPv.out⟩
              case measure => simp [intOf]; omega
          · obtain rfl : k = l.length := by omega
            have HPd := Lib.hid (HPc.out.trans HPv.out)
            have HGd := Lib.hid (HGc.out.to HPv.out)
            have HLd := Lib.hid (HLc.out.to HPv.out)
            have HId := Lib.hid (HIc.out.to HPv.out)
            have HYd := Lib.hid (HYc.out.to HPv.out)
            obtain ⟨bi, hbi⟩ : ∃ z, inTo l i l.length = z := ⟨_, rfl⟩
            have HBI : Hid (L.idB (L.s i) (L.p i) = bi) := by show _ = _; rw [← HF.out.2.2.2.2.2.2.2 i HI.out, ← inTo_all]; exact hbi
            rw [hbi]
            clear hbi
            go_wp2_with fail
            refine (cheapest_any wr L p cap t HOK.out HT.out HLd.out HGd.out).mono ?_
            rintro e v0 ⟨rfl, hp⟩
            have HP_0 := Lib.hid (HPd.out.trans hp)
            have HW_0 := Lib.hid (HGd.out.to hp)
            have L_0 := Lib.hid (HLd.out.to hp)
            have I_0 := Lib.hid (HId.out.to hp)
            have Y_0 := Lib.hid (HYd.out.to hp)
            clear hp  HPd HGd HLd HId HYd
            obtain ⟨x1, hx1⟩ : ∃ zz, (cheapP L t).1 = zz := ⟨_, rfl⟩
            obtain ⟨x2, hx2⟩ : ∃ zz, (cheapP L t).2 = zz := ⟨_, rfl⟩
            obtain ⟨i1, hi1⟩ : ∃ zz, (cheapE L t == 0) = zz := ⟨_, rfl⟩
            have HNA : Hid (cheapP L t = (x1, x2) ∧ (cheapE L t == 0) = i1) := ⟨by rw [← hx1, ← hx2], hi1⟩
            rw [hx1, hx2, hi1]
            clear hx1 hx2 hi1
            go_wp2_with fail
            obtain ⟨X1, hX1⟩ : ∃ V : World, v0.alloc (Obj.cells #[Value.int IntKind.i64 x1, Value.int IntKind.i64 x2] 29) = V := ⟨_, rfl⟩
            have hpX1 : Pure v0 X1 := by rw [← hX1]; exact ((Diff.refl v0).alloc _)
            have bA : Blk (v0.heap.size) 29 #[Value.int IntKind.i64 x1, Value.int IntKind.i64 x2] X1 := by rw [← hX1]; exact (blk0 v0 29 _)
            rw [hX1]
            obtain ⟨g1_0, hg1_0⟩ : ∃ g, v0.heap.size = g := ⟨_, rfl⟩
            rw [hg1_0] at bA ⊢
            have HP_1 := Lib.hid (HP_0.out.trans hpX1)
            have HW_1 := Lib.hid (HW_0.out.to hpX1)
            have L_1 := Lib.hid (L_0.out.to hpX1)
            have I_1 := Lib.hid (I_0.out.to hpX1)
            have Y_1 := Lib.hid (Y_0.out.to hpX1)
            have A_1 := Lib.hid bA
            clear hX1 hpX1 hg1_0 bA HP_0 HW_0 L_0 I_0 Y_0
            go_wp2_with fail
            refine (without_any X1 L p cap l qi ci (by have := HN.out; omega) (by have := HLL.out; omega) L_1.out I_1.out).mono ?_
            rintro e v2 ⟨⟨qw, cw, rfl, hlw⟩, hp⟩
            have HP_2 := Lib.hid (HP_1.out.trans hp)
            have HW_2 := Lib.hid (HW_1.out.to hp)
            have L_2 := Lib.hid (L_1.out.to hp)
            have I_2 := Lib.hid (I_1.out.to hp)
            have Y_2 := Lib.hid (Y_1.out.to hp)
            have A_2 := Lib.hid (A_1.out.to hp)
            have X_2 := Lib.hid hlw
            clear hp hlw HP_1 HW_1 L_1 I_1 Y_1 A_1
            go_wp2_with fail
            refine (cheapest_any v2 (L.sel (LT.outL l L.n)) qw cw t HF.out.2.2.2.2.2.1.1 HT.out X_2.out HW_2.out).mono ?_
            rintro e v3 ⟨rfl, hp⟩
            have HP_3 := Lib.hid (HP_2.out.trans hp)
            have HW_3 := Lib.hid (HW_2.out.to hp)
            have L_3 := Lib.hid (L_2.out.to hp)
            have I_3 := Lib.hid (I_2.out.to hp)
            have Y_3 := Lib.hid (Y_2.out.to hp)
            have A_3 := Lib.hid (A_2.out.to hp)
            have X_3 := Lib.hid (X_2.out.to hp)
            clear hp  HP_2 HW_2 L_2 I_2 Y_2 A_2 X_2
            rw [HF.out.2.2.2.2.2.1.2.1, HF.out.2.2.2.2.2.1.2.2, HNA.out.1, HNA.out.2]
            go_wp2_with fail
            obtain ⟨X4, hX4⟩ : ∃ V : World, v3.alloc (Obj.cells #[Value.int IntKind.i64 x1, Value.int IntKind.i64 x2] 29) = V := ⟨_, rfl⟩
            have hpX4 : Pure v3 X4 := by rw [← hX4]; exact ((Diff.refl v3).alloc _)
            have bB : Blk (v3.heap.size) 29 #[Value.int IntKind.i64 x1, Value.int IntKind.i64 x2] X4 := by rw [← hX4]; exact (blk0 v3 29 _)
            rw [hX4]
            obtain ⟨g4_0, hg4_0⟩ : ∃ g, v3.heap.size = g := ⟨_, rfl⟩
            rw [hg4_0] at bB ⊢
            have HP_4 := Lib.hid (HP_3.out.trans hpX4)
            have HW_4 := Lib.hid (HW_3.out.to hpX4)
            have L_4 := Lib.hid (L_3.out.to hpX4)
            have I_4 := Lib.hid (I_3.out.to hpX4)
            have Y_4 := Lib.hid (Y_3.out.to hpX4)
            have A_4 := Lib.hid (A_3.out.to hpX4)
            have X_4 := Lib.hid (X_3.out.to hpX4)
            have B_4 := Lib.hid bB
            clear hX4 hpX4 hg4_0 bB HP_3 HW_3 L_3 I_3 Y_3 A_3 X_3
            go_wp2_with fail
            refine (cheapest_any X4 (L.sel C) qk ck t HF.out.2.2.2.2.2.2.1.1 HT.out Y_4.out HW_4.out).mono ?_
            rintro e v5 ⟨rfl, hp⟩
            have HP_5 := Lib.hid (HP_4.out.trans hp)
            have HW_5 := Lib.hid (HW_4.out.to hp)
            have L_5 := Lib.hid (L_4.out.to hp)
            have I_5 := Lib.hid (I_4.out.to hp)
            have Y_5 := Lib.hid (Y_4.out.to hp)
            have A_5 := Lib.hid (A_4.out.to hp)
            have X_5 := Lib.hid (X_4.out.to hp)
            have B_5 := Lib.hid (B_4.out.to hp)
            clear hp  HP_4 HW_4 L_4 I_4 Y_4 A_4 X_4 B_4
            rw [HF.out.2.2.2.2.2.2.1.2.1, HF.out.2.2.2.2.2.2.1.2.2, HNA.out.1, HNA.out.2]
            have hii : (i : Int) < (L.n : Int) := by have := HI.out; omega
            obtain ⟨bL, oL, rfl, hbL, e0, e1⟩ := HLw.out i HI.out
            have HBL := Lib.hid hbL
            have HE0 := Lib.hid e0
            have HE1 := Lib.hid e1
            clear hbL e0 e1
            have d0 := ((pcell HP_5.out).1 _ _ HBL.out).trans HE0.out
            have lL := Nat.lt_of_lt_of_le HBL.out HP_5.out.size
            go_wp2_with fail
            clear d0 lL
            obtain ⟨X6, hX6⟩ : ∃ V : World, v5.alloc (Obj.cells #[Value.int IntKind.i64 x1, Value.int IntKind.i64 x2] 29) = V := ⟨_, rfl⟩
            have hpX6 : Pure v5 X6 := by rw [← hX6]; exact ((Diff.refl v5).alloc _)
            have bC : Blk (v5.heap.size) 29 #[Value.int IntKind.i64 x1, Value.int IntKind.i64 x2] X6 := by rw [← hX6]; exact (blk0 v5 29 _)
            rw [hX6]
            obtain ⟨g6_0, hg6_0⟩ : ∃ g, v5.heap.size = g := ⟨_, rfl⟩
            rw [hg6_0] at bC ⊢
            have HP_6 := Lib.hid (HP_5.out.trans hpX6)
            have HW_6 := Lib.hid (HW_5.out.to hpX6)
            have L_6 := Lib.hid (L_5.out.to hpX6)
            have I_6 := Lib.hid (I_5.out.to hpX6)
            have Y_6 := Lib.hid (Y_5.out.to hpX6)
            have A_6 := Lib.hid (A_5.out.to hpX6)
            have X_6 := Lib.hid (X_5.out.to hpX6)
            have B_6 := Lib.hid (B_5.out.to hpX6)
            have C_6 := Lib.hid bC
            clear hX6 hpX6 hg6_0 bC HP_5 HW_5 L_5 I_5 Y_5 A_5 X_5 B_5
            have d0 := ((pcell HP_6.out).1 _ _ HBL.out).trans HE0.out
            have lL := Nat.lt_of_lt_of_le HBL.out HP_6.out.size
            go_wp2_with fail
            clear d0 lL
            refine (cheapest_any X6 L (some ⟨bL, oL, none⟩) cap (L.s i) HOK.out ⟨HOK.out.s0 i HI.out, HOK.out.s1 i HI.out⟩ L_6.out HW_6.out).mono ?_
            rintro e v7 ⟨rfl, hp⟩
            have HP_7 := Lib.hid (HP_6.out.trans hp)
            have HW_7 := Lib.hid (HW_6.out.to hp)
            have L_7 := Lib.hid (L_6.out.to hp)
            have I_7 := Lib.hid (I_6.out.to hp)
            have Y_7 := Lib.hid (Y_6.out.to hp)
            have A_7 := Lib.hid (A_6.out.to hp)
            have X_7 := Lib.hid (X_6.out.to hp)
            have B_7 := Lib.hid (B_6.out.to hp)
            have C_7 := Lib.hid (C_6.out.to hp)
            clear hp  HP_6 HW_6 L_6 I_6 Y_6 A_6 X_6 B_6 C_6
            obtain ⟨z1, hz1⟩ : ∃ zz, (cheapP L (L.s i)).1 = zz := ⟨_, rfl⟩
            obtain ⟨z2, hz2⟩ : ∃ zz, (cheapP L (L.s i)).2 = zz := ⟨_, rfl⟩
            have hop := own_price HOK.out HI.out (show cheapP L (L.s i) = (z1, z2) by rw [← hz1, ← hz2])
            rw [HBI.out] at hop
            rw [hz1, hz2, hop.1]
            have HOP := Lib.hid hop.2
            clear hop hz1 hz2
            go_wp2_with fail
            obtain ⟨X8, hX8⟩ : ∃ V : World, v7.alloc (Obj.cells #[Value.int IntKind.i64 z1, Value.int IntKind.i64 z2] 29) = V := ⟨_, rfl⟩
            have hpX8 : Pure v7 X8 := by rw [← hX8]; exact ((Diff.refl v7).alloc _)
            have bD : Blk (v7.heap.size) 29 #[Value.int IntKind.i64 z1, Value.int IntKind.i64 z2] X8 := by rw [← hX8]; exact (blk0 v7 29 _)
            rw [hX8]
            obtain ⟨g8_0, hg8_0⟩ : ∃ g, v7.heap.size = g := ⟨_, rfl⟩
            rw [hg8_0] at bD ⊢
            have HP_8 := Lib.hid (HP_7.out.trans hpX8)
            have HW_8 := Lib.hid (HW_7.out.to hpX8)
            have L_8 := Lib.hid (L_7.out.to hpX8)
            have I_8 := Lib.hid (I_7.out.to hpX8)
            have Y_8 := Lib.hid (Y_7.out.to hpX8)
            have A_8 := Lib.hid (A_7.out.to hpX8)
            have X_8 := Lib.hid (X_7.out.to hpX8)
            have B_8 := Lib.hid (B_7.out.to hpX8)
            have C_8 := Lib.hid (C_7.out.to hpX8)
            have D_8 := Lib.hid bD
            clear hX8 hpX8 hg8_0 bD HP_7 HW_7 L_7 I_7 Y_7 A_7 X_7 B_7 C_7
            go_wp2_with fail
            clear HNA HF
            cases i1
            · cases bi
              · have h9 := HOP.out
                rw [Bool.not_false, Bool.and_eq_true] at h9
                have h8 := of_decide_eq_true h9.1
                have h7 := of_decide_eq_true h9.2
                subst h8
                subst h7
                clear h9 HOP
                refine WQ.region (C := Pure X8) hmx (by kernel_rfl) ((Diff.refl _).drew) ?_
                iterate 21 (refine WQ.step (fun K hK => ?_); go_simp; first | refine hK _ ?_ | refine ⟨_, fun _ _ => rfl, hK _ ?_⟩; clear hK K)
                refine WQ.val (by rfl) _ (fun V hV => exec_load_pair (.tmp 17) rfl g1_0 x1 x2 rfl (A_8.out.to hV)) ?_
                refine WQ.val (by rfl) _ (fun V hV => exec_load_pair (.tmp 20) rfl g4_0 x1 x2 rfl (B_8.out.to hV)) ?_
                iterate 3 (refine WQ.step (fun K hK => ?_); go_simp; first | refine hK _ ?_ | refine ⟨_, fun _ _ => rfl, hK _ ?_⟩; clear hK K)
                refine WQ.val (by rfl) _ (fun V hV => exec_load_pair (.tmp 17) rfl g1_0 x1 x2 rfl (A_8.out.to hV)) ?_
                refine WQ.val (by rfl) _ (fun V hV => exec_load_pair (.tmp 23) rfl g6_0 x1 x2 rfl (C_8.out.to hV)) ?_
                iterate 6 (refine WQ.step (fun K hK => ?_); go_simp; first | refine hK _ ?_ | refine ⟨_, fun _ _ => rfl, hK _ ?_⟩; clear hK K)
                refine WQ.val (by rfl) _ (fun V hV => exec_load_pair (.tmp 26) rfl g8_0 (L.p i) 1 rfl (D_8.out.to hV)) ?_
                iterate 4 (refine WQ.step (fun K hK => ?_); go_simp; first | refine hK _ ?_ | refine ⟨_, fun _ _ => rfl, hK _ ?_⟩; clear hK K)
                refine WQ.val (by rfl) _ (fun V hV => exec_load_cell (.tmp 210) rfl bL (oL + i * 2 + 1) (L.p i) rfl (((pcell (HP_8.out.trans hV)).1 _ _ HBL.out).trans HE1.out) (Nat.lt_of_lt_of_le HBL.out (HP_8.out.trans hV).size)) ?_
                refine WQ.call (by rfl) 31 #[.int .i64 (L.p i), .int .i64 1] (.agg #[.int .i64 (L.p i), .int .i64 1]) (fun V => by unfold execOp; simp [go_sem]) (fun V hV => by have h := lby_any V (L.p i) 1; exact h.mono fun e V2 h => ⟨h.1, hV.trans h.2⟩) ?_
                iterate 6 (refine WQ.step (fun K hK => ?_); go_simp; first | refine hK _ ?_ | refine ⟨_, fun _ _ => rfl, hK _ ?_⟩; clear hK K)
                refine WQ.call (by rfl) 17 #[] (.bool true) (fun V => by unfold execOp; simp [go_sem]) (fun V hV => (Works_any V (HW_8.out.to hV)).mono fun e V2 h => ⟨h.1, hV.trans h.2⟩) ?_
                iterate 2 (refine WQ.step (fun K hK => ?_); go_simp; first | refine hK _ ?_ | refine ⟨_, fun _ _ => rfl, hK _ ?_⟩; clear hK K)
                refine WQ.nil ?_
                rintro V hV
                have HPE := Lib.hid hV
                clear hV
                go_wp2
                exact bodyPost_ret (v := .bool true) (by simp [results, Tryd.results10, go_sem]) rfl ⟨rfl, HP_8.out.trans HPE.out⟩
              · by_cases h8 : z1 = L.p i
                · have h7 : ¬ z2 = 1 := fun e => by have h9 := HOP.out; rw [decide_eq_true h8, decide_eq_true e] at h9; exact absurd h9 (by decide)
                  subst h8
                  clear HOP
                  refine WQ.region (C := Pure X8) hmx (by kernel_rfl) ((Diff.refl _).drew) ?_
                  iterate 21 (refine WQ.step (fun K hK => ?_); go_simp; first | refine hK _ ?_ | refine ⟨_, fun _ _ => rfl, hK _ ?_⟩; clear hK K)
                  refine WQ.val (by rfl) _ (fun V hV => exec_load_pair (.tmp 17) rfl g1_0 x1 x2 rfl (A_8.out.to hV)) ?_
                  refine WQ.val (by rfl) _ (fun V hV => exec_load_pair (.tmp 20) rfl g4_0 x1 x2 rfl (B_8.out.to hV)) ?_
                  iterate 3 (refine WQ.step (fun K hK => ?_); go_simp; first | refine hK _ ?_ | refine ⟨_, fun _ _ => rfl, hK _ ?_⟩; clear hK K)
                  refine WQ.val (by rfl) _ (fun V hV => exec_load_pair (.tmp 17) rfl g1_0 x1 x2 rfl (A_8.out.to hV)) ?_
                  refine WQ.val (by rfl) _ (fun V hV => exec_load_pair (.tmp 23) rfl g6_0 x1 x2 rfl (C_8.out.to hV)) ?_
                  iterate 6 (refine WQ.step (fun K hK => ?_); go_simp; first | refine hK _ ?_ | refine ⟨_, fun _ _ => rfl, hK _ ?_⟩; clear hK K)
                  refine WQ.val (by rfl) _ (fun V hV => exec_load_pair (.tmp 26) rfl g8_0 (L.p i) z2 rfl (D_8.out.to hV)) ?_
                  iterate 4 (refine WQ.step (fun K hK => ?_); go_simp; first | refine hK _ ?_ | refine ⟨_, fun _ _ => rfl, hK _ ?_⟩; clear hK K)
                  refine WQ.val (by rfl) _ (fun V hV => exec_load_cell (.tmp 210) rfl bL (oL + i * 2 + 1) (L.p i) rfl (((pcell (HP_8.out.trans hV)).1 _ _ HBL.out).trans HE1.out) (Nat.lt_of_lt_of_le HBL.out (HP_8.out.trans hV).size)) ?_
                  refine WQ.call (by rfl) 31 #[.int .i64 (L.p i), .int .i64 1] (.agg #[.int .i64 (L.p i), .int .i64 1]) (fun V => by unfold execOp; simp [go_sem]) (fun V hV => by have h := lby_any V (L.p i) 1; exact h.mono fun e V2 h => ⟨h.1, hV.trans h.2⟩) ?_
                  iterate 6 (refine WQ.step (fun K hK => ?_); go_simp; first | refine hK _ ?_ | refine ⟨_, fun _ _ => rfl, hK _ ?_⟩; clear hK K)
                  refine WQ.call (by rfl) 17 #[] (.bool true) (fun V => by unfold execOp; simp [go_sem]) (fun V hV => (Works_any V (HW_8.out.to hV)).mono fun e V2 h => ⟨h.1, hV.trans h.2⟩) ?_
                  iterate 2 (refine WQ.step (fun K hK => ?_); go_simp; first | refine hK _ ?_ | refine ⟨_, fun _ _ => rfl, hK _ ?_⟩; clear hK K)
                  refine WQ.nil ?_
                  rintro V hV
                  have HPE := Lib.hid hV
                  clear hV
                  go_wp2
                  exact bodyPost_ret (v := .bool true) (by simp [results, Tryd.results10, go_sem]) rfl ⟨rfl, HP_8.out.trans HPE.out⟩
                · clear HOP
                  refine WQ.region (C := Pure X8) hmx (by kernel_rfl) ((Diff.refl _).drew) ?_
                  iterate 21 (refine WQ.step (fun K hK => ?_); go_simp; first | refine hK _ ?_ | refine ⟨_, fun _ _ => rfl, hK _ ?_⟩; clear hK K)
                  refine WQ.val (by rfl) _ (fun V hV => exec_load_pair (.tmp 17) rfl g1_0 x1 x2 rfl (A_8.out.to hV)) ?_
                  refine WQ.val (by rfl) _ (fun V hV => exec_load_pair (.tmp 20) rfl g4_0 x1 x2 rfl (B_8.out.to hV)) ?_
                  iterate 3 (refine WQ.step (fun K hK => ?_); go_simp; first | refine hK _ ?_ | refine ⟨_, fun _ _ => rfl, hK _ ?_⟩; clear hK K)
                  refine WQ.val (by rfl) _ (fun V hV => exec_load_pair (.tmp 17) rfl g1_0 x1 x2 rfl (A_8.out.to hV)) ?_
                  refine WQ.val (by rfl) _ (fun V hV => exec_load_pair (.tmp 23) rfl g6_0 x1 x2 rfl (C_8.out.to hV)) ?_
                  iterate 6 (refine WQ.step (fun K hK => ?_); go_simp; first | refine hK _ ?_ | refine ⟨_, fun _ _ => rfl, hK _ ?_⟩; clear hK K)
                  refine WQ.val (by rfl) _ (fun V hV => exec_load_pair (.tmp 26) rfl g8_0 z1 z2 rfl (D_8.out.to hV)) ?_
                  iterate 4 (refine WQ.step (fun K hK => ?_); go_simp; first | refine hK _ ?_ | refine ⟨_, fun _ _ => rfl, hK _ ?_⟩; clear hK K)
                  refine WQ.val (by rfl) _ (fun V hV => exec_load_cell (.tmp 210) rfl bL (oL + i * 2 + 1) (L.p i) rfl (((pcell (HP_8.out.trans hV)).1 _ _ HBL.out).trans HE1.out) (Nat.lt_of_lt_of_le HBL.out (HP_8.out.trans hV).size)) ?_
                  refine WQ.call (by rfl) 31 #[.int .i64 (L.p i), .int .i64 1] (.agg #[.int .i64 (L.p i), .int .i64 1]) (fun V => by unfold execOp; simp [go_sem]) (fun V hV => by have h := lby_any V (L.p i) 1; exact h.mono fun e V2 h => ⟨h.1, hV.trans h.2⟩) ?_
                  iterate 6 (refine WQ.step (fun K hK => ?_); go_simp; first | refine hK _ ?_ | refine ⟨_, fun _ _ => rfl, hK _ ?_⟩; clear hK K)
                  refine WQ.call (by rfl) 17 #[] (.bool true) (fun V => by unfold execOp; simp [go_sem]) (fun V hV => (Works_any V (HW_8.out.to hV)).mono fun e V2 h => ⟨h.1, hV.trans h.2⟩) ?_
                  iterate 2 (refine WQ.step (fun K hK => ?_); go_simp; first | refine hK _ ?_ | refine ⟨_, fun _ _ => rfl, hK _ ?_⟩; clear hK K)
                  refine WQ.nil ?_
                  rintro V hV
                  have HPE := Lib.hid hV
                  clear hV
                  go_wp2
                  exact bodyPost_ret (v := .bool true) (by simp [results, Tryd.results10, go_sem]) rfl ⟨rfl, HP_8.out.trans HPE.out⟩
            · cases bi
              · have h9 := HOP.out
                rw [Bool.not_false, Bool.and_eq_true] at h9
                have h8 := of_decide_eq_true h9.1
                have h7 := of_decide_eq_true h9.2
                subst h8
                subst h7
                clear h9 HOP
                refine WQ.region (C := Pure X8) hmx (by kernel_rfl) ((Diff.refl _).drew) ?_
                iterate 21 (refine WQ.step (fun K hK => ?_); go_simp; first | refine hK _ ?_ | refine ⟨_, fun _ _ => rfl, hK _ ?_⟩; clear hK K)
                refine WQ.val (by rfl) _ (fun V hV => exec_load_pair (.tmp 17) rfl g1_0 x1 x2 rfl (A_8.out.to hV)) ?_
                refine WQ.val (by rfl) _ (fun V hV => exec_load_pair (.tmp 20) rfl g4_0 x1 x2 rfl (B_8.out.to hV)) ?_
                iterate 3 (refine WQ.step (fun K hK => ?_); go_simp; first | refine hK _ ?_ | refine ⟨_, fun _ _ => rfl, hK _ ?_⟩; clear hK K)
                refine WQ.val (by rfl) _ (fun V hV => exec_load_pair (.tmp 17) rfl g1_0 x1 x2 rfl (A_8.out.to hV)) ?_
                refine WQ.val (by rfl) _ (fun V hV => exec_load_pair (.tmp 23) rfl g6_0 x1 x2 rfl (C_8.out.to hV)) ?_
                iterate 6 (refine WQ.step (fun K hK => ?_); go_simp; first | refine hK _ ?_ | refine ⟨_, fun _ _ => rfl, hK _ ?_⟩; clear hK K)
                refine WQ.val (by rfl) _ (fun V hV => exec_load_pair (.tmp 26) rfl g8_0 (L.p i) 1 rfl (D_8.out.to hV)) ?_
                iterate 4 (refine WQ.step (fun K hK => ?_); go_simp; first | refine hK _ ?_ | refine ⟨_, fun _ _ => rfl, hK _ ?_⟩; clear hK K)
                refine WQ.val (by rfl) _ (fun V hV => exec_load_cell (.tmp 210) rfl bL (oL + i * 2 + 1) (L.p i) rfl (((pcell (HP_8.out.trans hV)).1 _ _ HBL.out).trans HE1.out) (Nat.lt_of_lt_of_le HBL.out (HP_8.out.trans hV).size)) ?_
                refine WQ.call (by rfl) 31 #[.int .i64 (L.p i), .int .i64 1] (.agg #[.int .i64 (L.p i), .int .i64 1]) (fun V => by unfold execOp; simp [go_sem]) (fun V hV => by have h := lby_any V (L.p i) 1; exact h.mono fun e V2 h => ⟨h.1, hV.trans h.2⟩) ?_
                iterate 6 (refine WQ.step (fun K hK => ?_); go_simp; first | refine hK _ ?_ | refine ⟨_, fun _ _ => rfl, hK _ ?_⟩; clear hK K)
                refine WQ.call (by rfl) 17 #[] (.bool true) (fun V => by unfold execOp; simp [go_sem]) (fun V hV => (Works_any V (HW_8.out.to hV)).mono fun e V2 h => ⟨h.1, hV.trans h.2⟩) ?_
                iterate 2 (refine WQ.step (fun K hK => ?_); go_simp; first | refine hK _ ?_ | refine ⟨_, fun _ _ => rfl, hK _ ?_⟩; clear hK K)
                refine WQ.nil ?_
                rintro V hV
                have HPE := Lib.hid hV
                clear hV
                go_wp2
                exact bodyPost_ret (v := .bool true) (by simp [results, Tryd.results10, go_sem]) rfl ⟨rfl, HP_8.out.trans HPE.out⟩
              · by_cases h8 : z1 = L.p i
                · have h7 : ¬ z2 = 1 := fun e => by have h9 := HOP.out; rw [decide_eq_true h8, decide_eq_true e] at h9; exact absurd h9 (by decide)
                  subst h8
                  clear HOP
                  refine WQ.region (C := Pure X8) hmx (by kernel_rfl) ((Diff.refl _).drew) ?_
                  iterate 21 (refine WQ.step (fun K hK => ?_); go_simp; first | refine hK _ ?_ | refine ⟨_, fun _ _ => rfl, hK _ ?_⟩; clear hK K)
                  refine WQ.val (by rfl) _ (fun V hV => exec_load_pair (.tmp 17) rfl g1_0 x1 x2 rfl (A_8.out.to hV)) ?_
                  refine WQ.val (by rfl) _ (fun V hV => exec_load_pair (.tmp 20) rfl g4_0 x1 x2 rfl (B_8.out.to hV)) ?_
                  iterate 3 (refine WQ.step (fun K hK => ?_); go_simp; first | refine hK _ ?_ | refine ⟨_, fun _ _ => rfl, hK _ ?_⟩; clear hK K)
                  refine WQ.val (by rfl) _ (fun V hV => exec_load_pair (.tmp 17) rfl g1_0 x1 x2 rfl (A_8.out.to hV)) ?_
                  refine WQ.val (by rfl) _ (fun V hV => exec_load_pair (.tmp 23) rfl g6_0 x1 x2 rfl (C_8.out.to hV)) ?_
                  iterate 6 (refine WQ.step (fun K hK => ?_); go_simp; first | refine hK _ ?_ | refine ⟨_, fun _ _ => rfl, hK _ ?_⟩; clear hK K)
                  refine WQ.val (by rfl) _ (fun V hV => exec_load_pair (.tmp 26) rfl g8_0 (L.p i) z2 rfl (D_8.out.to hV)) ?_
                  iterate 4 (refine WQ.step (fun K hK => ?_); go_simp; first | refine hK _ ?_ | refine ⟨_, fun _ _ => rfl, hK _ ?_⟩; clear hK K)
                  refine WQ.val (by rfl) _ (fun V hV => exec_load_cell (.tmp 210) rfl bL (oL + i * 2 + 1) (L.p i) rfl (((pcell (HP_8.out.trans hV)).1 _ _ HBL.out).trans HE1.out) (Nat.lt_of_lt_of_le HBL.out (HP_8.out.trans hV).size)) ?_
                  refine WQ.call (by rfl) 31 #[.int .i64 (L.p i), .int .i64 1] (.agg #[.int .i64 (L.p i), .int .i64 1]) (fun V => by unfold execOp; simp [go_sem]) (fun V hV => by have h := lby_any V (L.p i) 1; exact h.mono fun e V2 h => ⟨h.1, hV.trans h.2⟩) ?_
                  iterate 6 (refine WQ.step (fun K hK => ?_); go_simp; first | refine hK _ ?_ | refine ⟨_, fun _ _ => rfl, hK _ ?_⟩; clear hK K)
                  refine WQ.call (by rfl) 17 #[] (.bool true) (fun V => by unfold execOp; simp [go_sem]) (fun V hV => (Works_any V (HW_8.out.to hV)).mono fun e V2 h => ⟨h.1, hV.trans h.2⟩) ?_
                  iterate 2 (refine WQ.step (fun K hK => ?_); go_simp; first | refine hK _ ?_ | refine ⟨_, fun _ _ => rfl, hK _ ?_⟩; clear hK K)
                  refine WQ.nil ?_
                  rintro V hV
                  have HPE := Lib.hid hV
                  clear hV
                  go_wp2
                  exact bodyPost_ret (v := .bool true) (by simp [results, Tryd.results10, go_sem]) rfl ⟨rfl, HP_8.out.trans HPE.out⟩
                · clear HOP
                  refine WQ.region (C := Pure X8) hmx (by kernel_rfl) ((Diff.refl _).drew) ?_
                  iterate 21 (refine WQ.step (fun K hK => ?_); go_simp; first | refine hK _ ?_ | refine ⟨_, fun _ _ => rfl, hK _ ?_⟩; clear hK K)
                  refine WQ.val (by rfl) _ (fun V hV => exec_load_pair (.tmp 17) rfl g1_0 x1 x2 rfl (A_8.out.to hV)) ?_
                  refine WQ.val (by rfl) _ (fun V hV => exec_load_pair (.tmp 20) rfl g4_0 x1 x2 rfl (B_8.out.to hV)) ?_
                  iterate 3 (refine WQ.step (fun K hK => ?_); go_simp; first | refine hK _ ?_ | refine ⟨_, fun _ _ => rfl, hK _ ?_⟩; clear hK K)
                  refine WQ.val (by rfl) _ (fun V hV => exec_load_pair (.tmp 17) rfl g1_0 x1 x2 rfl (A_8.out.to hV)) ?_
                  refine WQ.val (by rfl) _ (fun V hV => exec_load_pair (.tmp 23) rfl g6_0 x1 x2 rfl (C_8.out.to hV)) ?_
                  iterate 6 (refine WQ.step (fun K hK => ?_); go_simp; first | refine hK _ ?_ | refine ⟨_, fun _ _ => rfl, hK _ ?_⟩; clear hK K)
                  refine WQ.val (by rfl) _ (fun V hV => exec_load_pair (.tmp 26) rfl g8_0 z1 z2 rfl (D_8.out.to hV)) ?_
                  iterate 4 (refine WQ.step (fun K hK => ?_); go_simp; first | refine hK _ ?_ | refine ⟨_, fun _ _ => rfl, hK _ ?_⟩; clear hK K)
                  refine WQ.val (by rfl) _ (fun V hV => exec_load_cell (.tmp 210) rfl bL (oL + i * 2 + 1) (L.p i) rfl (((pcell (HP_8.out.trans hV)).1 _ _ HBL.out).trans HE1.out) (Nat.lt_of_lt_of_le HBL.out (HP_8.out.trans hV).size)) ?_
                  refine WQ.call (by rfl) 31 #[.int .i64 (L.p i), .int .i64 1] (.agg #[.int .i64 (L.p i), .int .i64 1]) (fun V => by unfold execOp; simp [go_sem]) (fun V hV => by have h := lby_any V (L.p i) 1; exact h.mono fun e V2 h => ⟨h.1, hV.trans h.2⟩) ?_
                  iterate 6 (refine WQ.step (fun K hK => ?_); go_simp; first | refine hK _ ?_ | refine ⟨_, fun _ _ => rfl, hK _ ?_⟩; clear hK K)
                  refine WQ.call (by rfl) 17 #[] (.bool true) (fun V => by unfold execOp; simp [go_sem]) (fun V hV => (Works_any V (HW_8.out.to hV)).mono fun e V2 h => ⟨h.1, hV.trans h.2⟩) ?_
                  iterate 2 (refine WQ.step (fun K hK => ?_); go_simp; first | refine hK _ ?_ | refine ⟨_, fun _ _ => rfl, hK _ ?_⟩; clear hK K)
                  refine WQ.nil ?_
                  rintro V hV
                  have HPE := Lib.hid hV
                  clear hV
                  go_wp2
                  exact bodyPost_ret (v := .bool true) (by simp [results, Tryd.results10, go_sem]) rfl ⟨rfl, HP_8.out.trans HPE.out⟩
end Go.Proofs.YtgpfmnjianflaaaDoor
