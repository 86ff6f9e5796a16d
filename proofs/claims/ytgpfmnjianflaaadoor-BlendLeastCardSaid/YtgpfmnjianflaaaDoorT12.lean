/- Walk of BlendLeast. -/
import Derived.Test.YtgpfmnjianflaaaDoorE5
import Derived.Test.YtgpfmnjianflaaaDoorR22
set_option linter.unusedSimpArgs false
set_option linter.unusedVariables false
set_option linter.constructorNameAsVariable false
namespace Go.Proofs.YtgpfmnjianflaaaDoor
open Go.RowKit

theorem wf_u16' {n : Int} (h : (Lit.int .u16 n).wf = true) : 0 ≤ n ∧ n ≤ 65535 := by
  unfold Lit.wf at h
  rw [Bool.and_eq_true] at h
  exact ⟨of_decide_eq_true h.1, of_decide_eq_true h.2⟩
set_option maxRecDepth 20000 in
set_option maxHeartbeats 8000000 in
theorem LeastLaw_any (w : World) (L : LT) (p : Option Addr) (cap : Nat) (n1 n2 : Int) (q : Option Addr) (m c : Nat) (f : Nat → Int) (hl : LotsAt w.heap.size w p L) (h1 : (Lit.int .u8 n1).wf = true) (h2 : (Lit.int .u8 n2).wf = true) (hr : Row w.heap.size w q m fun k => .int .u16 (f k)) (hw : ∀ k, k < m → (Lit.int .u16 (f k)).wf = true) (hg : Gl w) :
    Calls Tryd.prog 9 #[.slice p L.n cap, .int .u8 n1, .int .u8 n2, .slice q m c] w fun e w' => e = .returned (.bool true) ∧ Pure w w' := by
  have hmx : Tryd.prog.follows .mixedOrders = true := by kernel_rfl
  have HG := Lib.hid hg
  have HL := Lib.hid hl
  have H1 := Lib.hid (wf_u8 h1)
  have H2 := Lib.hid (wf_u8 h2)
  have HR := Lib.hid hr
  have HFW : Hid (∀ k, k < m → 0 ≤ f k ∧ f k ≤ 65535) := fun k hk => wf_u16' (hw k hk)
  clear hg hl h1 h2 hr hw
  go_enter Tryd.func9, Tryd.ntmps9
  go_wp2_with fail
  refine (fine_any w L p cap HL.out).mono ?_
  rintro e w1 ⟨rfl, hp1⟩
  have HP1 := Lib.hid hp1
  have HG1 := Lib.hid (HG.out.to HP1.out)
  have HL1 := Lib.hid (HL.out.to HP1.out)
  have HR1 := Lib.hid (HR.out.to HP1.out)
  clear hp1
  cases hfb : fineB L with
  | false =>
    clear hfb
    go_wp2_with fail
    refine (Works_any w1 HG1.out).mono ?_
    rintro e w9 ⟨rfl, hp9⟩
    have HP9 := Lib.hid (HP1.out.trans hp9)
    clear hp9
    go_wp2
    exact bodyPost_ret (v := .bool true) (by simp [results, Tryd.results9, go_sem]) rfl ⟨rfl, HP9.out⟩
  | true =>
    have HOK := Lib.hid (fineB_iff.1 hfb)
    clear hfb
    by_cases h20 : (20 : Int) < (m : Int)
    · go_wp2_with fail
      refine (Works_any w1 HG1.out).mono ?_
      rintro e w9 ⟨rfl, hp9⟩
      have HP9 := Lib.hid (HP1.out.trans hp9)
      clear hp9
      go_wp2
      exact bodyPost_ret (v := .bool true) (by simp [results, Tryd.results9, go_sem]) rfl ⟨rfl, HP9.out⟩
    have HSA : Hid (0 ≤ shp n1 ∧ shp n1 ≤ 100) := shp_in n1
    have HSB : Hid (0 ≤ shp n2 ∧ shp n2 ≤ 100) := shp_in n2
    have HM20 : Hid (m ≤ 1000) := by show m ≤ 1000; omega
    go_wp2_with fail
    refine (sharpness_any w1 n1 H1.out).mono ?_
    rintro e v0 ⟨rfl, hp⟩
    have HP_0 := Lib.hid (HP1.out.trans hp)
    have HW_0 := Lib.hid (HG1.out.to hp)
    have L_0 := Lib.hid (HL1.out.to hp)
    have R_0 := Lib.hid (HR1.out.to hp)
    clear hp  HP1 HG1 HL1 HR1
    obtain ⟨a, ha⟩ : ∃ z, shp n1 = z := ⟨_, rfl⟩
    obtain ⟨b, hb⟩ : ∃ z, shp n2 = z := ⟨_, rfl⟩
    have HAB : Hid (shp n1 = a ∧ shp n2 = b) := ⟨ha, hb⟩
    rw [ha]
    rw [ha] at HSA
    rw [hb] at HSB
    clear ha hb
    rcases Int.lt_or_le b a with hab | hab
    · have hc : b < a := hab
      have hd : ¬ a < b := by omega
      have HTU : Hid (b ≤ a) := Int.le_of_lt hab
      clear hab
      go_wp2_with fail
      refine (sharpness_any v0 n2 H2.out).mono ?_
      rintro e v1 ⟨rfl, hp⟩
      have HP_1 := Lib.hid (HP_0.out.trans hp)
      have HW_1 := Lib.hid (HW_0.out.to hp)
      have L_1 := Lib.hid (L_0.out.to hp)
      have R_1 := Lib.hid (R_0.out.to hp)
      clear hp  HP_0 HW_0 L_0 R_0
      rw [HAB.out.2]
      go_wp2_with fail
      refine (sharpness_any v1 n1 H1.out).mono ?_
      rintro e v2 ⟨rfl, hp⟩
      have HP_2 := Lib.hid (HP_1.out.trans hp)
      have HW_2 := Lib.hid (HW_1.out.to hp)
      have L_2 := Lib.hid (L_1.out.to hp)
      have R_2 := Lib.hid (R_1.out.to hp)
      clear hp  HP_1 HW_1 L_1 R_1
      rw [HAB.out.1]
      go_wp2_with fail
      refine (sharpness_any v2 n2 H2.out).mono ?_
      rintro e v3 ⟨rfl, hp⟩
      have HP_3 := Lib.hid (HP_2.out.trans hp)
      have HW_3 := Lib.hid (HW_2.out.to hp)
      have L_3 := Lib.hid (L_2.out.to hp)
      have R_3 := Lib.hid (R_2.out.to hp)
      clear hp  HP_2 HW_2 L_2 R_2
      rw [HAB.out.2]
      go_wp2_with fail
      clear hc hd
      refine (least_any v3 L p cap b HOK.out HSB.out L_3.out HW_3.out).mono ?_
      rintro e v4 ⟨rfl, hp⟩
      have HP_4 := Lib.hid (HP_3.out.trans hp)
      have HW_4 := Lib.hid (HW_3.out.to hp)
      have L_4 := Lib.hid (L_3.out.to hp)
      have R_4 := Lib.hid (R_3.out.to hp)
      clear hp  HP_3 HW_3 L_3 R_3
      obtain ⟨x1, hx1⟩ : ∃ zz, (atP L b).1 = zz := ⟨_, rfl⟩
      obtain ⟨x2, hx2⟩ : ∃ zz, (atP L b).2 = zz := ⟨_, rfl⟩
      obtain ⟨i1, hi1⟩ : ∃ zz, (atE L b == 0) = zz := ⟨_, rfl⟩
      have HNA : Hid (atP L b = (x1, x2) ∧ (atE L b == 0) = i1) := ⟨by rw [← hx1, ← hx2], hi1⟩
      rw [hx1, hx2, hi1]
      clear hx1 hx2 hi1
      go_wp2_with fail
      obtain ⟨X5, hX5⟩ : ∃ V : World, v4.alloc (Obj.cells #[Value.int IntKind.i64 x1, Value.int IntKind.i64 x2] 29) = V := ⟨_, rfl⟩
      have hpX5 : Pure v4 X5 := by rw [← hX5]; exact ((Diff.refl v4).alloc _)
      have bX : Blk (v4.heap.size) 29 #[Value.int IntKind.i64 x1, Value.int IntKind.i64 x2] X5 := by rw [← hX5]; exact (blk0 v4 29 _)
      rw [hX5]
      obtain ⟨g5_0, hg5_0⟩ : ∃ g, v4.heap.size = g := ⟨_, rfl⟩
      rw [hg5_0] at bX ⊢
      have HP_5 := Lib.hid (HP_4.out.trans hpX5)
      have HW_5 := Lib.hid (HW_4.out.to hpX5)
      have L_5 := Lib.hid (L_4.out.to hpX5)
      have R_5 := Lib.hid (R_4.out.to hpX5)
      have X_5 := Lib.hid bX
      clear hX5 hpX5 hg5_0 bX HP_4 HW_4 L_4 R_4
      go_wp2_with fail
      refine (least_any X5 L p cap a HOK.out HSA.out L_5.out HW_5.out).mono ?_
      rintro e v6 ⟨rfl, hp⟩
      have HP_6 := Lib.hid (HP_5.out.trans hp)
      have HW_6 := Lib.hid (HW_5.out.to hp)
      have L_6 := Lib.hid (L_5.out.to hp)
      have R_6 := Lib.hid (R_5.out.to hp)
      have X_6 := Lib.hid (X_5.out.to hp)
      clear hp  HP_5 HW_5 L_5 R_5 X_5
      obtain ⟨y1, hy1⟩ : ∃ zz, (atP L a).1 = zz := ⟨_, rfl⟩
      obtain ⟨y2, hy2⟩ : ∃ zz, (atP L a).2 = zz := ⟨_, rfl⟩
      obtain ⟨i2, hi2⟩ : ∃ zz, (atE L a == 0) = zz := ⟨_, rfl⟩
      have HNB : Hid (atP L a = (y1, y2) ∧ (atE L a == 0) = i2) := ⟨by rw [← hy1, ← hy2], hi2⟩
      rw [hy1, hy2, hi2]
      clear hy1 hy2 hi2
      go_wp2_with fail
      obtain ⟨X7, hX7⟩ : ∃ V : World, v6.alloc (Obj.cells #[Value.int IntKind.i64 y1, Value.int IntKind.i64 y2] 29) = V := ⟨_, rfl⟩
      have hpX7 : Pure v6 X7 := by rw [← hX7]; exact ((Diff.refl v6).alloc _)
      have bY : Blk (v6.heap.size) 29 #[Value.int IntKind.i64 y1, Value.int IntKind.i64 y2] X7 := by rw [← hX7]; exact (blk0 v6 29 _)
      rw [hX7]
      obtain ⟨g7_0, hg7_0⟩ : ∃ g, v6.heap.size = g := ⟨_, rfl⟩
      rw [hg7_0] at bY ⊢
      have HP_7 := Lib.hid (HP_6.out.trans hpX7)
      have HW_7 := Lib.hid (HW_6.out.to hpX7)
      have L_7 := Lib.hid (L_6.out.to hpX7)
      have R_7 := Lib.hid (R_6.out.to hpX7)
      have X_7 := Lib.hid (X_6.out.to hpX7)
      have Y_7 := Lib.hid bY
      clear hX7 hpX7 hg7_0 bY HP_6 HW_6 L_6 R_6 X_6
      go_wp2_with fail
      refine (cheapest_any X7 L p cap b HOK.out HSB.out L_7.out HW_7.out).mono ?_
      rintro e v8 ⟨rfl, hp⟩
      have HP_8 := Lib.hid (HP_7.out.trans hp)
      have HW_8 := Lib.hid (HW_7.out.to hp)
      have L_8 := Lib.hid (L_7.out.to hp)
      have R_8 := Lib.hid (R_7.out.to hp)
      have X_8 := Lib.hid (X_7.out.to hp)
      have Y_8 := Lib.hid (Y_7.out.to hp)
      clear hp  HP_7 HW_7 L_7 R_7 X_7 Y_7
      obtain ⟨z1, hz1⟩ : ∃ zz, (cheapP L b).1 = zz := ⟨_, rfl⟩
      obtain ⟨z2, hz2⟩ : ∃ zz, (cheapP L b).2 = zz := ⟨_, rfl⟩
      obtain ⟨i3, hi3⟩ : ∃ zz, (cheapE L b == 0) = zz := ⟨_, rfl⟩
      have HNC : Hid (cheapP L b = (z1, z2) ∧ (cheapE L b == 0) = i3) := ⟨by rw [← hz1, ← hz2], hi3⟩
      rw [hz1, hz2, hi3]
      clear hz1 hz2 hi3
      go_wp2_with fail
      obtain ⟨X9, hX9⟩ : ∃ V : World, v8.alloc (Obj.cells #[Value.int IntKind.i64 z1, Value.int IntKind.i64 z2] 29) = V := ⟨_, rfl⟩
      have hpX9 : Pure v8 X9 := by rw [← hX9]; exact ((Diff.refl v8).alloc _)
      have bZ : Blk (v8.heap.size) 29 #[Value.int IntKind.i64 z1, Value.int IntKind.i64 z2] X9 := by rw [← hX9]; exact (blk0 v8 29 _)
      rw [hX9]
      obtain ⟨g9_0, hg9_0⟩ : ∃ g, v8.heap.size = g := ⟨_, rfl⟩
      rw [hg9_0] at bZ ⊢
      have HP_9 := Lib.hid (HP_8.out.trans hpX9)
      have HW_9 := Lib.hid (HW_8.out.to hpX9)
      have L_9 := Lib.hid (L_8.out.to hpX9)
      have R_9 := Lib.hid (R_8.out.to hpX9)
      have X_9 := Lib.hid (X_8.out.to hpX9)
      have Y_9 := Lib.hid (Y_8.out.to hpX9)
      have Z_9 := Lib.hid bZ
      clear hX9 hpX9 hg9_0 bZ HP_8 HW_8 L_8 R_8 X_8 Y_8
      go_wp2_with fail
      refine (Mixed_any X9 L p q cap m c f ⟨HOK.out.n0, HOK.out.n8⟩ HM20.out R_9.out HFW.out).mono ?_
      rintro e v10 ⟨⟨r, dd, rfl, hrow⟩, hp⟩
      have HP_10 := Lib.hid (HP_9.out.trans hp)
      have HW_10 := Lib.hid (HW_9.out.to hp)
      have L_10 := Lib.hid (L_9.out.to hp)
      have R_10 := Lib.hid (R_9.out.to hp)
      have X_10 := Lib.hid (X_9.out.to hp)
      have Y_10 := Lib.hid (Y_9.out.to hp)
      have Z_10 := Lib.hid (Z_9.out.to hp)
      have M_10 := Lib.hid hrow
      clear hp hrow HP_9 HW_9 L_9 R_9 X_9 Y_9 Z_9
      go_wp2_with fail
      obtain ⟨F, hF⟩ : ∃ F, mixV f m L.n = F := ⟨_, rfl⟩
      have HQ0 := blend_q HOK.out F (fun k _ => by rw [← hF]; exact mixV_in f m L.n k) (by rw [← hF]; exact mixV_sum f m L.n HOK.out.n0)
      rw [hF] at M_10
      clear hF
      obtain ⟨s1, s2, p1, p2, hq⟩ := HQ0
      have HQ := Lib.hid hq
      clear hq
      refine (CheckBlend_any v10 L p r cap L.n dd F (by have := HOK.out.n8; omega) (by have := HOK.out.n8; omega) L_10.out M_10.out HW_10.out).mono ?_
      rintro e v11 ⟨rfl, hp⟩
      have HP_11 := Lib.hid (HP_10.out.trans hp)
      have HW_11 := Lib.hid (HW_10.out.to hp)
      have L_11 := Lib.hid (L_10.out.to hp)
      have R_11 := Lib.hid (R_10.out.to hp)
      have X_11 := Lib.hid (X_10.out.to hp)
      have Y_11 := Lib.hid (Y_10.out.to hp)
      have Z_11 := Lib.hid (Z_10.out.to hp)
      have M_11 := Lib.hid (M_10.out.to hp)
      clear hp  HP_10 HW_10 L_10 R_10 X_10 Y_10 Z_10 M_10
      have e1 : (blendS L F L.n).1 = s1 := by rw [HQ.out.es]
      have e2 : (blendS L F L.n).2 = s2 := by rw [HQ.out.es]
      have e3 : (blendP L F L.n).1 = p1 := by rw [HQ.out.ep]
      have e4 : (blendP L F L.n).2 = p2 := by rw [HQ.out.ep]
      rw [e1, e2, e3, e4, HQ.out.ok]
      clear e1 e2 e3 e4
      have HLF := Lib.hid (least_facts HOK.out HSB.out HSA.out HTU.out HNA.out.1 HNB.out.1 HNC.out.1 HNA.out.2 HNB.out.2 HNC.out.2)
      have HLB := fun h => least_blend HOK.out HSB.out HQ.out HNA.out.1 h
      rw [HNA.out.2] at HLB
      have HLB' := Lib.hid HLB
      clear HLB
      obtain ⟨dl, hdl⟩ : ∃ z, decide (s1 * 1 < b * s2) = z := ⟨_, rfl⟩
      rw [hdl] at HLB'
      have HDL := Lib.hid hdl
      clear hdl
      cases i1
      · cases i2
        · cases i3
          · cases dl
            · exact absurd (HLB'.out rfl).1 (by decide)
            · have SS := Lib.hid HQ.out.ss
              have SP := Lib.hid HQ.out.sp
              clear HLF HLB' HNA HNB HNC
              go_wp2_with fail
              obtain ⟨X12, hX12⟩ : ∃ V : World, (v11.alloc (Obj.cells #[Value.int IntKind.i64 s1, Value.int IntKind.i64 s2] 29)).alloc (Obj.cells #[Value.int IntKind.i64 p1, Value.int IntKind.i64 p2] 29) = V := ⟨_, rfl⟩
              have hpX12 : Pure v11 X12 := by rw [← hX12]; exact (((Diff.refl v11).alloc _).alloc _)
              have bS : Blk (v11.heap.size) 29 #[Value.int IntKind.i64 s1, Value.int IntKind.i64 s2] X12 := by rw [← hX12]; exact ((blk0 v11 29 _).alloc _)
              have bP : Blk (v11.heap.size + 1) 29 #[Value.int IntKind.i64 p1, Value.int IntKind.i64 p2] X12 := by rw [← hX12]; exact (blk1 v11 _ 29 _)
              rw [hX12]
              obtain ⟨g12_0, hg12_0⟩ : ∃ g, v11.heap.size = g := ⟨_, rfl⟩
              rw [hg12_0] at bS bP ⊢
              obtain ⟨g12_1, hg12_1⟩ : ∃ g, g12_0 + 1 = g := ⟨_, rfl⟩
              rw [hg12_1] at bP ⊢
              have HP_12 := Lib.hid (HP_11.out.trans hpX12)
              have HW_12 := Lib.hid (HW_11.out.to hpX12)
              have L_12 := Lib.hid (L_11.out.to hpX12)
              have R_12 := Lib.hid (R_11.out.to hpX12)
              have X_12 := Lib.hid (X_11.out.to hpX12)
              have Y_12 := Lib.hid (Y_11.out.to hpX12)
              have Z_12 := Lib.hid (Z_11.out.to hpX12)
              have M_12 := Lib.hid (M_11.out.to hpX12)
              have S_12 := Lib.hid bS
              have P_12 := Lib.hid bP
              clear hX12 hpX12 hg12_1 hg12_0 bS bP HP_11 HW_11 L_11 R_11 X_11 Y_11 Z_11 M_11
              refine (small_any X12 s1 s2 ⟨SS.out.b0, SS.out.b1⟩ ⟨SS.out.a0, SS.out.a1⟩ SS.out.rd).mono ?_
              rintro e v13 ⟨rfl, hp⟩
              have HP_13 := Lib.hid (HP_12.out.trans hp)
              have HW_13 := Lib.hid (HW_12.out.to hp)
              have L_13 := Lib.hid (L_12.out.to hp)
              have R_13 := Lib.hid (R_12.out.to hp)
              have X_13 := Lib.hid (X_12.out.to hp)
              have Y_13 := Lib.hid (Y_12.out.to hp)
              have Z_13 := Lib.hid (Z_12.out.to hp)
              have M_13 := Lib.hid (M_12.out.to hp)
              have S_13 := Lib.hid (S_12.out.to hp)
              have P_13 := Lib.hid (P_12.out.to hp)
              clear hp  HP_12 HW_12 L_12 R_12 X_12 Y_12 Z_12 M_12 S_12 P_12
              have kP0 := P_13.out.at 0
              have kP1 := P_13.out.at 1
              have kPl := P_13.out.lt
              go_wp2_with fail
              clear kP0 kP1 kPl
              refine (small_any v13 p1 p2 ⟨SP.out.b0, SP.out.b1⟩ ⟨SP.out.a0, SP.out.a1⟩ SP.out.rd).mono ?_
              rintro e v14 ⟨rfl, hp⟩
              have HP_14 := Lib.hid (HP_13.out.trans hp)
              have HW_14 := Lib.hid (HW_13.out.to hp)
              have L_14 := Lib.hid (L_13.out.to hp)
              have R_14 := Lib.hid (R_13.out.to hp)
              have X_14 := Lib.hid (X_13.out.to hp)
              have Y_14 := Lib.hid (Y_13.out.to hp)
              have Z_14 := Lib.hid (Z_13.out.to hp)
              have M_14 := Lib.hid (M_13.out.to hp)
              have S_14 := Lib.hid (S_13.out.to hp)
              have P_14 := Lib.hid (P_13.out.to hp)
              clear hp  HP_13 HW_13 L_13 R_13 X_13 Y_13 Z_13 M_13 S_13 P_13
              go_wp2_with fail
              refine WQ.region (C := Pure v14) hmx (by kernel_rfl) ((Diff.refl _).drew) ?_
              refine WQ.val (by rfl) _ (fun V hV => exec_load_pair (.tmp 20) rfl g12_0 s1 s2 rfl (S_14.out.to hV)) ?_
              iterate 1 (refine WQ.step (fun K hK => ?_); go_simp; first | refine hK _ ?_ | refine ⟨_, fun _ _ => rfl, hK _ ?_⟩; clear hK K)
              refine WQ.call (by rfl) 31 #[.int .i64 b, .int .i64 1] (.agg #[.int .i64 b, .int .i64 1]) (fun V => by unfold execOp; simp [go_sem]) (fun V hV => by have h := lby_any V b 1; exact h.mono fun e V2 h => ⟨h.1, hV.trans h.2⟩) ?_
              refine WQ.call (by rfl) 52 #[.agg #[.int .i64 s1, .int .i64 s2], .agg #[.int .i64 b, .int .i64 1]] (.bool true) (fun V => by unfold execOp; simp [go_sem]) (fun V hV => by have h := RLess_any V s1 s2 b 1 ⟨by have := SS.out.a0; omega, by have := SS.out.a1; have := SS.out.b1; omega⟩ ⟨by have := SS.out.b0; omega, by have := SS.out.b1; omega⟩ ⟨by have := HSB.out; omega, by have := HSB.out; omega⟩ ⟨by omega, by omega⟩; rw [HDL.out] at h; exact h.mono fun e V2 h => ⟨h.1, hV.trans h.2⟩) ?_
              iterate 1 (refine WQ.step (fun K hK => ?_); go_simp; first | refine hK _ ?_ | refine ⟨_, fun _ _ => rfl, hK _ ?_⟩; clear hK K)
              refine WQ.skipK (by rfl) (fun K hK => ?_); go_simp; refine hK _ ?_; clear hK K
              refine WQ.skipK (by rfl) (fun K hK => ?_); go_simp; refine hK _ ?_; clear hK K
              refine WQ.skipK (by rfl) (fun K hK => ?_); go_simp; refine hK _ ?_; clear hK K
              refine WQ.skipK (by rfl) (fun K hK => ?_); go_simp; refine hK _ ?_; clear hK K
              refine WQ.skipK (by rfl) (fun K hK => ?_); go_simp; refine hK _ ?_; clear hK K
              refine WQ.skipK (by rfl) (fun K hK => ?_); go_simp; refine hK _ ?_; clear hK K
              refine WQ.skipK (by rfl) (fun K hK => ?_); go_simp; refine hK _ ?_; clear hK K
              iterate 2 (refine WQ.step (fun K hK => ?_); go_simp; first | refine hK _ ?_ | refine ⟨_, fun _ _ => rfl, hK _ ?_⟩; clear hK K)
              refine WQ.call (by rfl) 17 #[] (.bool true) (fun V => by unfold execOp; simp [go_sem]) (fun V hV => (Works_any V (HW_14.out.to hV)).mono fun e V2 h => ⟨h.1, hV.trans h.2⟩) ?_
              iterate 2 (refine WQ.step (fun K hK => ?_); go_simp; first | refine hK _ ?_ | refine ⟨_, fun _ _ => rfl, hK _ ?_⟩; clear hK K)
              refine WQ.nil ?_
              rintro V hV
              have HPE := Lib.hid hV
              clear hV
              go_wp2
              exact bodyPost_ret (v := .bool true) (by simp [results, Tryd.results9, go_sem]) rfl ⟨rfl, HP_14.out.trans HPE.out⟩
          · exact absurd (HLF.out.2.2 rfl).1 (by decide)
        · exact absurd (HLF.out.2.1 rfl).1 (by decide)
      · cases i2
        · cases i3
          · cases dl
            · have SX := Lib.hid (HLF.out.1 rfl)
              have DB := Lib.hid (HLB'.out rfl).2.2
              have SS := Lib.hid HQ.out.ss
              have SP := Lib.hid HQ.out.sp
              clear HLF HLB' HNA HNB HNC
              go_wp2_with fail
              obtain ⟨X12, hX12⟩ : ∃ V : World, (v11.alloc (Obj.cells #[Value.int IntKind.i64 s1, Value.int IntKind.i64 s2] 29)).alloc (Obj.cells #[Value.int IntKind.i64 p1, Value.int IntKind.i64 p2] 29) = V := ⟨_, rfl⟩
              have hpX12 : Pure v11 X12 := by rw [← hX12]; exact (((Diff.refl v11).alloc _).alloc _)
              have bS : Blk (v11.heap.size) 29 #[Value.int IntKind.i64 s1, Value.int IntKind.i64 s2] X12 := by rw [← hX12]; exact ((blk0 v11 29 _).alloc _)
              have bP : Blk (v11.heap.size + 1) 29 #[Value.int IntKind.i64 p1, Value.int IntKind.i64 p2] X12 := by rw [← hX12]; exact (blk1 v11 _ 29 _)
              rw [hX12]
              obtain ⟨g12_0, hg12_0⟩ : ∃ g, v11.heap.size = g := ⟨_, rfl⟩
              rw [hg12_0] at bS bP ⊢
              obtain ⟨g12_1, hg12_1⟩ : ∃ g, g12_0 + 1 = g := ⟨_, rfl⟩
              rw [hg12_1] at bP ⊢
              have HP_12 := Lib.hid (HP_11.out.trans hpX12)
              have HW_12 := Lib.hid (HW_11.out.to hpX12)
              have L_12 := Lib.hid (L_11.out.to hpX12)
              have R_12 := Lib.hid (R_11.out.to hpX12)
              have X_12 := Lib.hid (X_11.out.to hpX12)
              have Y_12 := Lib.hid (Y_11.out.to hpX12)
              have Z_12 := Lib.hid (Z_11.out.to hpX12)
              have M_12 := Lib.hid (M_11.out.to hpX12)
              have S_12 := Lib.hid bS
              have P_12 := Lib.hid bP
              clear hX12 hpX12 hg12_1 hg12_0 bS bP HP_11 HW_11 L_11 R_11 X_11 Y_11 Z_11 M_11
              refine (small_any X12 s1 s2 ⟨SS.out.b0, SS.out.b1⟩ ⟨SS.out.a0, SS.out.a1⟩ SS.out.rd).mono ?_
              rintro e v13 ⟨rfl, hp⟩
              have HP_13 := Lib.hid (HP_12.out.trans hp)
              have HW_13 := Lib.hid (HW_12.out.to hp)
              have L_13 := Lib.hid (L_12.out.to hp)
              have R_13 := Lib.hid (R_12.out.to hp)
              have X_13 := Lib.hid (X_12.out.to hp)
              have Y_13 := Lib.hid (Y_12.out.to hp)
              have Z_13 := Lib.hid (Z_12.out.to hp)
              have M_13 := Lib.hid (M_12.out.to hp)
              have S_13 := Lib.hid (S_12.out.to hp)
              have P_13 := Lib.hid (P_12.out.to hp)
              clear hp  HP_12 HW_12 L_12 R_12 X_12 Y_12 Z_12 M_12 S_12 P_12
              have kP0 := P_13.out.at 0
              have kP1 := P_13.out.at 1
              have kPl := P_13.out.lt
              go_wp2_with fail
              clear kP0 kP1 kPl
              refine (small_any v13 p1 p2 ⟨SP.out.b0, SP.out.b1⟩ ⟨SP.out.a0, SP.out.a1⟩ SP.out.rd).mono ?_
              rintro e v14 ⟨rfl, hp⟩
              have HP_14 := Lib.hid (HP_13.out.trans hp)
              have HW_14 := Lib.hid (HW_13.out.to hp)
              have L_14 := Lib.hid (L_13.out.to hp)
              have R_14 := Lib.hid (R_13.out.to hp)
              have X_14 := Lib.hid (X_13.out.to hp)
              have Y_14 := Lib.hid (Y_13.out.to hp)
              have Z_14 := Lib.hid (Z_13.out.to hp)
              have M_14 := Lib.hid (M_13.out.to hp)
              have S_14 := Lib.hid (S_13.out.to hp)
              have P_14 := Lib.hid (P_13.out.to hp)
              clear hp  HP_13 HW_13 L_13 R_13 X_13 Y_13 Z_13 M_13 S_13 P_13
              go_wp2_with fail
              refine WQ.region (C := Pure v14) hmx (by kernel_rfl) ((Diff.refl _).drew) ?_
              refine WQ.val (by rfl) _ (fun V hV => exec_load_pair (.tmp 20) rfl g12_0 s1 s2 rfl (S_14.out.to hV)) ?_
              iterate 1 (refine WQ.step (fun K hK => ?_); go_simp; first | refine hK _ ?_ | refine ⟨_, fun _ _ => rfl, hK _ ?_⟩; clear hK K)
              refine WQ.call (by rfl) 31 #[.int .i64 b, .int .i64 1] (.agg #[.int .i64 b, .int .i64 1]) (fun V => by unfold execOp; simp [go_sem]) (fun V hV => by have h := lby_any V b 1; exact h.mono fun e V2 h => ⟨h.1, hV.trans h.2⟩) ?_
              refine WQ.call (by rfl) 52 #[.agg #[.int .i64 s1, .int .i64 s2], .agg #[.int .i64 b, .int .i64 1]] (.bool false) (fun V => by unfold execOp; simp [go_sem]) (fun V hV => by have h := RLess_any V s1 s2 b 1 ⟨by have := SS.out.a0; omega, by have := SS.out.a1; have := SS.out.b1; omega⟩ ⟨by have := SS.out.b0; omega, by have := SS.out.b1; omega⟩ ⟨by have := HSB.out; omega, by have := HSB.out; omega⟩ ⟨by omega, by omega⟩; rw [HDL.out] at h; exact h.mono fun e V2 h => ⟨h.1, hV.trans h.2⟩) ?_
              iterate 3 (refine WQ.step (fun K hK => ?_); go_simp; first | refine hK _ ?_ | refine ⟨_, fun _ _ => rfl, hK _ ?_⟩; clear hK K)
              refine WQ.val (by rfl) _ (fun V hV => exec_load_pair (.tmp 21) rfl g12_1 p1 p2 rfl (P_14.out.to hV)) ?_
              refine WQ.val (by rfl) _ (fun V hV => exec_load_pair (.tmp 11) rfl g5_0 x1 x2 rfl (X_14.out.to hV)) ?_
              refine WQ.call (by rfl) 52 #[.agg #[.int .i64 p1, .int .i64 p2], .agg #[.int .i64 x1, .int .i64 x2]] (.bool false) (fun V => by unfold execOp; simp [go_sem]) (fun V hV => by have h := RLess_any V p1 p2 x1 x2 ⟨by have := SP.out.a0; omega, by have := SP.out.a1; have := SP.out.b1; omega⟩ ⟨by have := SP.out.b0; omega, by have := SP.out.b1; omega⟩ ⟨by have := SX.out.a0; omega, by have := SX.out.a1; have := SX.out.b1; omega⟩ ⟨by have := SX.out.b0; omega, by have := SX.out.b1; omega⟩; rw [DB.out] at h; exact h.mono fun e V2 h => ⟨h.1, hV.trans h.2⟩) ?_
              iterate 4 (refine WQ.step (fun K hK => ?_); go_simp; first | refine hK _ ?_ | refine ⟨_, fun _ _ => rfl, hK _ ?_⟩; clear hK K)
              refine WQ.call (by rfl) 17 #[] (.bool true) (fun V => by unfold execOp; simp [go_sem]) (fun V hV => (Works_any V (HW_14.out.to hV)).mono fun e V2 h => ⟨h.1, hV.trans h.2⟩) ?_
              iterate 2 (refine WQ.step (fun K hK => ?_); go_simp; first | refine hK _ ?_ | refine ⟨_, fun _ _ => rfl, hK _ ?_⟩; clear hK K)
              refine WQ.nil ?_
              rintro V hV
              have HPE := Lib.hid hV
              clear hV
              go_wp2
              exact bodyPost_ret (v := .bool true) (by simp [results, Tryd.results9, go_sem]) rfl ⟨rfl, HP_14.out.trans HPE.out⟩
            · have SX := Lib.hid (HLF.out.1 rfl)
              have SS := Lib.hid HQ.out.ss
              have SP := Lib.hid HQ.out.sp
              clear HLF HLB' HNA HNB HNC
              go_wp2_with fail
              obtain ⟨X12, hX12⟩ : ∃ V : World, (v11.alloc (Obj.cells #[Value.int IntKind.i64 s1, Value.int IntKind.i64 s2] 29)).alloc (Obj.cells #[Value.int IntKind.i64 p1, Value.int IntKind.i64 p2] 29) = V := ⟨_, rfl⟩
              have hpX12 : Pure v11 X12 := by rw [← hX12]; exact (((Diff.refl v11).alloc _).alloc _)
              have bS : Blk (v11.heap.size) 29 #[Value.int IntKind.i64 s1, Value.int IntKind.i64 s2] X12 := by rw [← hX12]; exact ((blk0 v11 29 _).alloc _)
              have bP : Blk (v11.heap.size + 1) 29 #[Value.int IntKind.i64 p1, Value.int IntKind.i64 p2] X12 := by rw [← hX12]; exact (blk1 v11 _ 29 _)
              rw [hX12]
              obtain ⟨g12_0, hg12_0⟩ : ∃ g, v11.heap.size = g := ⟨_, rfl⟩
              rw [hg12_0] at bS bP ⊢
              obtain ⟨g12_1, hg12_1⟩ : ∃ g, g12_0 + 1 = g := ⟨_, rfl⟩
              rw [hg12_1] at bP ⊢
              have HP_12 := Lib.hid (HP_11.out.trans hpX12)
              have HW_12 := Lib.hid (HW_11.out.to hpX12)
              have L_12 := Lib.hid (L_11.out.to hpX12)
              have R_12 := Lib.hid (R_11.out.to hpX12)
              have X_12 := Lib.hid (X_11.out.to hpX12)
              have Y_12 := Lib.hid (Y_11.out.to hpX12)
              have Z_12 := Lib.hid (Z_11.out.to hpX12)
              have M_12 := Lib.hid (M_11.out.to hpX12)
              have S_12 := Lib.hid bS
              have P_12 := Lib.hid bP
              clear hX12 hpX12 hg12_1 hg12_0 bS bP HP_11 HW_11 L_11 R_11 X_11 Y_11 Z_11 M_11
              refine (small_any X12 s1 s2 ⟨SS.out.b0, SS.out.b1⟩ ⟨SS.out.a0, SS.out.a1⟩ SS.out.rd).mono ?_
              rintro e v13 ⟨rfl, hp⟩
              have HP_13 := Lib.hid (HP_12.out.trans hp)
              have HW_13 := Lib.hid (HW_12.out.to hp)
              have L_13 := Lib.hid (L_12.out.to hp)
              have R_13 := Lib.hid (R_12.out.to hp)
              have X_13 := Lib.hid (X_12.out.to hp)
              have Y_13 := Lib.hid (Y_12.out.to hp)
              have Z_13 := Lib.hid (Z_12.out.to hp)
              have M_13 := Lib.hid (M_12.out.to hp)
              have S_13 := Lib.hid (S_12.out.to hp)
              have P_13 := Lib.hid (P_12.out.to hp)
              clear hp  HP_12 HW_12 L_12 R_12 X_12 Y_12 Z_12 M_12 S_12 P_12
              have kP0 := P_13.out.at 0
              have kP1 := P_13.out.at 1
              have kPl := P_13.out.lt
              go_wp2_with fail
              clear kP0 kP1 kPl
              refine (small_any v13 p1 p2 ⟨SP.out.b0, SP.out.b1⟩ ⟨SP.out.a0, SP.out.a1⟩ SP.out.rd).mono ?_
              rintro e v14 ⟨rfl, hp⟩
              have HP_14 := Lib.hid (HP_13.out.trans hp)
              have HW_14 := Lib.hid (HW_13.out.to hp)
              have L_14 := Lib.hid (L_13.out.to hp)
              have R_14 := Lib.hid (R_13.out.to hp)
              have X_14 := Lib.hid (X_13.out.to hp)
              have Y_14 := Lib.hid (Y_13.out.to hp)
              have Z_14 := Lib.hid (Z_13.out.to hp)
              have M_14 := Lib.hid (M_13.out.to hp)
              have S_14 := Lib.hid (S_13.out.to hp)
              have P_14 := Lib.hid (P_13.out.to hp)
              clear hp  HP_13 HW_13 L_13 R_13 X_13 Y_13 Z_13 M_13 S_13 P_13
              go_wp2_with fail
              refine WQ.region (C := Pure v14) hmx (by kernel_rfl) ((Diff.refl _).drew) ?_
              refine WQ.val (by rfl) _ (fun V hV => exec_load_pair (.tmp 20) rfl g12_0 s1 s2 rfl (S_14.out.to hV)) ?_
              iterate 1 (refine WQ.step (fun K hK => ?_); go_simp; first | refine hK _ ?_ | refine ⟨_, fun _ _ => rfl, hK _ ?_⟩; clear hK K)
              refine WQ.call (by rfl) 31 #[.int .i64 b, .int .i64 1] (.agg #[.int .i64 b, .int .i64 1]) (fun V => by unfold execOp; simp [go_sem]) (fun V hV => by have h := lby_any V b 1; exact h.mono fun e V2 h => ⟨h.1, hV.trans h.2⟩) ?_
              refine WQ.call (by rfl) 52 #[.agg #[.int .i64 s1, .int .i64 s2], .agg #[.int .i64 b, .int .i64 1]] (.bool true) (fun V => by unfold execOp; simp [go_sem]) (fun V hV => by have h := RLess_any V s1 s2 b 1 ⟨by have := SS.out.a0; omega, by have := SS.out.a1; have := SS.out.b1; omega⟩ ⟨by have := SS.out.b0; omega, by have := SS.out.b1; omega⟩ ⟨by have := HSB.out; omega, by have := HSB.out; omega⟩ ⟨by omega, by omega⟩; rw [HDL.out] at h; exact h.mono fun e V2 h => ⟨h.1, hV.trans h.2⟩) ?_
              iterate 1 (refine WQ.step (fun K hK => ?_); go_simp; first | refine hK _ ?_ | refine ⟨_, fun _ _ => rfl, hK _ ?_⟩; clear hK K)
              refine WQ.skipK (by rfl) (fun K hK => ?_); go_simp; refine hK _ ?_; clear hK K
              refine WQ.skipK (by rfl) (fun K hK => ?_); go_simp; refine hK _ ?_; clear hK K
              refine WQ.skipK (by rfl) (fun K hK => ?_); go_simp; refine hK _ ?_; clear hK K
              refine WQ.skipK (by rfl) (fun K hK => ?_); go_simp; refine hK _ ?_; clear hK K
              refine WQ.skipK (by rfl) (fun K hK => ?_); go_simp; refine hK _ ?_; clear hK K
              refine WQ.skipK (by rfl) (fun K hK => ?_); go_simp; refine hK _ ?_; clear hK K
              refine WQ.skipK (by rfl) (fun K hK => ?_); go_simp; refine hK _ ?_; clear hK K
              iterate 2 (refine WQ.step (fun K hK => ?_); go_simp; first | refine hK _ ?_ | refine ⟨_, fun _ _ => rfl, hK _ ?_⟩; clear hK K)
              refine WQ.call (by rfl) 17 #[] (.bool true) (fun V => by unfold execOp; simp [go_sem]) (fun V hV => (Works_any V (HW_14.out.to hV)).mono fun e V2 h => ⟨h.1, hV.trans h.2⟩) ?_
              iterate 2 (refine WQ.step (fun K hK => ?_); go_simp; first | refine hK _ ?_ | refine ⟨_, fun _ _ => rfl, hK _ ?_⟩; clear hK K)
              refine WQ.nil ?_
              rintro V hV
              have HPE := Lib.hid hV
              clear hV
              go_wp2
              exact bodyPost_ret (v := .bool true) (by simp [results, Tryd.results9, go_sem]) rfl ⟨rfl, HP_14.out.trans HPE.out⟩
          · cases dl
            · have SX := Lib.hid (HLF.out.1 rfl)
              obtain ⟨-, sz, dz⟩ := HLF.out.2.2 rfl
              have SZ := Lib.hid sz
              have DZ := Lib.hid dz
              clear sz dz
              have DB := Lib.hid (HLB'.out rfl).2.2
              have SS := Lib.hid HQ.out.ss
              have SP := Lib.hid HQ.out.sp
              clear HLF HLB' HNA HNB HNC
              have kZ0 := Z_11.out.at 0
              have kZ1 := Z_11.out.at 1
              have kZl := Z_11.out.lt
              have kX0 := X_11.out.at 0
              have kX1 := X_11.out.at 1
              have kXl := X_11.out.lt
              go_wp2_with fail
              clear kZ0 kZ1 kZl
              clear kX0 kX1 kXl
              obtain ⟨X12, hX12⟩ : ∃ V : World, (v11.alloc (Obj.cells #[Value.int IntKind.i64 s1, Value.int IntKind.i64 s2] 29)).alloc (Obj.cells #[Value.int IntKind.i64 p1, Value.int IntKind.i64 p2] 29) = V := ⟨_, rfl⟩
              have hpX12 : Pure v11 X12 := by rw [← hX12]; exact (((Diff.refl v11).alloc _).alloc _)
              have bS : Blk (v11.heap.size) 29 #[Value.int IntKind.i64 s1, Value.int IntKind.i64 s2] X12 := by rw [← hX12]; exact ((blk0 v11 29 _).alloc _)
              have bP : Blk (v11.heap.size + 1) 29 #[Value.int IntKind.i64 p1, Value.int IntKind.i64 p2] X12 := by rw [← hX12]; exact (blk1 v11 _ 29 _)
              rw [hX12]
              obtain ⟨g12_0, hg12_0⟩ : ∃ g, v11.heap.size = g := ⟨_, rfl⟩
              rw [hg12_0] at bS bP ⊢
              obtain ⟨g12_1, hg12_1⟩ : ∃ g, g12_0 + 1 = g := ⟨_, rfl⟩
              rw [hg12_1] at bP ⊢
              have HP_12 := Lib.hid (HP_11.out.trans hpX12)
              have HW_12 := Lib.hid (HW_11.out.to hpX12)
              have L_12 := Lib.hid (L_11.out.to hpX12)
              have R_12 := Lib.hid (R_11.out.to hpX12)
              have X_12 := Lib.hid (X_11.out.to hpX12)
              have Y_12 := Lib.hid (Y_11.out.to hpX12)
              have Z_12 := Lib.hid (Z_11.out.to hpX12)
              have M_12 := Lib.hid (M_11.out.to hpX12)
              have S_12 := Lib.hid bS
              have P_12 := Lib.hid bP
              clear hX12 hpX12 hg12_1 hg12_0 bS bP HP_11 HW_11 L_11 R_11 X_11 Y_11 Z_11 M_11
              refine (RLess_any X12 z1 z2 x1 x2 ⟨by have := SZ.out.a0; omega, by have := SZ.out.a1; have := SZ.out.b1; omega⟩ ⟨by have := SZ.out.b0; omega, by have := SZ.out.b1; omega⟩ ⟨by have := SX.out.a0; omega, by have := SX.out.a1; have := SX.out.b1; omega⟩ ⟨by have := SX.out.b0; omega, by have := SX.out.b1; omega⟩).mono ?_
              rintro e v13 ⟨rfl, hp⟩
              have HP_13 := Lib.hid (HP_12.out.trans hp)
              have HW_13 := Lib.hid (HW_12.out.to hp)
              have L_13 := Lib.hid (L_12.out.to hp)
              have R_13 := Lib.hid (R_12.out.to hp)
              have X_13 := Lib.hid (X_12.out.to hp)
              have Y_13 := Lib.hid (Y_12.out.to hp)
              have Z_13 := Lib.hid (Z_12.out.to hp)
              have M_13 := Lib.hid (M_12.out.to hp)
              have S_13 := Lib.hid (S_12.out.to hp)
              have P_13 := Lib.hid (P_12.out.to hp)
              clear hp  HP_12 HW_12 L_12 R_12 X_12 Y_12 Z_12 M_12 S_12 P_12
              rw [DZ.out]
              have kS0 := S_13.out.at 0
              have kS1 := S_13.out.at 1
              have kSl := S_13.out.lt
              go_wp2_with fail
              clear kS0 kS1 kSl
              refine (small_any v13 s1 s2 ⟨SS.out.b0, SS.out.b1⟩ ⟨SS.out.a0, SS.out.a1⟩ SS.out.rd).mono ?_
              rintro e v14 ⟨rfl, hp⟩
              have HP_14 := Lib.hid (HP_13.out.trans hp)
              have HW_14 := Lib.hid (HW_13.out.to hp)
              have L_14 := Lib.hid (L_13.out.to hp)
              have R_14 := Lib.hid (R_13.out.to hp)
              have X_14 := Lib.hid (X_13.out.to hp)
              have Y_14 := Lib.hid (Y_13.out.to hp)
              have Z_14 := Lib.hid (Z_13.out.to hp)
              have M_14 := Lib.hid (M_13.out.to hp)
              have S_14 := Lib.hid (S_13.out.to hp)
              have P_14 := Lib.hid (P_13.out.to hp)
              clear hp  HP_13 HW_13 L_13 R_13 X_13 Y_13 Z_13 M_13 S_13 P_13
              have kP0 := P_14.out.at 0
              have kP1 := P_14.out.at 1
              have kPl := P_14.out.lt
              go_wp2_with fail
              clear kP0 kP1 kPl
              refine (small_any v14 p1 p2 ⟨SP.out.b0, SP.out.b1⟩ ⟨SP.out.a0, SP.out.a1⟩ SP.out.rd).mono ?_
              rintro e v15 ⟨rfl, hp⟩
              have HP_15 := Lib.hid (HP_14.out.trans hp)
              have HW_15 := Lib.hid (HW_14.out.to hp)
              have L_15 := Lib.hid (L_14.out.to hp)
              have R_15 := Lib.hid (R_14.out.to hp)
              have X_15 := Lib.hid (X_14.out.to hp)
              have Y_15 := Lib.hid (Y_14.out.to hp)
              have Z_15 := Lib.hid (Z_14.out.to hp)
              have M_15 := Lib.hid (M_14.out.to hp)
              have S_15 := Lib.hid (S_14.out.to hp)
              have P_15 := Lib.hid (P_14.out.to hp)
              clear hp  HP_14 HW_14 L_14 R_14 X_14 Y_14 Z_14 M_14 S_14 P_14
              go_wp2_with fail
              refine WQ.region (C := Pure v15) hmx (by kernel_rfl) ((Diff.refl _).drew) ?_
              refine WQ.val (by rfl) _ (fun V hV => exec_load_pair (.tmp 20) rfl g12_0 s1 s2 rfl (S_15.out.to hV)) ?_
              iterate 1 (refine WQ.step (fun K hK => ?_); go_simp; first | refine hK _ ?_ | refine ⟨_, fun _ _ => rfl, hK _ ?_⟩; clear hK K)
              refine WQ.call (by rfl) 31 #[.int .i64 b, .int .i64 1] (.agg #[.int .i64 b, .int .i64 1]) (fun V => by unfold execOp; simp [go_sem]) (fun V hV => by have h := lby_any V b 1; exact h.mono fun e V2 h => ⟨h.1, hV.trans h.2⟩) ?_
              refine WQ.call (by rfl) 52 #[.agg #[.int .i64 s1, .int .i64 s2], .agg #[.int .i64 b, .int .i64 1]] (.bool false) (fun V => by unfold execOp; simp [go_sem]) (fun V hV => by have h := RLess_any V s1 s2 b 1 ⟨by have := SS.out.a0; omega, by have := SS.out.a1; have := SS.out.b1; omega⟩ ⟨by have := SS.out.b0; omega, by have := SS.out.b1; omega⟩ ⟨by have := HSB.out; omega, by have := HSB.out; omega⟩ ⟨by omega, by omega⟩; rw [HDL.out] at h; exact h.mono fun e V2 h => ⟨h.1, hV.trans h.2⟩) ?_
              iterate 3 (refine WQ.step (fun K hK => ?_); go_simp; first | refine hK _ ?_ | refine ⟨_, fun _ _ => rfl, hK _ ?_⟩; clear hK K)
              refine WQ.val (by rfl) _ (fun V hV => exec_load_pair (.tmp 21) rfl g12_1 p1 p2 rfl (P_15.out.to hV)) ?_
              refine WQ.val (by rfl) _ (fun V hV => exec_load_pair (.tmp 11) rfl g5_0 x1 x2 rfl (X_15.out.to hV)) ?_
              refine WQ.call (by rfl) 52 #[.agg #[.int .i64 p1, .int .i64 p2], .agg #[.int .i64 x1, .int .i64 x2]] (.bool false) (fun V => by unfold execOp; simp [go_sem]) (fun V hV => by have h := RLess_any V p1 p2 x1 x2 ⟨by have := SP.out.a0; omega, by have := SP.out.a1; have := SP.out.b1; omega⟩ ⟨by have := SP.out.b0; omega, by have := SP.out.b1; omega⟩ ⟨by have := SX.out.a0; omega, by have := SX.out.a1; have := SX.out.b1; omega⟩ ⟨by have := SX.out.b0; omega, by have := SX.out.b1; omega⟩; rw [DB.out] at h; exact h.mono fun e V2 h => ⟨h.1, hV.trans h.2⟩) ?_
              iterate 4 (refine WQ.step (fun K hK => ?_); go_simp; first | refine hK _ ?_ | refine ⟨_, fun _ _ => rfl, hK _ ?_⟩; clear hK K)
              refine WQ.call (by rfl) 17 #[] (.bool true) (fun V => by unfold execOp; simp [go_sem]) (fun V hV => (Works_any V (HW_15.out.to hV)).mono fun e V2 h => ⟨h.1, hV.trans h.2⟩) ?_
              iterate 2 (refine WQ.step (fun K hK => ?_); go_simp; first | refine hK _ ?_ | refine ⟨_, fun _ _ => rfl, hK _ ?_⟩; clear hK K)
              refine WQ.nil ?_
              rintro V hV
              have HPE := Lib.hid hV
              clear hV
              go_wp2
              exact bodyPost_ret (v := .bool true) (by simp [results, Tryd.results9, go_sem]) rfl ⟨rfl, HP_15.out.trans HPE.out⟩
            · have SX := Lib.hid (HLF.out.1 rfl)
              obtain ⟨-, sz, dz⟩ := HLF.out.2.2 rfl
              have SZ := Lib.hid sz
              have DZ := Lib.hid dz
              clear sz dz
              have SS := Lib.hid HQ.out.ss
              have SP := Lib.hid HQ.out.sp
              clear HLF HLB' HNA HNB HNC
              have kZ0 := Z_11.out.at 0
              have kZ1 := Z_11.out.at 1
              have kZl := Z_11.out.lt
              have kX0 := X_11.out.at 0
              have kX1 := X_11.out.at 1
              have kXl := X_11.out.lt
              go_wp2_with fail
              clear kZ0 kZ1 kZl
              clear kX0 kX1 kXl
              obtain ⟨X12, hX12⟩ : ∃ V : World, (v11.alloc (Obj.cells #[Value.int IntKind.i64 s1, Value.int IntKind.i64 s2] 29)).alloc (Obj.cells #[Value.int IntKind.i64 p1, Value.int IntKind.i64 p2] 29) = V := ⟨_, rfl⟩
              have hpX12 : Pure v11 X12 := by rw [← hX12]; exact (((Diff.refl v11).alloc _).alloc _)
              have bS : Blk (v11.heap.size) 29 #[Value.int IntKind.i64 s1, Value.int IntKind.i64 s2] X12 := by rw [← hX12]; exact ((blk0 v11 29 _).alloc _)
              have bP : Blk (v11.heap.size + 1) 29 #[Value.int IntKind.i64 p1, Value.int IntKind.i64 p2] X12 := by rw [← hX12]; exact (blk1 v11 _ 29 _)
              rw [hX12]
              obtain ⟨g12_0, hg12_0⟩ : ∃ g, v11.heap.size = g := ⟨_, rfl⟩
              rw [hg12_0] at bS bP ⊢
              obtain ⟨g12_1, hg12_1⟩ : ∃ g, g12_0 + 1 = g := ⟨_, rfl⟩
              rw [hg12_1] at bP ⊢
              have HP_12 := Lib.hid (HP_11.out.trans hpX12)
              have HW_12 := Lib.hid (HW_11.out.to hpX12)
              have L_12 := Lib.hid (L_11.out.to hpX12)
              have R_12 := Lib.hid (R_11.out.to hpX12)
              have X_12 := Lib.hid (X_11.out.to hpX12)
              have Y_12 := Lib.hid (Y_11.out.to hpX12)
              have Z_12 := Lib.hid (Z_11.out.to hpX12)
              have M_12 := Lib.hid (M_11.out.to hpX12)
              have S_12 := Lib.hid bS
              have P_12 := Lib.hid bP
              clear hX12 hpX12 hg12_1 hg12_0 bS bP HP_11 HW_11 L_11 R_11 X_11 Y_11 Z_11 M_11
              refine (RLess_any X12 z1 z2 x1 x2 ⟨by have := SZ.out.a0; omega, by have := SZ.out.a1; have := SZ.out.b1; omega⟩ ⟨by have := SZ.out.b0; omega, by have := SZ.out.b1; omega⟩ ⟨by have := SX.out.a0; omega, by have := SX.out.a1; have := SX.out.b1; omega⟩ ⟨by have := SX.out.b0; omega, by have := SX.out.b1; omega⟩).mono ?_
              rintro e v13 ⟨rfl, hp⟩
              have HP_13 := Lib.hid (HP_12.out.trans hp)
              have HW_13 := Lib.hid (HW_12.out.to hp)
              have L_13 := Lib.hid (L_12.out.to hp)
              have R_13 := Lib.hid (R_12.out.to hp)
              have X_13 := Lib.hid (X_12.out.to hp)
              have Y_13 := Lib.hid (Y_12.out.to hp)
              have Z_13 := Lib.hid (Z_12.out.to hp)
              have M_13 := Lib.hid (M_12.out.to hp)
              have S_13 := Lib.hid (S_12.out.to hp)
              have P_13 := Lib.hid (P_12.out.to hp)
              clear hp  HP_12 HW_12 L_12 R_12 X_12 Y_12 Z_12 M_12 S_12 P_12
              rw [DZ.out]
              have kS0 := S_13.out.at 0
              have kS1 := S_13.out.at 1
              have kSl := S_13.out.lt
              go_wp2_with fail
              clear kS0 kS1 kSl
              refine (small_any v13 s1 s2 ⟨SS.out.b0, SS.out.b1⟩ ⟨SS.out.a0, SS.out.a1⟩ SS.out.rd).mono ?_
              rintro e v14 ⟨rfl, hp⟩
              have HP_14 := Lib.hid (HP_13.out.trans hp)
              have HW_14 := Lib.hid (HW_13.out.to hp)
              have L_14 := Lib.hid (L_13.out.to hp)
              have R_14 := Lib.hid (R_13.out.to hp)
              have X_14 := Lib.hid (X_13.out.to hp)
              have Y_14 := Lib.hid (Y_13.out.to hp)
              have Z_14 := Lib.hid (Z_13.out.to hp)
              have M_14 := Lib.hid (M_13.out.to hp)
              have S_14 := Lib.hid (S_13.out.to hp)
              have P_14 := Lib.hid (P_13.out.to hp)
              clear hp  HP_13 HW_13 L_13 R_13 X_13 Y_13 Z_13 M_13 S_13 P_13
              have kP0 := P_14.out.at 0
              have kP1 := P_14.out.at 1
              have kPl := P_14.out.lt
              go_wp2_with fail
              clear kP0 kP1 kPl
              refine (small_any v14 p1 p2 ⟨SP.out.b0, SP.out.b1⟩ ⟨SP.out.a0, SP.out.a1⟩ SP.out.rd).mono ?_
              rintro e v15 ⟨rfl, hp⟩
              have HP_15 := Lib.hid (HP_14.out.trans hp)
              have HW_15 := Lib.hid (HW_14.out.to hp)
              have L_15 := Lib.hid (L_14.out.to hp)
              have R_15 := Lib.hid (R_14.out.to hp)
              have X_15 := Lib.hid (X_14.out.to hp)
              have Y_15 := Lib.hid (Y_14.out.to hp)
              have Z_15 := Lib.hid (Z_14.out.to hp)
              have M_15 := Lib.hid (M_14.out.to hp)
              have S_15 := Lib.hid (S_14.out.to hp)
              have P_15 := Lib.hid (P_14.out.to hp)
              clear hp  HP_14 HW_14 L_14 R_14 X_14 Y_14 Z_14 M_14 S_14 P_14
              go_wp2_with fail
              refine WQ.region (C := Pure v15) hmx (by kernel_rfl) ((Diff.refl _).drew) ?_
              refine WQ.val (by rfl) _ (fun V hV => exec_load_pair (.tmp 20) rfl g12_0 s1 s2 rfl (S_15.out.to hV)) ?_
              iterate 1 (refine WQ.step (fun K hK => ?_); go_simp; first | refine hK _ ?_ | refine ⟨_, fun _ _ => rfl, hK _ ?_⟩; clear hK K)
              refine WQ.call (by rfl) 31 #[.int .i64 b, .int .i64 1] (.agg #[.int .i64 b, .int .i64 1]) (fun V => by unfold execOp; simp [go_sem]) (fun V hV => by have h := lby_any V b 1; exact h.mono fun e V2 h => ⟨h.1, hV.trans h.2⟩) ?_
              refine WQ.call (by rfl) 52 #[.agg #[.int .i64 s1, .int .i64 s2], .agg #[.int .i64 b, .int .i64 1]] (.bool true) (fun V => by unfold execOp; simp [go_sem]) (fun V hV => by have h := RLess_any V s1 s2 b 1 ⟨by have := SS.out.a0; omega, by have := SS.out.a1; have := SS.out.b1; omega⟩ ⟨by have := SS.out.b0; omega, by have := SS.out.b1; omega⟩ ⟨by have := HSB.out; omega, by have := HSB.out; omega⟩ ⟨by omega, by omega⟩; rw [HDL.out] at h; exact h.mono fun e V2 h => ⟨h.1, hV.trans h.2⟩) ?_
              iterate 1 (refine WQ.step (fun K hK => ?_); go_simp; first | refine hK _ ?_ | refine ⟨_, fun _ _ => rfl, hK _ ?_⟩; clear hK K)
              refine WQ.skipK (by rfl) (fun K hK => ?_); go_simp; refine hK _ ?_; clear hK K
              refine WQ.skipK (by rfl) (fun K hK => ?_); go_simp; refine hK _ ?_; clear hK K
              refine WQ.skipK (by rfl) (fun K hK => ?_); go_simp; refine hK _ ?_; clear hK K
              refine WQ.skipK (by rfl) (fun K hK => ?_); go_simp; refine hK _ ?_; clear hK K
              refine WQ.skipK (by rfl) (fun K hK => ?_); go_simp; refine hK _ ?_; clear hK K
              refine WQ.skipK (by rfl) (fun K hK => ?_); go_simp; refine hK _ ?_; clear hK K
              refine WQ.skipK (by rfl) (fun K hK => ?_); go_simp; refine hK _ ?_; clear hK K
              iterate 2 (refine WQ.step (fun K hK => ?_); go_simp; first | refine hK _ ?_ | refine ⟨_, fun _ _ => rfl, hK _ ?_⟩; clear hK K)
              refine WQ.call (by rfl) 17 #[] (.bool true) (fun V => by unfold execOp; simp [go_sem]) (fun V hV => (Works_any V (HW_15.out.to hV)).mono fun e V2 h => ⟨h.1, hV.trans h.2⟩) ?_
              iterate 2 (refine WQ.step (fun K hK => ?_); go_simp; first | refine hK _ ?_ | refine ⟨_, fun _ _ => rfl, hK _ ?_⟩; clear hK K)
              refine WQ.nil ?_
              rintro V hV
              have HPE := Lib.hid hV
              clear hV
              go_wp2
              exact bodyPost_ret (v := .bool true) (by simp [results, Tryd.results9, go_sem]) rfl ⟨rfl, HP_15.out.trans HPE.out⟩
        · cases i3
          · cases dl
            · have SX := Lib.hid (HLF.out.1 rfl)
              obtain ⟨-, sy, dy⟩ := HLF.out.2.1 rfl
              have SY := Lib.hid sy
              have DY := Lib.hid dy
              clear sy dy
              have DB := Lib.hid (HLB'.out rfl).2.2
              have SS := Lib.hid HQ.out.ss
              have SP := Lib.hid HQ.out.sp
              clear HLF HLB' HNA HNB HNC
              have kY0 := Y_11.out.at 0
              have kY1 := Y_11.out.at 1
              have kYl := Y_11.out.lt
              have kX0 := X_11.out.at 0
              have kX1 := X_11.out.at 1
              have kXl := X_11.out.lt
              go_wp2_with fail
              clear kY0 kY1 kYl
              clear kX0 kX1 kXl
              obtain ⟨X12, hX12⟩ : ∃ V : World, (v11.alloc (Obj.cells #[Value.int IntKind.i64 s1, Value.int IntKind.i64 s2] 29)).alloc (Obj.cells #[Value.int IntKind.i64 p1, Value.int IntKind.i64 p2] 29) = V := ⟨_, rfl⟩
              have hpX12 : Pure v11 X12 := by rw [← hX12]; exact (((Diff.refl v11).alloc _).alloc _)
              have bS : Blk (v11.heap.size) 29 #[Value.int IntKind.i64 s1, Value.int IntKind.i64 s2] X12 := by rw [← hX12]; exact ((blk0 v11 29 _).alloc _)
              have bP : Blk (v11.heap.size + 1) 29 #[Value.int IntKind.i64 p1, Value.int IntKind.i64 p2] X12 := by rw [← hX12]; exact (blk1 v11 _ 29 _)
              rw [hX12]
              obtain ⟨g12_0, hg12_0⟩ : ∃ g, v11.heap.size = g := ⟨_, rfl⟩
              rw [hg12_0] at bS bP ⊢
              obtain ⟨g12_1, hg12_1⟩ : ∃ g, g12_0 + 1 = g := ⟨_, rfl⟩
              rw [hg12_1] at bP ⊢
              have HP_12 := Lib.hid (HP_11.out.trans hpX12)
              have HW_12 := Lib.hid (HW_11.out.to hpX12)
              have L_12 := Lib.hid (L_11.out.to hpX12)
              have R_12 := Lib.hid (R_11.out.to hpX12)
              have X_12 := Lib.hid (X_11.out.to hpX12)
              have Y_12 := Lib.hid (Y_11.out.to hpX12)
              have Z_12 := Lib.hid (Z_11.out.to hpX12)
              have M_12 := Lib.hid (M_11.out.to hpX12)
              have S_12 := Lib.hid bS
              have P_12 := Lib.hid bP
              clear hX12 hpX12 hg12_1 hg12_0 bS bP HP_11 HW_11 L_11 R_11 X_11 Y_11 Z_11 M_11
              refine (RLess_any X12 y1 y2 x1 x2 ⟨by have := SY.out.a0; omega, by have := SY.out.a1; have := SY.out.b1; omega⟩ ⟨by have := SY.out.b0; omega, by have := SY.out.b1; omega⟩ ⟨by have := SX.out.a0; omega, by have := SX.out.a1; have := SX.out.b1; omega⟩ ⟨by have := SX.out.b0; omega, by have := SX.out.b1; omega⟩).mono ?_
              rintro e v13 ⟨rfl, hp⟩
              have HP_13 := Lib.hid (HP_12.out.trans hp)
              have HW_13 := Lib.hid (HW_12.out.to hp)
              have L_13 := Lib.hid (L_12.out.to hp)
              have R_13 := Lib.hid (R_12.out.to hp)
              have X_13 := Lib.hid (X_12.out.to hp)
              have Y_13 := Lib.hid (Y_12.out.to hp)
              have Z_13 := Lib.hid (Z_12.out.to hp)
              have M_13 := Lib.hid (M_12.out.to hp)
              have S_13 := Lib.hid (S_12.out.to hp)
              have P_13 := Lib.hid (P_12.out.to hp)
              clear hp  HP_12 HW_12 L_12 R_12 X_12 Y_12 Z_12 M_12 S_12 P_12
              rw [DY.out]
              have kS0 := S_13.out.at 0
              have kS1 := S_13.out.at 1
              have kSl := S_13.out.lt
              go_wp2_with fail
              clear kS0 kS1 kSl
              refine (small_any v13 s1 s2 ⟨SS.out.b0, SS.out.b1⟩ ⟨SS.out.a0, SS.out.a1⟩ SS.out.rd).mono ?_
              rintro e v14 ⟨rfl, hp⟩
              have HP_14 := Lib.hid (HP_13.out.trans hp)
              have HW_14 := Lib.hid (HW_13.out.to hp)
              have L_14 := Lib.hid (L_13.out.to hp)
              have R_14 := Lib.hid (R_13.out.to hp)
              have X_14 := Lib.hid (X_13.out.to hp)
              have Y_14 := Lib.hid (Y_13.out.to hp)
              have Z_14 := Lib.hid (Z_13.out.to hp)
              have M_14 := Lib.hid (M_13.out.to hp)
              have S_14 := Lib.hid (S_13.out.to hp)
              have P_14 := Lib.hid (P_13.out.to hp)
              clear hp  HP_13 HW_13 L_13 R_13 X_13 Y_13 Z_13 M_13 S_13 P_13
              have kP0 := P_14.out.at 0
              have kP1 := P_14.out.at 1
              have kPl := P_14.out.lt
              go_wp2_with fail
              clear kP0 kP1 kPl
              refine (small_any v14 p1 p2 ⟨SP.out.b0, SP.out.b1⟩ ⟨SP.out.a0, SP.out.a1⟩ SP.out.rd).mono ?_
              rintro e v15 ⟨rfl, hp⟩
              have HP_15 := Lib.hid (HP_14.out.trans hp)
              have HW_15 := Lib.hid (HW_14.out.to hp)
              have L_15 := Lib.hid (L_14.out.to hp)
              have R_15 := Lib.hid (R_14.out.to hp)
              have X_15 := Lib.hid (X_14.out.to hp)
              have Y_15 := Lib.hid (Y_14.out.to hp)
              have Z_15 := Lib.hid (Z_14.out.to hp)
              have M_15 := Lib.hid (M_14.out.to hp)
              have S_15 := Lib.hid (S_14.out.to hp)
              have P_15 := Lib.hid (P_14.out.to hp)
              clear hp  HP_14 HW_14 L_14 R_14 X_14 Y_14 Z_14 M_14 S_14 P_14
              go_wp2_with fail
              refine WQ.region (C := Pure v15) hmx (by kernel_rfl) ((Diff.refl _).drew) ?_
              refine WQ.val (by rfl) _ (fun V hV => exec_load_pair (.tmp 20) rfl g12_0 s1 s2 rfl (S_15.out.to hV)) ?_
              iterate 1 (refine WQ.step (fun K hK => ?_); go_simp; first | refine hK _ ?_ | refine ⟨_, fun _ _ => rfl, hK _ ?_⟩; clear hK K)
              refine WQ.call (by rfl) 31 #[.int .i64 b, .int .i64 1] (.agg #[.int .i64 b, .int .i64 1]) (fun V => by unfold execOp; simp [go_sem]) (fun V hV => by have h := lby_any V b 1; exact h.mono fun e V2 h => ⟨h.1, hV.trans h.2⟩) ?_
              refine WQ.call (by rfl) 52 #[.agg #[.int .i64 s1, .int .i64 s2], .agg #[.int .i64 b, .int .i64 1]] (.bool false) (fun V => by unfold execOp; simp [go_sem]) (fun V hV => by have h := RLess_any V s1 s2 b 1 ⟨by have := SS.out.a0; omega, by have := SS.out.a1; have := SS.out.b1; omega⟩ ⟨by have := SS.out.b0; omega, by have := SS.out.b1; omega⟩ ⟨by have := HSB.out; omega, by have := HSB.out; omega⟩ ⟨by omega, by omega⟩; rw [HDL.out] at h; exact h.mono fun e V2 h => ⟨h.1, hV.trans h.2⟩) ?_
              iterate 3 (refine WQ.step (fun K hK => ?_); go_simp; first | refine hK _ ?_ | refine ⟨_, fun _ _ => rfl, hK _ ?_⟩; clear hK K)
              refine WQ.val (by rfl) _ (fun V hV => exec_load_pair (.tmp 21) rfl g12_1 p1 p2 rfl (P_15.out.to hV)) ?_
              refine WQ.val (by rfl) _ (fun V hV => exec_load_pair (.tmp 11) rfl g5_0 x1 x2 rfl (X_15.out.to hV)) ?_
              refine WQ.call (by rfl) 52 #[.agg #[.int .i64 p1, .int .i64 p2], .agg #[.int .i64 x1, .int .i64 x2]] (.bool false) (fun V => by unfold execOp; simp [go_sem]) (fun V hV => by have h := RLess_any V p1 p2 x1 x2 ⟨by have := SP.out.a0; omega, by have := SP.out.a1; have := SP.out.b1; omega⟩ ⟨by have := SP.out.b0; omega, by have := SP.out.b1; omega⟩ ⟨by have := SX.out.a0; omega, by have := SX.out.a1; have := SX.out.b1; omega⟩ ⟨by have := SX.out.b0; omega, by have := SX.out.b1; omega⟩; rw [DB.out] at h; exact h.mono fun e V2 h => ⟨h.1, hV.trans h.2⟩) ?_
              iterate 4 (refine WQ.step (fun K hK => ?_); go_simp; first | refine hK _ ?_ | refine ⟨_, fun _ _ => rfl, hK _ ?_⟩; clear hK K)
              refine WQ.call (by rfl) 17 #[] (.bool true) (fun V => by unfold execOp; simp [go_sem]) (fun V hV => (Works_any V (HW_15.out.to hV)).mono fun e V2 h => ⟨h.1, hV.trans h.2⟩) ?_
              iterate 2 (refine WQ.step (fun K hK => ?_); go_simp; first | refine hK _ ?_ | refine ⟨_, fun _ _ => rfl, hK _ ?_⟩; clear hK K)
              refine WQ.nil ?_
              rintro V hV
              have HPE := Lib.hid hV
              clear hV
              go_wp2
              exact bodyPost_ret (v := .bool true) (by simp [results, Tryd.results9, go_sem]) rfl ⟨rfl, HP_15.out.trans HPE.out⟩
            · have SX := Lib.hid (HLF.out.1 rfl)
              obtain ⟨-, sy, dy⟩ := HLF.out.2.1 rfl
              have SY := Lib.hid sy
              have DY := Lib.hid dy
              clear sy dy
              have SS := Lib.hid HQ.out.ss
              have SP := Lib.hid HQ.out.sp
              clear HLF HLB' HNA HNB HNC
              have kY0 := Y_11.out.at 0
              have kY1 := Y_11.out.at 1
              have kYl := Y_11.out.lt
              have kX0 := X_11.out.at 0
              have kX1 := X_11.out.at 1
              have kXl := X_11.out.lt
              go_wp2_with fail
              clear kY0 kY1 kYl
              clear kX0 kX1 kXl
              obtain ⟨X12, hX12⟩ : ∃ V : World, (v11.alloc (Obj.cells #[Value.int IntKind.i64 s1, Value.int IntKind.i64 s2] 29)).alloc (Obj.cells #[Value.int IntKind.i64 p1, Value.int IntKind.i64 p2] 29) = V := ⟨_, rfl⟩
              have hpX12 : Pure v11 X12 := by rw [← hX12]; exact (((Diff.refl v11).alloc _).alloc _)
              have bS : Blk (v11.heap.size) 29 #[Value.int IntKind.i64 s1, Value.int IntKind.i64 s2] X12 := by rw [← hX12]; exact ((blk0 v11 29 _).alloc _)
              have bP : Blk (v11.heap.size + 1) 29 #[Value.int IntKind.i64 p1, Value.int IntKind.i64 p2] X12 := by rw [← hX12]; exact (blk1 v11 _ 29 _)
              rw [hX12]
              obtain ⟨g12_0, hg12_0⟩ : ∃ g, v11.heap.size = g := ⟨_, rfl⟩
              rw [hg12_0] at bS bP ⊢
              obtain ⟨g12_1, hg12_1⟩ : ∃ g, g12_0 + 1 = g := ⟨_, rfl⟩
              rw [hg12_1] at bP ⊢
              have HP_12 := Lib.hid (HP_11.out.trans hpX12)
              have HW_12 := Lib.hid (HW_11.out.to hpX12)
              have L_12 := Lib.hid (L_11.out.to hpX12)
              have R_12 := Lib.hid (R_11.out.to hpX12)
              have X_12 := Lib.hid (X_11.out.to hpX12)
              have Y_12 := Lib.hid (Y_11.out.to hpX12)
              have Z_12 := Lib.hid (Z_11.out.to hpX12)
              have M_12 := Lib.hid (M_11.out.to hpX12)
              have S_12 := Lib.hid bS
              have P_12 := Lib.hid bP
              clear hX12 hpX12 hg12_1 hg12_0 bS bP HP_11 HW_11 L_11 R_11 X_11 Y_11 Z_11 M_11
              refine (RLess_any X12 y1 y2 x1 x2 ⟨by have := SY.out.a0; omega, by have := SY.out.a1; have := SY.out.b1; omega⟩ ⟨by have := SY.out.b0; omega, by have := SY.out.b1; omega⟩ ⟨by have := SX.out.a0; omega, by have := SX.out.a1; have := SX.out.b1; omega⟩ ⟨by have := SX.out.b0; omega, by have := SX.out.b1; omega⟩).mono ?_
              rintro e v13 ⟨rfl, hp⟩
              have HP_13 := Lib.hid (HP_12.out.trans hp)
              have HW_13 := Lib.hid (HW_12.out.to hp)
              have L_13 := Lib.hid (L_12.out.to hp)
              have R_13 := Lib.hid (R_12.out.to hp)
              have X_13 := Lib.hid (X_12.out.to hp)
              have Y_13 := Lib.hid (Y_12.out.to hp)
              have Z_13 := Lib.hid (Z_12.out.to hp)
              have M_13 := Lib.hid (M_12.out.to hp)
              have S_13 := Lib.hid (S_12.out.to hp)
              have P_13 := Lib.hid (P_12.out.to hp)
              clear hp  HP_12 HW_12 L_12 R_12 X_12 Y_12 Z_12 M_12 S_12 P_12
              rw [DY.out]
              have kS0 := S_13.out.at 0
              have kS1 := S_13.out.at 1
              have kSl := S_13.out.lt
              go_wp2_with fail
              clear kS0 kS1 kSl
              refine (small_any v13 s1 s2 ⟨SS.out.b0, SS.out.b1⟩ ⟨SS.out.a0, SS.out.a1⟩ SS.out.rd).mono ?_
              rintro e v14 ⟨rfl, hp⟩
              have HP_14 := Lib.hid (HP_13.out.trans hp)
              have HW_14 := Lib.hid (HW_13.out.to hp)
              have L_14 := Lib.hid (L_13.out.to hp)
              have R_14 := Lib.hid (R_13.out.to hp)
              have X_14 := Lib.hid (X_13.out.to hp)
              have Y_14 := Lib.hid (Y_13.out.to hp)
              have Z_14 := Lib.hid (Z_13.out.to hp)
              have M_14 := Lib.hid (M_13.out.to hp)
              have S_14 := Lib.hid (S_13.out.to hp)
              have P_14 := Lib.hid (P_13.out.to hp)
              clear hp  HP_13 HW_13 L_13 R_13 X_13 Y_13 Z_13 M_13 S_13 P_13
              have kP0 := P_14.out.at 0
              have kP1 := P_14.out.at 1
              have kPl := P_14.out.lt
              go_wp2_with fail
              clear kP0 kP1 kPl
              refine (small_any v14 p1 p2 ⟨SP.out.b0, SP.out.b1⟩ ⟨SP.out.a0, SP.out.a1⟩ SP.out.rd).mono ?_
              rintro e v15 ⟨rfl, hp⟩
              have HP_15 := Lib.hid (HP_14.out.trans hp)
              have HW_15 := Lib.hid (HW_14.out.to hp)
              have L_15 := Lib.hid (L_14.out.to hp)
              have R_15 := Lib.hid (R_14.out.to hp)
              have X_15 := Lib.hid (X_14.out.to hp)
              have Y_15 := Lib.hid (Y_14.out.to hp)
              have Z_15 := Lib.hid (Z_14.out.to hp)
              have M_15 := Lib.hid (M_14.out.to hp)
              have S_15 := Lib.hid (S_14.out.to hp)
              have P_15 := Lib.hid (P_14.out.to hp)
              clear hp  HP_14 HW_14 L_14 R_14 X_14 Y_14 Z_14 M_14 S_14 P_14
              go_wp2_with fail
              refine WQ.region (C := Pure v15) hmx (by kernel_rfl) ((Diff.refl _).drew) ?_
              refine WQ.val (by rfl) _ (fun V hV => exec_load_pair (.tmp 20) rfl g12_0 s1 s2 rfl (S_15.out.to hV)) ?_
              iterate 1 (refine WQ.step (fun K hK => ?_); go_simp; first | refine hK _ ?_ | refine ⟨_, fun _ _ => rfl, hK _ ?_⟩; clear hK K)
              refine WQ.call (by rfl) 31 #[.int .i64 b, .int .i64 1] (.agg #[.int .i64 b, .int .i64 1]) (fun V => by unfold execOp; simp [go_sem]) (fun V hV => by have h := lby_any V b 1; exact h.mono fun e V2 h => ⟨h.1, hV.trans h.2⟩) ?_
              refine WQ.call (by rfl) 52 #[.agg #[.int .i64 s1, .int .i64 s2], .agg #[.int .i64 b, .int .i64 1]] (.bool true) (fun V => by unfold execOp; simp [go_sem]) (fun V hV => by have h := RLess_any V s1 s2 b 1 ⟨by have := SS.out.a0; omega, by have := SS.out.a1; have := SS.out.b1; omega⟩ ⟨by have := SS.out.b0; omega, by have := SS.out.b1; omega⟩ ⟨by have := HSB.out; omega, by have := HSB.out; omega⟩ ⟨by omega, by omega⟩; rw [HDL.out] at h; exact h.mono fun e V2 h => ⟨h.1, hV.trans h.2⟩) ?_
              iterate 1 (refine WQ.step (fun K hK => ?_); go_simp; first | refine hK _ ?_ | refine ⟨_, fun _ _ => rfl, hK _ ?_⟩; clear hK K)
              refine WQ.skipK (by rfl) (fun K hK => ?_); go_simp; refine hK _ ?_; clear hK K
              refine WQ.skipK (by rfl) (fun K hK => ?_); go_simp; refine hK _ ?_; clear hK K
              refine WQ.skipK (by rfl) (fun K hK => ?_); go_simp; refine hK _ ?_; clear hK K
              refine WQ.skipK (by rfl) (fun K hK => ?_); go_simp; refine hK _ ?_; clear hK K
              refine WQ.skipK (by rfl) (fun K hK => ?_); go_simp; refine hK _ ?_; clear hK K
              refine WQ.skipK (by rfl) (fun K hK => ?_); go_simp; refine hK _ ?_; clear hK K
              refine WQ.skipK (by rfl) (fun K hK => ?_); go_simp; refine hK _ ?_; clear hK K
              iterate 2 (refine WQ.step (fun K hK => ?_); go_simp; first | refine hK _ ?_ | refine ⟨_, fun _ _ => rfl, hK _ ?_⟩; clear hK K)
              refine WQ.call (by rfl) 17 #[] (.bool true) (fun V => by unfold execOp; simp [go_sem]) (fun V hV => (Works_any V (HW_15.out.to hV)).mono fun e V2 h => ⟨h.1, hV.trans h.2⟩) ?_
              iterate 2 (refine WQ.step (fun K hK => ?_); go_simp; first | refine hK _ ?_ | refine ⟨_, fun _ _ => rfl, hK _ ?_⟩; clear hK K)
              refine WQ.nil ?_
              rintro V hV
              have HPE := Lib.hid hV
              clear hV
              go_wp2
              exact bodyPost_ret (v := .bool true) (by simp [results, Tryd.results9, go_sem]) rfl ⟨rfl, HP_15.out.trans HPE.out⟩
          · cases dl
            · have SX := Lib.hid (HLF.out.1 rfl)
              obtain ⟨-, sy, dy⟩ := HLF.out.2.1 rfl
              have SY := Lib.hid sy
              have DY := Lib.hid dy
              clear sy dy
              obtain ⟨-, sz, dz⟩ := HLF.out.2.2 rfl
              have SZ := Lib.hid sz
              have DZ := Lib.hid dz
              clear sz dz
              have DB := Lib.hid (HLB'.out rfl).2.2
              have SS := Lib.hid HQ.out.ss
              have SP := Lib.hid HQ.out.sp
              clear HLF HLB' HNA HNB HNC
              have kZ0 := Z_11.out.at 0
              have kZ1 := Z_11.out.at 1
              have kZl := Z_11.out.lt
              have kX0 := X_11.out.at 0
              have kX1 := X_11.out.at 1
              have kXl := X_11.out.lt
              go_wp2_with fail
              clear kZ0 kZ1 kZl
              clear kX0 kX1 kXl
              obtain ⟨X12, hX12⟩ : ∃ V : World, (v11.alloc (Obj.cells #[Value.int IntKind.i64 s1, Value.int IntKind.i64 s2] 29)).alloc (Obj.cells #[Value.int IntKind.i64 p1, Value.int IntKind.i64 p2] 29) = V := ⟨_, rfl⟩
              have hpX12 : Pure v11 X12 := by rw [← hX12]; exact (((Diff.refl v11).alloc _).alloc _)
              have bS : Blk (v11.heap.size) 29 #[Value.int IntKind.i64 s1, Value.int IntKind.i64 s2] X12 := by rw [← hX12]; exact ((blk0 v11 29 _).alloc _)
              have bP : Blk (v11.heap.size + 1) 29 #[Value.int IntKind.i64 p1, Value.int IntKind.i64 p2] X12 := by rw [← hX12]; exact (blk1 v11 _ 29 _)
              rw [hX12]
              obtain ⟨g12_0, hg12_0⟩ : ∃ g, v11.heap.size = g := ⟨_, rfl⟩
              rw [hg12_0] at bS bP ⊢
              obtain ⟨g12_1, hg12_1⟩ : ∃ g, g12_0 + 1 = g := ⟨_, rfl⟩
              rw [hg12_1] at bP ⊢
              have HP_12 := Lib.hid (HP_11.out.trans hpX12)
              have HW_12 := Lib.hid (HW_11.out.to hpX12)
              have L_12 := Lib.hid (L_11.out.to hpX12)
              have R_12 := Lib.hid (R_11.out.to hpX12)
              have X_12 := Lib.hid (X_11.out.to hpX12)
              have Y_12 := Lib.hid (Y_11.out.to hpX12)
              have Z_12 := Lib.hid (Z_11.out.to hpX12)
              have M_12 := Lib.hid (M_11.out.to hpX12)
              have S_12 := Lib.hid bS
              have P_12 := Lib.hid bP
              clear hX12 hpX12 hg12_1 hg12_0 bS bP HP_11 HW_11 L_11 R_11 X_11 Y_11 Z_11 M_11
              refine (RLess_any X12 z1 z2 x1 x2 ⟨by have := SZ.out.a0; omega, by have := SZ.out.a1; have := SZ.out.b1; omega⟩ ⟨by have := SZ.out.b0; omega, by have := SZ.out.b1; omega⟩ ⟨by have := SX.out.a0; omega, by have := SX.out.a1; have := SX.out.b1; omega⟩ ⟨by have := SX.out.b0; omega, by have := SX.out.b1; omega⟩).mono ?_
              rintro e v13 ⟨rfl, hp⟩
              have HP_13 := Lib.hid (HP_12.out.trans hp)
              have HW_13 := Lib.hid (HW_12.out.to hp)
              have L_13 := Lib.hid (L_12.out.to hp)
              have R_13 := Lib.hid (R_12.out.to hp)
              have X_13 := Lib.hid (X_12.out.to hp)
              have Y_13 := Lib.hid (Y_12.out.to hp)
              have Z_13 := Lib.hid (Z_12.out.to hp)
              have M_13 := Lib.hid (M_12.out.to hp)
              have S_13 := Lib.hid (S_12.out.to hp)
              have P_13 := Lib.hid (P_12.out.to hp)
              clear hp  HP_12 HW_12 L_12 R_12 X_12 Y_12 Z_12 M_12 S_12 P_12
              rw [DZ.out]
              have kY0 := Y_13.out.at 0
              have kY1 := Y_13.out.at 1
              have kYl := Y_13.out.lt
              have kX0 := X_13.out.at 0
              have kX1 := X_13.out.at 1
              have kXl := X_13.out.lt
              go_wp2_with fail
              clear kY0 kY1 kYl
              clear kX0 kX1 kXl
              refine (RLess_any v13 y1 y2 x1 x2 ⟨by have := SY.out.a0; omega, by have := SY.out.a1; have := SY.out.b1; omega⟩ ⟨by have := SY.out.b0; omega, by have := SY.out.b1; omega⟩ ⟨by have := SX.out.a0; omega, by have := SX.out.a1; have := SX.out.b1; omega⟩ ⟨by have := SX.out.b0; omega, by have := SX.out.b1; omega⟩).mono ?_
              rintro e v14 ⟨rfl, hp⟩
              have HP_14 := Lib.hid (HP_13.out.trans hp)
              have HW_14 := Lib.hid (HW_13.out.to hp)
              have L_14 := Lib.hid (L_13.out.to hp)
              have R_14 := Lib.hid (R_13.out.to hp)
              have X_14 := Lib.hid (X_13.out.to hp)
              have Y_14 := Lib.hid (Y_13.out.to hp)
              have Z_14 := Lib.hid (Z_13.out.to hp)
              have M_14 := Lib.hid (M_13.out.to hp)
              have S_14 := Lib.hid (S_13.out.to hp)
              have P_14 := Lib.hid (P_13.out.to hp)
              clear hp  HP_13 HW_13 L_13 R_13 X_13 Y_13 Z_13 M_13 S_13 P_13
              rw [DY.out]
              have kS0 := S_14.out.at 0
              have kS1 := S_14.out.at 1
              have kSl := S_14.out.lt
              go_wp2_with fail
              clear kS0 kS1 kSl
              refine (small_any v14 s1 s2 ⟨SS.out.b0, SS.out.b1⟩ ⟨SS.out.a0, SS.out.a1⟩ SS.out.rd).mono ?_
              rintro e v15 ⟨rfl, hp⟩
              have HP_15 := Lib.hid (HP_14.out.trans hp)
              have HW_15 := Lib.hid (HW_14.out.to hp)
              have L_15 := Lib.hid (L_14.out.to hp)
              have R_15 := Lib.hid (R_14.out.to hp)
              have X_15 := Lib.hid (X_14.out.to hp)
              have Y_15 := Lib.hid (Y_14.out.to hp)
              have Z_15 := Lib.hid (Z_14.out.to hp)
              have M_15 := Lib.hid (M_14.out.to hp)
              have S_15 := Lib.hid (S_14.out.to hp)
              have P_15 := Lib.hid (P_14.out.to hp)
              clear hp  HP_14 HW_14 L_14 R_14 X_14 Y_14 Z_14 M_14 S_14 P_14
              have kP0 := P_15.out.at 0
              have kP1 := P_15.out.at 1
              have kPl := P_15.out.lt
              go_wp2_with fail
              clear kP0 kP1 kPl
              refine (small_any v15 p1 p2 ⟨SP.out.b0, SP.out.b1⟩ ⟨SP.out.a0, SP.out.a1⟩ SP.out.rd).mono ?_
              rintro e v16 ⟨rfl, hp⟩
              have HP_16 := Lib.hid (HP_15.out.trans hp)
              have HW_16 := Lib.hid (HW_15.out.to hp)
              have L_16 := Lib.hid (L_15.out.to hp)
              have R_16 := Lib.hid (R_15.out.to hp)
              have X_16 := Lib.hid (X_15.out.to hp)
              have Y_16 := Lib.hid (Y_15.out.to hp)
              have Z_16 := Lib.hid (Z_15.out.to hp)
              have M_16 := Lib.hid (M_15.out.to hp)
              have S_16 := Lib.hid (S_15.out.to hp)
              have P_16 := Lib.hid (P_15.out.to hp)
              clear hp  HP_15 HW_15 L_15 R_15 X_15 Y_15 Z_15 M_15 S_15 P_15
              go_wp2_with fail
              refine WQ.region (C := Pure v16) hmx (by kernel_rfl) ((Diff.refl _).drew) ?_
              refine WQ.val (by rfl) _ (fun V hV => exec_load_pair (.tmp 20) rfl g12_0 s1 s2 rfl (S_16.out.to hV)) ?_
              iterate 1 (refine WQ.step (fun K hK => ?_); go_simp; first | refine hK _ ?_ | refine ⟨_, fun _ _ => rfl, hK _ ?_⟩; clear hK K)
              refine WQ.call (by rfl) 31 #[.int .i64 b, .int .i64 1] (.agg #[.int .i64 b, .int .i64 1]) (fun V => by unfold execOp; simp [go_sem]) (fun V hV => by have h := lby_any V b 1; exact h.mono fun e V2 h => ⟨h.1, hV.trans h.2⟩) ?_
              refine WQ.call (by rfl) 52 #[.agg #[.int .i64 s1, .int .i64 s2], .agg #[.int .i64 b, .int .i64 1]] (.bool false) (fun V => by unfold execOp; simp [go_sem]) (fun V hV => by have h := RLess_any V s1 s2 b 1 ⟨by have := SS.out.a0; omega, by have := SS.out.a1; have := SS.out.b1; omega⟩ ⟨by have := SS.out.b0; omega, by have := SS.out.b1; omega⟩ ⟨by have := HSB.out; omega, by have := HSB.out; omega⟩ ⟨by omega, by omega⟩; rw [HDL.out] at h; exact h.mono fun e V2 h => ⟨h.1, hV.trans h.2⟩) ?_
              iterate 3 (refine WQ.step (fun K hK => ?_); go_simp; first | refine hK _ ?_ | refine ⟨_, fun _ _ => rfl, hK _ ?_⟩; clear hK K)
              refine WQ.val (by rfl) _ (fun V hV => exec_load_pair (.tmp 21) rfl g12_1 p1 p2 rfl (P_16.out.to hV)) ?_
              refine WQ.val (by rfl) _ (fun V hV => exec_load_pair (.tmp 11) rfl g5_0 x1 x2 rfl (X_16.out.to hV)) ?_
              refine WQ.call (by rfl) 52 #[.agg #[.int .i64 p1, .int .i64 p2], .agg #[.int .i64 x1, .int .i64 x2]] (.bool false) (fun V => by unfold execOp; simp [go_sem]) (fun V hV => by have h := RLess_any V p1 p2 x1 x2 ⟨by have := SP.out.a0; omega, by have := SP.out.a1; have := SP.out.b1; omega⟩ ⟨by have := SP.out.b0; omega, by have := SP.out.b1; omega⟩ ⟨by have := SX.out.a0; omega, by have := SX.out.a1; have := SX.out.b1; omega⟩ ⟨by have := SX.out.b0; omega, by have := SX.out.b1; omega⟩; rw [DB.out] at h; exact h.mono fun e V2 h => ⟨h.1, hV.trans h.2⟩) ?_
              iterate 4 (refine WQ.step (fun K hK => ?_); go_simp; first | refine hK _ ?_ | refine ⟨_, fun _ _ => rfl, hK _ ?_⟩; clear hK K)
              refine WQ.call (by rfl) 17 #[] (.bool true) (fun V => by unfold execOp; simp [go_sem]) (fun V hV => (Works_any V (HW_16.out.to hV)).mono fun e V2 h => ⟨h.1, hV.trans h.2⟩) ?_
              iterate 2 (refine WQ.step (fun K hK => ?_); go_simp; first | refine hK _ ?_ | refine ⟨_, fun _ _ => rfl, hK _ ?_⟩; clear hK K)
              refine WQ.nil ?_
              rintro V hV
              have HPE := Lib.hid hV
              clear hV
              go_wp2
              exact bodyPost_ret (v := .bool true) (by simp [results, Tryd.results9, go_sem]) rfl ⟨rfl, HP_16.out.trans HPE.out⟩
            · have SX := Lib.hid (HLF.out.1 rfl)
              obtain ⟨-, sy, dy⟩ := HLF.out.2.1 rfl
              have SY := Lib.hid sy
              have DY := Lib.hid dy
              clear sy dy
              obtain ⟨-, sz, dz⟩ := HLF.out.2.2 rfl
              have SZ := Lib.hid sz
              have DZ := Lib.hid dz
              clear sz dz
              have SS := Lib.hid HQ.out.ss
              have SP := Lib.hid HQ.out.sp
              clear HLF HLB' HNA HNB HNC
              have kZ0 := Z_11.out.at 0
              have kZ1 := Z_11.out.at 1
              have kZl := Z_11.out.lt
              have kX0 := X_11.out.at 0
              have kX1 := X_11.out.at 1
              have kXl := X_11.out.lt
              go_wp2_with fail
              clear kZ0 kZ1 kZl
              clear kX0 kX1 kXl
              obtain ⟨X12, hX12⟩ : ∃ V : World, (v11.alloc (Obj.cells #[Value.int IntKind.i64 s1, Value.int IntKind.i64 s2] 29)).alloc (Obj.cells #[Value.int IntKind.i64 p1, Value.int IntKind.i64 p2] 29) = V := ⟨_, rfl⟩
              have hpX12 : Pure v11 X12 := by rw [← hX12]; exact (((Diff.refl v11).alloc _).alloc _)
              have bS : Blk (v11.heap.size) 29 #[Value.int IntKind.i64 s1, Value.int IntKind.i64 s2] X12 := by rw [← hX12]; exact ((blk0 v11 29 _).alloc _)
              have bP : Blk (v11.heap.size + 1) 29 #[Value.int IntKind.i64 p1, Value.int IntKind.i64 p2] X12 := by rw [← hX12]; exact (blk1 v11 _ 29 _)
              rw [hX12]
              obtain ⟨g12_0, hg12_0⟩ : ∃ g, v11.heap.size = g := ⟨_, rfl⟩
              rw [hg12_0] at bS bP ⊢
              obtain ⟨g12_1, hg12_1⟩ : ∃ g, g12_0 + 1 = g := ⟨_, rfl⟩
              rw [hg12_1] at bP ⊢
              have HP_12 := Lib.hid (HP_11.out.trans hpX12)
              have HW_12 := Lib.hid (HW_11.out.to hpX12)
              have L_12 := Lib.hid (L_11.out.to hpX12)
              have R_12 := Lib.hid (R_11.out.to hpX12)
              have X_12 := Lib.hid (X_11.out.to hpX12)
              have Y_12 := Lib.hid (Y_11.out.to hpX12)
              have Z_12 := Lib.hid (Z_11.out.to hpX12)
              have M_12 := Lib.hid (M_11.out.to hpX12)
              have S_12 := Lib.hid bS
              have P_12 := Lib.hid bP
              clear hX12 hpX12 hg12_1 hg12_0 bS bP HP_11 HW_11 L_11 R_11 X_11 Y_11 Z_11 M_11
              refine (RLess_any X12 z1 z2 x1 x2 ⟨by have := SZ.out.a0; omega, by have := SZ.out.a1; have := SZ.out.b1; omega⟩ ⟨by have := SZ.out.b0; omega, by have := SZ.out.b1; omega⟩ ⟨by have := SX.out.a0; omega, by have := SX.out.a1; have := SX.out.b1; omega⟩ ⟨by have := SX.out.b0; omega, by have := SX.out.b1; omega⟩).mono ?_
              rintro e v13 ⟨rfl, hp⟩
              have HP_13 := Lib.hid (HP_12.out.trans hp)
              have HW_13 := Lib.hid (HW_12.out.to hp)
              have L_13 := Lib.hid (L_12.out.to hp)
              have R_13 := Lib.hid (R_12.out.to hp)
              have X_13 := Lib.hid (X_12.out.to hp)
              have Y_13 := Lib.hid (Y_12.out.to hp)
              have Z_13 := Lib.hid (Z_12.out.to hp)
              have M_13 := Lib.hid (M_12.out.to hp)
              have S_13 := Lib.hid (S_12.out.to hp)
              have P_13 := Lib.hid (P_12.out.to hp)
              clear hp  HP_12 HW_12 L_12 R_12 X_12 Y_12 Z_12 M_12 S_12 P_12
              rw [DZ.out]
              have kY0 := Y_13.out.at 0
              have kY1 := Y_13.out.at 1
              have kYl := Y_13.out.lt
              have kX0 := X_13.out.at 0
              have kX1 := X_13.out.at 1
              have kXl := X_13.out.lt
              go_wp2_with fail
              clear kY0 kY1 kYl
              clear kX0 kX1 kXl
              refine (RLess_any v13 y1 y2 x1 x2 ⟨by have := SY.out.a0; omega, by have := SY.out.a1; have := SY.out.b1; omega⟩ ⟨by have := SY.out.b0; omega, by have := SY.out.b1; omega⟩ ⟨by have := SX.out.a0; omega, by have := SX.out.a1; have := SX.out.b1; omega⟩ ⟨by have := SX.out.b0; omega, by have := SX.out.b1; omega⟩).mono ?_
              rintro e v14 ⟨rfl, hp⟩
              have HP_14 := Lib.hid (HP_13.out.trans hp)
              have HW_14 := Lib.hid (HW_13.out.to hp)
              have L_14 := Lib.hid (L_13.out.to hp)
              have R_14 := Lib.hid (R_13.out.to hp)
              have X_14 := Lib.hid (X_13.out.to hp)
              have Y_14 := Lib.hid (Y_13.out.to hp)
              have Z_14 := Lib.hid (Z_13.out.to hp)
              have M_14 := Lib.hid (M_13.out.to hp)
              have S_14 := Lib.hid (S_13.out.to hp)
              have P_14 := Lib.hid (P_13.out.to hp)
              clear hp  HP_13 HW_13 L_13 R_13 X_13 Y_13 Z_13 M_13 S_13 P_13
              rw [DY.out]
              have kS0 := S_14.out.at 0
              have kS1 := S_14.out.at 1
              have kSl := S_14.out.lt
              go_wp2_with fail
              clear kS0 kS1 kSl
              refine (small_any v14 s1 s2 ⟨SS.out.b0, SS.out.b1⟩ ⟨SS.out.a0, SS.out.a1⟩ SS.out.rd).mono ?_
              rintro e v15 ⟨rfl, hp⟩
              have HP_15 := Lib.hid (HP_14.out.trans hp)
              have HW_15 := Lib.hid (HW_14.out.to hp)
              have L_15 := Lib.hid (L_14.out.to hp)
              have R_15 := Lib.hid (R_14.out.to hp)
              have X_15 := Lib.hid (X_14.out.to hp)
              have Y_15 := Lib.hid (Y_14.out.to hp)
              have Z_15 := Lib.hid (Z_14.out.to hp)
              have M_15 := Lib.hid (M_14.out.to hp)
              have S_15 := Lib.hid (S_14.out.to hp)
              have P_15 := Lib.hid (P_14.out.to hp)
              clear hp  HP_14 HW_14 L_14 R_14 X_14 Y_14 Z_14 M_14 S_14 P_14
              have kP0 := P_15.out.at 0
              have kP1 := P_15.out.at 1
              have kPl := P_15.out.lt
              go_wp2_with fail
              clear kP0 kP1 kPl
              refine (small_any v15 p1 p2 ⟨SP.out.b0, SP.out.b1⟩ ⟨SP.out.a0, SP.out.a1⟩ SP.out.rd).mono ?_
              rintro e v16 ⟨rfl, hp⟩
              have HP_16 := Lib.hid (HP_15.out.trans hp)
              have HW_16 := Lib.hid (HW_15.out.to hp)
              have L_16 := Lib.hid (L_15.out.to hp)
              have R_16 := Lib.hid (R_15.out.to hp)
              have X_16 := Lib.hid (X_15.out.to hp)
              have Y_16 := Lib.hid (Y_15.out.to hp)
              have Z_16 := Lib.hid (Z_15.out.to hp)
              have M_16 := Lib.hid (M_15.out.to hp)
              have S_16 := Lib.hid (S_15.out.to hp)
              have P_16 := Lib.hid (P_15.out.to hp)
              clear hp  HP_15 HW_15 L_15 R_15 X_15 Y_15 Z_15 M_15 S_15 P_15
              go_wp2_with fail
              refine WQ.region (C := Pure v16) hmx (by kernel_rfl) ((Diff.refl _).drew) ?_
              refine WQ.val (by rfl) _ (fun V hV => exec_load_pair (.tmp 20) rfl g12_0 s1 s2 rfl (S_16.out.to hV)) ?_
              iterate 1 (refine WQ.step (fun K hK => ?_); go_simp; first | refine hK _ ?_ | refine ⟨_, fun _ _ => rfl, hK _ ?_⟩; clear hK K)
              refine WQ.call (by rfl) 31 #[.int .i64 b, .int .i64 1] (.agg #[.int .i64 b, .int .i64 1]) (fun V => by unfold execOp; simp [go_sem]) (fun V hV => by have h := lby_any V b 1; exact h.mono fun e V2 h => ⟨h.1, hV.trans h.2⟩) ?_
              refine WQ.call (by rfl) 52 #[.agg #[.int .i64 s1, .int .i64 s2], .agg #[.int .i64 b, .int .i64 1]] (.bool true) (fun V => by unfold execOp; simp [go_sem]) (fun V hV => by have h := RLess_any V s1 s2 b 1 ⟨by have := SS.out.a0; omega, by have := SS.out.a1; have := SS.out.b1; omega⟩ ⟨by have := SS.out.b0; omega, by have := SS.out.b1; omega⟩ ⟨by have := HSB.out; omega, by have := HSB.out; omega⟩ ⟨by omega, by omega⟩; rw [HDL.out] at h; exact h.mono fun e V2 h => ⟨h.1, hV.trans h.2⟩) ?_
              iterate 1 (refine WQ.step (fun K hK => ?_); go_simp; first | refine hK _ ?_ | refine ⟨_, fun _ _ => rfl, hK _ ?_⟩; clear hK K)
              refine WQ.skipK (by rfl) (fun K hK => ?_); go_simp; refine hK _ ?_; clear hK K
              refine WQ.skipK (by rfl) (fun K hK => ?_); go_simp; refine hK _ ?_; clear hK K
              refine WQ.skipK (by rfl) (fun K hK => ?_); go_simp; refine hK _ ?_; clear hK K
              refine WQ.skipK (by rfl) (fun K hK => ?_); go_simp; refine hK _ ?_; clear hK K
              refine WQ.skipK (by rfl) (fun K hK => ?_); go_simp; refine hK _ ?_; clear hK K
              refine WQ.skipK (by rfl) (fun K hK => ?_); go_simp; refine hK _ ?_; clear hK K
              refine WQ.skipK (by rfl) (fun K hK => ?_); go_simp; refine hK _ ?_; clear hK K
              iterate 2 (refine WQ.step (fun K hK => ?_); go_simp; first | refine hK _ ?_ | refine ⟨_, fun _ _ => rfl, hK _ ?_⟩; clear hK K)
              refine WQ.call (by rfl) 17 #[] (.bool true) (fun V => by unfold execOp; simp [go_sem]) (fun V hV => (Works_any V (HW_16.out.to hV)).mono fun e V2 h => ⟨h.1, hV.trans h.2⟩) ?_
              iterate 2 (refine WQ.step (fun K hK => ?_); go_simp; first | refine hK _ ?_ | refine ⟨_, fun _ _ => rfl, hK _ ?_⟩; clear hK K)
              refine WQ.nil ?_
              rintro V hV
              have HPE := Lib.hid hV
              clear hV
              go_wp2
              exact bodyPost_ret (v := .bool true) (by simp [results, Tryd.results9, go_sem]) rfl ⟨rfl, HP_16.out.trans HPE.out⟩
    · have hc : ¬ b < a := by omega
      have hmax : (if a < b then b else a) = b := by split <;> omega
      have HTU : Hid (a ≤ b) := hab
      clear hab
      go_wp2_with fail
      refine (sharpness_any v0 n2 H2.out).mono ?_
      rintro e v1 ⟨rfl, hp⟩
      have HP_1 := Lib.hid (HP_0.out.trans hp)
      have HW_1 := Lib.hid (HW_0.out.to hp)
      have L_1 := Lib.hid (L_0.out.to hp)
      have R_1 := Lib.hid (R_0.out.to hp)
      clear hp  HP_0 HW_0 L_0 R_0
      rw [HAB.out.2]
      go_wp2_with fail
      refine (sharpness_any v1 n1 H1.out).mono ?_
      rintro e v2 ⟨rfl, hp⟩
      have HP_2 := Lib.hid (HP_1.out.trans hp)
      have HW_2 := Lib.hid (HW_1.out.to hp)
      have L_2 := Lib.hid (L_1.out.to hp)
      have R_2 := Lib.hid (R_1.out.to hp)
      clear hp  HP_1 HW_1 L_1 R_1
      rw [HAB.out.1]
      go_wp2_with fail
      refine (sharpness_any v2 n2 H2.out).mono ?_
      rintro e v3 ⟨rfl, hp⟩
      have HP_3 := Lib.hid (HP_2.out.trans hp)
      have HW_3 := Lib.hid (HW_2.out.to hp)
      have L_3 := Lib.hid (L_2.out.to hp)
      have R_3 := Lib.hid (R_2.out.to hp)
      clear hp  HP_2 HW_2 L_2 R_2
      rw [HAB.out.2]
      go_wp2_with fail
      clear hc hmax
      refine (least_any v3 L p cap a HOK.out HSA.out L_3.out HW_3.out).mono ?_
      rintro e v4 ⟨rfl, hp⟩
      have HP_4 := Lib.hid (HP_3.out.trans hp)
      have HW_4 := Lib.hid (HW_3.out.to hp)
      have L_4 := Lib.hid (L_3.out.to hp)
      have R_4 := Lib.hid (R_3.out.to hp)
      clear hp  HP_3 HW_3 L_3 R_3
      obtain ⟨x1, hx1⟩ : ∃ zz, (atP L a).1 = zz := ⟨_, rfl⟩
      obtain ⟨x2, hx2⟩ : ∃ zz, (atP L a).2 = zz := ⟨_, rfl⟩
      obtain ⟨i1, hi1⟩ : ∃ zz, (atE L a == 0) = zz := ⟨_, rfl⟩
      have HNA : Hid (atP L a = (x1, x2) ∧ (atE L a == 0) = i1) := ⟨by rw [← hx1, ← hx2], hi1⟩
      rw [hx1, hx2, hi1]
      clear hx1 hx2 hi1
      go_wp2_with fail
      obtain ⟨X5, hX5⟩ : ∃ V : World, v4.alloc (Obj.cells #[Value.int IntKind.i64 x1, Value.int IntKind.i64 x2] 29) = V := ⟨_, rfl⟩
      have hpX5 : Pure v4 X5 := by rw [← hX5]; exact ((Diff.refl v4).alloc _)
      have bX : Blk (v4.heap.size) 29 #[Value.int IntKind.i64 x1, Value.int IntKind.i64 x2] X5 := by rw [← hX5]; exact (blk0 v4 29 _)
      rw [hX5]
      obtain ⟨g5_0, hg5_0⟩ : ∃ g, v4.heap.size = g := ⟨_, rfl⟩
      rw [hg5_0] at bX ⊢
      have HP_5 := Lib.hid (HP_4.out.trans hpX5)
      have HW_5 := Lib.hid (HW_4.out.to hpX5)
      have L_5 := Lib.hid (L_4.out.to hpX5)
      have R_5 := Lib.hid (R_4.out.to hpX5)
      have X_5 := Lib.hid bX
      clear hX5 hpX5 hg5_0 bX HP_4 HW_4 L_4 R_4
      go_wp2_with fail
      refine (least_any X5 L p cap b HOK.out HSB.out L_5.out HW_5.out).mono ?_
      rintro e v6 ⟨rfl, hp⟩
      have HP_6 := Lib.hid (HP_5.out.trans hp)
      have HW_6 := Lib.hid (HW_5.out.to hp)
      have L_6 := Lib.hid (L_5.out.to hp)
      have R_6 := Lib.hid (R_5.out.to hp)
      have X_6 := Lib.hid (X_5.out.to hp)
      clear hp  HP_5 HW_5 L_5 R_5 X_5
      obtain ⟨y1, hy1⟩ : ∃ zz, (atP L b).1 = zz := ⟨_, rfl⟩
      obtain ⟨y2, hy2⟩ : ∃ zz, (atP L b).2 = zz := ⟨_, rfl⟩
      obtain ⟨i2, hi2⟩ : ∃ zz, (atE L b == 0) = zz := ⟨_, rfl⟩
      have HNB : Hid (atP L b = (y1, y2) ∧ (atE L b == 0) = i2) := ⟨by rw [← hy1, ← hy2], hi2⟩
      rw [hy1, hy2, hi2]
      clear hy1 hy2 hi2
      go_wp2_with fail
      obtain ⟨X7, hX7⟩ : ∃ V : World, v6.alloc (Obj.cells #[Value.int IntKind.i64 y1, Value.int IntKind.i64 y2] 29) = V := ⟨_, rfl⟩
      have hpX7 : Pure v6 X7 := by rw [← hX7]; exact ((Diff.refl v6).alloc _)
      have bY : Blk (v6.heap.size) 29 #[Value.int IntKind.i64 y1, Value.int IntKind.i64 y2] X7 := by rw [← hX7]; exact (blk0 v6 29 _)
      rw [hX7]
      obtain ⟨g7_0, hg7_0⟩ : ∃ g, v6.heap.size = g := ⟨_, rfl⟩
      rw [hg7_0] at bY ⊢
      have HP_7 := Lib.hid (HP_6.out.trans hpX7)
      have HW_7 := Lib.hid (HW_6.out.to hpX7)
      have L_7 := Lib.hid (L_6.out.to hpX7)
      have R_7 := Lib.hid (R_6.out.to hpX7)
      have X_7 := Lib.hid (X_6.out.to hpX7)
      have Y_7 := Lib.hid bY
      clear hX7 hpX7 hg7_0 bY HP_6 HW_6 L_6 R_6 X_6
      go_wp2_with fail
      refine (cheapest_any X7 L p cap a HOK.out HSA.out L_7.out HW_7.out).mono ?_
      rintro e v8 ⟨rfl, hp⟩
      have HP_8 := Lib.hid (HP_7.out.trans hp)
      have HW_8 := Lib.hid (HW_7.out.to hp)
      have L_8 := Lib.hid (L_7.out.to hp)
      have R_8 := Lib.hid (R_7.out.to hp)
      have X_8 := Lib.hid (X_7.out.to hp)
      have Y_8 := Lib.hid (Y_7.out.to hp)
      clear hp  HP_7 HW_7 L_7 R_7 X_7 Y_7
      obtain ⟨z1, hz1⟩ : ∃ zz, (cheapP L a).1 = zz := ⟨_, rfl⟩
      obtain ⟨z2, hz2⟩ : ∃ zz, (cheapP L a).2 = zz := ⟨_, rfl⟩
      obtain ⟨i3, hi3⟩ : ∃ zz, (cheapE L a == 0) = zz := ⟨_, rfl⟩
      have HNC : Hid (cheapP L a = (z1, z2) ∧ (cheapE L a == 0) = i3) := ⟨by rw [← hz1, ← hz2], hi3⟩
      rw [hz1, hz2, hi3]
      clear hz1 hz2 hi3
      go_wp2_with fail
      obtain ⟨X9, hX9⟩ : ∃ V : World, v8.alloc (Obj.cells #[Value.int IntKind.i64 z1, Value.int IntKind.i64 z2] 29) = V := ⟨_, rfl⟩
      have hpX9 : Pure v8 X9 := by rw [← hX9]; exact ((Diff.refl v8).alloc _)
      have bZ : Blk (v8.heap.size) 29 #[Value.int IntKind.i64 z1, Value.int IntKind.i64 z2] X9 := by rw [← hX9]; exact (blk0 v8 29 _)
      rw [hX9]
      obtain ⟨g9_0, hg9_0⟩ : ∃ g, v8.heap.size = g := ⟨_, rfl⟩
      rw [hg9_0] at bZ ⊢
      have HP_9 := Lib.hid (HP_8.out.trans hpX9)
      have HW_9 := Lib.hid (HW_8.out.to hpX9)
      have L_9 := Lib.hid (L_8.out.to hpX9)
      have R_9 := Lib.hid (R_8.out.to hpX9)
      have X_9 := Lib.hid (X_8.out.to hpX9)
      have Y_9 := Lib.hid (Y_8.out.to hpX9)
      have Z_9 := Lib.hid bZ
      clear hX9 hpX9 hg9_0 bZ HP_8 HW_8 L_8 R_8 X_8 Y_8
      go_wp2_with fail
      refine (Mixed_any X9 L p q cap m c f ⟨HOK.out.n0, HOK.out.n8⟩ HM20.out R_9.out HFW.out).mono ?_
      rintro e v10 ⟨⟨r, dd, rfl, hrow⟩, hp⟩
      have HP_10 := Lib.hid (HP_9.out.trans hp)
      have HW_10 := Lib.hid (HW_9.out.to hp)
      have L_10 := Lib.hid (L_9.out.to hp)
      have R_10 := Lib.hid (R_9.out.to hp)
      have X_10 := Lib.hid (X_9.out.to hp)
      have Y_10 := Lib.hid (Y_9.out.to hp)
      have Z_10 := Lib.hid (Z_9.out.to hp)
      have M_10 := Lib.hid hrow
      clear hp hrow HP_9 HW_9 L_9 R_9 X_9 Y_9 Z_9
      go_wp2_with fail
      obtain ⟨F, hF⟩ : ∃ F, mixV f m L.n = F := ⟨_, rfl⟩
      have HQ0 := blend_q HOK.out F (fun k _ => by rw [← hF]; exact mixV_in f m L.n k) (by rw [← hF]; exact mixV_sum f m L.n HOK.out.n0)
      rw [hF] at M_10
      clear hF
      obtain ⟨s1, s2, p1, p2, hq⟩ := HQ0
      have HQ := Lib.hid hq
      clear hq
      refine (CheckBlend_any v10 L p r cap L.n dd F (by have := HOK.out.n8; omega) (by have := HOK.out.n8; omega) L_10.out M_10.out HW_10.out).mono ?_
      rintro e v11 ⟨rfl, hp⟩
      have HP_11 := Lib.hid (HP_10.out.trans hp)
      have HW_11 := Lib.hid (HW_10.out.to hp)
      have L_11 := Lib.hid (L_10.out.to hp)
      have R_11 := Lib.hid (R_10.out.to hp)
      have X_11 := Lib.hid (X_10.out.to hp)
      have Y_11 := Lib.hid (Y_10.out.to hp)
      have Z_11 := Lib.hid (Z_10.out.to hp)
      have M_11 := Lib.hid (M_10.out.to hp)
      clear hp  HP_10 HW_10 L_10 R_10 X_10 Y_10 Z_10 M_10
      have e1 : (blendS L F L.n).1 = s1 := by rw [HQ.out.es]
      have e2 : (blendS L F L.n).2 = s2 := by rw [HQ.out.es]
      have e3 : (blendP L F L.n).1 = p1 := by rw [HQ.out.ep]
      have e4 : (blendP L F L.n).2 = p2 := by rw [HQ.out.ep]
      rw [e1, e2, e3, e4, HQ.out.ok]
      clear e1 e2 e3 e4
      have HLF := Lib.hid (least_facts HOK.out HSA.out HSB.out HTU.out HNA.out.1 HNB.out.1 HNC.out.1 HNA.out.2 HNB.out.2 HNC.out.2)
      have HLB := fun h => least_blend HOK.out HSA.out HQ.out HNA.out.1 h
      rw [HNA.out.2] at HLB
      have HLB' := Lib.hid HLB
      clear HLB
      obtain ⟨dl, hdl⟩ : ∃ z, decide (s1 * 1 < a * s2) = z := ⟨_, rfl⟩
      rw [hdl] at HLB'
      have HDL := Lib.hid hdl
      clear hdl
      cases i1
      · cases i2
        · cases i3
          · cases dl
            · exact absurd (HLB'.out rfl).1 (by decide)
            · have SS := Lib.hid HQ.out.ss
              have SP := Lib.hid HQ.out.sp
              clear HLF HLB' HNA HNB HNC
              go_wp2_with fail
              obtain ⟨X12, hX12⟩ : ∃ V : World, (v11.alloc (Obj.cells #[Value.int IntKind.i64 s1, Value.int IntKind.i64 s2] 29)).alloc (Obj.cells #[Value.int IntKind.i64 p1, Value.int IntKind.i64 p2] 29) = V := ⟨_, rfl⟩
              have hpX12 : Pure v11 X12 := by rw [← hX12]; exact (((Diff.refl v11).alloc _).alloc _)
              have bS : Blk (v11.heap.size) 29 #[Value.int IntKind.i64 s1, Value.int IntKind.i64 s2] X12 := by rw [← hX12]; exact ((blk0 v11 29 _).alloc _)
              have bP : Blk (v11.heap.size + 1) 29 #[Value.int IntKind.i64 p1, Value.int IntKind.i64 p2] X12 := by rw [← hX12]; exact (blk1 v11 _ 29 _)
              rw [hX12]
              obtain ⟨g12_0, hg12_0⟩ : ∃ g, v11.heap.size = g := ⟨_, rfl⟩
              rw [hg12_0] at bS bP ⊢
              obtain ⟨g12_1, hg12_1⟩ : ∃ g, g12_0 + 1 = g := ⟨_, rfl⟩
              rw [hg12_1] at bP ⊢
              have HP_12 := Lib.hid (HP_11.out.trans hpX12)
              have HW_12 := Lib.hid (HW_11.out.to hpX12)
              have L_12 := Lib.hid (L_11.out.to hpX12)
              have R_12 := Lib.hid (R_11.out.to hpX12)
              have X_12 := Lib.hid (X_11.out.to hpX12)
              have Y_12 := Lib.hid (Y_11.out.to hpX12)
              have Z_12 := Lib.hid (Z_11.out.to hpX12)
              have M_12 := Lib.hid (M_11.out.to hpX12)
              have S_12 := Lib.hid bS
              have P_12 := Lib.hid bP
              clear hX12 hpX12 hg12_1 hg12_0 bS bP HP_11 HW_11 L_11 R_11 X_11 Y_11 Z_11 M_11
              refine (small_any X12 s1 s2 ⟨SS.out.b0, SS.out.b1⟩ ⟨SS.out.a0, SS.out.a1⟩ SS.out.rd).mono ?_
              rintro e v13 ⟨rfl, hp⟩
              have HP_13 := Lib.hid (HP_12.out.trans hp)
              have HW_13 := Lib.hid (HW_12.out.to hp)
              have L_13 := Lib.hid (L_12.out.to hp)
              have R_13 := Lib.hid (R_12.out.to hp)
              have X_13 := Lib.hid (X_12.out.to hp)
              have Y_13 := Lib.hid (Y_12.out.to hp)
              have Z_13 := Lib.hid (Z_12.out.to hp)
              have M_13 := Lib.hid (M_12.out.to hp)
              have S_13 := Lib.hid (S_12.out.to hp)
              have P_13 := Lib.hid (P_12.out.to hp)
              clear hp  HP_12 HW_12 L_12 R_12 X_12 Y_12 Z_12 M_12 S_12 P_12
              have kP0 := P_13.out.at 0
              have kP1 := P_13.out.at 1
              have kPl := P_13.out.lt
              go_wp2_with fail
              clear kP0 kP1 kPl
              refine (small_any v13 p1 p2 ⟨SP.out.b0, SP.out.b1⟩ ⟨SP.out.a0, SP.out.a1⟩ SP.out.rd).mono ?_
              rintro e v14 ⟨rfl, hp⟩
              have HP_14 := Lib.hid (HP_13.out.trans hp)
              have HW_14 := Lib.hid (HW_13.out.to hp)
              have L_14 := Lib.hid (L_13.out.to hp)
              have R_14 := Lib.hid (R_13.out.to hp)
              have X_14 := Lib.hid (X_13.out.to hp)
              have Y_14 := Lib.hid (Y_13.out.to hp)
              have Z_14 := Lib.hid (Z_13.out.to hp)
              have M_14 := Lib.hid (M_13.out.to hp)
              have S_14 := Lib.hid (S_13.out.to hp)
              have P_14 := Lib.hid (P_13.out.to hp)
              clear hp  HP_13 HW_13 L_13 R_13 X_13 Y_13 Z_13 M_13 S_13 P_13
              go_wp2_with fail
              refine WQ.region (C := Pure v14) hmx (by kernel_rfl) ((Diff.refl _).drew) ?_
              refine WQ.val (by rfl) _ (fun V hV => exec_load_pair (.tmp 20) rfl g12_0 s1 s2 rfl (S_14.out.to hV)) ?_
              iterate 1 (refine WQ.step (fun K hK => ?_); go_simp; first | refine hK _ ?_ | refine ⟨_, fun _ _ => rfl, hK _ ?_⟩; clear hK K)
              refine WQ.call (by rfl) 31 #[.int .i64 a, .int .i64 1] (.agg #[.int .i64 a, .int .i64 1]) (fun V => by unfold execOp; simp [go_sem]) (fun V hV => by have h := lby_any V a 1; exact h.mono fun e V2 h => ⟨h.1, hV.trans h.2⟩) ?_
              refine WQ.call (by rfl) 52 #[.agg #[.int .i64 s1, .int .i64 s2], .agg #[.int .i64 a, .int .i64 1]] (.bool true) (fun V => by unfold execOp; simp [go_sem]) (fun V hV => by have h := RLess_any V s1 s2 a 1 ⟨by have := SS.out.a0; omega, by have := SS.out.a1; have := SS.out.b1; omega⟩ ⟨by have := SS.out.b0; omega, by have := SS.out.b1; omega⟩ ⟨by have := HSA.out; omega, by have := HSA.out; omega⟩ ⟨by omega, by omega⟩; rw [HDL.out] at h; exact h.mono fun e V2 h => ⟨h.1, hV.trans h.2⟩) ?_
              iterate 1 (refine WQ.step (fun K hK => ?_); go_simp; first | refine hK _ ?_ | refine ⟨_, fun _ _ => rfl, hK _ ?_⟩; clear hK K)
              refine WQ.skipK (by rfl) (fun K hK => ?_); go_simp; refine hK _ ?_; clear hK K
              refine WQ.skipK (by rfl) (fun K hK => ?_); go_simp; refine hK _ ?_; clear hK K
              refine WQ.skipK (by rfl) (fun K hK => ?_); go_simp; refine hK _ ?_; clear hK K
              refine WQ.skipK (by rfl) (fun K hK => ?_); go_simp; refine hK _ ?_; clear hK K
              refine WQ.skipK (by rfl) (fun K hK => ?_); go_simp; refine hK _ ?_; clear hK K
              refine WQ.skipK (by rfl) (fun K hK => ?_); go_simp; refine hK _ ?_; clear hK K
              refine WQ.skipK (by rfl) (fun K hK => ?_); go_simp; refine hK _ ?_; clear hK K
              iterate 2 (refine WQ.step (fun K hK => ?_); go_simp; first | refine hK _ ?_ | refine ⟨_, fun _ _ => rfl, hK _ ?_⟩; clear hK K)
              refine WQ.call (by rfl) 17 #[] (.bool true) (fun V => by unfold execOp; simp [go_sem]) (fun V hV => (Works_any V (HW_14.out.to hV)).mono fun e V2 h => ⟨h.1, hV.trans h.2⟩) ?_
              iterate 2 (refine WQ.step (fun K hK => ?_); go_simp; first | refine hK _ ?_ | refine ⟨_, fun _ _ => rfl, hK _ ?_⟩; clear hK K)
              refine WQ.nil ?_
              rintro V hV
              have HPE := Lib.hid hV
              clear hV
              go_wp2
              exact bodyPost_ret (v := .bool true) (by simp [results, Tryd.results9, go_sem]) rfl ⟨rfl, HP_14.out.trans HPE.out⟩
          · exact absurd (HLF.out.2.2 rfl).1 (by decide)
        · exact absurd (HLF.out.2.1 rfl).1 (by decide)
      · cases i2
        · cases i3
          · cases dl
            · have SX := Lib.hid (HLF.out.1 rfl)
              have DB := Lib.hid (HLB'.out rfl).2.2
              have SS := Lib.hid HQ.out.ss
              have SP := Lib.hid HQ.out.sp
              clear HLF HLB' HNA HNB HNC
              go_wp2_with fail
              obtain ⟨X12, hX12⟩ : ∃ V : World, (v11.alloc (Obj.cells #[Value.int IntKind.i64 s1, Value.int IntKind.i64 s2] 29)).alloc (Obj.cells #[Value.int IntKind.i64 p1, Value.int IntKind.i64 p2] 29) = V := ⟨_, rfl⟩
              have hpX12 : Pure v11 X12 := by rw [← hX12]; exact (((Diff.refl v11).alloc _).alloc _)
              have bS : Blk (v11.heap.size) 29 #[Value.int IntKind.i64 s1, Value.int IntKind.i64 s2] X12 := by rw [← hX12]; exact ((blk0 v11 29 _).alloc _)
              have bP : Blk (v11.heap.size + 1) 29 #[Value.int IntKind.i64 p1, Value.int IntKind.i64 p2] X12 := by rw [← hX12]; exact (blk1 v11 _ 29 _)
              rw [hX12]
              obtain ⟨g12_0, hg12_0⟩ : ∃ g, v11.heap.size = g := ⟨_, rfl⟩
              rw [hg12_0] at bS bP ⊢
              obtain ⟨g12_1, hg12_1⟩ : ∃ g, g12_0 + 1 = g := ⟨_, rfl⟩
              rw [hg12_1] at bP ⊢
              have HP_12 := Lib.hid (HP_11.out.trans hpX12)
              have HW_12 := Lib.hid (HW_11.out.to hpX12)
              have L_12 := Lib.hid (L_11.out.to hpX12)
              have R_12 := Lib.hid (R_11.out.to hpX12)
              have X_12 := Lib.hid (X_11.out.to hpX12)
              have Y_12 := Lib.hid (Y_11.out.to hpX12)
              have Z_12 := Lib.hid (Z_11.out.to hpX12)
              have M_12 := Lib.hid (M_11.out.to hpX12)
              have S_12 := Lib.hid bS
              have P_12 := Lib.hid bP
              clear hX12 hpX12 hg12_1 hg12_0 bS bP HP_11 HW_11 L_11 R_11 X_11 Y_11 Z_11 M_11
              refine (small_any X12 s1 s2 ⟨SS.out.b0, SS.out.b1⟩ ⟨SS.out.a0, SS.out.a1⟩ SS.out.rd).mono ?_
              rintro e v13 ⟨rfl, hp⟩
              have HP_13 := Lib.hid (HP_12.out.trans hp)
              have HW_13 := Lib.hid (HW_12.out.to hp)
              have L_13 := Lib.hid (L_12.out.to hp)
              have R_13 := Lib.hid (R_12.out.to hp)
              have X_13 := Lib.hid (X_12.out.to hp)
              have Y_13 := Lib.hid (Y_12.out.to hp)
              have Z_13 := Lib.hid (Z_12.out.to hp)
              have M_13 := Lib.hid (M_12.out.to hp)
              have S_13 := Lib.hid (S_12.out.to hp)
              have P_13 := Lib.hid (P_12.out.to hp)
              clear hp  HP_12 HW_12 L_12 R_12 X_12 Y_12 Z_12 M_12 S_12 P_12
              have kP0 := P_13.out.at 0
              have kP1 := P_13.out.at 1
              have kPl := P_13.out.lt
              go_wp2_with fail
              clear kP0 kP1 kPl
              refine (small_any v13 p1 p2 ⟨SP.out.b0, SP.out.b1⟩ ⟨SP.out.a0, SP.out.a1⟩ SP.out.rd).mono ?_
              rintro e v14 ⟨rfl, hp⟩
              have HP_14 := Lib.hid (HP_13.out.trans hp)
              have HW_14 := Lib.hid (HW_13.out.to hp)
              have L_14 := Lib.hid (L_13.out.to hp)
              have R_14 := Lib.hid (R_13.out.to hp)
              have X_14 := Lib.hid (X_13.out.to hp)
              have Y_14 := Lib.hid (Y_13.out.to hp)
              have Z_14 := Lib.hid (Z_13.out.to hp)
              have M_14 := Lib.hid (M_13.out.to hp)
              have S_14 := Lib.hid (S_13.out.to hp)
              have P_14 := Lib.hid (P_13.out.to hp)
              clear hp  HP_13 HW_13 L_13 R_13 X_13 Y_13 Z_13 M_13 S_13 P_13
              go_wp2_with fail
              refine WQ.region (C := Pure v14) hmx (by kernel_rfl) ((Diff.refl _).drew) ?_
              refine WQ.val (by rfl) _ (fun V hV => exec_load_pair (.tmp 20) rfl g12_0 s1 s2 rfl (S_14.out.to hV)) ?_
              iterate 1 (refine WQ.step (fun K hK => ?_); go_simp; first | refine hK _ ?_ | refine ⟨_, fun _ _ => rfl, hK _ ?_⟩; clear hK K)
              refine WQ.call (by rfl) 31 #[.int .i64 a, .int .i64 1] (.agg #[.int .i64 a, .int .i64 1]) (fun V => by unfold execOp; simp [go_sem]) (fun V hV => by have h := lby_any V a 1; exact h.mono fun e V2 h => ⟨h.1, hV.trans h.2⟩) ?_
              refine WQ.call (by rfl) 52 #[.agg #[.int .i64 s1, .int .i64 s2], .agg #[.int .i64 a, .int .i64 1]] (.bool false) (fun V => by unfold execOp; simp [go_sem]) (fun V hV => by have h := RLess_any V s1 s2 a 1 ⟨by have := SS.out.a0; omega, by have := SS.out.a1; have := SS.out.b1; omega⟩ ⟨by have := SS.out.b0; omega, by have := SS.out.b1; omega⟩ ⟨by have := HSA.out; omega, by have := HSA.out; omega⟩ ⟨by omega, by omega⟩; rw [HDL.out] at h; exact h.mono fun e V2 h => ⟨h.1, hV.trans h.2⟩) ?_
              iterate 3 (refine WQ.step (fun K hK => ?_); go_simp; first | refine hK _ ?_ | refine ⟨_, fun _ _ => rfl, hK _ ?_⟩; clear hK K)
              refine WQ.val (by rfl) _ (fun V hV => exec_load_pair (.tmp 21) rfl g12_1 p1 p2 rfl (P_14.out.to hV)) ?_
              refine WQ.val (by rfl) _ (fun V hV => exec_load_pair (.tmp 11) rfl g5_0 x1 x2 rfl (X_14.out.to hV)) ?_
              refine WQ.call (by rfl) 52 #[.agg #[.int .i64 p1, .int .i64 p2], .agg #[.int .i64 x1, .int .i64 x2]] (.bool false) (fun V => by unfold execOp; simp [go_sem]) (fun V hV => by have h := RLess_any V p1 p2 x1 x2 ⟨by have := SP.out.a0; omega, by have := SP.out.a1; have := SP.out.b1; omega⟩ ⟨by have := SP.out.b0; omega, by have := SP.out.b1; omega⟩ ⟨by have := SX.out.a0; omega, by have := SX.out.a1; have := SX.out.b1; omega⟩ ⟨by have := SX.out.b0; omega, by have := SX.out.b1; omega⟩; rw [DB.out] at h; exact h.mono fun e V2 h => ⟨h.1, hV.trans h.2⟩) ?_
              iterate 4 (refine WQ.step (fun K hK => ?_); go_simp; first | refine hK _ ?_ | refine ⟨_, fun _ _ => rfl, hK _ ?_⟩; clear hK K)
              refine WQ.call (by rfl) 17 #[] (.bool true) (fun V => by unfold execOp; simp [go_sem]) (fun V hV => (Works_any V (HW_14.out.to hV)).mono fun e V2 h => ⟨h.1, hV.trans h.2⟩) ?_
              iterate 2 (refine WQ.step (fun K hK => ?_); go_simp; first | refine hK _ ?_ | refine ⟨_, fun _ _ => rfl, hK _ ?_⟩; clear hK K)
              refine WQ.nil ?_
              rintro V hV
              have HPE := Lib.hid hV
              clear hV
              go_wp2
              exact bodyPost_ret (v := .bool true) (by simp [results, Tryd.results9, go_sem]) rfl ⟨rfl, HP_14.out.trans HPE.out⟩
            · have SX := Lib.hid (HLF.out.1 rfl)
              have SS := Lib.hid HQ.out.ss
              have SP := Lib.hid HQ.out.sp
              clear HLF HLB' HNA HNB HNC
              go_wp2_with fail
              obtain ⟨X12, hX12⟩ : ∃ V : World, (v11.alloc (Obj.cells #[Value.int IntKind.i64 s1, Value.int IntKind.i64 s2] 29)).alloc (Obj.cells #[Value.int IntKind.i64 p1, Value.int IntKind.i64 p2] 29) = V := ⟨_, rfl⟩
              have hpX12 : Pure v11 X12 := by rw [← hX12]; exact (((Diff.refl v11).alloc _).alloc _)
              have bS : Blk (v11.heap.size) 29 #[Value.int IntKind.i64 s1, Value.int IntKind.i64 s2] X12 := by rw [← hX12]; exact ((blk0 v11 29 _).alloc _)
              have bP : Blk (v11.heap.size + 1) 29 #[Value.int IntKind.i64 p1, Value.int IntKind.i64 p2] X12 := by rw [← hX12]; exact (blk1 v11 _ 29 _)
              rw [hX12]
              obtain ⟨g12_0, hg12_0⟩ : ∃ g, v11.heap.size = g := ⟨_, rfl⟩
              rw [hg12_0] at bS bP ⊢
              obtain ⟨g12_1, hg12_1⟩ : ∃ g, g12_0 + 1 = g := ⟨_, rfl⟩
              rw [hg12_1] at bP ⊢
              have HP_12 := Lib.hid (HP_11.out.trans hpX12)
              have HW_12 := Lib.hid (HW_11.out.to hpX12)
              have L_12 := Lib.hid (L_11.out.to hpX12)
              have R_12 := Lib.hid (R_11.out.to hpX12)
              have X_12 := Lib.hid (X_11.out.to hpX12)
              have Y_12 := Lib.hid (Y_11.out.to hpX12)
              have Z_12 := Lib.hid (Z_11.out.to hpX12)
              have M_12 := Lib.hid (M_11.out.to hpX12)
              have S_12 := Lib.hid bS
              have P_12 := Lib.hid bP
              clear hX12 hpX12 hg12_1 hg12_0 bS bP HP_11 HW_11 L_11 R_11 X_11 Y_11 Z_11 M_11
              refine (small_any X12 s1 s2 ⟨SS.out.b0, SS.out.b1⟩ ⟨SS.out.a0, SS.out.a1⟩ SS.out.rd).mono ?_
              rintro e v13 ⟨rfl, hp⟩
              have HP_13 := Lib.hid (HP_12.out.trans hp)
              have HW_13 := Lib.hid (HW_12.out.to hp)
              have L_13 := Lib.hid (L_12.out.to hp)
              have R_13 := Lib.hid (R_12.out.to hp)
              have X_13 := Lib.hid (X_12.out.to hp)
              have Y_13 := Lib.hid (Y_12.out.to hp)
              have Z_13 := Lib.hid (Z_12.out.to hp)
              have M_13 := Lib.hid (M_12.out.to hp)
              have S_13 := Lib.hid (S_12.out.to hp)
              have P_13 := Lib.hid (P_12.out.to hp)
              clear hp  HP_12 HW_12 L_12 R_12 X_12 Y_12 Z_12 M_12 S_12 P_12
              have kP0 := P_13.out.at 0
              have kP1 := P_13.out.at 1
              have kPl := P_13.out.lt
              go_wp2_with fail
              clear kP0 kP1 kPl
              refine (small_any v13 p1 p2 ⟨SP.out.b0, SP.out.b1⟩ ⟨SP.out.a0, SP.out.a1⟩ SP.out.rd).mono ?_
              rintro e v14 ⟨rfl, hp⟩
              have HP_14 := Lib.hid (HP_13.out.trans hp)
              have HW_14 := Lib.hid (HW_13.out.to hp)
              have L_14 := Lib.hid (L_13.out.to hp)
              have R_14 := Lib.hid (R_13.out.to hp)
              have X_14 := Lib.hid (X_13.out.to hp)
              have Y_14 := Lib.hid (Y_13.out.to hp)
              have Z_14 := Lib.hid (Z_13.out.to hp)
              have M_14 := Lib.hid (M_13.out.to hp)
              have S_14 := Lib.hid (S_13.out.to hp)
              have P_14 := Lib.hid (P_13.out.to hp)
              clear hp  HP_13 HW_13 L_13 R_13 X_13 Y_13 Z_13 M_13 S_13 P_13
              go_wp2_with fail
              refine WQ.region (C := Pure v14) hmx (by kernel_rfl) ((Diff.refl _).drew) ?_
              refine WQ.val (by rfl) _ (fun V hV => exec_load_pair (.tmp 20) rfl g12_0 s1 s2 rfl (S_14.out.to hV)) ?_
              iterate 1 (refine WQ.step (fun K hK => ?_); go_simp; first | refine hK _ ?_ | refine ⟨_, fun _ _ => rfl, hK _ ?_⟩; clear hK K)
              refine WQ.call (by rfl) 31 #[.int .i64 a, .int .i64 1] (.agg #[.int .i64 a, .int .i64 1]) (fun V => by unfold execOp; simp [go_sem]) (fun V hV => by have h := lby_any V a 1; exact h.mono fun e V2 h => ⟨h.1, hV.trans h.2⟩) ?_
              refine WQ.call (by rfl) 52 #[.agg #[.int .i64 s1, .int .i64 s2], .agg #[.int .i64 a, .int .i64 1]] (.bool true) (fun V => by unfold execOp; simp [go_sem]) (fun V hV => by have h := RLess_any V s1 s2 a 1 ⟨by have := SS.out.a0; omega, by have := SS.out.a1; have := SS.out.b1; omega⟩ ⟨by have := SS.out.b0; omega, by have := SS.out.b1; omega⟩ ⟨by have := HSA.out; omega, by have := HSA.out; omega⟩ ⟨by omega, by omega⟩; rw [HDL.out] at h; exact h.mono fun e V2 h => ⟨h.1, hV.trans h.2⟩) ?_
              iterate 1 (refine WQ.step (fun K hK => ?_); go_simp; first | refine hK _ ?_ | refine ⟨_, fun _ _ => rfl, hK _ ?_⟩; clear hK K)
              refine WQ.skipK (by rfl) (fun K hK => ?_); go_simp; refine hK _ ?_; clear hK K
              refine WQ.skipK (by rfl) (fun K hK => ?_); go_simp; refine hK _ ?_; clear hK K
              refine WQ.skipK (by rfl) (fun K hK => ?_); go_simp; refine hK _ ?_; clear hK K
              refine WQ.skipK (by rfl) (fun K hK => ?_); go_simp; refine hK _ ?_; clear hK K
              refine WQ.skipK (by rfl) (fun K hK => ?_); go_simp; refine hK _ ?_; clear hK K
              refine WQ.skipK (by rfl) (fun K hK => ?_); go_simp; refine hK _ ?_; clear hK K
              refine WQ.skipK (by rfl) (fun K hK => ?_); go_simp; refine hK _ ?_; clear hK K
              iterate 2 (refine WQ.step (fun K hK => ?_); go_simp; first | refine hK _ ?_ | refine ⟨_, fun _ _ => rfl, hK _ ?_⟩; clear hK K)
              refine WQ.call (by rfl) 17 #[] (.bool true) (fun V => by unfold execOp; simp [go_sem]) (fun V hV => (Works_any V (HW_14.out.to hV)).mono fun e V2 h => ⟨h.1, hV.trans h.2⟩) ?_
              iterate 2 (refine WQ.step (fun K hK => ?_); go_simp; first | refine hK _ ?_ | refine ⟨_, fun _ _ => rfl, hK _ ?_⟩; clear hK K)
              refine WQ.nil ?_
              rintro V hV
              have HPE := Lib.hid hV
              clear hV
              go_wp2
              exact bodyPost_ret (v := .bool true) (by simp [results, Tryd.results9, go_sem]) rfl ⟨rfl, HP_14.out.trans HPE.out⟩
          · cases dl
            · have SX := Lib.hid (HLF.out.1 rfl)
              obtain ⟨-, sz, dz⟩ := HLF.out.2.2 rfl
              have SZ := Lib.hid sz
              have DZ := Lib.hid dz
              clear sz dz
              have DB := Lib.hid (HLB'.out rfl).2.2
              have SS := Lib.hid HQ.out.ss
              have SP := Lib.hid HQ.out.sp
              clear HLF HLB' HNA HNB HNC
              have kZ0 := Z_11.out.at 0
              have kZ1 := Z_11.out.at 1
              have kZl := Z_11.out.lt
              have kX0 := X_11.out.at 0
              have kX1 := X_11.out.at 1
              have kXl := X_11.out.lt
              go_wp2_with fail
              clear kZ0 kZ1 kZl
              clear kX0 kX1 kXl
              obtain ⟨X12, hX12⟩ : ∃ V : World, (v11.alloc (Obj.cells #[Value.int IntKind.i64 s1, Value.int IntKind.i64 s2] 29)).alloc (Obj.cells #[Value.int IntKind.i64 p1, Value.int IntKind.i64 p2] 29) = V := ⟨_, rfl⟩
              have hpX12 : Pure v11 X12 := by rw [← hX12]; exact (((Diff.refl v11).alloc _).alloc _)
              have bS : Blk (v11.heap.size) 29 #[Value.int IntKind.i64 s1, Value.int IntKind.i64 s2] X12 := by rw [← hX12]; exact ((blk0 v11 29 _).alloc _)
              have bP : Blk (v11.heap.size + 1) 29 #[Value.int IntKind.i64 p1, Value.int IntKind.i64 p2] X12 := by rw [← hX12]; exact (blk1 v11 _ 29 _)
              rw [hX12]
              obtain ⟨g12_0, hg12_0⟩ : ∃ g, v11.heap.size = g := ⟨_, rfl⟩
              rw [hg12_0] at bS bP ⊢
              obtain ⟨g12_1, hg12_1⟩ : ∃ g, g12_0 + 1 = g := ⟨_, rfl⟩
              rw [hg12_1] at bP ⊢
              have HP_12 := Lib.hid (HP_11.out.trans hpX12)
              have HW_12 := Lib.hid (HW_11.out.to hpX12)
              have L_12 := Lib.hid (L_11.out.to hpX12)
              have R_12 := Lib.hid (R_11.out.to hpX12)
              have X_12 := Lib.hid (X_11.out.to hpX12)
              have Y_12 := Lib.hid (Y_11.out.to hpX12)
              have Z_12 := Lib.hid (Z_11.out.to hpX12)
              have M_12 := Lib.hid (M_11.out.to hpX12)
              have S_12 := Lib.hid bS
              have P_12 := Lib.hid bP
              clear hX12 hpX12 hg12_1 hg12_0 bS bP HP_11 HW_11 L_11 R_11 X_11 Y_11 Z_11 M_11
              refine (RLess_any X12 z1 z2 x1 x2 ⟨by have := SZ.out.a0; omega, by have := SZ.out.a1; have := SZ.out.b1; omega⟩ ⟨by have := SZ.out.b0; omega, by have := SZ.out.b1; omega⟩ ⟨by have := SX.out.a0; omega, by have := SX.out.a1; have := SX.out.b1; omega⟩ ⟨by have := SX.out.b0; omega, by have := SX.out.b1; omega⟩).mono ?_
              rintro e v13 ⟨rfl, hp⟩
              have HP_13 := Lib.hid (HP_12.out.trans hp)
              have HW_13 := Lib.hid (HW_12.out.to hp)
              have L_13 := Lib.hid (L_12.out.to hp)
              have R_13 := Lib.hid (R_12.out.to hp)
              have X_13 := Lib.hid (X_12.out.to hp)
              have Y_13 := Lib.hid (Y_12.out.to hp)
              have Z_13 := Lib.hid (Z_12.out.to hp)
              have M_13 := Lib.hid (M_12.out.to hp)
              have S_13 := Lib.hid (S_12.out.to hp)
              have P_13 := Lib.hid (P_12.out.to hp)
              clear hp  HP_12 HW_12 L_12 R_12 X_12 Y_12 Z_12 M_12 S_12 P_12
              rw [DZ.out]
              have kS0 := S_13.out.at 0
              have kS1 := S_13.out.at 1
              have kSl := S_13.out.lt
              go_wp2_with fail
              clear kS0 kS1 kSl
              refine (small_any v13 s1 s2 ⟨SS.out.b0, SS.out.b1⟩ ⟨SS.out.a0, SS.out.a1⟩ SS.out.rd).mono ?_
              rintro e v14 ⟨rfl, hp⟩
              have HP_14 := Lib.hid (HP_13.out.trans hp)
              have HW_14 := Lib.hid (HW_13.out.to hp)
              have L_14 := Lib.hid (L_13.out.to hp)
              have R_14 := Lib.hid (R_13.out.to hp)
              have X_14 := Lib.hid (X_13.out.to hp)
              have Y_14 := Lib.hid (Y_13.out.to hp)
              have Z_14 := Lib.hid (Z_13.out.to hp)
              have M_14 := Lib.hid (M_13.out.to hp)
              have S_14 := Lib.hid (S_13.out.to hp)
              have P_14 := Lib.hid (P_13.out.to hp)
              clear hp  HP_13 HW_13 L_13 R_13 X_13 Y_13 Z_13 M_13 S_13 P_13
              have kP0 := P_14.out.at 0
              have kP1 := P_14.out.at 1
              have kPl := P_14.out.lt
              go_wp2_with fail
              clear kP0 kP1 kPl
              refine (small_any v14 p1 p2 ⟨SP.out.b0, SP.out.b1⟩ ⟨SP.out.a0, SP.out.a1⟩ SP.out.rd).mono ?_
              rintro e v15 ⟨rfl, hp⟩
              have HP_15 := Lib.hid (HP_14.out.trans hp)
              have HW_15 := Lib.hid (HW_14.out.to hp)
              have L_15 := Lib.hid (L_14.out.to hp)
              have R_15 := Lib.hid (R_14.out.to hp)
              have X_15 := Lib.hid (X_14.out.to hp)
              have Y_15 := Lib.hid (Y_14.out.to hp)
              have Z_15 := Lib.hid (Z_14.out.to hp)
              have M_15 := Lib.hid (M_14.out.to hp)
              have S_15 := Lib.hid (S_14.out.to hp)
              have P_15 := Lib.hid (P_14.out.to hp)
              clear hp  HP_14 HW_14 L_14 R_14 X_14 Y_14 Z_14 M_14 S_14 P_14
              go_wp2_with fail
              refine WQ.region (C := Pure v15) hmx (by kernel_rfl) ((Diff.refl _).drew) ?_
              refine WQ.val (by rfl) _ (fun V hV => exec_load_pair (.tmp 20) rfl g12_0 s1 s2 rfl (S_15.out.to hV)) ?_
              iterate 1 (refine WQ.step (fun K hK => ?_); go_simp; first | refine hK _ ?_ | refine ⟨_, fun _ _ => rfl, hK _ ?_⟩; clear hK K)
              refine WQ.call (by rfl) 31 #[.int .i64 a, .int .i64 1] (.agg #[.int .i64 a, .int .i64 1]) (fun V => by unfold execOp; simp [go_sem]) (fun V hV => by have h := lby_any V a 1; exact h.mono fun e V2 h => ⟨h.1, hV.trans h.2⟩) ?_
              refine WQ.call (by rfl) 52 #[.agg #[.int .i64 s1, .int .i64 s2], .agg #[.int .i64 a, .int .i64 1]] (.bool false) (fun V => by unfold execOp; simp [go_sem]) (fun V hV => by have h := RLess_any V s1 s2 a 1 ⟨by have := SS.out.a0; omega, by have := SS.out.a1; have := SS.out.b1; omega⟩ ⟨by have := SS.out.b0; omega, by have := SS.out.b1; omega⟩ ⟨by have := HSA.out; omega, by have := HSA.out; omega⟩ ⟨by omega, by omega⟩; rw [HDL.out] at h; exact h.mono fun e V2 h => ⟨h.1, hV.trans h.2⟩) ?_
              iterate 3 (refine WQ.step (fun K hK => ?_); go_simp; first | refine hK _ ?_ | refine ⟨_, fun _ _ => rfl, hK _ ?_⟩; clear hK K)
              refine WQ.val (by rfl) _ (fun V hV => exec_load_pair (.tmp 21) rfl g12_1 p1 p2 rfl (P_15.out.to hV)) ?_
              refine WQ.val (by rfl) _ (fun V hV => exec_load_pair (.tmp 11) rfl g5_0 x1 x2 rfl (X_15.out.to hV)) ?_
              refine WQ.call (by rfl) 52 #[.agg #[.int .i64 p1, .int .i64 p2], .agg #[.int .i64 x1, .int .i64 x2]] (.bool false) (fun V => by unfold execOp; simp [go_sem]) (fun V hV => by have h := RLess_any V p1 p2 x1 x2 ⟨by have := SP.out.a0; omega, by have := SP.out.a1; have := SP.out.b1; omega⟩ ⟨by have := SP.out.b0; omega, by have := SP.out.b1; omega⟩ ⟨by have := SX.out.a0; omega, by have := SX.out.a1; have := SX.out.b1; omega⟩ ⟨by have := SX.out.b0; omega, by have := SX.out.b1; omega⟩; rw [DB.out] at h; exact h.mono fun e V2 h => ⟨h.1, hV.trans h.2⟩) ?_
              iterate 4 (refine WQ.step (fun K hK => ?_); go_simp; first | refine hK _ ?_ | refine ⟨_, fun _ _ => rfl, hK _ ?_⟩; clear hK K)
              refine WQ.call (by rfl) 17 #[] (.bool true) (fun V => by unfold execOp; simp [go_sem]) (fun V hV => (Works_any V (HW_15.out.to hV)).mono fun e V2 h => ⟨h.1, hV.trans h.2⟩) ?_
              iterate 2 (refine WQ.step (fun K hK => ?_); go_simp; first | refine hK _ ?_ | refine ⟨_, fun _ _ => rfl, hK _ ?_⟩; clear hK K)
              refine WQ.nil ?_
              rintro V hV
              have HPE := Lib.hid hV
              clear hV
              go_wp2
              exact bodyPost_ret (v := .bool true) (by simp [results, Tryd.results9, go_sem]) rfl ⟨rfl, HP_15.out.trans HPE.out⟩
            · have SX := Lib.hid (HLF.out.1 rfl)
              obtain ⟨-, sz, dz⟩ := HLF.out.2.2 rfl
              have SZ := Lib.hid sz
              have DZ := Lib.hid dz
              clear sz dz
              have SS := Lib.hid HQ.out.ss
              have SP := Lib.hid HQ.out.sp
              clear HLF HLB' HNA HNB HNC
              have kZ0 := Z_11.out.at 0
              have kZ1 := Z_11.out.at 1
              have kZl := Z_11.out.lt
              have kX0 := X_11.out.at 0
              have kX1 := X_11.out.at 1
              have kXl := X_11.out.lt
              go_wp2_with fail
              clear kZ0 kZ1 kZl
              clear kX0 kX1 kXl
              obtain ⟨X12, hX12⟩ : ∃ V : World, (v11.alloc (Obj.cells #[Value.int IntKind.i64 s1, Value.int IntKind.i64 s2] 29)).alloc (Obj.cells #[Value.int IntKind.i64 p1, Value.int IntKind.i64 p2] 29) = V := ⟨_, rfl⟩
              have hpX12 : Pure v11 X12 := by rw [← hX12]; exact (((Diff.refl v11).alloc _).alloc _)
              have bS : Blk (v11.heap.size) 29 #[Value.int IntKind.i64 s1, Value.int IntKind.i64 s2] X12 := by rw [← hX12]; exact ((blk0 v11 29 _).alloc _)
              have bP : Blk (v11.heap.size + 1) 29 #[Value.int IntKind.i64 p1, Value.int IntKind.i64 p2] X12 := by rw [← hX12]; exact (blk1 v11 _ 29 _)
              rw [hX12]
              obtain ⟨g12_0, hg12_0⟩ : ∃ g, v11.heap.size = g := ⟨_, rfl⟩
              rw [hg12_0] at bS bP ⊢
              obtain ⟨g12_1, hg12_1⟩ : ∃ g, g12_0 + 1 = g := ⟨_, rfl⟩
              rw [hg12_1] at bP ⊢
              have HP_12 := Lib.hid (HP_11.out.trans hpX12)
              have HW_12 := Lib.hid (HW_11.out.to hpX12)
              have L_12 := Lib.hid (L_11.out.to hpX12)
              have R_12 := Lib.hid (R_11.out.to hpX12)
              have X_12 := Lib.hid (X_11.out.to hpX12)
              have Y_12 := Lib.hid (Y_11.out.to hpX12)
              have Z_12 := Lib.hid (Z_11.out.to hpX12)
              have M_12 := Lib.hid (M_11.out.to hpX12)
              have S_12 := Lib.hid bS
              have P_12 := Lib.hid bP
              clear hX12 hpX12 hg12_1 hg12_0 bS bP HP_11 HW_11 L_11 R_11 X_11 Y_11 Z_11 M_11
              refine (RLess_any X12 z1 z2 x1 x2 ⟨by have := SZ.out.a0; omega, by have := SZ.out.a1; have := SZ.out.b1; omega⟩ ⟨by have := SZ.out.b0; omega, by have := SZ.out.b1; omega⟩ ⟨by have := SX.out.a0; omega, by have := SX.out.a1; have := SX.out.b1; omega⟩ ⟨by have := SX.out.b0; omega, by have := SX.out.b1; omega⟩).mono ?_
              rintro e v13 ⟨rfl, hp⟩
              have HP_13 := Lib.hid (HP_12.out.trans hp)
              have HW_13 := Lib.hid (HW_12.out.to hp)
              have L_13 := Lib.hid (L_12.out.to hp)
              have R_13 := Lib.hid (R_12.out.to hp)
              have X_13 := Lib.hid (X_12.out.to hp)
              have Y_13 := Lib.hid (Y_12.out.to hp)
              have Z_13 := Lib.hid (Z_12.out.to hp)
              have M_13 := Lib.hid (M_12.out.to hp)
              have S_13 := Lib.hid (S_12.out.to hp)
              have P_13 := Lib.hid (P_12.out.to hp)
              clear hp  HP_12 HW_12 L_12 R_12 X_12 Y_12 Z_12 M_12 S_12 P_12
              rw [DZ.out]
              have kS0 := S_13.out.at 0
              have kS1 := S_13.out.at 1
              have kSl := S_13.out.lt
              go_wp2_with fail
              clear kS0 kS1 kSl
              refine (small_any v13 s1 s2 ⟨SS.out.b0, SS.out.b1⟩ ⟨SS.out.a0, SS.out.a1⟩ SS.out.rd).mono ?_
              rintro e v14 ⟨rfl, hp⟩
              have HP_14 := Lib.hid (HP_13.out.trans hp)
              have HW_14 := Lib.hid (HW_13.out.to hp)
              have L_14 := Lib.hid (L_13.out.to hp)
              have R_14 := Lib.hid (R_13.out.to hp)
              have X_14 := Lib.hid (X_13.out.to hp)
              have Y_14 := Lib.hid (Y_13.out.to hp)
              have Z_14 := Lib.hid (Z_13.out.to hp)
              have M_14 := Lib.hid (M_13.out.to hp)
              have S_14 := Lib.hid (S_13.out.to hp)
              have P_14 := Lib.hid (P_13.out.to hp)
              clear hp  HP_13 HW_13 L_13 R_13 X_13 Y_13 Z_13 M_13 S_13 P_13
              have kP0 := P_14.out.at 0
              have kP1 := P_14.out.at 1
              have kPl := P_14.out.lt
              go_wp2_with fail
              clear kP0 kP1 kPl
              refine (small_any v14 p1 p2 ⟨SP.out.b0, SP.out.b1⟩ ⟨SP.out.a0, SP.out.a1⟩ SP.out.rd).mono ?_
              rintro e v15 ⟨rfl, hp⟩
              have HP_15 := Lib.hid (HP_14.out.trans hp)
              have HW_15 := Lib.hid (HW_14.out.to hp)
              have L_15 := Lib.hid (L_14.out.to hp)
              have R_15 := Lib.hid (R_14.out.to hp)
              have X_15 := Lib.hid (X_14.out.to hp)
              have Y_15 := Lib.hid (Y_14.out.to hp)
              have Z_15 := Lib.hid (Z_14.out.to hp)
              have M_15 := Lib.hid (M_14.out.to hp)
              have S_15 := Lib.hid (S_14.out.to hp)
              have P_15 := Lib.hid (P_14.out.to hp)
              clear hp  HP_14 HW_14 L_14 R_14 X_14 Y_14 Z_14 M_14 S_14 P_14
              go_wp2_with fail
              refine WQ.region (C := Pure v15) hmx (by kernel_rfl) ((Diff.refl _).drew) ?_
              refine WQ.val (by rfl) _ (fun V hV => exec_load_pair (.tmp 20) rfl g12_0 s1 s2 rfl (S_15.out.to hV)) ?_
              iterate 1 (refine WQ.step (fun K hK => ?_); go_simp; first | refine hK _ ?_ | refine ⟨_, fun _ _ => rfl, hK _ ?_⟩; clear hK K)
              refine WQ.call (by rfl) 31 #[.int .i64 a, .int .i64 1] (.agg #[.int .i64 a, .int .i64 1]) (fun V => by unfold execOp; simp [go_sem]) (fun V hV => by have h := lby_any V a 1; exact h.mono fun e V2 h => ⟨h.1, hV.trans h.2⟩) ?_
              refine WQ.call (by rfl) 52 #[.agg #[.int .i64 s1, .int .i64 s2], .agg #[.int .i64 a, .int .i64 1]] (.bool true) (fun V => by unfold execOp; simp [go_sem]) (fun V hV => by have h := RLess_any V s1 s2 a 1 ⟨by have := SS.out.a0; omega, by have := SS.out.a1; have := SS.out.b1; omega⟩ ⟨by have := SS.out.b0; omega, by have := SS.out.b1; omega⟩ ⟨by have := HSA.out; omega, by have := HSA.out; omega⟩ ⟨by omega, by omega⟩; rw [HDL.out] at h; exact h.mono fun e V2 h => ⟨h.1, hV.trans h.2⟩) ?_
              iterate 1 (refine WQ.step (fun K hK => ?_); go_simp; first | refine hK _ ?_ | refine ⟨_, fun _ _ => rfl, hK _ ?_⟩; clear hK K)
              refine WQ.skipK (by rfl) (fun K hK => ?_); go_simp; refine hK _ ?_; clear hK K
              refine WQ.skipK (by rfl) (fun K hK => ?_); go_simp; refine hK _ ?_; clear hK K
              refine WQ.skipK (by rfl) (fun K hK => ?_); go_simp; refine hK _ ?_; clear hK K
              refine WQ.skipK (by rfl) (fun K hK => ?_); go_simp; refine hK _ ?_; clear hK K
              refine WQ.skipK (by rfl) (fun K hK => ?_); go_simp; refine hK _ ?_; clear hK K
              refine WQ.skipK (by rfl) (fun K hK => ?_); go_simp; refine hK _ ?_; clear hK K
              refine WQ.skipK (by rfl) (fun K hK => ?_); go_simp; refine hK _ ?_; clear hK K
              iterate 2 (refine WQ.step (fun K hK => ?_); go_simp; first | refine hK _ ?_ | refine ⟨_, fun _ _ => rfl, hK _ ?_⟩; clear hK K)
              refine WQ.call (by rfl) 17 #[] (.bool true) (fun V => by unfold execOp; simp [go_sem]) (fun V hV => (Works_any V (HW_15.out.to hV)).mono fun e V2 h => ⟨h.1, hV.trans h.2⟩) ?_
              iterate 2 (refine WQ.step (fun K hK => ?_); go_simp; first | refine hK _ ?_ | refine ⟨_, fun _ _ => rfl, hK _ ?_⟩; clear hK K)
              refine WQ.nil ?_
              rintro V hV
              have HPE := Lib.hid hV
              clear hV
              go_wp2
              exact bodyPost_ret (v := .bool true) (by simp [results, Tryd.results9, go_sem]) rfl ⟨rfl, HP_15.out.trans HPE.out⟩
        · cases i3
          · cases dl
            · have SX := Lib.hid (HLF.out.1 rfl)
              obtain ⟨-, sy, dy⟩ := HLF.out.2.1 rfl
              have SY := Lib.hid sy
              have DY := Lib.hid dy
              clear sy dy
              have DB := Lib.hid (HLB'.out rfl).2.2
              have SS := Lib.hid HQ.out.ss
              have SP := Lib.hid HQ.out.sp
              clear HLF HLB' HNA HNB HNC
              have kY0 := Y_11.out.at 0
              have kY1 := Y_11.out.at 1
              have kYl := Y_11.out.lt
              have kX0 := X_11.out.at 0
              have kX1 := X_11.out.at 1
              have kXl := X_11.out.lt
              go_wp2_with fail
              clear kY0 kY1 kYl
              clear kX0 kX1 kXl
              obtain ⟨X12, hX12⟩ : ∃ V : World, (v11.alloc (Obj.cells #[Value.int IntKind.i64 s1, Value.int IntKind.i64 s2] 29)).alloc (Obj.cells #[Value.int IntKind.i64 p1, Value.int IntKind.i64 p2] 29) = V := ⟨_, rfl⟩
              have hpX12 : Pure v11 X12 := by rw [← hX12]; exact (((Diff.refl v11).alloc _).alloc _)
              have bS : Blk (v11.heap.size) 29 #[Value.int IntKind.i64 s1, Value.int IntKind.i64 s2] X12 := by rw [← hX12]; exact ((blk0 v11 29 _).alloc _)
              have bP : Blk (v11.heap.size + 1) 29 #[Value.int IntKind.i64 p1, Value.int IntKind.i64 p2] X12 := by rw [← hX12]; exact (blk1 v11 _ 29 _)
              rw [hX12]
              obtain ⟨g12_0, hg12_0⟩ : ∃ g, v11.heap.size = g := ⟨_, rfl⟩
              rw [hg12_0] at bS bP ⊢
              obtain ⟨g12_1, hg12_1⟩ : ∃ g, g12_0 + 1 = g := ⟨_, rfl⟩
              rw [hg12_1] at bP ⊢
              have HP_12 := Lib.hid (HP_11.out.trans hpX12)
              have HW_12 := Lib.hid (HW_11.out.to hpX12)
              have L_12 := Lib.hid (L_11.out.to hpX12)
              have R_12 := Lib.hid (R_11.out.to hpX12)
              have X_12 := Lib.hid (X_11.out.to hpX12)
              have Y_12 := Lib.hid (Y_11.out.to hpX12)
              have Z_12 := Lib.hid (Z_11.out.to hpX12)
              have M_12 := Lib.hid (M_11.out.to hpX12)
              have S_12 := Lib.hid bS
              have P_12 := Lib.hid bP
              clear hX12 hpX12 hg12_1 hg12_0 bS bP HP_11 HW_11 L_11 R_11 X_11 Y_11 Z_11 M_11
              refine (RLess_any X12 y1 y2 x1 x2 ⟨by have := SY.out.a0; omega, by have := SY.out.a1; have := SY.out.b1; omega⟩ ⟨by have := SY.out.b0; omega, by have := SY.out.b1; omega⟩ ⟨by have := SX.out.a0; omega, by have := SX.out.a1; have := SX.out.b1; omega⟩ ⟨by have := SX.out.b0; omega, by have := SX.out.b1; omega⟩).mono ?_
              rintro e v13 ⟨rfl, hp⟩
              have HP_13 := Lib.hid (HP_12.out.trans hp)
              have HW_13 := Lib.hid (HW_12.out.to hp)
              have L_13 := Lib.hid (L_12.out.to hp)
              have R_13 := Lib.hid (R_12.out.to hp)
              have X_13 := Lib.hid (X_12.out.to hp)
              have Y_13 := Lib.hid (Y_12.out.to hp)
              have Z_13 := Lib.hid (Z_12.out.to hp)
              have M_13 := Lib.hid (M_12.out.to hp)
              have S_13 := Lib.hid (S_12.out.to hp)
              have P_13 := Lib.hid (P_12.out.to hp)
              clear hp  HP_12 HW_12 L_12 R_12 X_12 Y_12 Z_12 M_12 S_12 P_12
              rw [DY.out]
              have kS0 := S_13.out.at 0
              have kS1 := S_13.out.at 1
              have kSl := S_13.out.lt
              go_wp2_with fail
              clear kS0 kS1 kSl
              refine (small_any v13 s1 s2 ⟨SS.out.b0, SS.out.b1⟩ ⟨SS.out.a0, SS.out.a1⟩ SS.out.rd).mono ?_
              rintro e v14 ⟨rfl, hp⟩
              have HP_14 := Lib.hid (HP_13.out.trans hp)
              have HW_14 := Lib.hid (HW_13.out.to hp)
              have L_14 := Lib.hid (L_13.out.to hp)
              have R_14 := Lib.hid (R_13.out.to hp)
              have X_14 := Lib.hid (X_13.out.to hp)
              have Y_14 := Lib.hid (Y_13.out.to hp)
              have Z_14 := Lib.hid (Z_13.out.to hp)
              have M_14 := Lib.hid (M_13.out.to hp)
              have S_14 := Lib.hid (S_13.out.to hp)
              have P_14 := Lib.hid (P_13.out.to hp)
              clear hp  HP_13 HW_13 L_13 R_13 X_13 Y_13 Z_13 M_13 S_13 P_13
              have kP0 := P_14.out.at 0
              have kP1 := P_14.out.at 1
              have kPl := P_14.out.lt
              go_wp2_with fail
              clear kP0 kP1 kPl
              refine (small_any v14 p1 p2 ⟨SP.out.b0, SP.out.b1⟩ ⟨SP.out.a0, SP.out.a1⟩ SP.out.rd).mono ?_
              rintro e v15 ⟨rfl, hp⟩
              have HP_15 := Lib.hid (HP_14.out.trans hp)
              have HW_15 := Lib.hid (HW_14.out.to hp)
              have L_15 := Lib.hid (L_14.out.to hp)
              have R_15 := Lib.hid (R_14.out.to hp)
              have X_15 := Lib.hid (X_14.out.to hp)
              have Y_15 := Lib.hid (Y_14.out.to hp)
              have Z_15 := Lib.hid (Z_14.out.to hp)
              have M_15 := Lib.hid (M_14.out.to hp)
              have S_15 := Lib.hid (S_14.out.to hp)
              have P_15 := Lib.hid (P_14.out.to hp)
              clear hp  HP_14 HW_14 L_14 R_14 X_14 Y_14 Z_14 M_14 S_14 P_14
              go_wp2_with fail
              refine WQ.region (C := Pure v15) hmx (by kernel_rfl) ((Diff.refl _).drew) ?_
              refine WQ.val (by rfl) _ (fun V hV => exec_load_pair (.tmp 20) rfl g12_0 s1 s2 rfl (S_15.out.to hV)) ?_
              iterate 1 (refine WQ.step (fun K hK => ?_); go_simp; first | refine hK _ ?_ | refine ⟨_, fun _ _ => rfl, hK _ ?_⟩; clear hK K)
              refine WQ.call (by rfl) 31 #[.int .i64 a, .int .i64 1] (.agg #[.int .i64 a, .int .i64 1]) (fun V => by unfold execOp; simp [go_sem]) (fun V hV => by have h := lby_any V a 1; exact h.mono fun e V2 h => ⟨h.1, hV.trans h.2⟩) ?_
              refine WQ.call (by rfl) 52 #[.agg #[.int .i64 s1, .int .i64 s2], .agg #[.int .i64 a, .int .i64 1]] (.bool false) (fun V => by unfold execOp; simp [go_sem]) (fun V hV => by have h := RLess_any V s1 s2 a 1 ⟨by have := SS.out.a0; omega, by have := SS.out.a1; have := SS.out.b1; omega⟩ ⟨by have := SS.out.b0; omega, by have := SS.out.b1; omega⟩ ⟨by have := HSA.out; omega, by have := HSA.out; omega⟩ ⟨by omega, by omega⟩; rw [HDL.out] at h; exact h.mono fun e V2 h => ⟨h.1, hV.trans h.2⟩) ?_
              iterate 3 (refine WQ.step (fun K hK => ?_); go_simp; first | refine hK _ ?_ | refine ⟨_, fun _ _ => rfl, hK _ ?_⟩; clear hK K)
              refine WQ.val (by rfl) _ (fun V hV => exec_load_pair (.tmp 21) rfl g12_1 p1 p2 rfl (P_15.out.to hV)) ?_
              refine WQ.val (by rfl) _ (fun V hV => exec_load_pair (.tmp 11) rfl g5_0 x1 x2 rfl (X_15.out.to hV)) ?_
              refine WQ.call (by rfl) 52 #[.agg #[.int .i64 p1, .int .i64 p2], .agg #[.int .i64 x1, .int .i64 x2]] (.bool false) (fun V => by unfold execOp; simp [go_sem]) (fun V hV => by have h := RLess_any V p1 p2 x1 x2 ⟨by have := SP.out.a0; omega, by have := SP.out.a1; have := SP.out.b1; omega⟩ ⟨by have := SP.out.b0; omega, by have := SP.out.b1; omega⟩ ⟨by have := SX.out.a0; omega, by have := SX.out.a1; have := SX.out.b1; omega⟩ ⟨by have := SX.out.b0; omega, by have := SX.out.b1; omega⟩; rw [DB.out] at h; exact h.mono fun e V2 h => ⟨h.1, hV.trans h.2⟩) ?_
              iterate 4 (refine WQ.step (fun K hK => ?_); go_simp; first | refine hK _ ?_ | refine ⟨_, fun _ _ => rfl, hK _ ?_⟩; clear hK K)
              refine WQ.call (by rfl) 17 #[] (.bool true) (fun V => by unfold execOp; simp [go_sem]) (fun V hV => (Works_any V (HW_15.out.to hV)).mono fun e V2 h => ⟨h.1, hV.trans h.2⟩) ?_
              iterate 2 (refine WQ.step (fun K hK => ?_); go_simp; first | refine hK _ ?_ | refine ⟨_, fun _ _ => rfl, hK _ ?_⟩; clear hK K)
              refine WQ.nil ?_
              rintro V hV
              have HPE := Lib.hid hV
              clear hV
              go_wp2
              exact bodyPost_ret (v := .bool true) (by simp [results, Tryd.results9, go_sem]) rfl ⟨rfl, HP_15.out.trans HPE.out⟩
            · have SX := Lib.hid (HLF.out.1 rfl)
              obtain ⟨-, sy, dy⟩ := HLF.out.2.1 rfl
              have SY := Lib.hid sy
              have DY := Lib.hid dy
              clear sy dy
              have SS := Lib.hid HQ.out.ss
              have SP := Lib.hid HQ.out.sp
              clear HLF HLB' HNA HNB HNC
              have kY0 := Y_11.out.at 0
              have kY1 := Y_11.out.at 1
              have kYl := Y_11.out.lt
              have kX0 := X_11.out.at 0
              have kX1 := X_11.out.at 1
              have kXl := X_11.out.lt
              go_wp2_with fail
              clear kY0 kY1 kYl
              clear kX0 kX1 kXl
              obtain ⟨X12, hX12⟩ : ∃ V : World, (v11.alloc (Obj.cells #[Value.int IntKind.i64 s1, Value.int IntKind.i64 s2] 29)).alloc (Obj.cells #[Value.int IntKind.i64 p1, Value.int IntKind.i64 p2] 29) = V := ⟨_, rfl⟩
              have hpX12 : Pure v11 X12 := by rw [← hX12]; exact (((Diff.refl v11).alloc _).alloc _)
              have bS : Blk (v11.heap.size) 29 #[Value.int IntKind.i64 s1, Value.int IntKind.i64 s2] X12 := by rw [← hX12]; exact ((blk0 v11 29 _).alloc _)
              have bP : Blk (v11.heap.size + 1) 29 #[Value.int IntKind.i64 p1, Value.int IntKind.i64 p2] X12 := by rw [← hX12]; exact (blk1 v11 _ 29 _)
              rw [hX12]
              obtain ⟨g12_0, hg12_0⟩ : ∃ g, v11.heap.size = g := ⟨_, rfl⟩
              rw [hg12_0] at bS bP ⊢
              obtain ⟨g12_1, hg12_1⟩ : ∃ g, g12_0 + 1 = g := ⟨_, rfl⟩
              rw [hg12_1] at bP ⊢
              have HP_12 := Lib.hid (HP_11.out.trans hpX12)
              have HW_12 := Lib.hid (HW_11.out.to hpX12)
              have L_12 := Lib.hid (L_11.out.to hpX12)
              have R_12 := Lib.hid (R_11.out.to hpX12)
              have X_12 := Lib.hid (X_11.out.to hpX12)
              have Y_12 := Lib.hid (Y_11.out.to hpX12)
              have Z_12 := Lib.hid (Z_11.out.to hpX12)
              have M_12 := Lib.hid (M_11.out.to hpX12)
              have S_12 := Lib.hid bS
              have P_12 := Lib.hid bP
              clear hX12 hpX12 hg12_1 hg12_0 bS bP HP_11 HW_11 L_11 R_11 X_11 Y_11 Z_11 M_11
              refine (RLess_any X12 y1 y2 x1 x2 ⟨by have := SY.out.a0; omega, by have := SY.out.a1; have := SY.out.b1; omega⟩ ⟨by have := SY.out.b0; omega, by have := SY.out.b1; omega⟩ ⟨by have := SX.out.a0; omega, by have := SX.out.a1; have := SX.out.b1; omega⟩ ⟨by have := SX.out.b0; omega, by have := SX.out.b1; omega⟩).mono ?_
              rintro e v13 ⟨rfl, hp⟩
              have HP_13 := Lib.hid (HP_12.out.trans hp)
              have HW_13 := Lib.hid (HW_12.out.to hp)
              have L_13 := Lib.hid (L_12.out.to hp)
              have R_13 := Lib.hid (R_12.out.to hp)
              have X_13 := Lib.hid (X_12.out.to hp)
              have Y_13 := Lib.hid (Y_12.out.to hp)
              have Z_13 := Lib.hid (Z_12.out.to hp)
              have M_13 := Lib.hid (M_12.out.to hp)
              have S_13 := Lib.hid (S_12.out.to hp)
              have P_13 := Lib.hid (P_12.out.to hp)
              clear hp  HP_12 HW_12 L_12 R_12 X_12 Y_12 Z_12 M_12 S_12 P_12
              rw [DY.out]
              have kS0 := S_13.out.at 0
              have kS1 := S_13.out.at 1
              have kSl := S_13.out.lt
              go_wp2_with fail
              clear kS0 kS1 kSl
              refine (small_any v13 s1 s2 ⟨SS.out.b0, SS.out.b1⟩ ⟨SS.out.a0, SS.out.a1⟩ SS.out.rd).mono ?_
              rintro e v14 ⟨rfl, hp⟩
              have HP_14 := Lib.hid (HP_13.out.trans hp)
              have HW_14 := Lib.hid (HW_13.out.to hp)
              have L_14 := Lib.hid (L_13.out.to hp)
              have R_14 := Lib.hid (R_13.out.to hp)
              have X_14 := Lib.hid (X_13.out.to hp)
              have Y_14 := Lib.hid (Y_13.out.to hp)
              have Z_14 := Lib.hid (Z_13.out.to hp)
              have M_14 := Lib.hid (M_13.out.to hp)
              have S_14 := Lib.hid (S_13.out.to hp)
              have P_14 := Lib.hid (P_13.out.to hp)
              clear hp  HP_13 HW_13 L_13 R_13 X_13 Y_13 Z_13 M_13 S_13 P_13
              have kP0 := P_14.out.at 0
              have kP1 := P_14.out.at 1
              have kPl := P_14.out.lt
              go_wp2_with fail
              clear kP0 kP1 kPl
              refine (small_any v14 p1 p2 ⟨SP.out.b0, SP.out.b1⟩ ⟨SP.out.a0, SP.out.a1⟩ SP.out.rd).mono ?_
              rintro e v15 ⟨rfl, hp⟩
              have HP_15 := Lib.hid (HP_14.out.trans hp)
              have HW_15 := Lib.hid (HW_14.out.to hp)
              have L_15 := Lib.hid (L_14.out.to hp)
              have R_15 := Lib.hid (R_14.out.to hp)
              have X_15 := Lib.hid (X_14.out.to hp)
              have Y_15 := Lib.hid (Y_14.out.to hp)
              have Z_15 := Lib.hid (Z_14.out.to hp)
              have M_15 := Lib.hid (M_14.out.to hp)
              have S_15 := Lib.hid (S_14.out.to hp)
              have P_15 := Lib.hid (P_14.out.to hp)
              clear hp  HP_14 HW_14 L_14 R_14 X_14 Y_14 Z_14 M_14 S_14 P_14
              go_wp2_with fail
              refine WQ.region (C := Pure v15) hmx (by kernel_rfl) ((Diff.refl _).drew) ?_
              refine WQ.val (by rfl) _ (fun V hV => exec_load_pair (.tmp 20) rfl g12_0 s1 s2 rfl (S_15.out.to hV)) ?_
              iterate 1 (refine WQ.step (fun K hK => ?_); go_simp; first | refine hK _ ?_ | refine ⟨_, fun _ _ => rfl, hK _ ?_⟩; clear hK K)
              refine WQ.call (by rfl) 31 #[.int .i64 a, .int .i64 1] (.agg #[.int .i64 a, .int .i64 1]) (fun V => by unfold execOp; simp [go_sem]) (fun V hV => by have h := lby_any V a 1; exact h.mono fun e V2 h => ⟨h.1, hV.trans h.2⟩) ?_
              refine WQ.call (by rfl) 52 #[.agg #[.int .i64 s1, .int .i64 s2], .agg #[.int .i64 a, .int .i64 1]] (.bool true) (fun V => by unfold execOp; simp [go_sem]) (fun V hV => by have h := RLess_any V s1 s2 a 1 ⟨by have := SS.out.a0; omega, by have := SS.out.a1; have := SS.out.b1; omega⟩ ⟨by have := SS.out.b0; omega, by have := SS.out.b1; omega⟩ ⟨by have := HSA.out; omega, by have := HSA.out; omega⟩ ⟨by omega, by omega⟩; rw [HDL.out] at h; exact h.mono fun e V2 h => ⟨h.1, hV.trans h.2⟩) ?_
              iterate 1 (refine WQ.step (fun K hK => ?_); go_simp; first | refine hK _ ?_ | refine ⟨_, fun _ _ => rfl, hK _ ?_⟩; clear hK K)
              refine WQ.skipK (by rfl) (fun K hK => ?_); go_simp; refine hK _ ?_; clear hK K
              refine WQ.skipK (by rfl) (fun K hK => ?_); go_simp; refine hK _ ?_; clear hK K
              refine WQ.skipK (by rfl) (fun K hK => ?_); go_simp; refine hK _ ?_; clear hK K
              refine WQ.skipK (by rfl) (fun K hK => ?_); go_simp; refine hK _ ?_; clear hK K
              refine WQ.skipK (by rfl) (fun K hK => ?_); go_simp; refine hK _ ?_; clear hK K
              refine WQ.skipK (by rfl) (fun K hK => ?_); go_simp; refine hK _ ?_; clear hK K
              refine WQ.skipK (by rfl) (fun K hK => ?_); go_simp; refine hK _ ?_; clear hK K
              iterate 2 (refine WQ.step (fun K hK => ?_); go_simp; first | refine hK _ ?_ | refine ⟨_, fun _ _ => rfl, hK _ ?_⟩; clear hK K)
              refine WQ.call (by rfl) 17 #[] (.bool true) (fun V => by unfold execOp; simp [go_sem]) (fun V hV => (Works_any V (HW_15.out.to hV)).mono fun e V2 h => ⟨h.1, hV.trans h.2⟩) ?_
              iterate 2 (refine WQ.step (fun K hK => ?_); go_simp; first | refine hK _ ?_ | refine ⟨_, fun _ _ => rfl, hK _ ?_⟩; clear hK K)
              refine WQ.nil ?_
              rintro V hV
              have HPE := Lib.hid hV
              clear hV
              go_wp2
              exact bodyPost_ret (v := .bool true) (by simp [results, Tryd.results9, go_sem]) rfl ⟨rfl, HP_15.out.trans HPE.out⟩
          · cases dl
            · have SX := Lib.hid (HLF.out.1 rfl)
              obtain ⟨-, sy, dy⟩ := HLF.out.2.1 rfl
              have SY := Lib.hid sy
              have DY := Lib.hid dy
              clear sy dy
              obtain ⟨-, sz, dz⟩ := HLF.out.2.2 rfl
              have SZ := Lib.hid sz
              have DZ := Lib.hid dz
              clear sz dz
              have DB := Lib.hid (HLB'.out rfl).2.2
              have SS := Lib.hid HQ.out.ss
              have SP := Lib.hid HQ.out.sp
              clear HLF HLB' HNA HNB HNC
              have kZ0 := Z_11.out.at 0
              have kZ1 := Z_11.out.at 1
              have kZl := Z_11.out.lt
              have kX0 := X_11.out.at 0
              have kX1 := X_11.out.at 1
              have kXl := X_11.out.lt
              go_wp2_with fail
              clear kZ0 kZ1 kZl
              clear kX0 kX1 kXl
              obtain ⟨X12, hX12⟩ : ∃ V : World, (v11.alloc (Obj.cells #[Value.int IntKind.i64 s1, Value.int IntKind.i64 s2] 29)).alloc (Obj.cells #[Value.int IntKind.i64 p1, Value.int IntKind.i64 p2] 29) = V := ⟨_, rfl⟩
              have hpX12 : Pure v11 X12 := by rw [← hX12]; exact (((Diff.refl v11).alloc _).alloc _)
              have bS : Blk (v11.heap.size) 29 #[Value.int IntKind.i64 s1, Value.int IntKind.i64 s2] X12 := by rw [← hX12]; exact ((blk0 v11 29 _).alloc _)
              have bP : Blk (v11.heap.size + 1) 29 #[Value.int IntKind.i64 p1, Value.int IntKind.i64 p2] X12 := by rw [← hX12]; exact (blk1 v11 _ 29 _)
              rw [hX12]
              obtain ⟨g12_0, hg12_0⟩ : ∃ g, v11.heap.size = g := ⟨_, rfl⟩
              rw [hg12_0] at bS bP ⊢
              obtain ⟨g12_1, hg12_1⟩ : ∃ g, g12_0 + 1 = g := ⟨_, rfl⟩
              rw [hg12_1] at bP ⊢
              have HP_12 := Lib.hid (HP_11.out.trans hpX12)
              have HW_12 := Lib.hid (HW_11.out.to hpX12)
              have L_12 := Lib.hid (L_11.out.to hpX12)
              have R_12 := Lib.hid (R_11.out.to hpX12)
              have X_12 := Lib.hid (X_11.out.to hpX12)
              have Y_12 := Lib.hid (Y_11.out.to hpX12)
              have Z_12 := Lib.hid (Z_11.out.to hpX12)
              have M_12 := Lib.hid (M_11.out.to hpX12)
              have S_12 := Lib.hid bS
              have P_12 := Lib.hid bP
              clear hX12 hpX12 hg12_1 hg12_0 bS bP HP_11 HW_11 L_11 R_11 X_11 Y_11 Z_11 M_11
              refine (RLess_any X12 z1 z2 x1 x2 ⟨by have := SZ.out.a0; omega, by have := SZ.out.a1; have := SZ.out.b1; omega⟩ ⟨by have := SZ.out.b0; omega, by have := SZ.out.b1; omega⟩ ⟨by have := SX.out.a0; omega, by have := SX.out.a1; have := SX.out.b1; omega⟩ ⟨by have := SX.out.b0; omega, by have := SX.out.b1; omega⟩).mono ?_
              rintro e v13 ⟨rfl, hp⟩
              have HP_13 := Lib.hid (HP_12.out.trans hp)
              have HW_13 := Lib.hid (HW_12.out.to hp)
              have L_13 := Lib.hid (L_12.out.to hp)
              have R_13 := Lib.hid (R_12.out.to hp)
              have X_13 := Lib.hid (X_12.out.to hp)
              have Y_13 := Lib.hid (Y_12.out.to hp)
              have Z_13 := Lib.hid (Z_12.out.to hp)
              have M_13 := Lib.hid (M_12.out.to hp)
              have S_13 := Lib.hid (S_12.out.to hp)
              have P_13 := Lib.hid (P_12.out.to hp)
              clear hp  HP_12 HW_12 L_12 R_12 X_12 Y_12 Z_12 M_12 S_12 P_12
              rw [DZ.out]
              have kY0 := Y_13.out.at 0
              have kY1 := Y_13.out.at 1
              have kYl := Y_13.out.lt
              have kX0 := X_13.out.at 0
              have kX1 := X_13.out.at 1
              have kXl := X_13.out.lt
              go_wp2_with fail
              clear kY0 kY1 kYl
              clear kX0 kX1 kXl
              refine (RLess_any v13 y1 y2 x1 x2 ⟨by have := SY.out.a0; omega, by have := SY.out.a1; have := SY.out.b1; omega⟩ ⟨by have := SY.out.b0; omega, by have := SY.out.b1; omega⟩ ⟨by have := SX.out.a0; omega, by have := SX.out.a1; have := SX.out.b1; omega⟩ ⟨by have := SX.out.b0; omega, by have := SX.out.b1; omega⟩).mono ?_
              rintro e v14 ⟨rfl, hp⟩
              have HP_14 := Lib.hid (HP_13.out.trans hp)
              have HW_14 := Lib.hid (HW_13.out.to hp)
              have L_14 := Lib.hid (L_13.out.to hp)
              have R_14 := Lib.hid (R_13.out.to hp)
              have X_14 := Lib.hid (X_13.out.to hp)
              have Y_14 := Lib.hid (Y_13.out.to hp)
              have Z_14 := Lib.hid (Z_13.out.to hp)
              have M_14 := Lib.hid (M_13.out.to hp)
              have S_14 := Lib.hid (S_13.out.to hp)
              have P_14 := Lib.hid (P_13.out.to hp)
              clear hp  HP_13 HW_13 L_13 R_13 X_13 Y_13 Z_13 M_13 S_13 P_13
              rw [DY.out]
              have kS0 := S_14.out.at 0
              have kS1 := S_14.out.at 1
              have kSl := S_14.out.lt
              go_wp2_with fail
              clear kS0 kS1 kSl
              refine (small_any v14 s1 s2 ⟨SS.out.b0, SS.out.b1⟩ ⟨SS.out.a0, SS.out.a1⟩ SS.out.rd).mono ?_
              rintro e v15 ⟨rfl, hp⟩
              have HP_15 := Lib.hid (HP_14.out.trans hp)
              have HW_15 := Lib.hid (HW_14.out.to hp)
              have L_15 := Lib.hid (L_14.out.to hp)
              have R_15 := Lib.hid (R_14.out.to hp)
              have X_15 := Lib.hid (X_14.out.to hp)
              have Y_15 := Lib.hid (Y_14.out.to hp)
              have Z_15 := Lib.hid (Z_14.out.to hp)
              have M_15 := Lib.hid (M_14.out.to hp)
              have S_15 := Lib.hid (S_14.out.to hp)
              have P_15 := Lib.hid (P_14.out.to hp)
              clear hp  HP_14 HW_14 L_14 R_14 X_14 Y_14 Z_14 M_14 S_14 P_14
              have kP0 := P_15.out.at 0
              have kP1 := P_15.out.at 1
              have kPl := P_15.out.lt
              go_wp2_with fail
              clear kP0 kP1 kPl
              refine (small_any v15 p1 p2 ⟨SP.out.b0, SP.out.b1⟩ ⟨SP.out.a0, SP.out.a1⟩ SP.out.rd).mono ?_
              rintro e v16 ⟨rfl, hp⟩
              have HP_16 := Lib.hid (HP_15.out.trans hp)
              have HW_16 := Lib.hid (HW_15.out.to hp)
              have L_16 := Lib.hid (L_15.out.to hp)
              have R_16 := Lib.hid (R_15.out.to hp)
              have X_16 := Lib.hid (X_15.out.to hp)
              have Y_16 := Lib.hid (Y_15.out.to hp)
              have Z_16 := Lib.hid (Z_15.out.to hp)
              have M_16 := Lib.hid (M_15.out.to hp)
              have S_16 := Lib.hid (S_15.out.to hp)
              have P_16 := Lib.hid (P_15.out.to hp)
              clear hp  HP_15 HW_15 L_15 R_15 X_15 Y_15 Z_15 M_15 S_15 P_15
              go_wp2_with fail
              refine WQ.region (C := Pure v16) hmx (by kernel_rfl) ((Diff.refl _).drew) ?_
              refine WQ.val (by rfl) _ (fun V hV => exec_load_pair (.tmp 20) rfl g12_0 s1 s2 rfl (S_16.out.to hV)) ?_
              iterate 1 (refine WQ.step (fun K hK => ?_); go_simp; first | refine hK _ ?_ | refine ⟨_, fun _ _ => rfl, hK _ ?_⟩; clear hK K)
              refine WQ.call (by rfl) 31 #[.int .i64 a, .int .i64 1] (.agg #[.int .i64 a, .int .i64 1]) (fun V => by unfold execOp; simp [go_sem]) (fun V hV => by have h := lby_any V a 1; exact h.mono fun e V2 h => ⟨h.1, hV.trans h.2⟩) ?_
              refine WQ.call (by rfl) 52 #[.agg #[.int .i64 s1, .int .i64 s2], .agg #[.int .i64 a, .int .i64 1]] (.bool false) (fun V => by unfold execOp; simp [go_sem]) (fun V hV => by have h := RLess_any V s1 s2 a 1 ⟨by have := SS.out.a0; omega, by have := SS.out.a1; have := SS.out.b1; omega⟩ ⟨by have := SS.out.b0; omega, by have := SS.out.b1; omega⟩ ⟨by have := HSA.out; omega, by have := HSA.out; omega⟩ ⟨by omega, by omega⟩; rw [HDL.out] at h; exact h.mono fun e V2 h => ⟨h.1, hV.trans h.2⟩) ?_
              iterate 3 (refine WQ.step (fun K hK => ?_); go_simp; first | refine hK _ ?_ | refine ⟨_, fun _ _ => rfl, hK _ ?_⟩; clear hK K)
              refine WQ.val (by rfl) _ (fun V hV => exec_load_pair (.tmp 21) rfl g12_1 p1 p2 rfl (P_16.out.to hV)) ?_
              refine WQ.val (by rfl) _ (fun V hV => exec_load_pair (.tmp 11) rfl g5_0 x1 x2 rfl (X_16.out.to hV)) ?_
              refine WQ.call (by rfl) 52 #[.agg #[.int .i64 p1, .int .i64 p2], .agg #[.int .i64 x1, .int .i64 x2]] (.bool false) (fun V => by unfold execOp; simp [go_sem]) (fun V hV => by have h := RLess_any V p1 p2 x1 x2 ⟨by have := SP.out.a0; omega, by have := SP.out.a1; have := SP.out.b1; omega⟩ ⟨by have := SP.out.b0; omega, by have := SP.out.b1; omega⟩ ⟨by have := SX.out.a0; omega, by have := SX.out.a1; have := SX.out.b1; omega⟩ ⟨by have := SX.out.b0; omega, by have := SX.out.b1; omega⟩; rw [DB.out] at h; exact h.mono fun e V2 h => ⟨h.1, hV.trans h.2⟩) ?_
              iterate 4 (refine WQ.step (fun K hK => ?_); go_simp; first | refine hK _ ?_ | refine ⟨_, fun _ _ => rfl, hK _ ?_⟩; clear hK K)
              refine WQ.call (by rfl) 17 #[] (.bool true) (fun V => by unfold execOp; simp [go_sem]) (fun V hV => (Works_any V (HW_16.out.to hV)).mono fun e V2 h => ⟨h.1, hV.trans h.2⟩) ?_
              iterate 2 (refine WQ.step (fun K hK => ?_); go_simp; first | refine hK _ ?_ | refine ⟨_, fun _ _ => rfl, hK _ ?_⟩; clear hK K)
              refine WQ.nil ?_
              rintro V hV
              have HPE := Lib.hid hV
              clear hV
              go_wp2
              exact bodyPost_ret (v := .bool true) (by simp [results, Tryd.results9, go_sem]) rfl ⟨rfl, HP_16.out.trans HPE.out⟩
            · have SX := Lib.hid (HLF.out.1 rfl)
              obtain ⟨-, sy, dy⟩ := HLF.out.2.1 rfl
              have SY := Lib.hid sy
              have DY := Lib.hid dy
              clear sy dy
              obtain ⟨-, sz, dz⟩ := HLF.out.2.2 rfl
              have SZ := Lib.hid sz
              have DZ := Lib.hid dz
              clear sz dz
              have SS := Lib.hid HQ.out.ss
              have SP := Lib.hid HQ.out.sp
              clear HLF HLB' HNA HNB HNC
              have kZ0 := Z_11.out.at 0
              have kZ1 := Z_11.out.at 1
              have kZl := Z_11.out.lt
              have kX0 := X_11.out.at 0
              have kX1 := X_11.out.at 1
              have kXl := X_11.out.lt
              go_wp2_with fail
              clear kZ0 kZ1 kZl
              clear kX0 kX1 kXl
              obtain ⟨X12, hX12⟩ : ∃ V : World, (v11.alloc (Obj.cells #[Value.int IntKind.i64 s1, Value.int IntKind.i64 s2] 29)).alloc (Obj.cells #[Value.int IntKind.i64 p1, Value.int IntKind.i64 p2] 29) = V := ⟨_, rfl⟩
              have hpX12 : Pure v11 X12 := by rw [← hX12]; exact (((Diff.refl v11).alloc _).alloc _)
              have bS : Blk (v11.heap.size) 29 #[Value.int IntKind.i64 s1, Value.int IntKind.i64 s2] X12 := by rw [← hX12]; exact ((blk0 v11 29 _).alloc _)
              have bP : Blk (v11.heap.size + 1) 29 #[Value.int IntKind.i64 p1, Value.int IntKind.i64 p2] X12 := by rw [← hX12]; exact (blk1 v11 _ 29 _)
              rw [hX12]
              obtain ⟨g12_0, hg12_0⟩ : ∃ g, v11.heap.size = g := ⟨_, rfl⟩
              rw [hg12_0] at bS bP ⊢
              obtain ⟨g12_1, hg12_1⟩ : ∃ g, g12_0 + 1 = g := ⟨_, rfl⟩
              rw [hg12_1] at bP ⊢
              have HP_12 := Lib.hid (HP_11.out.trans hpX12)
              have HW_12 := Lib.hid (HW_11.out.to hpX12)
              have L_12 := Lib.hid (L_11.out.to hpX12)
              have R_12 := Lib.hid (R_11.out.to hpX12)
              have X_12 := Lib.hid (X_11.out.to hpX12)
              have Y_12 := Lib.hid (Y_11.out.to hpX12)
              have Z_12 := Lib.hid (Z_11.out.to hpX12)
              have M_12 := Lib.hid (M_11.out.to hpX12)
              have S_12 := Lib.hid bS
              have P_12 := Lib.hid bP
              clear hX12 hpX12 hg12_1 hg12_0 bS bP HP_11 HW_11 L_11 R_11 X_11 Y_11 Z_11 M_11
              refine (RLess_any X12 z1 z2 x1 x2 ⟨by have := SZ.out.a0; omega, by have := SZ.out.a1; have := SZ.out.b1; omega⟩ ⟨by have := SZ.out.b0; omega, by have := SZ.out.b1; omega⟩ ⟨by have := SX.out.a0; omega, by have := SX.out.a1; have := SX.out.b1; omega⟩ ⟨by have := SX.out.b0; omega, by have := SX.out.b1; omega⟩).mono ?_
              rintro e v13 ⟨rfl, hp⟩
              have HP_13 := Lib.hid (HP_12.out.trans hp)
              have HW_13 := Lib.hid (HW_12.out.to hp)
              have L_13 := Lib.hid (L_12.out.to hp)
              have R_13 := Lib.hid (R_12.out.to hp)
              have X_13 := Lib.hid (X_12.out.to hp)
              have Y_13 := Lib.hid (Y_12.out.to hp)
              have Z_13 := Lib.hid (Z_12.out.to hp)
              have M_13 := Lib.hid (M_12.out.to hp)
              have S_13 := Lib.hid (S_12.out.to hp)
              have P_13 := Lib.hid (P_12.out.to hp)
              clear hp  HP_12 HW_12 L_12 R_12 X_12 Y_12 Z_12 M_12 S_12 P_12
              rw [DZ.out]
              have kY0 := Y_13.out.at 0
              have kY1 := Y_13.out.at 1
              have kYl := Y_13.out.lt
              have kX0 := X_13.out.at 0
              have kX1 := X_13.out.at 1
              have kXl := X_13.out.lt
              go_wp2_with fail
              clear kY0 kY1 kYl
              clear kX0 kX1 kXl
              refine (RLess_any v13 y1 y2 x1 x2 ⟨by have := SY.out.a0; omega, by have := SY.out.a1; have := SY.out.b1; omega⟩ ⟨by have := SY.out.b0; omega, by have := SY.out.b1; omega⟩ ⟨by have := SX.out.a0; omega, by have := SX.out.a1; have := SX.out.b1; omega⟩ ⟨by have := SX.out.b0; omega, by have := SX.out.b1; omega⟩).mono ?_
              rintro e v14 ⟨rfl, hp⟩
              have HP_14 := Lib.hid (HP_13.out.trans hp)
              have HW_14 := Lib.hid (HW_13.out.to hp)
              have L_14 := Lib.hid (L_13.out.to hp)
              have R_14 := Lib.hid (R_13.out.to hp)
              have X_14 := Lib.hid (X_13.out.to hp)
              have Y_14 := Lib.hid (Y_13.out.to hp)
              have Z_14 := Lib.hid (Z_13.out.to hp)
              have M_14 := Lib.hid (M_13.out.to hp)
              have S_14 := Lib.hid (S_13.out.to hp)
              have P_14 := Lib.hid (P_13.out.to hp)
              clear hp  HP_13 HW_13 L_13 R_13 X_13 Y_13 Z_13 M_13 S_13 P_13
              rw [DY.out]
              have kS0 := S_14.out.at 0
              have kS1 := S_14.out.at 1
              have kSl := S_14.out.lt
              go_wp2_with fail
              clear kS0 kS1 kSl
              refine (small_any v14 s1 s2 ⟨SS.out.b0, SS.out.b1⟩ ⟨SS.out.a0, SS.out.a1⟩ SS.out.rd).mono ?_
              rintro e v15 ⟨rfl, hp⟩
              have HP_15 := Lib.hid (HP_14.out.trans hp)
              have HW_15 := Lib.hid (HW_14.out.to hp)
              have L_15 := Lib.hid (L_14.out.to hp)
              have R_15 := Lib.hid (R_14.out.to hp)
              have X_15 := Lib.hid (X_14.out.to hp)
              have Y_15 := Lib.hid (Y_14.out.to hp)
              have Z_15 := Lib.hid (Z_14.out.to hp)
              have M_15 := Lib.hid (M_14.out.to hp)
              have S_15 := Lib.hid (S_14.out.to hp)
              have P_15 := Lib.hid (P_14.out.to hp)
              clear hp  HP_14 HW_14 L_14 R_14 X_14 Y_14 Z_14 M_14 S_14 P_14
              have kP0 := P_15.out.at 0
              have kP1 := P_15.out.at 1
              have kPl := P_15.out.lt
              go_wp2_with fail
              clear kP0 kP1 kPl
              refine (small_any v15 p1 p2 ⟨SP.out.b0, SP.out.b1⟩ ⟨SP.out.a0, SP.out.a1⟩ SP.out.rd).mono ?_
              rintro e v16 ⟨rfl, hp⟩
              have HP_16 := Lib.hid (HP_15.out.trans hp)
              have HW_16 := Lib.hid (HW_15.out.to hp)
              have L_16 := Lib.hid (L_15.out.to hp)
              have R_16 := Lib.hid (R_15.out.to hp)
              have X_16 := Lib.hid (X_15.out.to hp)
              have Y_16 := Lib.hid (Y_15.out.to hp)
              have Z_16 := Lib.hid (Z_15.out.to hp)
              have M_16 := Lib.hid (M_15.out.to hp)
              have S_16 := Lib.hid (S_15.out.to hp)
              have P_16 := Lib.hid (P_15.out.to hp)
              clear hp  HP_15 HW_15 L_15 R_15 X_15 Y_15 Z_15 M_15 S_15 P_15
              go_wp2_with fail
              refine WQ.region (C := Pure v16) hmx (by kernel_rfl) ((Diff.refl _).drew) ?_
              refine WQ.val (by rfl) _ (fun V hV => exec_load_pair (.tmp 20) rfl g12_0 s1 s2 rfl (S_16.out.to hV)) ?_
              iterate 1 (refine WQ.step (fun K hK => ?_); go_simp; first | refine hK _ ?_ | refine ⟨_, fun _ _ => rfl, hK _ ?_⟩; clear hK K)
              refine WQ.call (by rfl) 31 #[.int .i64 a, .int .i64 1] (.agg #[.int .i64 a, .int .i64 1]) (fun V => by unfold execOp; simp [go_sem]) (fun V hV => by have h := lby_any V a 1; exact h.mono fun e V2 h => ⟨h.1, hV.trans h.2⟩) ?_
              refine WQ.call (by rfl) 52 #[.agg #[.int .i64 s1, .int .i64 s2], .agg #[.int .i64 a, .int .i64 1]] (.bool true) (fun V => by unfold execOp; simp [go_sem]) (fun V hV => by have h := RLess_any V s1 s2 a 1 ⟨by have := SS.out.a0; omega, by have := SS.out.a1; have := SS.out.b1; omega⟩ ⟨by have := SS.out.b0; omega, by have := SS.out.b1; omega⟩ ⟨by have := HSA.out; omega, by have := HSA.out; omega⟩ ⟨by omega, by omega⟩; rw [HDL.out] at h; exact h.mono fun e V2 h => ⟨h.1, hV.trans h.2⟩) ?_
              iterate 1 (refine WQ.step (fun K hK => ?_); go_simp; first | refine hK _ ?_ | refine ⟨_, fun _ _ => rfl, hK _ ?_⟩; clear hK K)
              refine WQ.skipK (by rfl) (fun K hK => ?_); go_simp; refine hK _ ?_; clear hK K
              refine WQ.skipK (by rfl) (fun K hK => ?_); go_simp; refine hK _ ?_; clear hK K
              refine WQ.skipK (by rfl) (fun K hK => ?_); go_simp; refine hK _ ?_; clear hK K
              refine WQ.skipK (by rfl) (fun K hK => ?_); go_simp; refine hK _ ?_; clear hK K
              refine WQ.skipK (by rfl) (fun K hK => ?_); go_simp; refine hK _ ?_; clear hK K
              refine WQ.skipK (by rfl) (fun K hK => ?_); go_simp; refine hK _ ?_; clear hK K
              refine WQ.skipK (by rfl) (fun K hK => ?_); go_simp; refine hK _ ?_; clear hK K
              iterate 2 (refine WQ.step (fun K hK => ?_); go_simp; first | refine hK _ ?_ | refine ⟨_, fun _ _ => rfl, hK _ ?_⟩; clear hK K)
              refine WQ.call (by rfl) 17 #[] (.bool true) (fun V => by unfold execOp; simp [go_sem]) (fun V hV => (Works_any V (HW_16.out.to hV)).mono fun e V2 h => ⟨h.1, hV.trans h.2⟩) ?_
              iterate 2 (refine WQ.step (fun K hK => ?_); go_simp; first | refine hK _ ?_ | refine ⟨_, fun _ _ => rfl, hK _ ?_⟩; clear hK K)
              refine WQ.nil ?_
              rintro V hV
              have HPE := Lib.hid hV
              clear hV
              go_wp2
              exact bodyPost_ret (v := .bool true) (by simp [results, Tryd.results9, go_sem]) rfl ⟨rfl, HP_16.out.trans HPE.out⟩
end Go.Proofs.YtgpfmnjianflaaaDoor
