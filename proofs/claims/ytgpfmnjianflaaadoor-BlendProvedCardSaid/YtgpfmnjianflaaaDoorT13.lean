/- Walk of BlendProved, the theorem of the stage. -/
import Derived.Test.YtgpfmnjianflaaaDoorE5
import Derived.Test.YtgpfmnjianflaaaDoorR22
set_option linter.unusedSimpArgs false
set_option linter.unusedVariables false
set_option linter.constructorNameAsVariable false
namespace Go.Proofs.YtgpfmnjianflaaaDoor
open Go.RowKit

theorem wf_u16p {n : Int} (h : (Lit.int .u16 n).wf = true) : 0 ≤ n ∧ n ≤ 65535 := by
  unfold Lit.wf at h
  rw [Bool.and_eq_true] at h
  exact ⟨of_decide_eq_true h.1, of_decide_eq_true h.2⟩
/-- How great the numbers are that the law multiplies. -/
theorem proved_bnd {D x y t s1 s2 p1 p2 : Int} (hb : OkB (D, x, y)) (ht : 0 ≤ t ∧ t ≤ 100) (hs : Sf s1 s2) (hp : Sf p1 p2) :
    (-105906176 ≤ x + y * t ∧ x + y * t ≤ 105906176) ∧ (-104857600 ≤ y * t ∧ y * t ≤ 104857600) ∧ (-10485760000 ≤ x * s2 ∧ x * s2 ≤ 10485760000) ∧ (-10485760000000 ≤ y * s1 ∧ y * s1 ≤ 10485760000000) ∧
      (-10496245760000 ≤ x * s2 + y * s1 ∧ x * s2 + y * s1 ≤ 10496245760000) ∧ (-104962457600000000 ≤ (x * s2 + y * s1) * p2 ∧ (x * s2 + y * s1) * p2 ≤ 104962457600000000) ∧ (0 ≤ p1 * D ∧ p1 * D ≤ 1000000000) ∧ (0 ≤ p1 * D * s2 ∧ p1 * D * s2 ≤ 10000000000000) := by
  obtain ⟨⟨d0, d1⟩, ⟨x0, x1⟩, y0, y1⟩ := hb
  simp only at d0 d1 x0 x1 y0 y1
  have a1 := mul_bnd (a := y) (b := t) 1048576 100 y0 y1 (by omega) (by omega)
  have hs' := hs.b0
  have hs'' := hs.b1
  have hsa := hs.a0
  have a2 := mul_bnd (a := x) (b := s2) 1048576 10000 x0 x1 (by omega) (by omega)
  have a3 := mul_bnd (a := y) (b := s1) 1048576 10000000 y0 y1 (by omega) (by have := hs.a1; omega)
  have hp' := hp.b0
  have hp'' := hp.b1
  have hpa := hp.a0
  have hpb := hp.a1
  have a4 := mul_bnd (a := x * s2 + y * s1) (b := p2) 10496245760000 10000 (by omega) (by omega) (by omega) (by omega)
  have a5 := mul_bnd (a := p1) (b := D) 10000000 100 (by omega) (by omega) (by omega) (by omega)
  have a6 : 0 ≤ p1 * D := Int.mul_nonneg (by omega) (by omega)
  have a7 := mul_bnd (a := p1 * D) (b := s2) 1000000000 10000 (by omega) (by omega) (by omega) (by omega)
  have a8 : 0 ≤ p1 * D * s2 := Int.mul_nonneg a6 (by omega)
  refine ⟨⟨by omega, by omega⟩, ⟨by omega, by omega⟩, ⟨by omega, by omega⟩, ⟨by omega, by omega⟩, ⟨by omega, by omega⟩, ⟨by omega, by omega⟩, ⟨by omega, by omega⟩, by omega, by omega⟩
theorem exec_load_line {o : Oper} {a : Act} {w : World} (x : Operand) (ho : o.op = .load 45 x) (g : Nat) (u v z : Int)
    (hx : a.eval x = .pointer (some ⟨g, 0, none⟩)) (hg : Blk g 45 #[.int .i64 u, .int .i64 v, .int .i64 z] w) : (execOp a.eval o).run Tryd.prog w = .ok (.value (.agg #[.int .i64 u, .int .i64 v, .int .i64 z])) w := by
  have z0 := hg.at 0
  have z1 := hg.at 1
  have z2 := hg.at 2
  have zl := hg.lt
  unfold execOp
  simp only [ho, hx]
  go_simp
set_option maxRecDepth 20000 in
set_option maxHeartbeats 8000000 in
theorem ProvedLaw_any (w : World) (L : LT) (p : Option Addr) (cap : Nat) (q : Option Addr) (m c : Nat) (f : Nat → Int) (D x y n : Int) (hl : LotsAt w.heap.size w p L) (hr : Row w.heap.size w q m fun k => .int .u16 (f k)) (hw : ∀ k, k < m → (Lit.int .u16 (f k)).wf = true) (hx : (Lit.int .i64 D).wf = true) (hy : (Lit.int .i64 x).wf = true) (hz : (Lit.int .i64 y).wf = true) (hn : (Lit.int .u8 n).wf = true) (hg : Gl w) :
    Calls Tryd.prog 7 #[.slice p L.n cap, .slice q m c, .agg #[.int .i64 D, .int .i64 x, .int .i64 y], .int .u8 n] w fun e w' => e = .returned (.bool true) ∧ Pure w w' := by
  have hmx : Tryd.prog.follows .mixedOrders = true := by kernel_rfl
  have HG := Lib.hid hg
  have HL := Lib.hid hl
  have HN8 := Lib.hid (wf_u8 hn)
  have HR := Lib.hid hr
  have HFW : Hid (∀ k, k < m → 0 ≤ f k ∧ f k ≤ 65535) := fun k hk => wf_u16p (hw k hk)
  have HP0 : Hid (Pure w w) := Diff.refl w
  clear hg hl hr hw hx hy hz hn
  go_enter Tryd.func7, Tryd.ntmps7
  go_wp2_with fail
  obtain ⟨X0, hX0⟩ : ∃ V : World, w.alloc (Obj.cells #[Value.int IntKind.i64 D, Value.int IntKind.i64 x, Value.int IntKind.i64 y] 45) = V := ⟨_, rfl⟩
  have hpX0 : Pure w X0 := by rw [← hX0]; exact ((Diff.refl w).alloc _)
  have bN : Blk (w.heap.size) 45 #[Value.int IntKind.i64 D, Value.int IntKind.i64 x, Value.int IntKind.i64 y] X0 := by rw [← hX0]; exact (blk0 w 45 _)
  rw [hX0]
  obtain ⟨g0_0, hg0_0⟩ : ∃ g, w.heap.size = g := ⟨_, rfl⟩
  rw [hg0_0] at bN ⊢
  have HP_0 := Lib.hid (HP0.out.trans hpX0)
  have HW_0 := Lib.hid (HG.out.to hpX0)
  have L_0 := Lib.hid (HL.out.to hpX0)
  have R_0 := Lib.hid (HR.out.to hpX0)
  have N_0 := Lib.hid bN
  clear hX0 hpX0 hg0_0 bN HP0 HG HL HR
  refine (fine_any X0 L p cap L_0.out).mono ?_
  rintro e v1 ⟨rfl, hp⟩
  have HP_1 := Lib.hid (HP_0.out.trans hp)
  have HW_1 := Lib.hid (HW_0.out.to hp)
  have L_1 := Lib.hid (L_0.out.to hp)
  have R_1 := Lib.hid (R_0.out.to hp)
  have N_1 := Lib.hid (N_0.out.to hp)
  clear hp  HP_0 HW_0 L_0 R_0 N_0
  cases hfb : fineB L
  · clear hfb
    go_wp2_with fail
    refine (Works_any v1 HW_1.out).mono ?_
    rintro e v2 ⟨rfl, hp⟩
    have HP_2 := Lib.hid (HP_1.out.trans hp)
    have HW_2 := Lib.hid (HW_1.out.to hp)
    have L_2 := Lib.hid (L_1.out.to hp)
    have R_2 := Lib.hid (R_1.out.to hp)
    have N_2 := Lib.hid (N_1.out.to hp)
    clear hp  HP_1 HW_1 L_1 R_1 N_1
    go_wp2
    exact bodyPost_ret (v := .bool true) (by simp [results, Tryd.results7, go_sem]) rfl ⟨rfl, HP_2.out⟩
  · have HOK := Lib.hid (fineB_iff.1 hfb)
    clear hfb
    by_cases h20 : (20 : Int) < (m : Int)
    · go_wp2_with fail
      refine (Works_any v1 HW_1.out).mono ?_
      rintro e v2 ⟨rfl, hp⟩
      have HP_2 := Lib.hid (HP_1.out.trans hp)
      have HW_2 := Lib.hid (HW_1.out.to hp)
      have L_2 := Lib.hid (L_1.out.to hp)
      have R_2 := Lib.hid (R_1.out.to hp)
      have N_2 := Lib.hid (N_1.out.to hp)
      clear hp  HP_1 HW_1 L_1 R_1 N_1
      go_wp2
      exact bodyPost_ret (v := .bool true) (by simp [results, Tryd.results7, go_sem]) rfl ⟨rfl, HP_2.out⟩
    · have HM20 : Hid (m ≤ 1000) := by show m ≤ 1000; omega
      have HT : Hid (0 ≤ shp n ∧ shp n ≤ 100) := shp_in n
      go_wp2_with fail
      refine (sharpness_any v1 n HN8.out).mono ?_
      rintro e v2 ⟨rfl, hp⟩
      have HP_2 := Lib.hid (HP_1.out.trans hp)
      have HW_2 := Lib.hid (HW_1.out.to hp)
      have L_2 := Lib.hid (L_1.out.to hp)
      have R_2 := Lib.hid (R_1.out.to hp)
      have N_2 := Lib.hid (N_1.out.to hp)
      clear hp  HP_1 HW_1 L_1 R_1 N_1
      obtain ⟨t, ht⟩ : ∃ z, shp n = z := ⟨_, rfl⟩
      rw [ht] at HT ⊢
      clear ht
      go_wp2_with fail
      refine (cheapest_any v2 L p cap t HOK.out HT.out L_2.out HW_2.out).mono ?_
      rintro e v3 ⟨rfl, hp⟩
      have HP_3 := Lib.hid (HP_2.out.trans hp)
      have HW_3 := Lib.hid (HW_2.out.to hp)
      have L_3 := Lib.hid (L_2.out.to hp)
      have R_3 := Lib.hid (R_2.out.to hp)
      have N_3 := Lib.hid (N_2.out.to hp)
      clear hp  HP_2 HW_2 L_2 R_2 N_2
      obtain ⟨c1, hc1⟩ : ∃ zz, (cheapP L t).1 = zz := ⟨_, rfl⟩
      obtain ⟨c2, hc2⟩ : ∃ zz, (cheapP L t).2 = zz := ⟨_, rfl⟩
      obtain ⟨i1, hi1⟩ : ∃ zz, (cheapE L t == 0) = zz := ⟨_, rfl⟩
      have HNC : Hid (cheapP L t = (c1, c2) ∧ (cheapE L t == 0) = i1) := ⟨by rw [← hc1, ← hc2], hi1⟩
      rw [hc1, hc2, hi1]
      clear hc1 hc2 hi1
      go_wp2_with fail
      obtain ⟨X4, hX4⟩ : ∃ V : World, v3.alloc (Obj.cells #[Value.int IntKind.i64 c1, Value.int IntKind.i64 c2] 29) = V := ⟨_, rfl⟩
      have hpX4 : Pure v3 X4 := by rw [← hX4]; exact ((Diff.refl v3).alloc _)
      have bC : Blk (v3.heap.size) 29 #[Value.int IntKind.i64 c1, Value.int IntKind.i64 c2] X4 := by rw [← hX4]; exact (blk0 v3 29 _)
      rw [hX4]
      obtain ⟨g4_0, hg4_0⟩ : ∃ g, v3.heap.size = g := ⟨_, rfl⟩
      rw [hg4_0] at bC ⊢
      have HP_4 := Lib.hid (HP_3.out.trans hpX4)
      have HW_4 := Lib.hid (HW_3.out.to hpX4)
      have L_4 := Lib.hid (L_3.out.to hpX4)
      have R_4 := Lib.hid (R_3.out.to hpX4)
      have N_4 := Lib.hid (N_3.out.to hpX4)
      have C_4 := Lib.hid bC
      clear hX4 hpX4 hg4_0 bC HP_3 HW_3 L_3 R_3 N_3
      go_wp2_with fail
      refine (Mixed_any X4 L p q cap m c f ⟨HOK.out.n0, HOK.out.n8⟩ HM20.out R_4.out HFW.out).mono ?_
      rintro e v5 ⟨⟨r, dd, rfl, hrow⟩, hp⟩
      have HP_5 := Lib.hid (HP_4.out.trans hp)
      have HW_5 := Lib.hid (HW_4.out.to hp)
      have L_5 := Lib.hid (L_4.out.to hp)
      have R_5 := Lib.hid (R_4.out.to hp)
      have N_5 := Lib.hid (N_4.out.to hp)
      have C_5 := Lib.hid (C_4.out.to hp)
      have M_5 := Lib.hid hrow
      clear hp hrow HP_4 HW_4 L_4 R_4 N_4 C_4
      go_wp2_with fail
      obtain ⟨F, hF⟩ : ∃ F, mixV f m L.n = F := ⟨_, rfl⟩
      have HQ0 := blend_q HOK.out F (fun k _ => by rw [← hF]; exact mixV_in f m L.n k) (by rw [← hF]; exact mixV_sum f m L.n HOK.out.n0)
      rw [hF] at M_5
      clear hF
      obtain ⟨s1, s2, p1, p2, hq⟩ := HQ0
      have HQ := Lib.hid hq
      clear hq
      refine (CheckBlend_any v5 L p r cap L.n dd F (by have := HOK.out.n8; omega) (by have := HOK.out.n8; omega) L_5.out M_5.out HW_5.out).mono ?_
      rintro e v6 ⟨rfl, hp⟩
      have HP_6 := Lib.hid (HP_5.out.trans hp)
      have HW_6 := Lib.hid (HW_5.out.to hp)
      have L_6 := Lib.hid (L_5.out.to hp)
      have R_6 := Lib.hid (R_5.out.to hp)
      have N_6 := Lib.hid (N_5.out.to hp)
      have C_6 := Lib.hid (C_5.out.to hp)
      have M_6 := Lib.hid (M_5.out.to hp)
      clear hp  HP_5 HW_5 L_5 R_5 N_5 C_5 M_5
      have e1 : (blendS L F L.n).1 = s1 := by rw [HQ.out.es]
      have e2 : (blendS L F L.n).2 = s2 := by rw [HQ.out.es]
      have e3 : (blendP L F L.n).1 = p1 := by rw [HQ.out.ep]
      have e4 : (blendP L F L.n).2 = p2 := by rw [HQ.out.ep]
      rw [e1, e2, e3, e4, HQ.out.ok]
      clear e1 e2 e3 e4
      have nn0 := N_6.out.at 0
      have nn1 := N_6.out.at 1
      have nn2 := N_6.out.at 2
      have nnl := N_6.out.lt
      go_wp2_with fail
      clear nn0 nn1 nn2 nnl
      obtain ⟨X7, hX7⟩ : ∃ V : World, (v6.alloc (Obj.cells #[Value.int IntKind.i64 s1, Value.int IntKind.i64 s2] 29)).alloc (Obj.cells #[Value.int IntKind.i64 p1, Value.int IntKind.i64 p2] 29) = V := ⟨_, rfl⟩
      have hpX7 : Pure v6 X7 := by rw [← hX7]; exact (((Diff.refl v6).alloc _).alloc _)
      have bS : Blk (v6.heap.size) 29 #[Value.int IntKind.i64 s1, Value.int IntKind.i64 s2] X7 := by rw [← hX7]; exact ((blk0 v6 29 _).alloc _)
      have bP : Blk (v6.heap.size + 1) 29 #[Value.int IntKind.i64 p1, Value.int IntKind.i64 p2] X7 := by rw [← hX7]; exact (blk1 v6 _ 29 _)
      rw [hX7]
      obtain ⟨g7_0, hg7_0⟩ : ∃ g, v6.heap.size = g := ⟨_, rfl⟩
      rw [hg7_0] at bS bP ⊢
      obtain ⟨g7_1, hg7_1⟩ : ∃ g, g7_0 + 1 = g := ⟨_, rfl⟩
      rw [hg7_1] at bP ⊢
      have HP_7 := Lib.hid (HP_6.out.trans hpX7)
      have HW_7 := Lib.hid (HW_6.out.to hpX7)
      have L_7 := Lib.hid (L_6.out.to hpX7)
      have R_7 := Lib.hid (R_6.out.to hpX7)
      have N_7 := Lib.hid (N_6.out.to hpX7)
      have C_7 := Lib.hid (C_6.out.to hpX7)
      have M_7 := Lib.hid (M_6.out.to hpX7)
      have S_7 := Lib.hid bS
      have P_7 := Lib.hid bP
      clear hX7 hpX7 hg7_1 hg7_0 bS bP HP_6 HW_6 L_6 R_6 N_6 C_6 M_6
      refine (CheckLine_any X7 L p cap D x y t (by have := HOK.out.n8; omega) L_7.out HW_7.out).mono ?_
      rintro e v8 ⟨rfl, hp⟩
      have HP_8 := Lib.hid (HP_7.out.trans hp)
      have HW_8 := Lib.hid (HW_7.out.to hp)
      have L_8 := Lib.hid (L_7.out.to hp)
      have R_8 := Lib.hid (R_7.out.to hp)
      have N_8 := Lib.hid (N_7.out.to hp)
      have C_8 := Lib.hid (C_7.out.to hp)
      have M_8 := Lib.hid (M_7.out.to hp)
      have S_8 := Lib.hid (S_7.out.to hp)
      have P_8 := Lib.hid (P_7.out.to hp)
      clear hp  HP_7 HW_7 L_7 R_7 N_7 C_7 M_7 S_7 P_7
      have SS := Lib.hid HQ.out.ss
      have SP := Lib.hid HQ.out.sp
      rcases line_facts (L := L) (t := t) (D := D) (x := x) (y := y) HOK.out HT.out with (hbad | hbad) | ⟨h0, hlb, hob, hbw, hpp⟩
      · obtain ⟨v1, hv1⟩ : ∃ z, (lineP L (D, x, y) t).1 = z := ⟨_, rfl⟩
        obtain ⟨v2, hv2⟩ : ∃ z, (lineP L (D, x, y) t).2 = z := ⟨_, rfl⟩
        rw [hv1, hv2, hbad]
        clear hv1 hv2 hbad
        have k0 := S_8.out.at 0
        have k1 := S_8.out.at 1
        have kl := S_8.out.lt
        go_wp2_with fail
        clear k0 k1 kl
        obtain ⟨X9, hX9⟩ : ∃ V : World, v8.alloc (Obj.cells #[Value.int IntKind.i64 v1, Value.int IntKind.i64 v2] 29) = V := ⟨_, rfl⟩
        have hpX9 : Pure v8 X9 := by rw [← hX9]; exact ((Diff.refl v8).alloc _)
        have bV : Blk (v8.heap.size) 29 #[Value.int IntKind.i64 v1, Value.int IntKind.i64 v2] X9 := by rw [← hX9]; exact (blk0 v8 29 _)
        rw [hX9]
        obtain ⟨g9_0, hg9_0⟩ : ∃ g, v8.heap.size = g := ⟨_, rfl⟩
        rw [hg9_0] at bV ⊢
        have HP_9 := Lib.hid (HP_8.out.trans hpX9)
        have HW_9 := Lib.hid (HW_8.out.to hpX9)
        have L_9 := Lib.hid (L_8.out.to hpX9)
        have R_9 := Lib.hid (R_8.out.to hpX9)
        have N_9 := Lib.hid (N_8.out.to hpX9)
        have C_9 := Lib.hid (C_8.out.to hpX9)
        have M_9 := Lib.hid (M_8.out.to hpX9)
        have S_9 := Lib.hid (S_8.out.to hpX9)
        have P_9 := Lib.hid (P_8.out.to hpX9)
        have V_9 := Lib.hid bV
        clear hX9 hpX9 hg9_0 bV HP_8 HW_8 L_8 R_8 N_8 C_8 M_8 S_8 P_8
        refine (small_any X9 s1 s2 ⟨SS.out.b0, SS.out.b1⟩ ⟨SS.out.a0, SS.out.a1⟩ SS.out.rd).mono ?_
        rintro e v10 ⟨rfl, hp⟩
        have HP_10 := Lib.hid (HP_9.out.trans hp)
        have HW_10 := Lib.hid (HW_9.out.to hp)
        have L_10 := Lib.hid (L_9.out.to hp)
        have R_10 := Lib.hid (R_9.out.to hp)
        have N_10 := Lib.hid (N_9.out.to hp)
        have C_10 := Lib.hid (C_9.out.to hp)
        have M_10 := Lib.hid (M_9.out.to hp)
        have S_10 := Lib.hid (S_9.out.to hp)
        have P_10 := Lib.hid (P_9.out.to hp)
        have V_10 := Lib.hid (V_9.out.to hp)
        clear hp  HP_9 HW_9 L_9 R_9 N_9 C_9 M_9 S_9 P_9 V_9
        have k0 := P_10.out.at 0
        have k1 := P_10.out.at 1
        have kl := P_10.out.lt
        go_wp2_with fail
        clear k0 k1 kl
        refine (small_any v10 p1 p2 ⟨SP.out.b0, SP.out.b1⟩ ⟨SP.out.a0, SP.out.a1⟩ SP.out.rd).mono ?_
        rintro e v11 ⟨rfl, hp⟩
        have HP_11 := Lib.hid (HP_10.out.trans hp)
        have HW_11 := Lib.hid (HW_10.out.to hp)
        have L_11 := Lib.hid (L_10.out.to hp)
        have R_11 := Lib.hid (R_10.out.to hp)
        have N_11 := Lib.hid (N_10.out.to hp)
        have C_11 := Lib.hid (C_10.out.to hp)
        have M_11 := Lib.hid (M_10.out.to hp)
        have S_11 := Lib.hid (S_10.out.to hp)
        have P_11 := Lib.hid (P_10.out.to hp)
        have V_11 := Lib.hid (V_10.out.to hp)
        clear hp  HP_10 HW_10 L_10 R_10 N_10 C_10 M_10 S_10 P_10 V_10
        go_wp2_with fail
        refine (Works_any v11 HW_11.out).mono ?_
        rintro e v12 ⟨rfl, hp⟩
        have HP_12 := Lib.hid (HP_11.out.trans hp)
        have HW_12 := Lib.hid (HW_11.out.to hp)
        have L_12 := Lib.hid (L_11.out.to hp)
        have R_12 := Lib.hid (R_11.out.to hp)
        have N_12 := Lib.hid (N_11.out.to hp)
        have C_12 := Lib.hid (C_11.out.to hp)
        have M_12 := Lib.hid (M_11.out.to hp)
        have S_12 := Lib.hid (S_11.out.to hp)
        have P_12 := Lib.hid (P_11.out.to hp)
        have V_12 := Lib.hid (V_11.out.to hp)
        clear hp  HP_11 HW_11 L_11 R_11 N_11 C_11 M_11 S_11 P_11 V_11
        go_wp2
        exact bodyPost_ret (v := .bool true) (by simp [results, Tryd.results7, go_sem]) rfl ⟨rfl, HP_12.out⟩
      · obtain ⟨v1, hv1⟩ : ∃ z, (lineP L (D, x, y) t).1 = z := ⟨_, rfl⟩
        obtain ⟨v2, hv2⟩ : ∃ z, (lineP L (D, x, y) t).2 = z := ⟨_, rfl⟩
        rw [hv1, hv2, hbad]
        clear hv1 hv2 hbad
        have k0 := S_8.out.at 0
        have k1 := S_8.out.at 1
        have kl := S_8.out.lt
        go_wp2_with fail
        clear k0 k1 kl
        obtain ⟨X9, hX9⟩ : ∃ V : World, v8.alloc (Obj.cells #[Value.int IntKind.i64 v1, Value.int IntKind.i64 v2] 29) = V := ⟨_, rfl⟩
        have hpX9 : Pure v8 X9 := by rw [← hX9]; exact ((Diff.refl v8).alloc _)
        have bV : Blk (v8.heap.size) 29 #[Value.int IntKind.i64 v1, Value.int IntKind.i64 v2] X9 := by rw [← hX9]; exact (blk0 v8 29 _)
        rw [hX9]
        obtain ⟨g9_0, hg9_0⟩ : ∃ g, v8.heap.size = g := ⟨_, rfl⟩
        rw [hg9_0] at bV ⊢
        have HP_9 := Lib.hid (HP_8.out.trans hpX9)
        have HW_9 := Lib.hid (HW_8.out.to hpX9)
        have L_9 := Lib.hid (L_8.out.to hpX9)
        have R_9 := Lib.hid (R_8.out.to hpX9)
        have N_9 := Lib.hid (N_8.out.to hpX9)
        have C_9 := Lib.hid (C_8.out.to hpX9)
        have M_9 := Lib.hid (M_8.out.to hpX9)
        have S_9 := Lib.hid (S_8.out.to hpX9)
        have P_9 := Lib.hid (P_8.out.to hpX9)
        have V_9 := Lib.hid bV
        clear hX9 hpX9 hg9_0 bV HP_8 HW_8 L_8 R_8 N_8 C_8 M_8 S_8 P_8
        refine (small_any X9 s1 s2 ⟨SS.out.b0, SS.out.b1⟩ ⟨SS.out.a0, SS.out.a1⟩ SS.out.rd).mono ?_
        rintro e v10 ⟨rfl, hp⟩
        have HP_10 := Lib.hid (HP_9.out.trans hp)
        have HW_10 := Lib.hid (HW_9.out.to hp)
        have L_10 := Lib.hid (L_9.out.to hp)
        have R_10 := Lib.hid (R_9.out.to hp)
        have N_10 := Lib.hid (N_9.out.to hp)
        have C_10 := Lib.hid (C_9.out.to hp)
        have M_10 := Lib.hid (M_9.out.to hp)
        have S_10 := Lib.hid (S_9.out.to hp)
        have P_10 := Lib.hid (P_9.out.to hp)
        have V_10 := Lib.hid (V_9.out.to hp)
        clear hp  HP_9 HW_9 L_9 R_9 N_9 C_9 M_9 S_9 P_9 V_9
        have k0 := P_10.out.at 0
        have k1 := P_10.out.at 1
        have kl := P_10.out.lt
        go_wp2_with fail
        clear k0 k1 kl
        refine (small_any v10 p1 p2 ⟨SP.out.b0, SP.out.b1⟩ ⟨SP.out.a0, SP.out.a1⟩ SP.out.rd).mono ?_
        rintro e v11 ⟨rfl, hp⟩
        have HP_11 := Lib.hid (HP_10.out.trans hp)
        have HW_11 := Lib.hid (HW_10.out.to hp)
        have L_11 := Lib.hid (L_10.out.to hp)
        have R_11 := Lib.hid (R_10.out.to hp)
        have N_11 := Lib.hid (N_10.out.to hp)
        have C_11 := Lib.hid (C_10.out.to hp)
        have M_11 := Lib.hid (M_10.out.to hp)
        have S_11 := Lib.hid (S_10.out.to hp)
        have P_11 := Lib.hid (P_10.out.to hp)
        have V_11 := Lib.hid (V_10.out.to hp)
        clear hp  HP_10 HW_10 L_10 R_10 N_10 C_10 M_10 S_10 P_10 V_10
        go_wp2_with fail
        refine (Works_any v11 HW_11.out).mono ?_
        rintro e v12 ⟨rfl, hp⟩
        have HP_12 := Lib.hid (HP_11.out.trans hp)
        have HW_12 := Lib.hid (HW_11.out.to hp)
        have L_12 := Lib.hid (L_11.out.to hp)
        have R_12 := Lib.hid (R_11.out.to hp)
        have N_12 := Lib.hid (N_11.out.to hp)
        have C_12 := Lib.hid (C_11.out.to hp)
        have M_12 := Lib.hid (M_11.out.to hp)
        have S_12 := Lib.hid (S_11.out.to hp)
        have P_12 := Lib.hid (P_11.out.to hp)
        have V_12 := Lib.hid (V_11.out.to hp)
        clear hp  HP_11 HW_11 L_11 R_11 N_11 C_11 M_11 S_11 P_11 V_11
        go_wp2
        exact bodyPost_ret (v := .bool true) (by simp [results, Tryd.results7, go_sem]) rfl ⟨rfl, HP_12.out⟩
      · cases i1
        · have HOB := Lib.hid hob
          have HBW := Lib.hid hbw
          have HLB := Lib.hid hlb
          have HB := Lib.hid (proved_bnd hob HT.out HQ.out.ss HQ.out.sp)
          have HLL := Lib.hid (line_blend (t := t) hbw HQ.out)
          have hrl := red_bnd (a := x + y * t) (b := D) (A := 105906176) (B := 100) hbw.1 ⟨by have := HB.out.1; omega, by have := HB.out.1; omega⟩ hob.1.2
          obtain ⟨v1, hv1⟩ : ∃ z, redN (x + y * t) D = z := ⟨_, rfl⟩
          obtain ⟨v2, hv2⟩ : ∃ z, redD (x + y * t) D = z := ⟨_, rfl⟩
          have e1 : (lineP L (D, x, y) t).1 = v1 := by rw [hpp]; exact hv1
          have e2 : (lineP L (D, x, y) t).2 = v2 := by rw [hpp]; exact hv2
          rw [e1, e2, h0]
          rw [hv1, hv2] at hrl HLL
          have HVV : Hid (redN (x + y * t) D = v1 ∧ redD (x + y * t) D = v2) := ⟨hv1, hv2⟩
          have HRL := Lib.hid hrl
          clear e1 e2 h0 hpp hv1 hv2 hrl hob hbw hlb
          have k0 := S_8.out.at 0
          have k1 := S_8.out.at 1
          have kl := S_8.out.lt
          go_wp2_with fail
          clear k0 k1 kl
          obtain ⟨X9, hX9⟩ : ∃ V : World, v8.alloc (Obj.cells #[Value.int IntKind.i64 v1, Value.int IntKind.i64 v2] 29) = V := ⟨_, rfl⟩
          have hpX9 : Pure v8 X9 := by rw [← hX9]; exact ((Diff.refl v8).alloc _)
          have bV : Blk (v8.heap.size) 29 #[Value.int IntKind.i64 v1, Value.int IntKind.i64 v2] X9 := by rw [← hX9]; exact (blk0 v8 29 _)
          rw [hX9]
          obtain ⟨g9_0, hg9_0⟩ : ∃ g, v8.heap.size = g := ⟨_, rfl⟩
          rw [hg9_0] at bV ⊢
          have HP_9 := Lib.hid (HP_8.out.trans hpX9)
          have HW_9 := Lib.hid (HW_8.out.to hpX9)
          have L_9 := Lib.hid (L_8.out.to hpX9)
          have R_9 := Lib.hid (R_8.out.to hpX9)
          have N_9 := Lib.hid (N_8.out.to hpX9)
          have C_9 := Lib.hid (C_8.out.to hpX9)
          have M_9 := Lib.hid (M_8.out.to hpX9)
          have S_9 := Lib.hid (S_8.out.to hpX9)
          have P_9 := Lib.hid (P_8.out.to hpX9)
          have V_9 := Lib.hid bV
          clear hX9 hpX9 hg9_0 bV HP_8 HW_8 L_8 R_8 N_8 C_8 M_8 S_8 P_8
          refine (small_any X9 s1 s2 ⟨SS.out.b0, SS.out.b1⟩ ⟨SS.out.a0, SS.out.a1⟩ SS.out.rd).mono ?_
          rintro e v10 ⟨rfl, hp⟩
          have HP_10 := Lib.hid (HP_9.out.trans hp)
          have HW_10 := Lib.hid (HW_9.out.to hp)
          have L_10 := Lib.hid (L_9.out.to hp)
          have R_10 := Lib.hid (R_9.out.to hp)
          have N_10 := Lib.hid (N_9.out.to hp)
          have C_10 := Lib.hid (C_9.out.to hp)
          have M_10 := Lib.hid (M_9.out.to hp)
          have S_10 := Lib.hid (S_9.out.to hp)
          have P_10 := Lib.hid (P_9.out.to hp)
          have V_10 := Lib.hid (V_9.out.to hp)
          clear hp  HP_9 HW_9 L_9 R_9 N_9 C_9 M_9 S_9 P_9 V_9
          have k0 := P_10.out.at 0
          have k1 := P_10.out.at 1
          have kl := P_10.out.lt
          go_wp2_with fail
          clear k0 k1 kl
          refine (small_any v10 p1 p2 ⟨SP.out.b0, SP.out.b1⟩ ⟨SP.out.a0, SP.out.a1⟩ SP.out.rd).mono ?_
          rintro e v11 ⟨rfl, hp⟩
          have HP_11 := Lib.hid (HP_10.out.trans hp)
          have HW_11 := Lib.hid (HW_10.out.to hp)
          have L_11 := Lib.hid (L_10.out.to hp)
          have R_11 := Lib.hid (R_10.out.to hp)
          have N_11 := Lib.hid (N_10.out.to hp)
          have C_11 := Lib.hid (C_10.out.to hp)
          have M_11 := Lib.hid (M_10.out.to hp)
          have S_11 := Lib.hid (S_10.out.to hp)
          have P_11 := Lib.hid (P_10.out.to hp)
          have V_11 := Lib.hid (V_10.out.to hp)
          clear hp  HP_10 HW_10 L_10 R_10 N_10 C_10 M_10 S_10 P_10 V_10
          go_wp2_with fail
          have hq1 : IntKind.i64.wrap (y * t) = y * t := IntWalk.i64_in _ (by have := HB.out.2.1; omega)
          have hq2 : IntKind.i64.wrap (x + y * t) = x + y * t := IntWalk.i64_in _ (by have := HB.out.1; omega)
          refine WQ.region (C := Pure v11) hmx (by kernel_rfl) ((Diff.refl _).drew) ?_
          refine WQ.val (by rfl) _ (fun V hV => exec_load_line (.tmp 6) rfl g0_0 D x y rfl (N_11.out.to hV)) ?_
          refine WQ.call (by rfl) 50 #[.agg #[.int .i64 D, .int .i64 x, .int .i64 y]] (.bool true) (fun V => by unfold execOp; simp [go_sem]) (fun V hV => by have h := RIsLine_any V D x y; rw [HLB.out] at h; exact h.mono fun e V2 h => ⟨h.1, hV.trans h.2⟩) ?_
          iterate 2 (refine WQ.step (fun K hK => ?_); go_simp; first | refine hK _ ?_ | refine ⟨_, fun _ _ => rfl, hK _ ?_⟩; clear hK K)
          refine WQ.val (by rfl) _ (fun V hV => exec_load_pair (.tmp 16) rfl g9_0 v1 v2 rfl (V_11.out.to hV)) ?_
          iterate 1 (refine WQ.step (fun K hK => ?_); go_simp; first | refine hK _ ?_ | refine ⟨_, fun _ _ => rfl, hK _ ?_⟩; clear hK K)
          refine WQ.val (by rfl) _ (fun V hV => exec_load_cell (.tmp 89) rfl g0_0 1 x rfl ((N_11.out.to hV).at 1) (N_11.out.to hV).lt) ?_
          iterate 1 (refine WQ.step (fun K hK => ?_); go_simp; first | refine hK _ ?_ | refine ⟨_, fun _ _ => rfl, hK _ ?_⟩; clear hK K)
          refine WQ.val (by rfl) _ (fun V hV => exec_load_cell (.tmp 91) rfl g0_0 2 y rfl ((N_11.out.to hV).at 2) (N_11.out.to hV).lt) ?_
          iterate 4 (refine WQ.step (fun K hK => ?_); go_simp; first | refine hK _ ?_ | refine ⟨_, fun _ _ => rfl, hK _ ?_⟩; clear hK K)
          refine WQ.val (by rfl) _ (fun V hV => exec_load_cell (.tmp 96) rfl g0_0 0 D rfl ((N_11.out.to hV).at 0) (N_11.out.to hV).lt) ?_
          refine WQ.call (by rfl) 51 #[.int .i64 (x + y * t), .int .i64 D] (.agg #[.int .i64 v1, .int .i64 v2]) (fun V => by unfold execOp; simp [go_sem]) (fun V hV => by have h := RBy_any V (x + y * t) D ⟨by have := HB.out.1; omega, by have := HB.out.1; omega⟩ ⟨by have := HOB.out.1.1; have h1 : 1 ≤ D := this; omega, by have := HOB.out.1.2; have h1 : D ≤ 100 := this; omega⟩; rw [HVV.out.1, HVV.out.2] at h; exact h.mono fun e V2 h => ⟨h.1, hV.trans h.2⟩) ?_
          iterate 5 (refine WQ.step (fun K hK => ?_); go_simp; first | refine hK _ ?_ | refine ⟨_, fun _ _ => rfl, hK _ ?_⟩; clear hK K)
          refine WQ.skipK (by rfl) (fun K hK => ?_); go_simp; refine hK _ ?_; clear hK K
          refine WQ.skipK (by rfl) (fun K hK => ?_); go_simp; refine hK _ ?_; clear hK K
          refine WQ.skipK (by rfl) (fun K hK => ?_); go_simp; refine hK _ ?_; clear hK K
          iterate 2 (refine WQ.step (fun K hK => ?_); go_simp; first | refine hK _ ?_ | refine ⟨_, fun _ _ => rfl, hK _ ?_⟩; clear hK K)
          refine WQ.nil ?_
          rintro V hV
          have HP_12 := Lib.hid (HP_11.out.trans hV)
          have HW_12 := Lib.hid (HW_11.out.to hV)
          have L_12 := Lib.hid (L_11.out.to hV)
          have R_12 := Lib.hid (R_11.out.to hV)
          have N_12 := Lib.hid (N_11.out.to hV)
          have C_12 := Lib.hid (C_11.out.to hV)
          have M_12 := Lib.hid (M_11.out.to hV)
          have S_12 := Lib.hid (S_11.out.to hV)
          have P_12 := Lib.hid (P_11.out.to hV)
          have V_12 := Lib.hid (V_11.out.to hV)
          clear hV hq1 hq2 HP_11 HW_11 L_11 R_11 N_11 C_11 M_11 S_11 P_11 V_11
          have hr0 : IntKind.i64.wrap (x * s2) = x * s2 := IntWalk.i64_in _ (by have := HB.out.2.2.1; omega)
          have hr1 : IntKind.i64.wrap (y * s1) = y * s1 := IntWalk.i64_in _ (by have := HB.out.2.2.2.1; omega)
          have hr2 : IntKind.i64.wrap (x * s2 + y * s1) = x * s2 + y * s1 := IntWalk.i64_in _ (by have := HB.out.2.2.2.2.1; omega)
          have hr3 : IntKind.i64.wrap ((x * s2 + y * s1) * p2) = (x * s2 + y * s1) * p2 := IntWalk.i64_in _ (by have := HB.out.2.2.2.2.2.1; omega)
          have hr4 : IntKind.i64.wrap (p1 * D) = p1 * D := IntWalk.i64_in _ (by have := HB.out.2.2.2.2.2.2.1; omega)
          have hr5 : IntKind.i64.wrap (p1 * D * s2) = p1 * D * s2 := IntWalk.i64_in _ (by have := HB.out.2.2.2.2.2.2.2; omega)
          have hgt : ¬ p1 * D * s2 < (x * s2 + y * s1) * p2 := of_decide_eq_false HLL.out.1
          have nn0 := N_12.out.at 0
          have nn1 := N_12.out.at 1
          have nn2 := N_12.out.at 2
          have nnl := N_12.out.lt
          have ks0 := S_12.out.at 0
          have ks1 := S_12.out.at 1
          have ksl := S_12.out.lt
          have kp0 := P_12.out.at 0
          have kp1 := P_12.out.at 1
          have kpl := P_12.out.lt
          go_wp2_with fail
          clear nn0 nn1 nn2 nnl
          clear ks0 ks1 ksl
          clear kp0 kp1 kpl
          clear hr0 hr1 hr2 hr3 hr4 hr5 hgt
          by_cases hdy : y < 0
          · refine WQ.region (C := Pure V) hmx (by kernel_rfl) ((Diff.refl _).drew) ?_
            iterate 1 (refine WQ.step (fun K hK => ?_); go_simp; first | refine hK _ ?_ | refine ⟨_, fun _ _ => rfl, hK _ ?_⟩; clear hK K)
            refine WQ.val (by rfl) _ (fun V hV => exec_load_cell (.tmp 133) rfl g0_0 2 y rfl ((N_12.out.to hV).at 2) (N_12.out.to hV).lt) ?_
            iterate 2 (refine WQ.step (fun K hK => ?_); go_simp; first | refine hK _ ?_ | refine ⟨_, fun _ _ => rfl, hK _ ?_⟩; clear hK K)
            refine WQ.skipK (by rfl) (fun K hK => ?_); go_simp; refine hK _ ?_; clear hK K
            refine WQ.skipK (by rfl) (fun K hK => ?_); go_simp; refine hK _ ?_; clear hK K
            refine WQ.skipK (by rfl) (fun K hK => ?_); go_simp; refine hK _ ?_; clear hK K
            refine WQ.skipK (by rfl) (fun K hK => ?_); go_simp; refine hK _ ?_; clear hK K
            iterate 2 (refine WQ.step (fun K hK => ?_); go_simp; first | refine hK _ ?_ | refine ⟨_, fun _ _ => rfl, hK _ ?_⟩; clear hK K)
            refine WQ.skipK (by rfl) (fun K hK => ?_); go_simp; refine hK _ ?_; clear hK K
            refine WQ.skipK (by rfl) (fun K hK => ?_); go_simp; refine hK _ ?_; clear hK K
            refine WQ.skipK (by rfl) (fun K hK => ?_); go_simp; refine hK _ ?_; clear hK K
            refine WQ.skipK (by rfl) (fun K hK => ?_); go_simp; refine hK _ ?_; clear hK K
            iterate 2 (refine WQ.step (fun K hK => ?_); go_simp; first | refine hK _ ?_ | refine ⟨_, fun _ _ => rfl, hK _ ?_⟩; clear hK K)
            refine WQ.call (by rfl) 17 #[] (.bool true) (fun V => by unfold execOp; simp [go_sem]) (fun V hV => (Works_any V (HW_12.out.to hV)).mono fun e V2 h => ⟨h.1, hV.trans h.2⟩) ?_
            iterate 2 (refine WQ.step (fun K hK => ?_); go_simp; first | refine hK _ ?_ | refine ⟨_, fun _ _ => rfl, hK _ ?_⟩; clear hK K)
            refine WQ.nil ?_
            rintro V hV
            have HPE := Lib.hid hV
            clear hV
            go_wp2
            exact bodyPost_ret (v := .bool true) (by simp [results, Tryd.results7, go_sem]) rfl ⟨rfl, HP_12.out.trans HPE.out⟩
          · cases hdl : decide (s1 * 1 < t * s2)
            · have HDL := Lib.hid hdl
              clear hdl
              refine WQ.region (C := Pure V) hmx (by kernel_rfl) ((Diff.refl _).drew) ?_
              iterate 1 (refine WQ.step (fun K hK => ?_); go_simp; first | refine hK _ ?_ | refine ⟨_, fun _ _ => rfl, hK _ ?_⟩; clear hK K)
              refine WQ.val (by rfl) _ (fun V hV => exec_load_cell (.tmp 133) rfl g0_0 2 y rfl ((N_12.out.to hV).at 2) (N_12.out.to hV).lt) ?_
              iterate 2 (refine WQ.step (fun K hK => ?_); go_simp; first | refine hK _ ?_ | refine ⟨_, fun _ _ => rfl, hK _ ?_⟩; clear hK K)
              refine WQ.val (by rfl) _ (fun V hV => exec_load_pair (.tmp 13) rfl g7_0 s1 s2 rfl (S_12.out.to hV)) ?_
              iterate 1 (refine WQ.step (fun K hK => ?_); go_simp; first | refine hK _ ?_ | refine ⟨_, fun _ _ => rfl, hK _ ?_⟩; clear hK K)
              refine WQ.call (by rfl) 31 #[.int .i64 t, .int .i64 1] (.agg #[.int .i64 t, .int .i64 1]) (fun V => by unfold execOp; simp [go_sem]) (fun V hV => by have h := lby_any V t 1; exact h.mono fun e V2 h => ⟨h.1, hV.trans h.2⟩) ?_
              refine WQ.call (by rfl) 52 #[.agg #[.int .i64 s1, .int .i64 s2], .agg #[.int .i64 t, .int .i64 1]] (.bool false) (fun V => by unfold execOp; simp [go_sem]) (fun V hV => by have h := RLess_any V s1 s2 t 1 ⟨by have := SS.out.a0; omega, by have := SS.out.a1; have := SS.out.b1; omega⟩ ⟨by have := SS.out.b0; omega, by have := SS.out.b1; omega⟩ ⟨by have := HT.out; omega, by have := HT.out; omega⟩ ⟨by omega, by omega⟩; rw [HDL.out] at h; exact h.mono fun e V2 h => ⟨h.1, hV.trans h.2⟩) ?_
              iterate 2 (refine WQ.step (fun K hK => ?_); go_simp; first | refine hK _ ?_ | refine ⟨_, fun _ _ => rfl, hK _ ?_⟩; clear hK K)
              refine WQ.val (by rfl) _ (fun V hV => exec_load_pair (.tmp 14) rfl g7_1 p1 p2 rfl (P_12.out.to hV)) ?_
              refine WQ.val (by rfl) _ (fun V hV => exec_load_pair (.tmp 16) rfl g9_0 v1 v2 rfl (V_12.out.to hV)) ?_
              refine WQ.call (by rfl) 52 #[.agg #[.int .i64 p1, .int .i64 p2], .agg #[.int .i64 v1, .int .i64 v2]] (.bool false) (fun V => by unfold execOp; simp [go_sem]) (fun V hV => by have h := RLess_any V p1 p2 v1 v2 ⟨by have := SP.out.a0; omega, by have := SP.out.a1; have := SP.out.b1; omega⟩ ⟨by have := SP.out.b0; omega, by have := SP.out.b1; omega⟩ ⟨by have := HRL.out.1; omega, by have := HRL.out.1; omega⟩ ⟨by have := HRL.out.2; omega, by have := HRL.out.2; omega⟩; rw [(HLL.out.2 (decide_eq_false hdy) HDL.out)] at h; exact h.mono fun e V2 h => ⟨h.1, hV.trans h.2⟩) ?_
              iterate 3 (refine WQ.step (fun K hK => ?_); go_simp; first | refine hK _ ?_ | refine ⟨_, fun _ _ => rfl, hK _ ?_⟩; clear hK K)
              refine WQ.call (by rfl) 17 #[] (.bool true) (fun V => by unfold execOp; simp [go_sem]) (fun V hV => (Works_any V (HW_12.out.to hV)).mono fun e V2 h => ⟨h.1, hV.trans h.2⟩) ?_
              iterate 2 (refine WQ.step (fun K hK => ?_); go_simp; first | refine hK _ ?_ | refine ⟨_, fun _ _ => rfl, hK _ ?_⟩; clear hK K)
              refine WQ.nil ?_
              rintro V hV
              have HPE := Lib.hid hV
              clear hV
              go_wp2
              exact bodyPost_ret (v := .bool true) (by simp [results, Tryd.results7, go_sem]) rfl ⟨rfl, HP_12.out.trans HPE.out⟩
            · have HDL := Lib.hid hdl
              clear hdl
              refine WQ.region (C := Pure V) hmx (by kernel_rfl) ((Diff.refl _).drew) ?_
              iterate 1 (refine WQ.step (fun K hK => ?_); go_simp; first | refine hK _ ?_ | refine ⟨_, fun _ _ => rfl, hK _ ?_⟩; clear hK K)
              refine WQ.val (by rfl) _ (fun V hV => exec_load_cell (.tmp 133) rfl g0_0 2 y rfl ((N_12.out.to hV).at 2) (N_12.out.to hV).lt) ?_
              iterate 2 (refine WQ.step (fun K hK => ?_); go_simp; first | refine hK _ ?_ | refine ⟨_, fun _ _ => rfl, hK _ ?_⟩; clear hK K)
              refine WQ.val (by rfl) _ (fun V hV => exec_load_pair (.tmp 13) rfl g7_0 s1 s2 rfl (S_12.out.to hV)) ?_
              iterate 1 (refine WQ.step (fun K hK => ?_); go_simp; first | refine hK _ ?_ | refine ⟨_, fun _ _ => rfl, hK _ ?_⟩; clear hK K)
              refine WQ.call (by rfl) 31 #[.int .i64 t, .int .i64 1] (.agg #[.int .i64 t, .int .i64 1]) (fun V => by unfold execOp; simp [go_sem]) (fun V hV => by have h := lby_any V t 1; exact h.mono fun e V2 h => ⟨h.1, hV.trans h.2⟩) ?_
              refine WQ.call (by rfl) 52 #[.agg #[.int .i64 s1, .int .i64 s2], .agg #[.int .i64 t, .int .i64 1]] (.bool true) (fun V => by unfold execOp; simp [go_sem]) (fun V hV => by have h := RLess_any V s1 s2 t 1 ⟨by have := SS.out.a0; omega, by have := SS.out.a1; have := SS.out.b1; omega⟩ ⟨by have := SS.out.b0; omega, by have := SS.out.b1; omega⟩ ⟨by have := HT.out; omega, by have := HT.out; omega⟩ ⟨by omega, by omega⟩; rw [HDL.out] at h; exact h.mono fun e V2 h => ⟨h.1, hV.trans h.2⟩) ?_
              iterate 2 (refine WQ.step (fun K hK => ?_); go_simp; first | refine hK _ ?_ | refine ⟨_, fun _ _ => rfl, hK _ ?_⟩; clear hK K)
              refine WQ.skipK (by rfl) (fun K hK => ?_); go_simp; refine hK _ ?_; clear hK K
              refine WQ.skipK (by rfl) (fun K hK => ?_); go_simp; refine hK _ ?_; clear hK K
              refine WQ.skipK (by rfl) (fun K hK => ?_); go_simp; refine hK _ ?_; clear hK K
              refine WQ.skipK (by rfl) (fun K hK => ?_); go_simp; refine hK _ ?_; clear hK K
              iterate 2 (refine WQ.step (fun K hK => ?_); go_simp; first | refine hK _ ?_ | refine ⟨_, fun _ _ => rfl, hK _ ?_⟩; clear hK K)
              refine WQ.call (by rfl) 17 #[] (.bool true) (fun V => by unfold execOp; simp [go_sem]) (fun V hV => (Works_any V (HW_12.out.to hV)).mono fun e V2 h => ⟨h.1, hV.trans h.2⟩) ?_
              iterate 2 (refine WQ.step (fun K hK => ?_); go_simp; first | refine hK _ ?_ | refine ⟨_, fun _ _ => rfl, hK _ ?_⟩; clear hK K)
              refine WQ.nil ?_
              rintro V hV
              have HPE := Lib.hid hV
              clear hV
              go_wp2
              exact bodyPost_ret (v := .bool true) (by simp [results, Tryd.results7, go_sem]) rfl ⟨rfl, HP_12.out.trans HPE.out⟩
        · have HOB := Lib.hid hob
          have HBW := Lib.hid hbw
          have HLB := Lib.hid hlb
          have HB := Lib.hid (proved_bnd hob HT.out HQ.out.ss HQ.out.sp)
          have HLL := Lib.hid (line_blend (t := t) hbw HQ.out)
          have HCC := Lib.hid (line_cheap HOK.out HT.out hbw HNC.out.1 HNC.out.2)
          have hrl := red_bnd (a := x + y * t) (b := D) (A := 105906176) (B := 100) hbw.1 ⟨by have := HB.out.1; omega, by have := HB.out.1; omega⟩ hob.1.2
          obtain ⟨v1, hv1⟩ : ∃ z, redN (x + y * t) D = z := ⟨_, rfl⟩
          obtain ⟨v2, hv2⟩ : ∃ z, redD (x + y * t) D = z := ⟨_, rfl⟩
          have e1 : (lineP L (D, x, y) t).1 = v1 := by rw [hpp]; exact hv1
          have e2 : (lineP L (D, x, y) t).2 = v2 := by rw [hpp]; exact hv2
          rw [e1, e2, h0]
          rw [hv1, hv2] at hrl HLL HCC
          have HVV : Hid (redN (x + y * t) D = v1 ∧ redD (x + y * t) D = v2) := ⟨hv1, hv2⟩
          have HRL := Lib.hid hrl
          clear e1 e2 h0 hpp hv1 hv2 hrl hob hbw hlb
          have k0 := S_8.out.at 0
          have k1 := S_8.out.at 1
          have kl := S_8.out.lt
          go_wp2_with fail
          clear k0 k1 kl
          obtain ⟨X9, hX9⟩ : ∃ V : World, v8.alloc (Obj.cells #[Value.int IntKind.i64 v1, Value.int IntKind.i64 v2] 29) = V := ⟨_, rfl⟩
          have hpX9 : Pure v8 X9 := by rw [← hX9]; exact ((Diff.refl v8).alloc _)
          have bV : Blk (v8.heap.size) 29 #[Value.int IntKind.i64 v1, Value.int IntKind.i64 v2] X9 := by rw [← hX9]; exact (blk0 v8 29 _)
          rw [hX9]
          obtain ⟨g9_0, hg9_0⟩ : ∃ g, v8.heap.size = g := ⟨_, rfl⟩
          rw [hg9_0] at bV ⊢
          have HP_9 := Lib.hid (HP_8.out.trans hpX9)
          have HW_9 := Lib.hid (HW_8.out.to hpX9)
          have L_9 := Lib.hid (L_8.out.to hpX9)
          have R_9 := Lib.hid (R_8.out.to hpX9)
          have N_9 := Lib.hid (N_8.out.to hpX9)
          have C_9 := Lib.hid (C_8.out.to hpX9)
          have M_9 := Lib.hid (M_8.out.to hpX9)
          have S_9 := Lib.hid (S_8.out.to hpX9)
          have P_9 := Lib.hid (P_8.out.to hpX9)
          have V_9 := Lib.hid bV
          clear hX9 hpX9 hg9_0 bV HP_8 HW_8 L_8 R_8 N_8 C_8 M_8 S_8 P_8
          refine (small_any X9 s1 s2 ⟨SS.out.b0, SS.out.b1⟩ ⟨SS.out.a0, SS.out.a1⟩ SS.out.rd).mono ?_
          rintro e v10 ⟨rfl, hp⟩
          have HP_10 := Lib.hid (HP_9.out.trans hp)
          have HW_10 := Lib.hid (HW_9.out.to hp)
          have L_10 := Lib.hid (L_9.out.to hp)
          have R_10 := Lib.hid (R_9.out.to hp)
          have N_10 := Lib.hid (N_9.out.to hp)
          have C_10 := Lib.hid (C_9.out.to hp)
          have M_10 := Lib.hid (M_9.out.to hp)
          have S_10 := Lib.hid (S_9.out.to hp)
          have P_10 := Lib.hid (P_9.out.to hp)
          have V_10 := Lib.hid (V_9.out.to hp)
          clear hp  HP_9 HW_9 L_9 R_9 N_9 C_9 M_9 S_9 P_9 V_9
          have k0 := P_10.out.at 0
          have k1 := P_10.out.at 1
          have kl := P_10.out.lt
          go_wp2_with fail
          clear k0 k1 kl
          refine (small_any v10 p1 p2 ⟨SP.out.b0, SP.out.b1⟩ ⟨SP.out.a0, SP.out.a1⟩ SP.out.rd).mono ?_
          rintro e v11 ⟨rfl, hp⟩
          have HP_11 := Lib.hid (HP_10.out.trans hp)
          have HW_11 := Lib.hid (HW_10.out.to hp)
          have L_11 := Lib.hid (L_10.out.to hp)
          have R_11 := Lib.hid (R_10.out.to hp)
          have N_11 := Lib.hid (N_10.out.to hp)
          have C_11 := Lib.hid (C_10.out.to hp)
          have M_11 := Lib.hid (M_10.out.to hp)
          have S_11 := Lib.hid (S_10.out.to hp)
          have P_11 := Lib.hid (P_10.out.to hp)
          have V_11 := Lib.hid (V_10.out.to hp)
          clear hp  HP_10 HW_10 L_10 R_10 N_10 C_10 M_10 S_10 P_10 V_10
          go_wp2_with fail
          have hq1 : IntKind.i64.wrap (y * t) = y * t := IntWalk.i64_in _ (by have := HB.out.2.1; omega)
          have hq2 : IntKind.i64.wrap (x + y * t) = x + y * t := IntWalk.i64_in _ (by have := HB.out.1; omega)
          refine WQ.region (C := Pure v11) hmx (by kernel_rfl) ((Diff.refl _).drew) ?_
          refine WQ.val (by rfl) _ (fun V hV => exec_load_line (.tmp 6) rfl g0_0 D x y rfl (N_11.out.to hV)) ?_
          refine WQ.call (by rfl) 50 #[.agg #[.int .i64 D, .int .i64 x, .int .i64 y]] (.bool true) (fun V => by unfold execOp; simp [go_sem]) (fun V hV => by have h := RIsLine_any V D x y; rw [HLB.out] at h; exact h.mono fun e V2 h => ⟨h.1, hV.trans h.2⟩) ?_
          iterate 2 (refine WQ.step (fun K hK => ?_); go_simp; first | refine hK _ ?_ | refine ⟨_, fun _ _ => rfl, hK _ ?_⟩; clear hK K)
          refine WQ.val (by rfl) _ (fun V hV => exec_load_pair (.tmp 16) rfl g9_0 v1 v2 rfl (V_11.out.to hV)) ?_
          iterate 1 (refine WQ.step (fun K hK => ?_); go_simp; first | refine hK _ ?_ | refine ⟨_, fun _ _ => rfl, hK _ ?_⟩; clear hK K)
          refine WQ.val (by rfl) _ (fun V hV => exec_load_cell (.tmp 89) rfl g0_0 1 x rfl ((N_11.out.to hV).at 1) (N_11.out.to hV).lt) ?_
          iterate 1 (refine WQ.step (fun K hK => ?_); go_simp; first | refine hK _ ?_ | refine ⟨_, fun _ _ => rfl, hK _ ?_⟩; clear hK K)
          refine WQ.val (by rfl) _ (fun V hV => exec_load_cell (.tmp 91) rfl g0_0 2 y rfl ((N_11.out.to hV).at 2) (N_11.out.to hV).lt) ?_
          iterate 4 (refine WQ.step (fun K hK => ?_); go_simp; first | refine hK _ ?_ | refine ⟨_, fun _ _ => rfl, hK _ ?_⟩; clear hK K)
          refine WQ.val (by rfl) _ (fun V hV => exec_load_cell (.tmp 96) rfl g0_0 0 D rfl ((N_11.out.to hV).at 0) (N_11.out.to hV).lt) ?_
          refine WQ.call (by rfl) 51 #[.int .i64 (x + y * t), .int .i64 D] (.agg #[.int .i64 v1, .int .i64 v2]) (fun V => by unfold execOp; simp [go_sem]) (fun V hV => by have h := RBy_any V (x + y * t) D ⟨by have := HB.out.1; omega, by have := HB.out.1; omega⟩ ⟨by have := HOB.out.1.1; have h1 : 1 ≤ D := this; omega, by have := HOB.out.1.2; have h1 : D ≤ 100 := this; omega⟩; rw [HVV.out.1, HVV.out.2] at h; exact h.mono fun e V2 h => ⟨h.1, hV.trans h.2⟩) ?_
          iterate 5 (refine WQ.step (fun K hK => ?_); go_simp; first | refine hK _ ?_ | refine ⟨_, fun _ _ => rfl, hK _ ?_⟩; clear hK K)
          refine WQ.val (by rfl) _ (fun V hV => exec_load_pair (.tmp 10) rfl g4_0 c1 c2 rfl (C_11.out.to hV)) ?_
          refine WQ.val (by rfl) _ (fun V hV => exec_load_pair (.tmp 16) rfl g9_0 v1 v2 rfl (V_11.out.to hV)) ?_
          refine WQ.call (by rfl) 52 #[.agg #[.int .i64 c1, .int .i64 c2], .agg #[.int .i64 v1, .int .i64 v2]] (.bool false) (fun V => by unfold execOp; simp [go_sem]) (fun V hV => by have h := RLess_any V c1 c2 v1 v2 ⟨by have := HCC.out.1.a0; omega, by have := HCC.out.1.a1; have := HCC.out.1.b1; omega⟩ ⟨by have := HCC.out.1.b0; omega, by have := HCC.out.1.b1; omega⟩ ⟨by have := HRL.out.1; omega, by have := HRL.out.1; omega⟩ ⟨by have := HRL.out.2; omega, by have := HRL.out.2; omega⟩; rw [HCC.out.2] at h; exact h.mono fun e V2 h => ⟨h.1, hV.trans h.2⟩) ?_
          iterate 2 (refine WQ.step (fun K hK => ?_); go_simp; first | refine hK _ ?_ | refine ⟨_, fun _ _ => rfl, hK _ ?_⟩; clear hK K)
          refine WQ.nil ?_
          rintro V hV
          have HP_12 := Lib.hid (HP_11.out.trans hV)
          have HW_12 := Lib.hid (HW_11.out.to hV)
          have L_12 := Lib.hid (L_11.out.to hV)
          have R_12 := Lib.hid (R_11.out.to hV)
          have N_12 := Lib.hid (N_11.out.to hV)
          have C_12 := Lib.hid (C_11.out.to hV)
          have M_12 := Lib.hid (M_11.out.to hV)
          have S_12 := Lib.hid (S_11.out.to hV)
          have P_12 := Lib.hid (P_11.out.to hV)
          have V_12 := Lib.hid (V_11.out.to hV)
          clear hV hq1 hq2 HP_11 HW_11 L_11 R_11 N_11 C_11 M_11 S_11 P_11 V_11
          have hr0 : IntKind.i64.wrap (x * s2) = x * s2 := IntWalk.i64_in _ (by have := HB.out.2.2.1; omega)
          have hr1 : IntKind.i64.wrap (y * s1) = y * s1 := IntWalk.i64_in _ (by have := HB.out.2.2.2.1; omega)
          have hr2 : IntKind.i64.wrap (x * s2 + y * s1) = x * s2 + y * s1 := IntWalk.i64_in _ (by have := HB.out.2.2.2.2.1; omega)
          have hr3 : IntKind.i64.wrap ((x * s2 + y * s1) * p2) = (x * s2 + y * s1) * p2 := IntWalk.i64_in _ (by have := HB.out.2.2.2.2.2.1; omega)
          have hr4 : IntKind.i64.wrap (p1 * D) = p1 * D := IntWalk.i64_in _ (by have := HB.out.2.2.2.2.2.2.1; omega)
          have hr5 : IntKind.i64.wrap (p1 * D * s2) = p1 * D * s2 := IntWalk.i64_in _ (by have := HB.out.2.2.2.2.2.2.2; omega)
          have hgt : ¬ p1 * D * s2 < (x * s2 + y * s1) * p2 := of_decide_eq_false HLL.out.1
          have nn0 := N_12.out.at 0
          have nn1 := N_12.out.at 1
          have nn2 := N_12.out.at 2
          have nnl := N_12.out.lt
          have ks0 := S_12.out.at 0
          have ks1 := S_12.out.at 1
          have ksl := S_12.out.lt
          have kp0 := P_12.out.at 0
          have kp1 := P_12.out.at 1
          have kpl := P_12.out.lt
          go_wp2_with fail
          clear nn0 nn1 nn2 nnl
          clear ks0 ks1 ksl
          clear kp0 kp1 kpl
          clear hr0 hr1 hr2 hr3 hr4 hr5 hgt
          by_cases hdy : y < 0
          · refine WQ.region (C := Pure V) hmx (by kernel_rfl) ((Diff.refl _).drew) ?_
            iterate 1 (refine WQ.step (fun K hK => ?_); go_simp; first | refine hK _ ?_ | refine ⟨_, fun _ _ => rfl, hK _ ?_⟩; clear hK K)
            refine WQ.val (by rfl) _ (fun V hV => exec_load_cell (.tmp 133) rfl g0_0 2 y rfl ((N_12.out.to hV).at 2) (N_12.out.to hV).lt) ?_
            iterate 2 (refine WQ.step (fun K hK => ?_); go_simp; first | refine hK _ ?_ | refine ⟨_, fun _ _ => rfl, hK _ ?_⟩; clear hK K)
            refine WQ.skipK (by rfl) (fun K hK => ?_); go_simp; refine hK _ ?_; clear hK K
            refine WQ.skipK (by rfl) (fun K hK => ?_); go_simp; refine hK _ ?_; clear hK K
            refine WQ.skipK (by rfl) (fun K hK => ?_); go_simp; refine hK _ ?_; clear hK K
            refine WQ.skipK (by rfl) (fun K hK => ?_); go_simp; refine hK _ ?_; clear hK K
            iterate 2 (refine WQ.step (fun K hK => ?_); go_simp; first | refine hK _ ?_ | refine ⟨_, fun _ _ => rfl, hK _ ?_⟩; clear hK K)
            refine WQ.skipK (by rfl) (fun K hK => ?_); go_simp; refine hK _ ?_; clear hK K
            refine WQ.skipK (by rfl) (fun K hK => ?_); go_simp; refine hK _ ?_; clear hK K
            refine WQ.skipK (by rfl) (fun K hK => ?_); go_simp; refine hK _ ?_; clear hK K
            refine WQ.skipK (by rfl) (fun K hK => ?_); go_simp; refine hK _ ?_; clear hK K
            iterate 2 (refine WQ.step (fun K hK => ?_); go_simp; first | refine hK _ ?_ | refine ⟨_, fun _ _ => rfl, hK _ ?_⟩; clear hK K)
            refine WQ.call (by rfl) 17 #[] (.bool true) (fun V => by unfold execOp; simp [go_sem]) (fun V hV => (Works_any V (HW_12.out.to hV)).mono fun e V2 h => ⟨h.1, hV.trans h.2⟩) ?_
            iterate 2 (refine WQ.step (fun K hK => ?_); go_simp; first | refine hK _ ?_ | refine ⟨_, fun _ _ => rfl, hK _ ?_⟩; clear hK K)
            refine WQ.nil ?_
            rintro V hV
            have HPE := Lib.hid hV
            clear hV
            go_wp2
            exact bodyPost_ret (v := .bool true) (by simp [results, Tryd.results7, go_sem]) rfl ⟨rfl, HP_12.out.trans HPE.out⟩
          · cases hdl : decide (s1 * 1 < t * s2)
            · have HDL := Lib.hid hdl
              clear hdl
              refine WQ.region (C := Pure V) hmx (by kernel_rfl) ((Diff.refl _).drew) ?_
              iterate 1 (refine WQ.step (fun K hK => ?_); go_simp; first | refine hK _ ?_ | refine ⟨_, fun _ _ => rfl, hK _ ?_⟩; clear hK K)
              refine WQ.val (by rfl) _ (fun V hV => exec_load_cell (.tmp 133) rfl g0_0 2 y rfl ((N_12.out.to hV).at 2) (N_12.out.to hV).lt) ?_
              iterate 2 (refine WQ.step (fun K hK => ?_); go_simp; first | refine hK _ ?_ | refine ⟨_, fun _ _ => rfl, hK _ ?_⟩; clear hK K)
              refine WQ.val (by rfl) _ (fun V hV => exec_load_pair (.tmp 13) rfl g7_0 s1 s2 rfl (S_12.out.to hV)) ?_
              iterate 1 (refine WQ.step (fun K hK => ?_); go_simp; first | refine hK _ ?_ | refine ⟨_, fun _ _ => rfl, hK _ ?_⟩; clear hK K)
              refine WQ.call (by rfl) 31 #[.int .i64 t, .int .i64 1] (.agg #[.int .i64 t, .int .i64 1]) (fun V => by unfold execOp; simp [go_sem]) (fun V hV => by have h := lby_any V t 1; exact h.mono fun e V2 h => ⟨h.1, hV.trans h.2⟩) ?_
              refine WQ.call (by rfl) 52 #[.agg #[.int .i64 s1, .int .i64 s2], .agg #[.int .i64 t, .int .i64 1]] (.bool false) (fun V => by unfold execOp; simp [go_sem]) (fun V hV => by have h := RLess_any V s1 s2 t 1 ⟨by have := SS.out.a0; omega, by have := SS.out.a1; have := SS.out.b1; omega⟩ ⟨by have := SS.out.b0; omega, by have := SS.out.b1; omega⟩ ⟨by have := HT.out; omega, by have := HT.out; omega⟩ ⟨by omega, by omega⟩; rw [HDL.out] at h; exact h.mono fun e V2 h => ⟨h.1, hV.trans h.2⟩) ?_
              iterate 2 (refine WQ.step (fun K hK => ?_); go_simp; first | refine hK _ ?_ | refine ⟨_, fun _ _ => rfl, hK _ ?_⟩; clear hK K)
              refine WQ.val (by rfl) _ (fun V hV => exec_load_pair (.tmp 14) rfl g7_1 p1 p2 rfl (P_12.out.to hV)) ?_
              refine WQ.val (by rfl) _ (fun V hV => exec_load_pair (.tmp 16) rfl g9_0 v1 v2 rfl (V_12.out.to hV)) ?_
              refine WQ.call (by rfl) 52 #[.agg #[.int .i64 p1, .int .i64 p2], .agg #[.int .i64 v1, .int .i64 v2]] (.bool false) (fun V => by unfold execOp; simp [go_sem]) (fun V hV => by have h := RLess_any V p1 p2 v1 v2 ⟨by have := SP.out.a0; omega, by have := SP.out.a1; have := SP.out.b1; omega⟩ ⟨by have := SP.out.b0; omega, by have := SP.out.b1; omega⟩ ⟨by have := HRL.out.1; omega, by have := HRL.out.1; omega⟩ ⟨by have := HRL.out.2; omega, by have := HRL.out.2; omega⟩; rw [(HLL.out.2 (decide_eq_false hdy) HDL.out)] at h; exact h.mono fun e V2 h => ⟨h.1, hV.trans h.2⟩) ?_
              iterate 3 (refine WQ.step (fun K hK => ?_); go_simp; first | refine hK _ ?_ | refine ⟨_, fun _ _ => rfl, hK _ ?_⟩; clear hK K)
              refine WQ.call (by rfl) 17 #[] (.bool true) (fun V => by unfold execOp; simp [go_sem]) (fun V hV => (Works_any V (HW_12.out.to hV)).mono fun e V2 h => ⟨h.1, hV.trans h.2⟩) ?_
              iterate 2 (refine WQ.step (fun K hK => ?_); go_simp; first | refine hK _ ?_ | refine ⟨_, fun _ _ => rfl, hK _ ?_⟩; clear hK K)
              refine WQ.nil ?_
              rintro V hV
              have HPE := Lib.hid hV
              clear hV
              go_wp2
              exact bodyPost_ret (v := .bool true) (by simp [results, Tryd.results7, go_sem]) rfl ⟨rfl, HP_12.out.trans HPE.out⟩
            · have HDL := Lib.hid hdl
              clear hdl
              refine WQ.region (C := Pure V) hmx (by kernel_rfl) ((Diff.refl _).drew) ?_
              iterate 1 (refine WQ.step (fun K hK => ?_); go_simp; first | refine hK _ ?_ | refine ⟨_, fun _ _ => rfl, hK _ ?_⟩; clear hK K)
              refine WQ.val (by rfl) _ (fun V hV => exec_load_cell (.tmp 133) rfl g0_0 2 y rfl ((N_12.out.to hV).at 2) (N_12.out.to hV).lt) ?_
              iterate 2 (refine WQ.step (fun K hK => ?_); go_simp; first | refine hK _ ?_ | refine ⟨_, fun _ _ => rfl, hK _ ?_⟩; clear hK K)
              refine WQ.val (by rfl) _ (fun V hV => exec_load_pair (.tmp 13) rfl g7_0 s1 s2 rfl (S_12.out.to hV)) ?_
              iterate 1 (refine WQ.step (fun K hK => ?_); go_simp; first | refine hK _ ?_ | refine ⟨_, fun _ _ => rfl, hK _ ?_⟩; clear hK K)
              refine WQ.call (by rfl) 31 #[.int .i64 t, .int .i64 1] (.agg #[.int .i64 t, .int .i64 1]) (fun V => by unfold execOp; simp [go_sem]) (fun V hV => by have h := lby_any V t 1; exact h.mono fun e V2 h => ⟨h.1, hV.trans h.2⟩) ?_
              refine WQ.call (by rfl) 52 #[.agg #[.int .i64 s1, .int .i64 s2], .agg #[.int .i64 t, .int .i64 1]] (.bool true) (fun V => by unfold execOp; simp [go_sem]) (fun V hV => by have h := RLess_any V s1 s2 t 1 ⟨by have := SS.out.a0; omega, by have := SS.out.a1; have := SS.out.b1; omega⟩ ⟨by have := SS.out.b0; omega, by have := SS.out.b1; omega⟩ ⟨by have := HT.out; omega, by have := HT.out; omega⟩ ⟨by omega, by omega⟩; rw [HDL.out] at h; exact h.mono fun e V2 h => ⟨h.1, hV.trans h.2⟩) ?_
              iterate 2 (refine WQ.step (fun K hK => ?_); go_simp; first | refine hK _ ?_ | refine ⟨_, fun _ _ => rfl, hK _ ?_⟩; clear hK K)
              refine WQ.skipK (by rfl) (fun K hK => ?_); go_simp; refine hK _ ?_; clear hK K
              refine WQ.skipK (by rfl) (fun K hK => ?_); go_simp; refine hK _ ?_; clear hK K
              refine WQ.skipK (by rfl) (fun K hK => ?_); go_simp; refine hK _ ?_; clear hK K
              refine WQ.skipK (by rfl) (fun K hK => ?_); go_simp; refine hK _ ?_; clear hK K
              iterate 2 (refine WQ.step (fun K hK => ?_); go_simp; first | refine hK _ ?_ | refine ⟨_, fun _ _ => rfl, hK _ ?_⟩; clear hK K)
              refine WQ.call (by rfl) 17 #[] (.bool true) (fun V => by unfold execOp; simp [go_sem]) (fun V hV => (Works_any V (HW_12.out.to hV)).mono fun e V2 h => ⟨h.1, hV.trans h.2⟩) ?_
              iterate 2 (refine WQ.step (fun K hK => ?_); go_simp; first | refine hK _ ?_ | refine ⟨_, fun _ _ => rfl, hK _ ?_⟩; clear hK K)
              refine WQ.nil ?_
              rintro V hV
              have HPE := Lib.hid hV
              clear hV
              go_wp2
              exact bodyPost_ret (v := .bool true) (by simp [results, Tryd.results7, go_sem]) rfl ⟨rfl, HP_12.out.trans HPE.out⟩
end Go.Proofs.YtgpfmnjianflaaaDoor
