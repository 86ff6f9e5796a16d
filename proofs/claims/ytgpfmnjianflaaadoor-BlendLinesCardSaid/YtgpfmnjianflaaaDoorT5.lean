/- Walk of BlendLines. -/
import Derived.Test.YtgpfmnjianflaaaDoorH1
import Derived.Test.YtgpfmnjianflaaaDoorR12
set_option linter.unusedSimpArgs false
set_option linter.unusedVariables false
set_option linter.constructorNameAsVariable false
namespace Go.Proofs.YtgpfmnjianflaaaDoor
open Go.RowKit


set_option maxRecDepth 20000 in
set_option maxHeartbeats 4000000 in
theorem LinesLaw_any (w : World) (L : LT) (p : Option Addr) (cap : Nat) (dv xv yv t : Int) (hl : LotsAt w.heap.size w p L) (_h1 : (Lit.int .i64 dv).wf = true) (_h2 : (Lit.int .i64 xv).wf = true) (_h3 : (Lit.int .i64 yv).wf = true) (_h4 : (Lit.int .i64 t).wf = true) (hg : Gl w) :
    Calls Tryd.prog 5 #[.slice p L.n cap, .agg #[.int .i64 dv, .int .i64 xv, .int .i64 yv], .int .i64 t] w fun e w' => e = .returned (.bool true) ∧ Pure w w' := by
  have hmx : Tryd.prog.follows .mixedOrders = true := by kernel_rfl
  have HG := Lib.hid hg
  have HL := Lib.hid hl
  clear hg hl
  go_enter Tryd.func5, Tryd.ntmps5
  go_wp2_with fail
  obtain ⟨X, hX⟩ : ∃ V : World, w.alloc (.cells #[.int .i64 dv, .int .i64 xv, .int .i64 yv] 45) = V := ⟨_, rfl⟩
  have k0 : Blk w.heap.size 45 #[.int .i64 dv, .int .i64 xv, .int .i64 yv] X := by rw [← hX]; exact Blk.new _ _ _
  have hP : Pure w X := by rw [← hX]; exact (Diff.refl _).alloc _
  rw [hX]
  clear hX
  obtain ⟨gz, hgz⟩ : ∃ g, w.heap.size = g := ⟨_, rfl⟩
  refine (great_any X L p cap).mono ?_
  rintro e w1 ⟨rfl, hp1⟩
  have HP1 := Lib.hid (hP.trans hp1)
  have HG1 := Lib.hid (HG.out.to HP1.out)
  have HL1 := Lib.hid (HL.out.to HP1.out)
  have HZ1 := Lib.hid (k0.to hp1)
  rw [hgz] at HZ1 ⊢
  clear hp1 hP k0 hgz
  by_cases h14 : 14 < L.n
  · have hb : decide (14 < L.n) = true := by simpa using h14
    rw [hb]
    go_wp2_with fail
    refine (Works_any w1 HG1.out).mono ?_
    rintro e w9 ⟨rfl, hp9⟩
    have HP9 := Lib.hid (HP1.out.trans hp9)
    clear hp9
    go_wp2
    exact bodyPost_ret (v := .bool true) (by simp [results, Tryd.results5, go_sem]) rfl ⟨rfl, HP9.out⟩
  · have hb : decide (14 < L.n) = false := by simpa using h14
    rw [hb]
    have hLn : L.n ≤ 1000 := by omega
    go_wp2_with fail
    refine (twinLots_any w1 L p cap hLn HL1.out).mono ?_
    rintro e v0 ⟨⟨p2, c2, rfl, hx⟩, hp⟩
    have HP_0 := Lib.hid (HP1.out.trans hp)
    have HW_0 := Lib.hid (HG1.out.to hp)
    have L_0 := Lib.hid (HL1.out.to hp)
    have Z_0 := Lib.hid (HZ1.out.to hp)
    have L2_0 := Lib.hid hx
    clear hp hx HP1 HG1 HL1 HZ1
    have z0 := Z_0.out.at 0
    have z1 := Z_0.out.at 1
    have z2 := Z_0.out.at 2
    have zl := Z_0.out.lt
    go_wp2_with fail
    clear z0 z1 z2 zl
    refine (CheckLine_any v0 L p2 c2 dv xv yv t hLn L2_0.out HW_0.out).mono ?_
    rintro e v1 ⟨rfl, hp⟩
    have HP_1 := Lib.hid (HP_0.out.trans hp)
    have HW_1 := Lib.hid (HW_0.out.to hp)
    have L_1 := Lib.hid (L_0.out.to hp)
    have Z_1 := Lib.hid (Z_0.out.to hp)
    have L2_1 := Lib.hid (L2_0.out.to hp)
    clear hp  HP_0 HW_0 L_0 Z_0 L2_0
    obtain ⟨k1, hk1⟩ : ∃ zz, (lineP L (dv, xv, yv) t).1 = zz := ⟨_, rfl⟩
    obtain ⟨k2, hk2⟩ : ∃ zz, (lineP L (dv, xv, yv) t).2 = zz := ⟨_, rfl⟩
    obtain ⟨ke, hke⟩ : ∃ zz, lineE L (dv, xv, yv) t = zz := ⟨_, rfl⟩
    have HEK : Hid ((lineP L (dv, xv, yv) t).1 = k1 ∧ (lineP L (dv, xv, yv) t).2 = k2 ∧ lineE L (dv, xv, yv) t = ke) := ⟨hk1, hk2, hke⟩
    rw [hk1, hk2, hke]
    clear hk1 hk2 hke
    have z0 := Z_1.out.at 0
    have z1 := Z_1.out.at 1
    have z2 := Z_1.out.at 2
    have zl := Z_1.out.lt
    go_wp2_with fail
    clear z0 z1 z2 zl
    obtain ⟨X2, hX2⟩ : ∃ V : World, v1.alloc (Obj.cells #[Value.int IntKind.i64 k1, Value.int IntKind.i64 k2] 29) = V := ⟨_, rfl⟩
    have hpX2 : Pure v1 X2 := by rw [← hX2]; exact ((Diff.refl v1).alloc _)
    have bA : Blk (v1.heap.size) 29 #[Value.int IntKind.i64 k1, Value.int IntKind.i64 k2] X2 := by rw [← hX2]; exact (blk0 v1 29 _)
    rw [hX2]
    obtain ⟨g2_0, hg2_0⟩ : ∃ g, v1.heap.size = g := ⟨_, rfl⟩
    rw [hg2_0] at bA ⊢
    have HP_2 := Lib.hid (HP_1.out.trans hpX2)
    have HW_2 := Lib.hid (HW_1.out.to hpX2)
    have L_2 := Lib.hid (L_1.out.to hpX2)
    have Z_2 := Lib.hid (Z_1.out.to hpX2)
    have L2_2 := Lib.hid (L2_1.out.to hpX2)
    have A_2 := Lib.hid bA
    clear hX2 hpX2 hg2_0 bA HP_1 HW_1 L_1 Z_1 L2_1
    refine (RCheckLine_any X2 L p cap dv xv yv t hLn L_2.out).mono ?_
    rintro e v3 ⟨rfl, hp⟩
    have HP_3 := Lib.hid (HP_2.out.trans hp)
    have HW_3 := Lib.hid (HW_2.out.to hp)
    have L_3 := Lib.hid (L_2.out.to hp)
    have Z_3 := Lib.hid (Z_2.out.to hp)
    have L2_3 := Lib.hid (L2_2.out.to hp)
    have A_3 := Lib.hid (A_2.out.to hp)
    clear hp  HP_2 HW_2 L_2 Z_2 L2_2 A_2
    rw [HEK.out.1, HEK.out.2.1, HEK.out.2.2]
    go_wp2_with fail
    obtain ⟨X4, hX4⟩ : ∃ V : World, v3.alloc (Obj.cells #[Value.int IntKind.i64 k1, Value.int IntKind.i64 k2] 29) = V := ⟨_, rfl⟩
    have hpX4 : Pure v3 X4 := by rw [← hX4]; exact ((Diff.refl v3).alloc _)
    have bB : Blk (v3.heap.size) 29 #[Value.int IntKind.i64 k1, Value.int IntKind.i64 k2] X4 := by rw [← hX4]; exact (blk0 v3 29 _)
    rw [hX4]
    obtain ⟨g4_0, hg4_0⟩ : ∃ g, v3.heap.size = g := ⟨_, rfl⟩
    rw [hg4_0] at bB ⊢
    have HP_4 := Lib.hid (HP_3.out.trans hpX4)
    have HW_4 := Lib.hid (HW_3.out.to hpX4)
    have L_4 := Lib.hid (L_3.out.to hpX4)
    have Z_4 := Lib.hid (Z_3.out.to hpX4)
    have L2_4 := Lib.hid (L2_3.out.to hpX4)
    have A_4 := Lib.hid (A_3.out.to hpX4)
    have B_4 := Lib.hid bB
    clear hX4 hpX4 hg4_0 bB HP_3 HW_3 L_3 Z_3 L2_3 A_3
    go_wp2_with fail
    refine (Line_any X4 L p2 c2 t hLn L2_4.out HW_4.out).mono ?_
    rintro e v5 ⟨rfl, hp⟩
    have HP_5 := Lib.hid (HP_4.out.trans hp)
    have HW_5 := Lib.hid (HW_4.out.to hp)
    have L_5 := Lib.hid (L_4.out.to hp)
    have Z_5 := Lib.hid (Z_4.out.to hp)
    have L2_5 := Lib.hid (L2_4.out.to hp)
    have A_5 := Lib.hid (A_4.out.to hp)
    have B_5 := Lib.hid (B_4.out.to hp)
    clear hp  HP_4 HW_4 L_4 Z_4 L2_4 A_4 B_4
    obtain ⟨l1, hl1⟩ : ∃ zz, (lineOf L t).1 = zz := ⟨_, rfl⟩
    obtain ⟨l2, hl2⟩ : ∃ zz, (lineOf L t).2.1 = zz := ⟨_, rfl⟩
    obtain ⟨l3, hl3⟩ : ∃ zz, (lineOf L t).2.2 = zz := ⟨_, rfl⟩
    obtain ⟨ce, hce⟩ : ∃ zz, cheapE L t = zz := ⟨_, rfl⟩
    have HEL : Hid ((lineOf L t).1 = l1 ∧ (lineOf L t).2.1 = l2 ∧ (lineOf L t).2.2 = l3 ∧ cheapE L t = ce) := ⟨hl1, hl2, hl3, hce⟩
    rw [hl1, hl2, hl3, hce]
    clear hl1 hl2 hl3 hce
    go_wp2_with fail
    obtain ⟨X6, hX6⟩ : ∃ V : World, v5.alloc (Obj.cells #[Value.int IntKind.i64 l1, Value.int IntKind.i64 l2, Value.int IntKind.i64 l3] 45) = V := ⟨_, rfl⟩
    have hpX6 : Pure v5 X6 := by rw [← hX6]; exact ((Diff.refl v5).alloc _)
    have bC : Blk (v5.heap.size) 45 #[Value.int IntKind.i64 l1, Value.int IntKind.i64 l2, Value.int IntKind.i64 l3] X6 := by rw [← hX6]; exact (blk0 v5 45 _)
    rw [hX6]
    obtain ⟨g6_0, hg6_0⟩ : ∃ g, v5.heap.size = g := ⟨_, rfl⟩
    rw [hg6_0] at bC ⊢
    have HP_6 := Lib.hid (HP_5.out.trans hpX6)
    have HW_6 := Lib.hid (HW_5.out.to hpX6)
    have L_6 := Lib.hid (L_5.out.to hpX6)
    have Z_6 := Lib.hid (Z_5.out.to hpX6)
    have L2_6 := Lib.hid (L2_5.out.to hpX6)
    have A_6 := Lib.hid (A_5.out.to hpX6)
    have B_6 := Lib.hid (B_5.out.to hpX6)
    have C_6 := Lib.hid bC
    clear hX6 hpX6 hg6_0 bC HP_5 HW_5 L_5 Z_5 L2_5 A_5 B_5
    go_wp2_with fail
    refine (RCheapest_any X6 L p cap t hLn L_6.out).mono ?_
    rintro e v7 ⟨rfl, hp⟩
    have HP_7 := Lib.hid (HP_6.out.trans hp)
    have HW_7 := Lib.hid (HW_6.out.to hp)
    have L_7 := Lib.hid (L_6.out.to hp)
    have Z_7 := Lib.hid (Z_6.out.to hp)
    have L2_7 := Lib.hid (L2_6.out.to hp)
    have A_7 := Lib.hid (A_6.out.to hp)
    have B_7 := Lib.hid (B_6.out.to hp)
    have C_7 := Lib.hid (C_6.out.to hp)
    clear hp  HP_6 HW_6 L_6 Z_6 L2_6 A_6 B_6 C_6
    rw [HEL.out.2.2.2]
    obtain ⟨q1, hq1⟩ : ∃ zz, (cheapP L t).1 = zz := ⟨_, rfl⟩
    obtain ⟨q2, hq2⟩ : ∃ zz, (cheapP L t).2 = zz := ⟨_, rfl⟩
    have HEQ : Hid ((cheapP L t).1 = q1 ∧ (cheapP L t).2 = q2) := ⟨hq1, hq2⟩
    rw [hq1, hq2]
    clear hq1 hq2
    go_wp2_with fail
    obtain ⟨X8, hX8⟩ : ∃ V : World, v7.alloc (Obj.cells #[Value.int IntKind.i64 q1, Value.int IntKind.i64 q2] 29) = V := ⟨_, rfl⟩
    have hpX8 : Pure v7 X8 := by rw [← hX8]; exact ((Diff.refl v7).alloc _)
    have bD : Blk (v7.heap.size) 29 #[Value.int IntKind.i64 q1, Value.int IntKind.i64 q2] X8 := by rw [← hX8]; exact (blk0 v7 29 _)
    rw [hX8]
    obtain ⟨g8_0, hg8_0⟩ : ∃ g, v7.heap.size = g := ⟨_, rfl⟩
    rw [hg8_0] at bD ⊢
    have HP_8 := Lib.hid (HP_7.out.trans hpX8)
    have HW_8 := Lib.hid (HW_7.out.to hpX8)
    have L_8 := Lib.hid (L_7.out.to hpX8)
    have Z_8 := Lib.hid (Z_7.out.to hpX8)
    have L2_8 := Lib.hid (L2_7.out.to hpX8)
    have A_8 := Lib.hid (A_7.out.to hpX8)
    have B_8 := Lib.hid (B_7.out.to hpX8)
    have C_8 := Lib.hid (C_7.out.to hpX8)
    have D_8 := Lib.hid bD
    clear hX8 hpX8 hg8_0 bD HP_7 HW_7 L_7 Z_7 L2_7 A_7 B_7 C_7
    go_wp2_with fail
    refine (Floor_any X8 L p2 c2 t hLn L2_8.out HW_8.out).mono ?_
    rintro e v9 ⟨rfl, hp⟩
    have HP_9 := Lib.hid (HP_8.out.trans hp)
    have HW_9 := Lib.hid (HW_8.out.to hp)
    have L_9 := Lib.hid (L_8.out.to hp)
    have Z_9 := Lib.hid (Z_8.out.to hp)
    have L2_9 := Lib.hid (L2_8.out.to hp)
    have A_9 := Lib.hid (A_8.out.to hp)
    have B_9 := Lib.hid (B_8.out.to hp)
    have C_9 := Lib.hid (C_8.out.to hp)
    have D_9 := Lib.hid (D_8.out.to hp)
    clear hp  HP_8 HW_8 L_8 Z_8 L2_8 A_8 B_8 C_8 D_8
    obtain ⟨o1, ho1⟩ : ∃ zz, (floorOf L t).1 = zz := ⟨_, rfl⟩
    obtain ⟨o2, ho2⟩ : ∃ zz, (floorOf L t).2.1 = zz := ⟨_, rfl⟩
    obtain ⟨o3, ho3⟩ : ∃ zz, (floorOf L t).2.2 = zz := ⟨_, rfl⟩
    obtain ⟨ae, hae⟩ : ∃ zz, atE L t = zz := ⟨_, rfl⟩
    have HEO : Hid ((floorOf L t).1 = o1 ∧ (floorOf L t).2.1 = o2 ∧ (floorOf L t).2.2 = o3 ∧ atE L t = ae) := ⟨ho1, ho2, ho3, hae⟩
    rw [ho1, ho2, ho3, hae]
    clear ho1 ho2 ho3 hae
    go_wp2_with fail
    obtain ⟨X10, hX10⟩ : ∃ V : World, v9.alloc (Obj.cells #[Value.int IntKind.i64 o1, Value.int IntKind.i64 o2, Value.int IntKind.i64 o3] 45) = V := ⟨_, rfl⟩
    have hpX10 : Pure v9 X10 := by rw [← hX10]; exact ((Diff.refl v9).alloc _)
    have bE : Blk (v9.heap.size) 45 #[Value.int IntKind.i64 o1, Value.int IntKind.i64 o2, Value.int IntKind.i64 o3] X10 := by rw [← hX10]; exact (blk0 v9 45 _)
    rw [hX10]
    obtain ⟨g10_0, hg10_0⟩ : ∃ g, v9.heap.size = g := ⟨_, rfl⟩
    rw [hg10_0] at bE ⊢
    have HP_10 := Lib.hid (HP_9.out.trans hpX10)
    have HW_10 := Lib.hid (HW_9.out.to hpX10)
    have L_10 := Lib.hid (L_9.out.to hpX10)
    have Z_10 := Lib.hid (Z_9.out.to hpX10)
    have L2_10 := Lib.hid (L2_9.out.to hpX10)
    have A_10 := Lib.hid (A_9.out.to hpX10)
    have B_10 := Lib.hid (B_9.out.to hpX10)
    have C_10 := Lib.hid (C_9.out.to hpX10)
    have D_10 := Lib.hid (D_9.out.to hpX10)
    have E_10 := Lib.hid bE
    clear hX10 hpX10 hg10_0 bE HP_9 HW_9 L_9 Z_9 L2_9 A_9 B_9 C_9 D_9
    go_wp2_with fail
    refine (RAtLeast_any X10 L p cap t hLn L_10.out).mono ?_
    rintro e v11 ⟨rfl, hp⟩
    have HP_11 := Lib.hid (HP_10.out.trans hp)
    have HW_11 := Lib.hid (HW_10.out.to hp)
    have L_11 := Lib.hid (L_10.out.to hp)
    have Z_11 := Lib.hid (Z_10.out.to hp)
    have L2_11 := Lib.hid (L2_10.out.to hp)
    have A_11 := Lib.hid (A_10.out.to hp)
    have B_11 := Lib.hid (B_10.out.to hp)
    have C_11 := Lib.hid (C_10.out.to hp)
    have D_11 := Lib.hid (D_10.out.to hp)
    have E_11 := Lib.hid (E_10.out.to hp)
    clear hp  HP_10 HW_10 L_10 Z_10 L2_10 A_10 B_10 C_10 D_10 E_10
    rw [HEO.out.2.2.2]
    obtain ⟨u1, hu1⟩ : ∃ zz, (atP L t).1 = zz := ⟨_, rfl⟩
    obtain ⟨u2, hu2⟩ : ∃ zz, (atP L t).2 = zz := ⟨_, rfl⟩
    have HEU : Hid ((atP L t).1 = u1 ∧ (atP L t).2 = u2) := ⟨hu1, hu2⟩
    rw [hu1, hu2]
    clear hu1 hu2
    go_wp2_with fail
    obtain ⟨X12, hX12⟩ : ∃ V : World, v11.alloc (Obj.cells #[Value.int IntKind.i64 u1, Value.int IntKind.i64 u2] 29) = V := ⟨_, rfl⟩
    have hpX12 : Pure v11 X12 := by rw [← hX12]; exact ((Diff.refl v11).alloc _)
    have bF : Blk (v11.heap.size) 29 #[Value.int IntKind.i64 u1, Value.int IntKind.i64 u2] X12 := by rw [← hX12]; exact (blk0 v11 29 _)
    rw [hX12]
    obtain ⟨g12_0, hg12_0⟩ : ∃ g, v11.heap.size = g := ⟨_, rfl⟩
    rw [hg12_0] at bF ⊢
    have HP_12 := Lib.hid (HP_11.out.trans hpX12)
    have HW_12 := Lib.hid (HW_11.out.to hpX12)
    have L_12 := Lib.hid (L_11.out.to hpX12)
    have Z_12 := Lib.hid (Z_11.out.to hpX12)
    have L2_12 := Lib.hid (L2_11.out.to hpX12)
    have A_12 := Lib.hid (A_11.out.to hpX12)
    have B_12 := Lib.hid (B_11.out.to hpX12)
    have C_12 := Lib.hid (C_11.out.to hpX12)
    have D_12 := Lib.hid (D_11.out.to hpX12)
    have E_12 := Lib.hid (E_11.out.to hpX12)
    have F_12 := Lib.hid bF
    clear hX12 hpX12 hg12_0 bF HP_11 HW_11 L_11 Z_11 L2_11 A_11 B_11 C_11 D_11 E_11
    go_wp2_with fail
    by_cases hc : ce = 0
    · by_cases ha : ae = 0
      · obtain rfl := hc
        have HLJ : Hid ((lineP L (l1, l2, l3) t).1 = q1 ∧ (lineP L (l1, l2, l3) t).2 = q2 ∧ lineE L (l1, l2, l3) t = 0) := by
          have e : lineOf L t = (l1, l2, l3) := by rw [← HEL.out.1, ← HEL.out.2.1, ← HEL.out.2.2.1]
          have h := line_join HEL.out.2.2.2
          rw [e] at h
          exact ⟨by rw [h.2.2.2]; exact HEQ.out.1, by rw [h.2.2.2]; exact HEQ.out.2, h.2.2.1⟩
        obtain rfl := ha
        have HOJ : Hid ((lineP L (o1, o2, o3) t).1 = u1 ∧ (lineP L (o1, o2, o3) t).2 = u2 ∧ lineE L (o1, o2, o3) t = 0 ∧ ¬ o3 < 0) := by
          have e : floorOf L t = (o1, o2, o3) := by rw [← HEO.out.1, ← HEO.out.2.1, ← HEO.out.2.2.1]
          have h := floor_join HEO.out.2.2.2
          rw [e] at h
          exact ⟨by rw [h.2.2.2.2]; exact HEU.out.1, by rw [h.2.2.2.2]; exact HEU.out.2, h.2.2.2.1, by have := h.2.2.1; simp only at this; omega⟩
        refine reg_invW (fun d a W => a = { tmps := #[Value.slice p L.n cap, Value.agg #[Value.int IntKind.i64 dv, Value.int IntKind.i64 xv, Value.int IntKind.i64 yv], Value.int IntKind.i64 t, undef, Value.pointer (some { block := gz, off := 0 }), undef, Value.bool false, Value.slice p2 L.n c2, Value.pointer (some { block := g2_0, off := 0 }), Value.int IntKind.i64 ke, Value.pointer (some { block := g4_0, off := 0 }), Value.int IntKind.i64 ke, Value.pointer (some { block := g6_0, off := 0 }), Value.int IntKind.i64 0, Value.pointer (some { block := g8_0, off := 0 }), Value.int IntKind.i64 0, Value.pointer (some { block := g10_0, off := 0 }), Value.int IntKind.i64 0, Value.pointer (some { block := g12_0, off := 0 }), Value.int IntKind.i64 0, undef, undef, undef, undef, Value.slice p L.n cap, Value.bool false, undef, Value.slice p L.n cap, Value.slice p2 L.n c2, Value.tuple #[Value.agg #[Value.int IntKind.i64 k1, Value.int IntKind.i64 k2], Value.int IntKind.i64 ke], Value.slice p2 L.n c2, Value.agg #[Value.int IntKind.i64 dv, Value.int IntKind.i64 xv, Value.int IntKind.i64 yv], Value.int IntKind.i64 t, Value.tuple #[Value.agg #[Value.int IntKind.i64 k1, Value.int IntKind.i64 k2], Value.int IntKind.i64 ke], Value.agg #[Value.int IntKind.i64 k1, Value.int IntKind.i64 k2], Value.int IntKind.i64 ke, Value.tuple #[Value.agg #[Value.int IntKind.i64 k1, Value.int IntKind.i64 k2], Value.int IntKind.i64 ke], Value.slice p L.n cap, Value.agg #[Value.int IntKind.i64 dv, Value.int IntKind.i64 xv, Value.int IntKind.i64 yv], Value.int IntKind.i64 t, Value.tuple #[Value.agg #[Value.int IntKind.i64 k1, Value.int IntKind.i64 k2], Value.int IntKind.i64 ke], Value.agg #[Value.int IntKind.i64 k1, Value.int IntKind.i64 k2], Value.int IntKind.i64 ke, Value.tuple #[Value.agg #[Value.int IntKind.i64 l1, Value.int IntKind.i64 l2, Value.int IntKind.i64 l3], Value.int IntKind.i64 0], Value.slice p2 L.n c2, Value.int IntKind.i64 t, Value.tuple #[Value.agg #[Value.int IntKind.i64 l1, Value.int IntKind.i64 l2, Value.int IntKind.i64 l3], Value.int IntKind.i64 0], Value.agg #[Value.int IntKind.i64 l1, Value.int IntKind.i64 l2, Value.int IntKind.i64 l3], Value.int IntKind.i64 0, Value.tuple #[Value.agg #[Value.int IntKind.i64 q1, Value.int IntKind.i64 q2], Value.int IntKind.i64 0], Value.slice p L.n cap, Value.int IntKind.i64 t, Value.tuple #[Value.agg #[Value.int IntKind.i64 q1, Value.int IntKind.i64 q2], Value.int IntKind.i64 0], Value.agg #[Value.int IntKind.i64 q1, Value.int IntKind.i64 q2], Value.int IntKind.i64 0, Value.tuple #[Value.agg #[Value.int IntKind.i64 o1, Value.int IntKind.i64 o2, Value.int IntKind.i64 o3], Value.int IntKind.i64 0], Value.slice p2 L.n c2, Value.int IntKind.i64 t, Value.tuple #[Value.agg #[Value.int IntKind.i64 o1, Value.int IntKind.i64 o2, Value.int IntKind.i64 o3], Value.int IntKind.i64 0], Value.agg #[Value.int IntKind.i64 o1, Value.int IntKind.i64 o2, Value.int IntKind.i64 o3], Value.int IntKind.i64 0, Value.tuple #[Value.agg #[Value.int IntKind.i64 u1, Value.int IntKind.i64 u2], Value.int IntKind.i64 0], Value.slice p L.n cap, Value.int IntKind.i64 t, Value.tuple #[Value.agg #[Value.int IntKind.i64 u1, Value.int IntKind.i64 u2], Value.int IntKind.i64 0], Value.agg #[Value.int IntKind.i64 u1, Value.int IntKind.i64 u2], Value.int IntKind.i64 0, (bif d 0 then Value.agg #[Value.int IntKind.i64 k1, Value.int IntKind.i64 k2] else undef), (bif d 1 then Value.agg #[Value.int IntKind.i64 k1, Value.int IntKind.i64 k2] else undef), (bif d 2 then Value.bool false else undef), (bif d 3 then Value.bool false else undef), (bif d 4 then Value.int IntKind.i64 ke else undef), (bif d 5 then Value.int IntKind.i64 ke else undef), (bif d 6 then Value.bool false else undef), (bif d 7 then Value.bool false else undef), (bif d 8 then Value.bool false else undef), (bif d 9 then Value.int IntKind.i64 0 else undef), (bif d 10 then Value.int IntKind.i64 0 else undef), (bif d 11 then Value.bool false else undef), (bif d 12 then Value.bool false else undef), (bif d 13 then Value.bool false else undef), (bif d 14 then Value.int IntKind.i64 0 else undef), (bif d 15 then Value.int IntKind.i64 0 else undef), (bif d 16 then Value.bool false else undef), (bif d 17 then Value.bool false else undef), (bif d 18 then Value.bool false else undef), (bif d 19 then Value.int IntKind.i64 0 else undef), (bif d 20 then Value.bool false else undef), (bif d 21 then Value.bool false else undef), (bif d 22 then undef else undef), (bif d 23 then undef else undef), (bif d 24 then undef else undef), (bif d 25 then Value.bool false else undef), (bif d 26 then Value.bool false else undef), (bif d 27 then Value.bool false else undef), (bif d 28 then Value.int IntKind.i64 0 else undef), (bif d 29 then Value.bool false else undef), (bif d 30 then Value.bool false else undef), (bif d 31 then undef else undef), (bif d 32 then undef else undef), (bif d 33 then undef else undef), (bif d 34 then Value.bool false else undef), (bif d 35 then Value.bool false else undef), undef, undef, undef, undef, undef, undef, undef, undef, undef, undef, undef, undef, undef, undef, undef, undef, undef, undef, undef, undef, undef, undef, undef, undef, undef, undef, undef, undef, undef, undef, undef, undef, undef, undef, undef, undef, undef, undef, undef, undef, undef, undef, undef], defers := [] } ∧ Pure X12 W) hmx (by kernel_rfl) ?_ ?_ ?_
        · exact ⟨rfl, (Diff.refl _).drew⟩
        · refine ⟨?_, ?_, ?_, ?_, ?_, ?_, ?_, ?_, ?_, ?_, ?_, ?_, ?_, ?_, ?_, ?_, ?_, ?_, ?_, ?_, ?_, ?_, ?_, ?_, ?_, ?_, ?_, ?_, ?_, ?_, ?_, ?_, ?_, ?_, ?_, ?_, trivial⟩
          · rintro d a W hdi hdep hcl ⟨rfl, hw⟩ K hK
            have E := hcl.facts 0 hdi rfl hdep [] [2, 3, 4, 5, 6, 7, 8, 9, 10, 11, 12, 13, 14, 15, 16, 17, 18, 19, 20, 21, 22, 23, 24, 25, 26, 27, 28, 29, 30, 31, 32, 33, 34, 35] (by kernel_rfl) (by kernel_rfl)
            simp only [AllT, AllF] at E
            clear hdi hdep hcl
            have zz := A_12.out.to hw
            have z0 := zz.at 0
            have z1 := zz.at 1
            have zl := zz.lt
            clear zz
            go_simp
            exact hK _ _ ⟨by simp [upd, E], hw⟩
          · rintro d a W hdi hdep hcl ⟨rfl, hw⟩ K hK
            have E := hcl.facts 1 hdi rfl hdep [] [2, 3, 4, 5, 6, 7, 8, 9, 10, 11, 12, 13, 14, 15, 16, 17, 18, 19, 20, 21, 22, 23, 24, 25, 26, 27, 28, 29, 30, 31, 32, 33, 34, 35] (by kernel_rfl) (by kernel_rfl)
            simp only [AllT, AllF] at E
            clear hdi hdep hcl
            have zz := B_12.out.to hw
            have z0 := zz.at 0
            have z1 := zz.at 1
            have zl := zz.lt
            clear zz
            go_simp
            exact hK _ _ ⟨by simp [upd, E], hw⟩
          · rintro d a W hdi hdep hcl ⟨rfl, hw⟩ K hK
            have E := hcl.facts 2 hdi rfl hdep [0, 1] [3, 4, 5, 6, 7, 8, 9, 10, 11, 12, 13, 14, 15, 16, 17, 18, 19, 20, 21, 22, 23, 24, 25, 26, 27, 28, 29, 30, 31, 32, 33, 34, 35] (by kernel_rfl) (by kernel_rfl)
            simp only [AllT, AllF] at E
            clear hdi hdep hcl
            go_simp
            exact hK _ _ ⟨by simp [upd, E], hw⟩
          · rintro d a W hdi hdep hcl ⟨rfl, hw⟩ K hK
            have E := hcl.facts 3 hdi rfl hdep [0, 1, 2] [4, 5, 6, 7, 8, 9, 10, 11, 12, 13, 14, 15, 16, 17, 18, 19, 20, 21, 22, 23, 24, 25, 26, 27, 28, 29, 30, 31, 32, 33, 34, 35] (by kernel_rfl) (by kernel_rfl)
            simp only [AllT, AllF] at E
            clear hdi hdep hcl
            go_simp
            exact hK _ _ ⟨by simp [upd, E], hw⟩
          · rintro d a W hdi hdep hcl ⟨rfl, hw⟩ K hK
            have E := hcl.facts 4 hdi rfl hdep [0, 1, 2, 3] [6, 7, 8, 9, 10, 11, 12, 13, 14, 15, 16, 17, 18, 19, 20, 21, 22, 23, 24, 25, 26, 27, 28, 29, 30, 31, 32, 33, 34, 35] (by kernel_rfl) (by kernel_rfl)
            simp only [AllT, AllF] at E
            clear hdi hdep hcl
            go_simp
            exact hK _ _ ⟨by simp [upd, E], hw⟩
          · rintro d a W hdi hdep hcl ⟨rfl, hw⟩ K hK
            have E := hcl.facts 5 hdi rfl hdep [0, 1, 2, 3] [6, 7, 8, 9, 10, 11, 12, 13, 14, 15, 16, 17, 18, 19, 20, 21, 22, 23, 24, 25, 26, 27, 28, 29, 30, 31, 32, 33, 34, 35] (by kernel_rfl) (by kernel_rfl)
            simp only [AllT, AllF] at E
            clear hdi hdep hcl
            go_simp
            exact hK _ _ ⟨by simp [upd, E], hw⟩
          · rintro d a W hdi hdep hcl ⟨rfl, hw⟩ K hK
            have E := hcl.facts 6 hdi rfl hdep [0, 1, 2, 3, 4, 5] [7, 8, 9, 10, 11, 12, 13, 14, 15, 16, 17, 18, 19, 20, 21, 22, 23, 24, 25, 26, 27, 28, 29, 30, 31, 32, 33, 34, 35] (by kernel_rfl) (by kernel_rfl)
            simp only [AllT, AllF] at E
            clear hdi hdep hcl
            go_simp
            exact hK _ _ ⟨by simp [upd, E], hw⟩
          · rintro d a W hdi hdep hcl ⟨rfl, hw⟩ K hK
            have E := hcl.facts 7 hdi rfl hdep [0, 1, 2, 3, 4, 5, 6] [8, 9, 10, 11, 12, 13, 14, 15, 16, 17, 18, 19, 20, 21, 22, 23, 24, 25, 26, 27, 28, 29, 30, 31, 32, 33, 34, 35] (by kernel_rfl) (by kernel_rfl)
            simp only [AllT, AllF] at E
            clear hdi hdep hcl
            go_simp
            exact hK _ _ ⟨by simp [upd, E], hw⟩
          · rintro d a W hdi hdep hcl ⟨rfl, hw⟩ K hK
            have E := hcl.facts 8 hdi rfl hdep [0, 1, 2, 3, 4, 5, 6, 7] [9, 10, 11, 12, 13, 14, 15, 16, 17, 18, 19, 20, 21, 22, 23, 24, 25, 26, 27, 28, 29, 30, 31, 32, 33, 34, 35] (by kernel_rfl) (by kernel_rfl)
            simp only [AllT, AllF] at E
            clear hdi hdep hcl
            go_simp
            exact hK _ _ ⟨by simp [upd, E], hw⟩
          · rintro d a W hdi hdep hcl ⟨rfl, hw⟩ K hK
            have E := hcl.facts 9 hdi rfl hdep [0, 1, 2, 3, 4, 5, 6, 7, 8] [11, 12, 13, 14, 15, 16, 17, 18, 19, 20, 21, 22, 23, 24, 25, 26, 27, 28, 29, 30, 31, 32, 33, 34, 35] (by kernel_rfl) (by kernel_rfl)
            simp only [AllT, AllF] at E
            clear hdi hdep hcl
            go_simp
            exact hK _ _ ⟨by simp [upd, E], hw⟩
          · rintro d a W hdi hdep hcl ⟨rfl, hw⟩ K hK
            have E := hcl.facts 10 hdi rfl hdep [0, 1, 2, 3, 4, 5, 6, 7, 8] [11, 12, 13, 14, 15, 16, 17, 18, 19, 20, 21, 22, 23, 24, 25, 26, 27, 28, 29, 30, 31, 32, 33, 34, 35] (by kernel_rfl) (by kernel_rfl)
            simp only [AllT, AllF] at E
            clear hdi hdep hcl
            go_simp
            exact hK _ _ ⟨by simp [upd, E], hw⟩
          · rintro d a W hdi hdep hcl ⟨rfl, hw⟩ K hK
            have E := hcl.facts 11 hdi rfl hdep [0, 1, 2, 3, 4, 5, 6, 7, 8, 9, 10] [12, 13, 14, 15, 16, 17, 18, 19, 20, 21, 22, 23, 24, 25, 26, 27, 28, 29, 30, 31, 32, 33, 34, 35] (by kernel_rfl) (by kernel_rfl)
            simp only [AllT, AllF] at E
            clear hdi hdep hcl
            go_simp
            exact hK _ _ ⟨by simp [upd, E], hw⟩
          · rintro d a W hdi hdep hcl ⟨rfl, hw⟩ K hK
            have E := hcl.facts 12 hdi rfl hdep [0, 1, 2, 3, 4, 5, 6, 7, 8, 9, 10, 11] [13, 14, 15, 16, 17, 18, 19, 20, 21, 22, 23, 24, 25, 26, 27, 28, 29, 30, 31, 32, 33, 34, 35] (by kernel_rfl) (by kernel_rfl)
            simp only [AllT, AllF] at E
            clear hdi hdep hcl
            go_simp
            exact hK _ _ ⟨by simp [upd, E], hw⟩
          · rintro d a W hdi hdep hcl ⟨rfl, hw⟩ K hK
            have E := hcl.facts 13 hdi rfl hdep [0, 1, 2, 3, 4, 5, 6, 7, 8, 9, 10, 11, 12] [14, 15, 16, 17, 18, 19, 20, 21, 22, 23, 24, 25, 26, 27, 28, 29, 30, 31, 32, 33, 34, 35] (by kernel_rfl) (by kernel_rfl)
            simp only [AllT, AllF] at E
            clear hdi hdep hcl
            go_simp
            exact hK _ _ ⟨by simp [upd, E], hw⟩
          · rintro d a W hdi hdep hcl ⟨rfl, hw⟩ K hK
            have E := hcl.facts 14 hdi rfl hdep [0, 1, 2, 3, 4, 5, 6, 7, 8, 9, 10, 11, 12, 13] [16, 17, 18, 19, 20, 21, 22, 23, 24, 25, 26, 27, 28, 29, 30, 31, 32, 33, 34, 35] (by kernel_rfl) (by kernel_rfl)
            simp only [AllT, AllF] at E
            clear hdi hdep hcl
            go_simp
            exact hK _ _ ⟨by simp [upd, E], hw⟩
          · rintro d a W hdi hdep hcl ⟨rfl, hw⟩ K hK
            have E := hcl.facts 15 hdi rfl hdep [0, 1, 2, 3, 4, 5, 6, 7, 8, 9, 10, 11, 12, 13] [16, 17, 18, 19, 20, 21, 22, 23, 24, 25, 26, 27, 28, 29, 30, 31, 32, 33, 34, 35] (by kernel_rfl) (by kernel_rfl)
            simp only [AllT, AllF] at E
            clear hdi hdep hcl
            go_simp
            exact hK _ _ ⟨by simp [upd, E], hw⟩
          · rintro d a W hdi hdep hcl ⟨rfl, hw⟩ K hK
            have E := hcl.facts 16 hdi rfl hdep [0, 1, 2, 3, 4, 5, 6, 7, 8, 9, 10, 11, 12, 13, 14, 15] [17, 18, 19, 20, 21, 22, 23, 24, 25, 26, 27, 28, 29, 30, 31, 32, 33, 34, 35] (by kernel_rfl) (by kernel_rfl)
            simp only [AllT, AllF] at E
            clear hdi hdep hcl
            go_simp
            exact hK _ _ ⟨by simp [upd, E], hw⟩
          · rintro d a W hdi hdep hcl ⟨rfl, hw⟩ K hK
            have E := hcl.facts 17 hdi rfl hdep [0, 1, 2, 3, 4, 5, 6, 7, 8, 9, 10, 11, 12, 13, 14, 15, 16] [18, 19, 20, 21, 22, 23, 24, 25, 26, 27, 28, 29, 30, 31, 32, 33, 34, 35] (by kernel_rfl) (by kernel_rfl)
            simp only [AllT, AllF] at E
            clear hdi hdep hcl
            go_simp
            exact hK _ _ ⟨by simp [upd, E], hw⟩
          · rintro d a W hdi hdep hcl ⟨rfl, hw⟩ K hK
            have E := hcl.facts 18 hdi rfl hdep [0, 1, 2, 3, 4, 5, 6, 7, 8, 9, 10, 11, 12, 13, 14, 15, 16, 17] [19, 20, 21, 22, 23, 24, 25, 26, 27, 28, 29, 30, 31, 32, 33, 34, 35] (by kernel_rfl) (by kernel_rfl)
            simp only [AllT, AllF] at E
            clear hdi hdep hcl
            go_simp
            exact hK _ _ ⟨by simp [upd, E], hw⟩
          · rintro d a W hdi hdep hcl ⟨rfl, hw⟩ K hK
            have E := hcl.facts 19 hdi rfl hdep [0, 1, 2, 3, 4, 5, 6, 7, 8, 9, 10, 11, 12, 13, 14, 15, 16, 17, 18] [20, 21, 22, 23, 24, 25, 26, 27, 28, 29, 30, 31, 32, 33, 34, 35] (by kernel_rfl) (by kernel_rfl)
            simp only [AllT, AllF] at E
            clear hdi hdep hcl
            go_simp
            exact hK _ _ ⟨by simp [upd, E], hw⟩
          · rintro d a W hdi hdep hcl ⟨rfl, hw⟩ K hK
            have E := hcl.facts 20 hdi rfl hdep [0, 1, 2, 3, 4, 5, 6, 7, 8, 9, 10, 11, 12, 13, 14, 15, 16, 17, 18, 19] [21, 22, 23, 24, 25, 26, 27, 28, 29, 30, 31, 32, 33, 34, 35] (by kernel_rfl) (by kernel_rfl)
            simp only [AllT, AllF] at E
            clear hdi hdep hcl
            go_simp
            exact hK _ _ ⟨by simp [upd, E], hw⟩
          · rintro d a W hdi hdep hcl ⟨rfl, hw⟩ K hK
            have E := hcl.facts 21 hdi rfl hdep [0, 1, 2, 3, 4, 5, 6, 7, 8, 9, 10, 11, 12, 13, 14, 15, 16, 17, 18, 19, 20] [22, 23, 24, 25, 26, 27, 28, 29, 30, 31, 32, 33, 34, 35] (by kernel_rfl) (by kernel_rfl)
            simp only [AllT, AllF] at E
            clear hdi hdep hcl
            go_simp
            exact hK _ _ ⟨by simp [upd, E], hw⟩
          · rintro d a W hdi hdep hcl ⟨rfl, hw⟩ K hK
            have E := hcl.facts 22 hdi rfl hdep [0, 1, 2, 3, 4, 5, 6, 7, 8, 9, 10, 11, 12, 13, 14, 15, 16, 17, 18, 19, 20, 21] [24, 25, 26, 27, 28, 29, 30, 31, 32, 33, 34, 35] (by kernel_rfl) (by kernel_rfl)
            simp only [AllT, AllF] at E
            clear hdi hdep hcl
            go_simp
            exact hK _ _ ⟨by simp [upd, E], hw⟩
          · rintro d a W hdi hdep hcl ⟨rfl, hw⟩ K hK
            have E := hcl.facts 23 hdi rfl hdep [0, 1, 2, 3, 4, 5, 6, 7, 8, 9, 10, 11, 12, 13, 14, 15, 16, 17, 18, 19, 20, 21] [24, 25, 26, 27, 28, 29, 30, 31, 32, 33, 34, 35] (by kernel_rfl) (by kernel_rfl)
            simp only [AllT, AllF] at E
            clear hdi hdep hcl
            go_simp
            exact hK _ _ ⟨by simp [upd, E], hw⟩
          · rintro d a W hdi hdep hcl ⟨rfl, hw⟩ K hK
            have E := hcl.facts 24 hdi rfl hdep [0, 1, 2, 3, 4, 5, 6, 7, 8, 9, 10, 11, 12, 13, 14, 15, 16, 17, 18, 19, 20, 21, 22, 23] [25, 26, 27, 28, 29, 30, 31, 32, 33, 34, 35] (by kernel_rfl) (by kernel_rfl)
            simp only [AllT, AllF] at E
            clear hdi hdep hcl
            go_simp
            exact hK _ _ ⟨by simp [upd, E], hw⟩
          · rintro d a W hdi hdep hcl ⟨rfl, hw⟩ K hK
            have E := hcl.facts 25 hdi rfl hdep [0, 1, 2, 3, 4, 5, 6, 7, 8, 9, 10, 11, 12, 13, 14, 15, 16, 17, 18, 19, 20, 21, 22, 23, 24] [26, 27, 28, 29, 30, 31, 32, 33, 34, 35] (by kernel_rfl) (by kernel_rfl)
            simp only [AllT, AllF] at E
            clear hdi hdep hcl
            go_simp
            exact hK _ _ ⟨by simp [upd, E], hw⟩
          · rintro d a W hdi hdep hcl ⟨rfl, hw⟩ K hK
            have E := hcl.facts 26 hdi rfl hdep [0, 1, 2, 3, 4, 5, 6, 7, 8, 9, 10, 11, 12, 13, 14, 15, 16, 17, 18, 19, 20, 21, 22, 23, 24, 25] [27, 28, 29, 30, 31, 32, 33, 34, 35] (by kernel_rfl) (by kernel_rfl)
            simp only [AllT, AllF] at E
            clear hdi hdep hcl
            go_simp
            exact hK _ _ ⟨by simp [upd, E], hw⟩
          · rintro d a W hdi hdep hcl ⟨rfl, hw⟩ K hK
            have E := hcl.facts 27 hdi rfl hdep [0, 1, 2, 3, 4, 5, 6, 7, 8, 9, 10, 11, 12, 13, 14, 15, 16, 17, 18, 19, 20, 21, 22, 23, 24, 25, 26] [28, 29, 30, 31, 32, 33, 34, 35] (by kernel_rfl) (by kernel_rfl)
            simp only [AllT, AllF] at E
            clear hdi hdep hcl
            go_simp
            exact hK _ _ ⟨by simp [upd, E], hw⟩
          · rintro d a W hdi hdep hcl ⟨rfl, hw⟩ K hK
            have E := hcl.facts 28 hdi rfl hdep [0, 1, 2, 3, 4, 5, 6, 7, 8, 9, 10, 11, 12, 13, 14, 15, 16, 17, 18, 19, 20, 21, 22, 23, 24, 25, 26, 27] [29, 30, 31, 32, 33, 34, 35] (by kernel_rfl) (by kernel_rfl)
            simp only [AllT, AllF] at E
            clear hdi hdep hcl
            go_simp
            exact hK _ _ ⟨by simp [upd, E], hw⟩
          · rintro d a W hdi hdep hcl ⟨rfl, hw⟩ K hK
            have E := hcl.facts 29 hdi rfl hdep [0, 1, 2, 3, 4, 5, 6, 7, 8, 9, 10, 11, 12, 13, 14, 15, 16, 17, 18, 19, 20, 21, 22, 23, 24, 25, 26, 27, 28] [30, 31, 32, 33, 34, 35] (by kernel_rfl) (by kernel_rfl)
            simp only [AllT, AllF] at E
            clear hdi hdep hcl
            go_simp
            exact hK _ _ ⟨by simp [upd, E], hw⟩
          · rintro d a W hdi hdep hcl ⟨rfl, hw⟩ K hK
            have E := hcl.facts 30 hdi rfl hdep [0, 1, 2, 3, 4, 5, 6, 7, 8, 9, 10, 11, 12, 13, 14, 15, 16, 17, 18, 19, 20, 21, 22, 23, 24, 25, 26, 27, 28, 29] [31, 32, 33, 34, 35] (by kernel_rfl) (by kernel_rfl)
            simp only [AllT, AllF] at E
            clear hdi hdep hcl
            go_simp
            exact hK _ _ ⟨by simp [upd, E], hw⟩
          · rintro d a W hdi hdep hcl ⟨rfl, hw⟩ K hK
            have E := hcl.facts 31 hdi rfl hdep [0, 1, 2, 3, 4, 5, 6, 7, 8, 9, 10, 11, 12, 13, 14, 15, 16, 17, 18, 19, 20, 21, 22, 23, 24, 25, 26, 27, 28, 29, 30] [33, 34, 35] (by kernel_rfl) (by kernel_rfl)
            simp only [AllT, AllF] at E
            clear hdi hdep hcl
            go_simp
            exact hK _ _ ⟨by simp [upd, E], hw⟩
          · rintro d a W hdi hdep hcl ⟨rfl, hw⟩ K hK
            have E := hcl.facts 32 hdi rfl hdep [0, 1, 2, 3, 4, 5, 6, 7, 8, 9, 10, 11, 12, 13, 14, 15, 16, 17, 18, 19, 20, 21, 22, 23, 24, 25, 26, 27, 28, 29, 30] [33, 34, 35] (by kernel_rfl) (by kernel_rfl)
            simp only [AllT, AllF] at E
            clear hdi hdep hcl
            go_simp
            exact hK _ _ ⟨by simp [upd, E], hw⟩
          · rintro d a W hdi hdep hcl ⟨rfl, hw⟩ K hK
            have E := hcl.facts 33 hdi rfl hdep [0, 1, 2, 3, 4, 5, 6, 7, 8, 9, 10, 11, 12, 13, 14, 15, 16, 17, 18, 19, 20, 21, 22, 23, 24, 25, 26, 27, 28, 29, 30, 31, 32] [34, 35] (by kernel_rfl) (by kernel_rfl)
            simp only [AllT, AllF] at E
            clear hdi hdep hcl
            go_simp
            exact hK _ _ ⟨by simp [upd, E], hw⟩
          · rintro d a W hdi hdep hcl ⟨rfl, hw⟩ K hK
            have E := hcl.facts 34 hdi rfl hdep [0, 1, 2, 3, 4, 5, 6, 7, 8, 9, 10, 11, 12, 13, 14, 15, 16, 17, 18, 19, 20, 21, 22, 23, 24, 25, 26, 27, 28, 29, 30, 31, 32, 33] [35] (by kernel_rfl) (by kernel_rfl)
            simp only [AllT, AllF] at E
            clear hdi hdep hcl
            go_simp
            exact hK _ _ ⟨by simp [upd, E], hw⟩
          · rintro d a W hdi hdep hcl ⟨rfl, hw⟩ K hK
            have E := hcl.facts 35 hdi rfl hdep [0, 1, 2, 3, 4, 5, 6, 7, 8, 9, 10, 11, 12, 13, 14, 15, 16, 17, 18, 19, 20, 21, 22, 23, 24, 25, 26, 27, 28, 29, 30, 31, 32, 33, 34] [] (by kernel_rfl) (by kernel_rfl)
            simp only [AllT, AllF] at E
            clear hdi hdep hcl
            go_simp
            exact hK _ _ ⟨by simp [upd, E], hw⟩
        · rintro d a W hall ⟨rfl, hw⟩
          have E := AllT.all hall [0, 1, 2, 3, 4, 5, 6, 7, 8, 9, 10, 11, 12, 13, 14, 15, 16, 17, 18, 19, 20, 21, 22, 23, 24, 25, 26, 27, 28, 29, 30, 31, 32, 33, 34, 35] (by kernel_rfl)
          simp only [AllT] at E
          simp only [E, cond_true] at hw ⊢
          clear E hall
          have HP_13 := Lib.hid (HP_12.out.trans hw)
          have HW_13 := Lib.hid (HW_12.out.to hw)
          have L_13 := Lib.hid (L_12.out.to hw)
          have Z_13 := Lib.hid (Z_12.out.to hw)
          have L2_13 := Lib.hid (L2_12.out.to hw)
          have A_13 := Lib.hid (A_12.out.to hw)
          have B_13 := Lib.hid (B_12.out.to hw)
          have C_13 := Lib.hid (C_12.out.to hw)
          have D_13 := Lib.hid (D_12.out.to hw)
          have E_13 := Lib.hid (E_12.out.to hw)
          have F_13 := Lib.hid (F_12.out.to hw)
          clear hw HP_12 HW_12 L_12 Z_12 L2_12 A_12 B_12 C_12 D_12 E_12 F_12
          have z0 := C_13.out.at 0
          have z1 := C_13.out.at 1
          have z2 := C_13.out.at 2
          have zl := C_13.out.lt
          go_wp2_with fail
          clear z0 z1 z2 zl
          refine (RCheckLine_any W L p cap l1 l2 l3 t hLn L_13.out).mono ?_
          rintro e v14 ⟨rfl, hp⟩
          have HP_14 := Lib.hid (HP_13.out.trans hp)
          have HW_14 := Lib.hid (HW_13.out.to hp)
          have L_14 := Lib.hid (L_13.out.to hp)
          have Z_14 := Lib.hid (Z_13.out.to hp)
          have L2_14 := Lib.hid (L2_13.out.to hp)
          have A_14 := Lib.hid (A_13.out.to hp)
          have B_14 := Lib.hid (B_13.out.to hp)
          have C_14 := Lib.hid (C_13.out.to hp)
          have D_14 := Lib.hid (D_13.out.to hp)
          have E_14 := Lib.hid (E_13.out.to hp)
          have F_14 := Lib.hid (F_13.out.to hp)
          clear hp  HP_13 HW_13 L_13 Z_13 L2_13 A_13 B_13 C_13 D_13 E_13 F_13
          rw [HLJ.out.1, HLJ.out.2.1, HLJ.out.2.2]
          have x0 := D_14.out.at 0
          have x1 := D_14.out.at 1
          have xl := D_14.out.lt
          have z0 := E_14.out.at 0
          have z1 := E_14.out.at 1
          have z2 := E_14.out.at 2
          have zl := E_14.out.lt
          go_wp2_with fail
          clear x0 x1 xl
          clear z0 z1 z2 zl
          obtain ⟨X15, hX15⟩ : ∃ V : World, v14.alloc (Obj.cells #[Value.int IntKind.i64 q1, Value.int IntKind.i64 q2] 29) = V := ⟨_, rfl⟩
          have hpX15 : Pure v14 X15 := by rw [← hX15]; exact ((Diff.refl v14).alloc _)
          have bGC : Blk (v14.heap.size) 29 #[Value.int IntKind.i64 q1, Value.int IntKind.i64 q2] X15 := by rw [← hX15]; exact (blk0 v14 29 _)
          rw [hX15]
          obtain ⟨g15_0, hg15_0⟩ : ∃ g, v14.heap.size = g := ⟨_, rfl⟩
          rw [hg15_0] at bGC ⊢
          have HP_15 := Lib.hid (HP_14.out.trans hpX15)
          have HW_15 := Lib.hid (HW_14.out.to hpX15)
          have L_15 := Lib.hid (L_14.out.to hpX15)
          have Z_15 := Lib.hid (Z_14.out.to hpX15)
          have L2_15 := Lib.hid (L2_14.out.to hpX15)
          have A_15 := Lib.hid (A_14.out.to hpX15)
          have B_15 := Lib.hid (B_14.out.to hpX15)
          have C_15 := Lib.hid (C_14.out.to hpX15)
          have D_15 := Lib.hid (D_14.out.to hpX15)
          have E_15 := Lib.hid (E_14.out.to hpX15)
          have F_15 := Lib.hid (F_14.out.to hpX15)
          have GC_15 := Lib.hid bGC
          clear hX15 hpX15 hg15_0 bGC HP_14 HW_14 L_14 Z_14 L2_14 A_14 B_14 C_14 D_14 E_14 F_14
          refine (RCheckLine_any X15 L p cap o1 o2 o3 t hLn L_15.out).mono ?_
          rintro e v16 ⟨rfl, hp⟩
          have HP_16 := Lib.hid (HP_15.out.trans hp)
          have HW_16 := Lib.hid (HW_15.out.to hp)
          have L_16 := Lib.hid (L_15.out.to hp)
          have Z_16 := Lib.hid (Z_15.out.to hp)
          have L2_16 := Lib.hid (L2_15.out.to hp)
          have A_16 := Lib.hid (A_15.out.to hp)
          have B_16 := Lib.hid (B_15.out.to hp)
          have C_16 := Lib.hid (C_15.out.to hp)
          have D_16 := Lib.hid (D_15.out.to hp)
          have E_16 := Lib.hid (E_15.out.to hp)
          have F_16 := Lib.hid (F_15.out.to hp)
          have GC_16 := Lib.hid (GC_15.out.to hp)
          clear hp  HP_15 HW_15 L_15 Z_15 L2_15 A_15 B_15 C_15 D_15 E_15 F_15 GC_15
          rw [HOJ.out.1, HOJ.out.2.1, HOJ.out.2.2.1]
          have ho3 := HOJ.out.2.2.2
          have x0 := F_16.out.at 0
          have x1 := F_16.out.at 1
          have xl := F_16.out.lt
          have z0 := E_16.out.at 0
          have z1 := E_16.out.at 1
          have z2 := E_16.out.at 2
          have zl := E_16.out.lt
          go_wp2_with fail
          clear x0 x1 xl
          clear z0 z1 z2 zl
          clear ho3
          obtain ⟨X17, hX17⟩ : ∃ V : World, v16.alloc (Obj.cells #[Value.int IntKind.i64 u1, Value.int IntKind.i64 u2] 29) = V := ⟨_, rfl⟩
          have hpX17 : Pure v16 X17 := by rw [← hX17]; exact ((Diff.refl v16).alloc _)
          have bGE : Blk (v16.heap.size) 29 #[Value.int IntKind.i64 u1, Value.int IntKind.i64 u2] X17 := by rw [← hX17]; exact (blk0 v16 29 _)
          rw [hX17]
          obtain ⟨g17_0, hg17_0⟩ : ∃ g, v16.heap.size = g := ⟨_, rfl⟩
          rw [hg17_0] at bGE ⊢
          have HP_17 := Lib.hid (HP_16.out.trans hpX17)
          have HW_17 := Lib.hid (HW_16.out.to hpX17)
          have L_17 := Lib.hid (L_16.out.to hpX17)
          have Z_17 := Lib.hid (Z_16.out.to hpX17)
          have L2_17 := Lib.hid (L2_16.out.to hpX17)
          have A_17 := Lib.hid (A_16.out.to hpX17)
          have B_17 := Lib.hid (B_16.out.to hpX17)
          have C_17 := Lib.hid (C_16.out.to hpX17)
          have D_17 := Lib.hid (D_16.out.to hpX17)
          have E_17 := Lib.hid (E_16.out.to hpX17)
          have F_17 := Lib.hid (F_16.out.to hpX17)
          have GC_17 := Lib.hid (GC_16.out.to hpX17)
          have GE_17 := Lib.hid bGE
          clear hX17 hpX17 hg17_0 bGE HP_16 HW_16 L_16 Z_16 L2_16 A_16 B_16 C_16 D_16 E_16 F_16 GC_16
          refine (alikeLots_any X17 L p2 p c2 cap hLn L2_17.out L_17.out).mono ?_
          rintro e v18 ⟨rfl, hp⟩
          have HP_18 := Lib.hid (HP_17.out.trans hp)
          have HW_18 := Lib.hid (HW_17.out.to hp)
          have L_18 := Lib.hid (L_17.out.to hp)
          have Z_18 := Lib.hid (Z_17.out.to hp)
          have L2_18 := Lib.hid (L2_17.out.to hp)
          have A_18 := Lib.hid (A_17.out.to hp)
          have B_18 := Lib.hid (B_17.out.to hp)
          have C_18 := Lib.hid (C_17.out.to hp)
          have D_18 := Lib.hid (D_17.out.to hp)
          have E_18 := Lib.hid (E_17.out.to hp)
          have F_18 := Lib.hid (F_17.out.to hp)
          have GC_18 := Lib.hid (GC_17.out.to hp)
          have GE_18 := Lib.hid (GE_17.out.to hp)
          clear hp  HP_17 HW_17 L_17 Z_17 L2_17 A_17 B_17 C_17 D_17 E_17 F_17 GC_17 GE_17
          go_wp2_with fail
          refine (Works_any v18 HW_18.out).mono ?_
          rintro e v19 ⟨rfl, hp⟩
          have HP_19 := Lib.hid (HP_18.out.trans hp)
          have HW_19 := Lib.hid (HW_18.out.to hp)
          have L_19 := Lib.hid (L_18.out.to hp)
          have Z_19 := Lib.hid (Z_18.out.to hp)
          have L2_19 := Lib.hid (L2_18.out.to hp)
          have A_19 := Lib.hid (A_18.out.to hp)
          have B_19 := Lib.hid (B_18.out.to hp)
          have C_19 := Lib.hid (C_18.out.to hp)
          have D_19 := Lib.hid (D_18.out.to hp)
          have E_19 := Lib.hid (E_18.out.to hp)
          have F_19 := Lib.hid (F_18.out.to hp)
          have GC_19 := Lib.hid (GC_18.out.to hp)
          have GE_19 := Lib.hid (GE_18.out.to hp)
          clear hp  HP_18 HW_18 L_18 Z_18 L2_18 A_18 B_18 C_18 D_18 E_18 F_18 GC_18 GE_18
          go_wp2
          exact bodyPost_ret (v := .bool true) (by simp [results, Tryd.results5, go_sem]) rfl ⟨rfl, HP_19.out⟩
      · obtain rfl := hc
        have HLJ : Hid ((lineP L (l1, l2, l3) t).1 = q1 ∧ (lineP L (l1, l2, l3) t).2 = q2 ∧ lineE L (l1, l2, l3) t = 0) := by
          have e : lineOf L t = (l1, l2, l3) := by rw [← HEL.out.1, ← HEL.out.2.1, ← HEL.out.2.2.1]
          have h := line_join HEL.out.2.2.2
          rw [e] at h
          exact ⟨by rw [h.2.2.2]; exact HEQ.out.1, by rw [h.2.2.2]; exact HEQ.out.2, h.2.2.1⟩
        obtain ⟨rfl, rfl, rfl⟩ : o1 = 0 ∧ o2 = 0 ∧ o3 = 0 := by
          have h := HEO.out
          unfold floorOf at h
          rw [if_neg (by rw [h.2.2.2]; exact ha)] at h
          exact ⟨h.1.symm, h.2.1.symm, h.2.2.1.symm⟩
        have hab : (ae == 0) = false := by simpa using ha
        refine reg_invW (fun d a W => a = { tmps := #[Value.slice p L.n cap, Value.agg #[Value.int IntKind.i64 dv, Value.int IntKind.i64 xv, Value.int IntKind.i64 yv], Value.int IntKind.i64 t, undef, Value.pointer (some { block := gz, off := 0 }), undef, Value.bool false, Value.slice p2 L.n c2, Value.pointer (some { block := g2_0, off := 0 }), Value.int IntKind.i64 ke, Value.pointer (some { block := g4_0, off := 0 }), Value.int IntKind.i64 ke, Value.pointer (some { block := g6_0, off := 0 }), Value.int IntKind.i64 0, Value.pointer (some { block := g8_0, off := 0 }), Value.int IntKind.i64 0, Value.pointer (some { block := g10_0, off := 0 }), Value.int IntKind.i64 ae, Value.pointer (some { block := g12_0, off := 0 }), Value.int IntKind.i64 ae, undef, undef, undef, undef, Value.slice p L.n cap, Value.bool false, undef, Value.slice p L.n cap, Value.slice p2 L.n c2, Value.tuple #[Value.agg #[Value.int IntKind.i64 k1, Value.int IntKind.i64 k2], Value.int IntKind.i64 ke], Value.slice p2 L.n c2, Value.agg #[Value.int IntKind.i64 dv, Value.int IntKind.i64 xv, Value.int IntKind.i64 yv], Value.int IntKind.i64 t, Value.tuple #[Value.agg #[Value.int IntKind.i64 k1, Value.int IntKind.i64 k2], Value.int IntKind.i64 ke], Value.agg #[Value.int IntKind.i64 k1, Value.int IntKind.i64 k2], Value.int IntKind.i64 ke, Value.tuple #[Value.agg #[Value.int IntKind.i64 k1, Value.int IntKind.i64 k2], Value.int IntKind.i64 ke], Value.slice p L.n cap, Value.agg #[Value.int IntKind.i64 dv, Value.int IntKind.i64 xv, Value.int IntKind.i64 yv], Value.int IntKind.i64 t, Value.tuple #[Value.agg #[Value.int IntKind.i64 k1, Value.int IntKind.i64 k2], Value.int IntKind.i64 ke], Value.agg #[Value.int IntKind.i64 k1, Value.int IntKind.i64 k2], Value.int IntKind.i64 ke, Value.tuple #[Value.agg #[Value.int IntKind.i64 l1, Value.int IntKind.i64 l2, Value.int IntKind.i64 l3], Value.int IntKind.i64 0], Value.slice p2 L.n c2, Value.int IntKind.i64 t, Value.tuple #[Value.agg #[Value.int IntKind.i64 l1, Value.int IntKind.i64 l2, Value.int IntKind.i64 l3], Value.int IntKind.i64 0], Value.agg #[Value.int IntKind.i64 l1, Value.int IntKind.i64 l2, Value.int IntKind.i64 l3], Value.int IntKind.i64 0, Value.tuple #[Value.agg #[Value.int IntKind.i64 q1, Value.int IntKind.i64 q2], Value.int IntKind.i64 0], Value.slice p L.n cap, Value.int IntKind.i64 t, Value.tuple #[Value.agg #[Value.int IntKind.i64 q1, Value.int IntKind.i64 q2], Value.int IntKind.i64 0], Value.agg #[Value.int IntKind.i64 q1, Value.int IntKind.i64 q2], Value.int IntKind.i64 0, Value.tuple #[Value.agg #[Value.int IntKind.i64 0, Value.int IntKind.i64 0, Value.int IntKind.i64 0], Value.int IntKind.i64 ae], Value.slice p2 L.n c2, Value.int IntKind.i64 t, Value.tuple #[Value.agg #[Value.int IntKind.i64 0, Value.int IntKind.i64 0, Value.int IntKind.i64 0], Value.int IntKind.i64 ae], Value.agg #[Value.int IntKind.i64 0, Value.int IntKind.i64 0, Value.int IntKind.i64 0], Value.int IntKind.i64 ae, Value.tuple #[Value.agg #[Value.int IntKind.i64 u1, Value.int IntKind.i64 u2], Value.int IntKind.i64 ae], Value.slice p L.n cap, Value.int IntKind.i64 t, Value.tuple #[Value.agg #[Value.int IntKind.i64 u1, Value.int IntKind.i64 u2], Value.int IntKind.i64 ae], Value.agg #[Value.int IntKind.i64 u1, Value.int IntKind.i64 u2], Value.int IntKind.i64 ae, (bif d 0 then Value.agg #[Value.int IntKind.i64 k1, Value.int IntKind.i64 k2] else undef), (bif d 1 then Value.agg #[Value.int IntKind.i64 k1, Value.int IntKind.i64 k2] else undef), (bif d 2 then Value.bool false else undef), (bif d 3 then Value.bool false else undef), (bif d 4 then Value.int IntKind.i64 ke else undef), (bif d 5 then Value.int IntKind.i64 ke else undef), (bif d 6 then Value.bool false else undef), (bif d 7 then Value.bool false else undef), (bif d 8 then Value.bool false else undef), (bif d 9 then Value.int IntKind.i64 0 else undef), (bif d 10 then Value.int IntKind.i64 0 else undef), (bif d 11 then Value.bool false else undef), (bif d 12 then Value.bool false else undef), (bif d 13 then Value.bool false else undef), (bif d 14 then Value.int IntKind.i64 ae else undef), (bif d 15 then Value.int IntKind.i64 ae else undef), (bif d 16 then Value.bool false else undef), (bif d 17 then Value.bool false else undef), (bif d 18 then Value.bool false else undef), (bif d 19 then Value.int IntKind.i64 0 else undef), (bif d 20 then Value.bool false else undef), (bif d 21 then Value.bool false else undef), (bif d 22 then undef else undef), (bif d 23 then undef else undef), (bif d 24 then undef else undef), (bif d 25 then Value.bool false else undef), (bif d 26 then Value.bool false else undef), (bif d 27 then Value.bool false else undef), (bif d 28 then Value.int IntKind.i64 ae else undef), (bif d 29 then Value.bool true else undef), (bif d 30 then Value.bool true else undef), (bif d 31 then Value.agg #[Value.int IntKind.i64 0, Value.int IntKind.i64 0, Value.int IntKind.i64 0] else undef), (bif d 32 then Value.agg #[Value.int IntKind.i64 0, Value.int IntKind.i64 0, Value.int IntKind.i64 0] else undef), (bif d 33 then Value.bool false else undef), (bif d 34 then Value.bool false else undef), (bif d 35 then Value.bool false else undef), undef, undef, undef, undef, undef, undef, undef, undef, undef, undef, undef, undef, undef, undef, undef, undef, undef, undef, undef, undef, undef, undef, undef, undef, undef, undef, undef, undef, undef, undef, undef, undef, undef, undef, undef, undef, undef, undef, undef, undef, undef, undef, undef], defers := [] } ∧ Pure X12 W) hmx (by kernel_rfl) ?_ ?_ ?_
        · exact ⟨rfl, (Diff.refl _).drew⟩
        · refine ⟨?_, ?_, ?_, ?_, ?_, ?_, ?_, ?_, ?_, ?_, ?_, ?_, ?_, ?_, ?_, ?_, ?_, ?_, ?_, ?_, ?_, ?_, ?_, ?_, ?_, ?_, ?_, ?_, ?_, ?_, ?_, ?_, ?_, ?_, ?_, ?_, trivial⟩
          · rintro d a W hdi hdep hcl ⟨rfl, hw⟩ K hK
            have E := hcl.facts 0 hdi rfl hdep [] [2, 3, 4, 5, 6, 7, 8, 9, 10, 11, 12, 13, 14, 15, 16, 17, 18, 19, 20, 21, 22, 23, 24, 25, 26, 27, 28, 29, 30, 31, 32, 33, 34, 35] (by kernel_rfl) (by kernel_rfl)
            simp only [AllT, AllF] at E
            clear hdi hdep hcl
            have zz := A_12.out.to hw
            have z0 := zz.at 0
            have z1 := zz.at 1
            have zl := zz.lt
            clear zz
            go_simp
            exact hK _ _ ⟨by simp [upd, E], hw⟩
          · rintro d a W hdi hdep hcl ⟨rfl, hw⟩ K hK
            have E := hcl.facts 1 hdi rfl hdep [] [2, 3, 4, 5, 6, 7, 8, 9, 10, 11, 12, 13, 14, 15, 16, 17, 18, 19, 20, 21, 22, 23, 24, 25, 26, 27, 28, 29, 30, 31, 32, 33, 34, 35] (by kernel_rfl) (by kernel_rfl)
            simp only [AllT, AllF] at E
            clear hdi hdep hcl
            have zz := B_12.out.to hw
            have z0 := zz.at 0
            have z1 := zz.at 1
            have zl := zz.lt
            clear zz
            go_simp
            exact hK _ _ ⟨by simp [upd, E], hw⟩
          · rintro d a W hdi hdep hcl ⟨rfl, hw⟩ K hK
            have E := hcl.facts 2 hdi rfl hdep [0, 1] [3, 4, 5, 6, 7, 8, 9, 10, 11, 12, 13, 14, 15, 16, 17, 18, 19, 20, 21, 22, 23, 24, 25, 26, 27, 28, 29, 30, 31, 32, 33, 34, 35] (by kernel_rfl) (by kernel_rfl)
            simp only [AllT, AllF] at E
            clear hdi hdep hcl
            go_simp
            exact hK _ _ ⟨by simp [upd, E], hw⟩
          · rintro d a W hdi hdep hcl ⟨rfl, hw⟩ K hK
            have E := hcl.facts 3 hdi rfl hdep [0, 1, 2] [4, 5, 6, 7, 8, 9, 10, 11, 12, 13, 14, 15, 16, 17, 18, 19, 20, 21, 22, 23, 24, 25, 26, 27, 28, 29, 30, 31, 32, 33, 34, 35] (by kernel_rfl) (by kernel_rfl)
            simp only [AllT, AllF] at E
            clear hdi hdep hcl
            go_simp
            exact hK _ _ ⟨by simp [upd, E], hw⟩
          · rintro d a W hdi hdep hcl ⟨rfl, hw⟩ K hK
            have E := hcl.facts 4 hdi rfl hdep [0, 1, 2, 3] [6, 7, 8, 9, 10, 11, 12, 13, 14, 15, 16, 17, 18, 19, 20, 21, 22, 23, 24, 25, 26, 27, 28, 29, 30, 31, 32, 33, 34, 35] (by kernel_rfl) (by kernel_rfl)
            simp only [AllT, AllF] at E
            clear hdi hdep hcl
            go_simp
            exact hK _ _ ⟨by simp [upd, E], hw⟩
          · rintro d a W hdi hdep hcl ⟨rfl, hw⟩ K hK
            have E := hcl.facts 5 hdi rfl hdep [0, 1, 2, 3] [6, 7, 8, 9, 10, 11, 12, 13, 14, 15, 16, 17, 18, 19, 20, 21, 22, 23, 24, 25, 26, 27, 28, 29, 30, 31, 32, 33, 34, 35] (by kernel_rfl) (by kernel_rfl)
            simp only [AllT, AllF] at E
            clear hdi hdep hcl
            go_simp
            exact hK _ _ ⟨by simp [upd, E], hw⟩
          · rintro d a W hdi hdep hcl ⟨rfl, hw⟩ K hK
            have E := hcl.facts 6 hdi rfl hdep [0, 1, 2, 3, 4, 5] [7, 8, 9, 10, 11, 12, 13, 14, 15, 16, 17, 18, 19, 20, 21, 22, 23, 24, 25, 26, 27, 28, 29, 30, 31, 32, 33, 34, 35] (by kernel_rfl) (by kernel_rfl)
            simp only [AllT, AllF] at E
            clear hdi hdep hcl
            go_simp
            exact hK _ _ ⟨by simp [upd, E], hw⟩
          · rintro d a W hdi hdep hcl ⟨rfl, hw⟩ K hK
            have E := hcl.facts 7 hdi rfl hdep [0, 1, 2, 3, 4, 5, 6] [8, 9, 10, 11, 12, 13, 14, 15, 16, 17, 18, 19, 20, 21, 22, 23, 24, 25, 26, 27, 28, 29, 30, 31, 32, 33, 34, 35] (by kernel_rfl) (by kernel_rfl)
            simp only [AllT, AllF] at E
            clear hdi hdep hcl
            go_simp
            exact hK _ _ ⟨by simp [upd, E], hw⟩
          · rintro d a W hdi hdep hcl ⟨rfl, hw⟩ K hK
            have E := hcl.facts 8 hdi rfl hdep [0, 1, 2, 3, 4, 5, 6, 7] [9, 10, 11, 12, 13, 14, 15, 16, 17, 18, 19, 20, 21, 22, 23, 24, 25, 26, 27, 28, 29, 30, 31, 32, 33, 34, 35] (by kernel_rfl) (by kernel_rfl)
            simp only [AllT, AllF] at E
            clear hdi hdep hcl
            go_simp
            exact hK _ _ ⟨by simp [upd, E], hw⟩
          · rintro d a W hdi hdep hcl ⟨rfl, hw⟩ K hK
            have E := hcl.facts 9 hdi rfl hdep [0, 1, 2, 3, 4, 5, 6, 7, 8] [11, 12, 13, 14, 15, 16, 17, 18, 19, 20, 21, 22, 23, 24, 25, 26, 27, 28, 29, 30, 31, 32, 33, 34, 35] (by kernel_rfl) (by kernel_rfl)
            simp only [AllT, AllF] at E
            clear hdi hdep hcl
            go_simp
            exact hK _ _ ⟨by simp [upd, E], hw⟩
          · rintro d a W hdi hdep hcl ⟨rfl, hw⟩ K hK
            have E := hcl.facts 10 hdi rfl hdep [0, 1, 2, 3, 4, 5, 6, 7, 8] [11, 12, 13, 14, 15, 16, 17, 18, 19, 20, 21, 22, 23, 24, 25, 26, 27, 28, 29, 30, 31, 32, 33, 34, 35] (by kernel_rfl) (by kernel_rfl)
            simp only [AllT, AllF] at E
            clear hdi hdep hcl
            go_simp
            exact hK _ _ ⟨by simp [upd, E], hw⟩
          · rintro d a W hdi hdep hcl ⟨rfl, hw⟩ K hK
            have E := hcl.facts 11 hdi rfl hdep [0, 1, 2, 3, 4, 5, 6, 7, 8, 9, 10] [12, 13, 14, 15, 16, 17, 18, 19, 20, 21, 22, 23, 24, 25, 26, 27, 28, 29, 30, 31, 32, 33, 34, 35] (by kernel_rfl) (by kernel_rfl)
            simp only [AllT, AllF] at E
            clear hdi hdep hcl
            go_simp
            exact hK _ _ ⟨by simp [upd, E], hw⟩
          · rintro d a W hdi hdep hcl ⟨rfl, hw⟩ K hK
            have E := hcl.facts 12 hdi rfl hdep [0, 1, 2, 3, 4, 5, 6, 7, 8, 9, 10, 11] [13, 14, 15, 16, 17, 18, 19, 20, 21, 22, 23, 24, 25, 26, 27, 28, 29, 30, 31, 32, 33, 34, 35] (by kernel_rfl) (by kernel_rfl)
            simp only [AllT, AllF] at E
            clear hdi hdep hcl
            go_simp
            exact hK _ _ ⟨by simp [upd, E], hw⟩
          · rintro d a W hdi hdep hcl ⟨rfl, hw⟩ K hK
            have E := hcl.facts 13 hdi rfl hdep [0, 1, 2, 3, 4, 5, 6, 7, 8, 9, 10, 11, 12] [14, 15, 16, 17, 18, 19, 20, 21, 22, 23, 24, 25, 26, 27, 28, 29, 30, 31, 32, 33, 34, 35] (by kernel_rfl) (by kernel_rfl)
            simp only [AllT, AllF] at E
            clear hdi hdep hcl
            go_simp
            exact hK _ _ ⟨by simp [upd, E], hw⟩
          · rintro d a W hdi hdep hcl ⟨rfl, hw⟩ K hK
            have E := hcl.facts 14 hdi rfl hdep [0, 1, 2, 3, 4, 5, 6, 7, 8, 9, 10, 11, 12, 13] [16, 17, 18, 19, 20, 21, 22, 23, 24, 25, 26, 27, 28, 29, 30, 31, 32, 33, 34, 35] (by kernel_rfl) (by kernel_rfl)
            simp only [AllT, AllF] at E
            clear hdi hdep hcl
            go_simp
            exact hK _ _ ⟨by simp [upd, E], hw⟩
          · rintro d a W hdi hdep hcl ⟨rfl, hw⟩ K hK
            have E := hcl.facts 15 hdi rfl hdep [0, 1, 2, 3, 4, 5, 6, 7, 8, 9, 10, 11, 12, 13] [16, 17, 18, 19, 20, 21, 22, 23, 24, 25, 26, 27, 28, 29, 30, 31, 32, 33, 34, 35] (by kernel_rfl) (by kernel_rfl)
            simp only [AllT, AllF] at E
            clear hdi hdep hcl
            go_simp
            exact hK _ _ ⟨by simp [upd, E], hw⟩
          · rintro d a W hdi hdep hcl ⟨rfl, hw⟩ K hK
            have E := hcl.facts 16 hdi rfl hdep [0, 1, 2, 3, 4, 5, 6, 7, 8, 9, 10, 11, 12, 13, 14, 15] [17, 18, 19, 20, 21, 22, 23, 24, 25, 26, 27, 28, 29, 30, 31, 32, 33, 34, 35] (by kernel_rfl) (by kernel_rfl)
            simp only [AllT, AllF] at E
            clear hdi hdep hcl
            go_simp
            exact hK _ _ ⟨by simp [upd, E], hw⟩
          · rintro d a W hdi hdep hcl ⟨rfl, hw⟩ K hK
            have E := hcl.facts 17 hdi rfl hdep [0, 1, 2, 3, 4, 5, 6, 7, 8, 9, 10, 11, 12, 13, 14, 15, 16] [18, 19, 20, 21, 22, 23, 24, 25, 26, 27, 28, 29, 30, 31, 32, 33, 34, 35] (by kernel_rfl) (by kernel_rfl)
            simp only [AllT, AllF] at E
            clear hdi hdep hcl
            go_simp
            exact hK _ _ ⟨by simp [upd, E], hw⟩
          · rintro d a W hdi hdep hcl ⟨rfl, hw⟩ K hK
            have E := hcl.facts 18 hdi rfl hdep [0, 1, 2, 3, 4, 5, 6, 7, 8, 9, 10, 11, 12, 13, 14, 15, 16, 17] [19, 20, 21, 22, 23, 24, 25, 26, 27, 28, 29, 30, 31, 32, 33, 34, 35] (by kernel_rfl) (by kernel_rfl)
            simp only [AllT, AllF] at E
            clear hdi hdep hcl
            go_simp
            exact hK _ _ ⟨by simp [upd, E], hw⟩
          · rintro d a W hdi hdep hcl ⟨rfl, hw⟩ K hK
            have E := hcl.facts 19 hdi rfl hdep [0, 1, 2, 3, 4, 5, 6, 7, 8, 9, 10, 11, 12, 13, 14, 15, 16, 17, 18] [20, 21, 22, 23, 24, 25, 26, 27, 28, 29, 30, 31, 32, 33, 34, 35] (by kernel_rfl) (by kernel_rfl)
            simp only [AllT, AllF] at E
            clear hdi hdep hcl
            go_simp
            exact hK _ _ ⟨by simp [upd, E], hw⟩
          · rintro d a W hdi hdep hcl ⟨rfl, hw⟩ K hK
            have E := hcl.facts 20 hdi rfl hdep [0, 1, 2, 3, 4, 5, 6, 7, 8, 9, 10, 11, 12, 13, 14, 15, 16, 17, 18, 19] [21, 22, 23, 24, 25, 26, 27, 28, 29, 30, 31, 32, 33, 34, 35] (by kernel_rfl) (by kernel_rfl)
            simp only [AllT, AllF] at E
            clear hdi hdep hcl
            go_simp
            exact hK _ _ ⟨by simp [upd, E], hw⟩
          · rintro d a W hdi hdep hcl ⟨rfl, hw⟩ K hK
            have E := hcl.facts 21 hdi rfl hdep [0, 1, 2, 3, 4, 5, 6, 7, 8, 9, 10, 11, 12, 13, 14, 15, 16, 17, 18, 19, 20] [22, 23, 24, 25, 26, 27, 28, 29, 30, 31, 32, 33, 34, 35] (by kernel_rfl) (by kernel_rfl)
            simp only [AllT, AllF] at E
            clear hdi hdep hcl
            go_simp
            exact hK _ _ ⟨by simp [upd, E], hw⟩
          · rintro d a W hdi hdep hcl ⟨rfl, hw⟩ K hK
            have E := hcl.facts 22 hdi rfl hdep [0, 1, 2, 3, 4, 5, 6, 7, 8, 9, 10, 11, 12, 13, 14, 15, 16, 17, 18, 19, 20, 21] [24, 25, 26, 27, 28, 29, 30, 31, 32, 33, 34, 35] (by kernel_rfl) (by kernel_rfl)
            simp only [AllT, AllF] at E
            clear hdi hdep hcl
            go_simp
            exact hK _ _ ⟨by simp [upd, E], hw⟩
          · rintro d a W hdi hdep hcl ⟨rfl, hw⟩ K hK
            have E := hcl.facts 23 hdi rfl hdep [0, 1, 2, 3, 4, 5, 6, 7, 8, 9, 10, 11, 12, 13, 14, 15, 16, 17, 18, 19, 20, 21] [24, 25, 26, 27, 28, 29, 30, 31, 32, 33, 34, 35] (by kernel_rfl) (by kernel_rfl)
            simp only [AllT, AllF] at E
            clear hdi hdep hcl
            go_simp
            exact hK _ _ ⟨by simp [upd, E], hw⟩
          · rintro d a W hdi hdep hcl ⟨rfl, hw⟩ K hK
            have E := hcl.facts 24 hdi rfl hdep [0, 1, 2, 3, 4, 5, 6, 7, 8, 9, 10, 11, 12, 13, 14, 15, 16, 17, 18, 19, 20, 21, 22, 23] [25, 26, 27, 28, 29, 30, 31, 32, 33, 34, 35] (by kernel_rfl) (by kernel_rfl)
            simp only [AllT, AllF] at E
            clear hdi hdep hcl
            go_simp
            exact hK _ _ ⟨by simp [upd, E], hw⟩
          · rintro d a W hdi hdep hcl ⟨rfl, hw⟩ K hK
            have E := hcl.facts 25 hdi rfl hdep [0, 1, 2, 3, 4, 5, 6, 7, 8, 9, 10, 11, 12, 13, 14, 15, 16, 17, 18, 19, 20, 21, 22, 23, 24] [26, 27, 28, 29, 30, 31, 32, 33, 34, 35] (by kernel_rfl) (by kernel_rfl)
            simp only [AllT, AllF] at E
            clear hdi hdep hcl
            go_simp
            exact hK _ _ ⟨by simp [upd, E], hw⟩
          · rintro d a W hdi hdep hcl ⟨rfl, hw⟩ K hK
            have E := hcl.facts 26 hdi rfl hdep [0, 1, 2, 3, 4, 5, 6, 7, 8, 9, 10, 11, 12, 13, 14, 15, 16, 17, 18, 19, 20, 21, 22, 23, 24, 25] [27, 28, 29, 30, 31, 32, 33, 34, 35] (by kernel_rfl) (by kernel_rfl)
            simp only [AllT, AllF] at E
            clear hdi hdep hcl
            go_simp
            exact hK _ _ ⟨by simp [upd, E], hw⟩
          · rintro d a W hdi hdep hcl ⟨rfl, hw⟩ K hK
            have E := hcl.facts 27 hdi rfl hdep [0, 1, 2, 3, 4, 5, 6, 7, 8, 9, 10, 11, 12, 13, 14, 15, 16, 17, 18, 19, 20, 21, 22, 23, 24, 25, 26] [28, 29, 30, 31, 32, 33, 34, 35] (by kernel_rfl) (by kernel_rfl)
            simp only [AllT, AllF] at E
            clear hdi hdep hcl
            go_simp
            exact hK _ _ ⟨by simp [upd, E], hw⟩
          · rintro d a W hdi hdep hcl ⟨rfl, hw⟩ K hK
            have E := hcl.facts 28 hdi rfl hdep [0, 1, 2, 3, 4, 5, 6, 7, 8, 9, 10, 11, 12, 13, 14, 15, 16, 17, 18, 19, 20, 21, 22, 23, 24, 25, 26, 27] [29, 30, 31, 32, 33, 34, 35] (by kernel_rfl) (by kernel_rfl)
            simp only [AllT, AllF] at E
            clear hdi hdep hcl
            go_simp
            exact hK _ _ ⟨by simp [upd, E], hw⟩
          · rintro d a W hdi hdep hcl ⟨rfl, hw⟩ K hK
            have E := hcl.facts 29 hdi rfl hdep [0, 1, 2, 3, 4, 5, 6, 7, 8, 9, 10, 11, 12, 13, 14, 15, 16, 17, 18, 19, 20, 21, 22, 23, 24, 25, 26, 27, 28] [30, 31, 32, 33, 34, 35] (by kernel_rfl) (by kernel_rfl)
            simp only [AllT, AllF] at E
            clear hdi hdep hcl
            go_simp
            exact hK _ _ ⟨by simp [upd, E, ha], hw⟩
          · rintro d a W hdi hdep hcl ⟨rfl, hw⟩ K hK
            have E := hcl.facts 30 hdi rfl hdep [0, 1, 2, 3, 4, 5, 6, 7, 8, 9, 10, 11, 12, 13, 14, 15, 16, 17, 18, 19, 20, 21, 22, 23, 24, 25, 26, 27, 28, 29] [31, 32, 33, 34, 35] (by kernel_rfl) (by kernel_rfl)
            simp only [AllT, AllF] at E
            clear hdi hdep hcl
            go_simp
            exact hK _ _ ⟨by simp [upd, E], hw⟩
          · rintro d a W hdi hdep hcl ⟨rfl, hw⟩ K hK
            have E := hcl.facts 31 hdi rfl hdep [0, 1, 2, 3, 4, 5, 6, 7, 8, 9, 10, 11, 12, 13, 14, 15, 16, 17, 18, 19, 20, 21, 22, 23, 24, 25, 26, 27, 28, 29, 30] [33, 34, 35] (by kernel_rfl) (by kernel_rfl)
            simp only [AllT, AllF] at E
            clear hdi hdep hcl
            have zz := E_12.out.to hw
            have z0 := zz.at 0
            have z1 := zz.at 1
            have z2 := zz.at 2
            have zl := zz.lt
            clear zz
            go_simp
            exact hK _ _ ⟨by simp [upd, E], hw⟩
          · rintro d a W hdi hdep hcl ⟨rfl, hw⟩ K hK
            have E := hcl.facts 32 hdi rfl hdep [0, 1, 2, 3, 4, 5, 6, 7, 8, 9, 10, 11, 12, 13, 14, 15, 16, 17, 18, 19, 20, 21, 22, 23, 24, 25, 26, 27, 28, 29, 30] [33, 34, 35] (by kernel_rfl) (by kernel_rfl)
            simp only [AllT, AllF] at E
            clear hdi hdep hcl
            go_simp
            refine Calls.mono (lline_any W 0 0 0) ?_
            rintro e w9 ⟨rfl, hp9⟩
            exact hK _ _ ⟨by simp [upd, E], hw.trans hp9⟩
          · rintro d a W hdi hdep hcl ⟨rfl, hw⟩ K hK
            have E := hcl.facts 33 hdi rfl hdep [0, 1, 2, 3, 4, 5, 6, 7, 8, 9, 10, 11, 12, 13, 14, 15, 16, 17, 18, 19, 20, 21, 22, 23, 24, 25, 26, 27, 28, 29, 30, 31, 32] [34, 35] (by kernel_rfl) (by kernel_rfl)
            simp only [AllT, AllF] at E
            clear hdi hdep hcl
            go_simp
            exact hK _ _ ⟨by simp [upd, E], hw⟩
          · rintro d a W hdi hdep hcl ⟨rfl, hw⟩ K hK
            have E := hcl.facts 34 hdi rfl hdep [0, 1, 2, 3, 4, 5, 6, 7, 8, 9, 10, 11, 12, 13, 14, 15, 16, 17, 18, 19, 20, 21, 22, 23, 24, 25, 26, 27, 28, 29, 30, 31, 32, 33] [35] (by kernel_rfl) (by kernel_rfl)
            simp only [AllT, AllF] at E
            clear hdi hdep hcl
            go_simp
            exact hK _ _ ⟨by simp [upd, E], hw⟩
          · rintro d a W hdi hdep hcl ⟨rfl, hw⟩ K hK
            have E := hcl.facts 35 hdi rfl hdep [0, 1, 2, 3, 4, 5, 6, 7, 8, 9, 10, 11, 12, 13, 14, 15, 16, 17, 18, 19, 20, 21, 22, 23, 24, 25, 26, 27, 28, 29, 30, 31, 32, 33, 34] [] (by kernel_rfl) (by kernel_rfl)
            simp only [AllT, AllF] at E
            clear hdi hdep hcl
            go_simp
            exact hK _ _ ⟨by simp [upd, E], hw⟩
        · rintro d a W hall ⟨rfl, hw⟩
          have E := AllT.all hall [0, 1, 2, 3, 4, 5, 6, 7, 8, 9, 10, 11, 12, 13, 14, 15, 16, 17, 18, 19, 20, 21, 22, 23, 24, 25, 26, 27, 28, 29, 30, 31, 32, 33, 34, 35] (by kernel_rfl)
          simp only [AllT] at E
          simp only [E, cond_true] at hw ⊢
          clear E hall
          have HP_13 := Lib.hid (HP_12.out.trans hw)
          have HW_13 := Lib.hid (HW_12.out.to hw)
          have L_13 := Lib.hid (L_12.out.to hw)
          have Z_13 := Lib.hid (Z_12.out.to hw)
          have L2_13 := Lib.hid (L2_12.out.to hw)
          have A_13 := Lib.hid (A_12.out.to hw)
          have B_13 := Lib.hid (B_12.out.to hw)
          have C_13 := Lib.hid (C_12.out.to hw)
          have D_13 := Lib.hid (D_12.out.to hw)
          have E_13 := Lib.hid (E_12.out.to hw)
          have F_13 := Lib.hid (F_12.out.to hw)
          clear hw HP_12 HW_12 L_12 Z_12 L2_12 A_12 B_12 C_12 D_12 E_12 F_12
          have z0 := C_13.out.at 0
          have z1 := C_13.out.at 1
          have z2 := C_13.out.at 2
          have zl := C_13.out.lt
          go_wp2_with fail
          clear z0 z1 z2 zl
          refine (RCheckLine_any W L p cap l1 l2 l3 t hLn L_13.out).mono ?_
          rintro e v14 ⟨rfl, hp⟩
          have HP_14 := Lib.hid (HP_13.out.trans hp)
          have HW_14 := Lib.hid (HW_13.out.to hp)
          have L_14 := Lib.hid (L_13.out.to hp)
          have Z_14 := Lib.hid (Z_13.out.to hp)
          have L2_14 := Lib.hid (L2_13.out.to hp)
          have A_14 := Lib.hid (A_13.out.to hp)
          have B_14 := Lib.hid (B_13.out.to hp)
          have C_14 := Lib.hid (C_13.out.to hp)
          have D_14 := Lib.hid (D_13.out.to hp)
          have E_14 := Lib.hid (E_13.out.to hp)
          have F_14 := Lib.hid (F_13.out.to hp)
          clear hp  HP_13 HW_13 L_13 Z_13 L2_13 A_13 B_13 C_13 D_13 E_13 F_13
          rw [HLJ.out.1, HLJ.out.2.1, HLJ.out.2.2]
          have x0 := D_14.out.at 0
          have x1 := D_14.out.at 1
          have xl := D_14.out.lt
          go_wp2_with fail
          clear x0 x1 xl
          obtain ⟨X15, hX15⟩ : ∃ V : World, v14.alloc (Obj.cells #[Value.int IntKind.i64 q1, Value.int IntKind.i64 q2] 29) = V := ⟨_, rfl⟩
          have hpX15 : Pure v14 X15 := by rw [← hX15]; exact ((Diff.refl v14).alloc _)
          have bGC : Blk (v14.heap.size) 29 #[Value.int IntKind.i64 q1, Value.int IntKind.i64 q2] X15 := by rw [← hX15]; exact (blk0 v14 29 _)
          rw [hX15]
          obtain ⟨g15_0, hg15_0⟩ : ∃ g, v14.heap.size = g := ⟨_, rfl⟩
          rw [hg15_0] at bGC ⊢
          have HP_15 := Lib.hid (HP_14.out.trans hpX15)
          have HW_15 := Lib.hid (HW_14.out.to hpX15)
          have L_15 := Lib.hid (L_14.out.to hpX15)
          have Z_15 := Lib.hid (Z_14.out.to hpX15)
          have L2_15 := Lib.hid (L2_14.out.to hpX15)
          have A_15 := Lib.hid (A_14.out.to hpX15)
          have B_15 := Lib.hid (B_14.out.to hpX15)
          have C_15 := Lib.hid (C_14.out.to hpX15)
          have D_15 := Lib.hid (D_14.out.to hpX15)
          have E_15 := Lib.hid (E_14.out.to hpX15)
          have F_15 := Lib.hid (F_14.out.to hpX15)
          have GC_15 := Lib.hid bGC
          clear hX15 hpX15 hg15_0 bGC HP_14 HW_14 L_14 Z_14 L2_14 A_14 B_14 C_14 D_14 E_14 F_14
          refine (alikeLots_any X15 L p2 p c2 cap hLn L2_15.out L_15.out).mono ?_
          rintro e v16 ⟨rfl, hp⟩
          have HP_16 := Lib.hid (HP_15.out.trans hp)
          have HW_16 := Lib.hid (HW_15.out.to hp)
          have L_16 := Lib.hid (L_15.out.to hp)
          have Z_16 := Lib.hid (Z_15.out.to hp)
          have L2_16 := Lib.hid (L2_15.out.to hp)
          have A_16 := Lib.hid (A_15.out.to hp)
          have B_16 := Lib.hid (B_15.out.to hp)
          have C_16 := Lib.hid (C_15.out.to hp)
          have D_16 := Lib.hid (D_15.out.to hp)
          have E_16 := Lib.hid (E_15.out.to hp)
          have F_16 := Lib.hid (F_15.out.to hp)
          have GC_16 := Lib.hid (GC_15.out.to hp)
          clear hp  HP_15 HW_15 L_15 Z_15 L2_15 A_15 B_15 C_15 D_15 E_15 F_15 GC_15
          go_wp2_with fail
          refine (Works_any v16 HW_16.out).mono ?_
          rintro e v17 ⟨rfl, hp⟩
          have HP_17 := Lib.hid (HP_16.out.trans hp)
          have HW_17 := Lib.hid (HW_16.out.to hp)
          have L_17 := Lib.hid (L_16.out.to hp)
          have Z_17 := Lib.hid (Z_16.out.to hp)
          have L2_17 := Lib.hid (L2_16.out.to hp)
          have A_17 := Lib.hid (A_16.out.to hp)
          have B_17 := Lib.hid (B_16.out.to hp)
          have C_17 := Lib.hid (C_16.out.to hp)
          have D_17 := Lib.hid (D_16.out.to hp)
          have E_17 := Lib.hid (E_16.out.to hp)
          have F_17 := Lib.hid (F_16.out.to hp)
          have GC_17 := Lib.hid (GC_16.out.to hp)
          clear hp  HP_16 HW_16 L_16 Z_16 L2_16 A_16 B_16 C_16 D_16 E_16 F_16 GC_16
          go_wp2
          exact bodyPost_ret (v := .bool true) (by simp [results, Tryd.results5, go_sem]) rfl ⟨rfl, HP_17.out⟩
    · by_cases ha : ae = 0
      · obtain ⟨rfl, rfl, rfl⟩ : l1 = 0 ∧ l2 = 0 ∧ l3 = 0 := by
          have h := HEL.out
          unfold lineOf at h
          rw [if_neg (by rw [h.2.2.2]; exact hc)] at h
          exact ⟨h.1.symm, h.2.1.symm, h.2.2.1.symm⟩
        have hcb : (ce == 0) = false := by simpa using hc
        obtain rfl := ha
        have HOJ : Hid ((lineP L (o1, o2, o3) t).1 = u1 ∧ (lineP L (o1, o2, o3) t).2 = u2 ∧ lineE L (o1, o2, o3) t = 0 ∧ ¬ o3 < 0) := by
          have e : floorOf L t = (o1, o2, o3) := by rw [← HEO.out.1, ← HEO.out.2.1, ← HEO.out.2.2.1]
          have h := floor_join HEO.out.2.2.2
          rw [e] at h
          exact ⟨by rw [h.2.2.2.2]; exact HEU.out.1, by rw [h.2.2.2.2]; exact HEU.out.2, h.2.2.2.1, by have := h.2.2.1; simp only at this; omega⟩
        refine reg_invW (fun d a W => a = { tmps := #[Value.slice p L.n cap, Value.agg #[Value.int IntKind.i64 dv, Value.int IntKind.i64 xv, Value.int IntKind.i64 yv], Value.int IntKind.i64 t, undef, Value.pointer (some { block := gz, off := 0 }), undef, Value.bool false, Value.slice p2 L.n c2, Value.pointer (some { block := g2_0, off := 0 }), Value.int IntKind.i64 ke, Value.pointer (some { block := g4_0, off := 0 }), Value.int IntKind.i64 ke, Value.pointer (some { block := g6_0, off := 0 }), Value.int IntKind.i64 ce, Value.pointer (some { block := g8_0, off := 0 }), Value.int IntKind.i64 ce, Value.pointer (some { block := g10_0, off := 0 }), Value.int IntKind.i64 0, Value.pointer (some { block := g12_0, off := 0 }), Value.int IntKind.i64 0, undef, undef, undef, undef, Value.slice p L.n cap, Value.bool false, undef, Value.slice p L.n cap, Value.slice p2 L.n c2, Value.tuple #[Value.agg #[Value.int IntKind.i64 k1, Value.int IntKind.i64 k2], Value.int IntKind.i64 ke], Value.slice p2 L.n c2, Value.agg #[Value.int IntKind.i64 dv, Value.int IntKind.i64 xv, Value.int IntKind.i64 yv], Value.int IntKind.i64 t, Value.tuple #[Value.agg #[Value.int IntKind.i64 k1, Value.int IntKind.i64 k2], Value.int IntKind.i64 ke], Value.agg #[Value.int IntKind.i64 k1, Value.int IntKind.i64 k2], Value.int IntKind.i64 ke, Value.tuple #[Value.agg #[Value.int IntKind.i64 k1, Value.int IntKind.i64 k2], Value.int IntKind.i64 ke], Value.slice p L.n cap, Value.agg #[Value.int IntKind.i64 dv, Value.int IntKind.i64 xv, Value.int IntKind.i64 yv], Value.int IntKind.i64 t, Value.tuple #[Value.agg #[Value.int IntKind.i64 k1, Value.int IntKind.i64 k2], Value.int IntKind.i64 ke], Value.agg #[Value.int IntKind.i64 k1, Value.int IntKind.i64 k2], Value.int IntKind.i64 ke, Value.tuple #[Value.agg #[Value.int IntKind.i64 0, Value.int IntKind.i64 0, Value.int IntKind.i64 0], Value.int IntKind.i64 ce], Value.slice p2 L.n c2, Value.int IntKind.i64 t, Value.tuple #[Value.agg #[Value.int IntKind.i64 0, Value.int IntKind.i64 0, Value.int IntKind.i64 0], Value.int IntKind.i64 ce], Value.agg #[Value.int IntKind.i64 0, Value.int IntKind.i64 0, Value.int IntKind.i64 0], Value.int IntKind.i64 ce, Value.tuple #[Value.agg #[Value.int IntKind.i64 q1, Value.int IntKind.i64 q2], Value.int IntKind.i64 ce], Value.slice p L.n cap, Value.int IntKind.i64 t, Value.tuple #[Value.agg #[Value.int IntKind.i64 q1, Value.int IntKind.i64 q2], Value.int IntKind.i64 ce], Value.agg #[Value.int IntKind.i64 q1, Value.int IntKind.i64 q2], Value.int IntKind.i64 ce, Value.tuple #[Value.agg #[Value.int IntKind.i64 o1, Value.int IntKind.i64 o2, Value.int IntKind.i64 o3], Value.int IntKind.i64 0], Value.slice p2 L.n c2, Value.int IntKind.i64 t, Value.tuple #[Value.agg #[Value.int IntKind.i64 o1, Value.int IntKind.i64 o2, Value.int IntKind.i64 o3], Value.int IntKind.i64 0], Value.agg #[Value.int IntKind.i64 o1, Value.int IntKind.i64 o2, Value.int IntKind.i64 o3], Value.int IntKind.i64 0, Value.tuple #[Value.agg #[Value.int IntKind.i64 u1, Value.int IntKind.i64 u2], Value.int IntKind.i64 0], Value.slice p L.n cap, Value.int IntKind.i64 t, Value.tuple #[Value.agg #[Value.int IntKind.i64 u1, Value.int IntKind.i64 u2], Value.int IntKind.i64 0], Value.agg #[Value.int IntKind.i64 u1, Value.int IntKind.i64 u2], Value.int IntKind.i64 0, (bif d 0 then Value.agg #[Value.int IntKind.i64 k1, Value.int IntKind.i64 k2] else undef), (bif d 1 then Value.agg #[Value.int IntKind.i64 k1, Value.int IntKind.i64 k2] else undef), (bif d 2 then Value.bool false else undef), (bif d 3 then Value.bool false else undef), (bif d 4 then Value.int IntKind.i64 ke else undef), (bif d 5 then Value.int IntKind.i64 ke else undef), (bif d 6 then Value.bool false else undef), (bif d 7 then Value.bool false else undef), (bif d 8 then Value.bool false else undef), (bif d 9 then Value.int IntKind.i64 ce else undef), (bif d 10 then Value.int IntKind.i64 ce else undef), (bif d 11 then Value.bool false else undef), (bif d 12 then Value.bool false else undef), (bif d 13 then Value.bool false else undef), (bif d 14 then Value.int IntKind.i64 0 else undef), (bif d 15 then Value.int IntKind.i64 0 else undef), (bif d 16 then Value.bool false else undef), (bif d 17 then Value.bool false else undef), (bif d 18 then Value.bool false else undef), (bif d 19 then Value.int IntKind.i64 ce else undef), (bif d 20 then Value.bool true else undef), (bif d 21 then Value.bool true else undef), (bif d 22 then Value.agg #[Value.int IntKind.i64 0, Value.int IntKind.i64 0, Value.int IntKind.i64 0] else undef), (bif d 23 then Value.agg #[Value.int IntKind.i64 0, Value.int IntKind.i64 0, Value.int IntKind.i64 0] else undef), (bif d 24 then Value.bool false else undef), (bif d 25 then Value.bool false else undef), (bif d 26 then Value.bool false else undef), (bif d 27 then Value.bool false else undef), (bif d 28 then Value.int IntKind.i64 0 else undef), (bif d 29 then Value.bool false else undef), (bif d 30 then Value.bool false else undef), (bif d 31 then undef else undef), (bif d 32 then undef else undef), (bif d 33 then undef else undef), (bif d 34 then Value.bool false else undef), (bif d 35 then Value.bool false else undef), undef, undef, undef, undef, undef, undef, undef, undef, undef, undef, undef, undef, undef, undef, undef, undef, undef, undef, undef, undef, undef, undef, undef, undef, undef, undef, undef, undef, undef, undef, undef, undef, undef, undef, undef, undef, undef, undef, undef, undef, undef, undef, undef], defers := [] } ∧ Pure X12 W) hmx (by kernel_rfl) ?_ ?_ ?_
        · exact ⟨rfl, (Diff.refl _).drew⟩
        · refine ⟨?_, ?_, ?_, ?_, ?_, ?_, ?_, ?_, ?_, ?_, ?_, ?_, ?_, ?_, ?_, ?_, ?_, ?_, ?_, ?_, ?_, ?_, ?_, ?_, ?_, ?_, ?_, ?_, ?_, ?_, ?_, ?_, ?_, ?_, ?_, ?_, trivial⟩
          · rintro d a W hdi hdep hcl ⟨rfl, hw⟩ K hK
            have E := hcl.facts 0 hdi rfl hdep [] [2, 3, 4, 5, 6, 7, 8, 9, 10, 11, 12, 13, 14, 15, 16, 17, 18, 19, 20, 21, 22, 23, 24, 25, 26, 27, 28, 29, 30, 31, 32, 33, 34, 35] (by kernel_rfl) (by kernel_rfl)
            simp only [AllT, AllF] at E
            clear hdi hdep hcl
            have zz := A_12.out.to hw
            have z0 := zz.at 0
            have z1 := zz.at 1
            have zl := zz.lt
            clear zz
            go_simp
            exact hK _ _ ⟨by simp [upd, E], hw⟩
          · rintro d a W hdi hdep hcl ⟨rfl, hw⟩ K hK
            have E := hcl.facts 1 hdi rfl hdep [] [2, 3, 4, 5, 6, 7, 8, 9, 10, 11, 12, 13, 14, 15, 16, 17, 18, 19, 20, 21, 22, 23, 24, 25, 26, 27, 28, 29, 30, 31, 32, 33, 34, 35] (by kernel_rfl) (by kernel_rfl)
            simp only [AllT, AllF] at E
            clear hdi hdep hcl
            have zz := B_12.out.to hw
            have z0 := zz.at 0
            have z1 := zz.at 1
            have zl := zz.lt
            clear zz
            go_simp
            exact hK _ _ ⟨by simp [upd, E], hw⟩
          · rintro d a W hdi hdep hcl ⟨rfl, hw⟩ K hK
            have E := hcl.facts 2 hdi rfl hdep [0, 1] [3, 4, 5, 6, 7, 8, 9, 10, 11, 12, 13, 14, 15, 16, 17, 18, 19, 20, 21, 22, 23, 24, 25, 26, 27, 28, 29, 30, 31, 32, 33, 34, 35] (by kernel_rfl) (by kernel_rfl)
            simp only [AllT, AllF] at E
            clear hdi hdep hcl
            go_simp
            exact hK _ _ ⟨by simp [upd, E], hw⟩
          · rintro d a W hdi hdep hcl ⟨rfl, hw⟩ K hK
            have E := hcl.facts 3 hdi rfl hdep [0, 1, 2] [4, 5, 6, 7, 8, 9, 10, 11, 12, 13, 14, 15, 16, 17, 18, 19, 20, 21, 22, 23, 24, 25, 26, 27, 28, 29, 30, 31, 32, 33, 34, 35] (by kernel_rfl) (by kernel_rfl)
            simp only [AllT, AllF] at E
            clear hdi hdep hcl
            go_simp
            exact hK _ _ ⟨by simp [upd, E], hw⟩
          · rintro d a W hdi hdep hcl ⟨rfl, hw⟩ K hK
            have E := hcl.facts 4 hdi rfl hdep [0, 1, 2, 3] [6, 7, 8, 9, 10, 11, 12, 13, 14, 15, 16, 17, 18, 19, 20, 21, 22, 23, 24, 25, 26, 27, 28, 29, 30, 31, 32, 33, 34, 35] (by kernel_rfl) (by kernel_rfl)
            simp only [AllT, AllF] at E
            clear hdi hdep hcl
            go_simp
            exact hK _ _ ⟨by simp [upd, E], hw⟩
          · rintro d a W hdi hdep hcl ⟨rfl, hw⟩ K hK
            have E := hcl.facts 5 hdi rfl hdep [0, 1, 2, 3] [6, 7, 8, 9, 10, 11, 12, 13, 14, 15, 16, 17, 18, 19, 20, 21, 22, 23, 24, 25, 26, 27, 28, 29, 30, 31, 32, 33, 34, 35] (by kernel_rfl) (by kernel_rfl)
            simp only [AllT, AllF] at E
            clear hdi hdep hcl
            go_simp
            exact hK _ _ ⟨by simp [upd, E], hw⟩
          · rintro d a W hdi hdep hcl ⟨rfl, hw⟩ K hK
            have E := hcl.facts 6 hdi rfl hdep [0, 1, 2, 3, 4, 5] [7, 8, 9, 10, 11, 12, 13, 14, 15, 16, 17, 18, 19, 20, 21, 22, 23, 24, 25, 26, 27, 28, 29, 30, 31, 32, 33, 34, 35] (by kernel_rfl) (by kernel_rfl)
            simp only [AllT, AllF] at E
            clear hdi hdep hcl
            go_simp
            exact hK _ _ ⟨by simp [upd, E], hw⟩
          · rintro d a W hdi hdep hcl ⟨rfl, hw⟩ K hK
            have E := hcl.facts 7 hdi rfl hdep [0, 1, 2, 3, 4, 5, 6] [8, 9, 10, 11, 12, 13, 14, 15, 16, 17, 18, 19, 20, 21, 22, 23, 24, 25, 26, 27, 28, 29, 30, 31, 32, 33, 34, 35] (by kernel_rfl) (by kernel_rfl)
            simp only [AllT, AllF] at E
            clear hdi hdep hcl
            go_simp
            exact hK _ _ ⟨by simp [upd, E], hw⟩
          · rintro d a W hdi hdep hcl ⟨rfl, hw⟩ K hK
            have E := hcl.facts 8 hdi rfl hdep [0, 1, 2, 3, 4, 5, 6, 7] [9, 10, 11, 12, 13, 14, 15, 16, 17, 18, 19, 20, 21, 22, 23, 24, 25, 26, 27, 28, 29, 30, 31, 32, 33, 34, 35] (by kernel_rfl) (by kernel_rfl)
            simp only [AllT, AllF] at E
            clear hdi hdep hcl
            go_simp
            exact hK _ _ ⟨by simp [upd, E], hw⟩
          · rintro d a W hdi hdep hcl ⟨rfl, hw⟩ K hK
            have E := hcl.facts 9 hdi rfl hdep [0, 1, 2, 3, 4, 5, 6, 7, 8] [11, 12, 13, 14, 15, 16, 17, 18, 19, 20, 21, 22, 23, 24, 25, 26, 27, 28, 29, 30, 31, 32, 33, 34, 35] (by kernel_rfl) (by kernel_rfl)
            simp only [AllT, AllF] at E
            clear hdi hdep hcl
            go_simp
            exact hK _ _ ⟨by simp [upd, E], hw⟩
          · rintro d a W hdi hdep hcl ⟨rfl, hw⟩ K hK
            have E := hcl.facts 10 hdi rfl hdep [0, 1, 2, 3, 4, 5, 6, 7, 8] [11, 12, 13, 14, 15, 16, 17, 18, 19, 20, 21, 22, 23, 24, 25, 26, 27, 28, 29, 30, 31, 32, 33, 34, 35] (by kernel_rfl) (by kernel_rfl)
            simp only [AllT, AllF] at E
            clear hdi hdep hcl
            go_simp
            exact hK _ _ ⟨by simp [upd, E], hw⟩
          · rintro d a W hdi hdep hcl ⟨rfl, hw⟩ K hK
            have E := hcl.facts 11 hdi rfl hdep [0, 1, 2, 3, 4, 5, 6, 7, 8, 9, 10] [12, 13, 14, 15, 16, 17, 18, 19, 20, 21, 22, 23, 24, 25, 26, 27, 28, 29, 30, 31, 32, 33, 34, 35] (by kernel_rfl) (by kernel_rfl)
            simp only [AllT, AllF] at E
            clear hdi hdep hcl
            go_simp
            exact hK _ _ ⟨by simp [upd, E], hw⟩
          · rintro d a W hdi hdep hcl ⟨rfl, hw⟩ K hK
            have E := hcl.facts 12 hdi rfl hdep [0, 1, 2, 3, 4, 5, 6, 7, 8, 9, 10, 11] [13, 14, 15, 16, 17, 18, 19, 20, 21, 22, 23, 24, 25, 26, 27, 28, 29, 30, 31, 32, 33, 34, 35] (by kernel_rfl) (by kernel_rfl)
            simp only [AllT, AllF] at E
            clear hdi hdep hcl
            go_simp
            exact hK _ _ ⟨by simp [upd, E], hw⟩
          · rintro d a W hdi hdep hcl ⟨rfl, hw⟩ K hK
            have E := hcl.facts 13 hdi rfl hdep [0, 1, 2, 3, 4, 5, 6, 7, 8, 9, 10, 11, 12] [14, 15, 16, 17, 18, 19, 20, 21, 22, 23, 24, 25, 26, 27, 28, 29, 30, 31, 32, 33, 34, 35] (by kernel_rfl) (by kernel_rfl)
            simp only [AllT, AllF] at E
            clear hdi hdep hcl
            go_simp
            exact hK _ _ ⟨by simp [upd, E], hw⟩
          · rintro d a W hdi hdep hcl ⟨rfl, hw⟩ K hK
            have E := hcl.facts 14 hdi rfl hdep [0, 1, 2, 3, 4, 5, 6, 7, 8, 9, 10, 11, 12, 13] [16, 17, 18, 19, 20, 21, 22, 23, 24, 25, 26, 27, 28, 29, 30, 31, 32, 33, 34, 35] (by kernel_rfl) (by kernel_rfl)
            simp only [AllT, AllF] at E
            clear hdi hdep hcl
            go_simp
            exact hK _ _ ⟨by simp [upd, E], hw⟩
          · rintro d a W hdi hdep hcl ⟨rfl, hw⟩ K hK
            have E := hcl.facts 15 hdi rfl hdep [0, 1, 2, 3, 4, 5, 6, 7, 8, 9, 10, 11, 12, 13] [16, 17, 18, 19, 20, 21, 22, 23, 24, 25, 26, 27, 28, 29, 30, 31, 32, 33, 34, 35] (by kernel_rfl) (by kernel_rfl)
            simp only [AllT, AllF] at E
            clear hdi hdep hcl
            go_simp
            exact hK _ _ ⟨by simp [upd, E], hw⟩
          · rintro d a W hdi hdep hcl ⟨rfl, hw⟩ K hK
            have E := hcl.facts 16 hdi rfl hdep [0, 1, 2, 3, 4, 5, 6, 7, 8, 9, 10, 11, 12, 13, 14, 15] [17, 18, 19, 20, 21, 22, 23, 24, 25, 26, 27, 28, 29, 30, 31, 32, 33, 34, 35] (by kernel_rfl) (by kernel_rfl)
            simp only [AllT, AllF] at E
            clear hdi hdep hcl
            go_simp
            exact hK _ _ ⟨by simp [upd, E], hw⟩
          · rintro d a W hdi hdep hcl ⟨rfl, hw⟩ K hK
            have E := hcl.facts 17 hdi rfl hdep [0, 1, 2, 3, 4, 5, 6, 7, 8, 9, 10, 11, 12, 13, 14, 15, 16] [18, 19, 20, 21, 22, 23, 24, 25, 26, 27, 28, 29, 30, 31, 32, 33, 34, 35] (by kernel_rfl) (by kernel_rfl)
            simp only [AllT, AllF] at E
            clear hdi hdep hcl
            go_simp
            exact hK _ _ ⟨by simp [upd, E], hw⟩
          · rintro d a W hdi hdep hcl ⟨rfl, hw⟩ K hK
            have E := hcl.facts 18 hdi rfl hdep [0, 1, 2, 3, 4, 5, 6, 7, 8, 9, 10, 11, 12, 13, 14, 15, 16, 17] [19, 20, 21, 22, 23, 24, 25, 26, 27, 28, 29, 30, 31, 32, 33, 34, 35] (by kernel_rfl) (by kernel_rfl)
            simp only [AllT, AllF] at E
            clear hdi hdep hcl
            go_simp
            exact hK _ _ ⟨by simp [upd, E], hw⟩
          · rintro d a W hdi hdep hcl ⟨rfl, hw⟩ K hK
            have E := hcl.facts 19 hdi rfl hdep [0, 1, 2, 3, 4, 5, 6, 7, 8, 9, 10, 11, 12, 13, 14, 15, 16, 17, 18] [20, 21, 22, 23, 24, 25, 26, 27, 28, 29, 30, 31, 32, 33, 34, 35] (by kernel_rfl) (by kernel_rfl)
            simp only [AllT, AllF] at E
            clear hdi hdep hcl
            go_simp
            exact hK _ _ ⟨by simp [upd, E], hw⟩
          · rintro d a W hdi hdep hcl ⟨rfl, hw⟩ K hK
            have E := hcl.facts 20 hdi rfl hdep [0, 1, 2, 3, 4, 5, 6, 7, 8, 9, 10, 11, 12, 13, 14, 15, 16, 17, 18, 19] [21, 22, 23, 24, 25, 26, 27, 28, 29, 30, 31, 32, 33, 34, 35] (by kernel_rfl) (by kernel_rfl)
            simp only [AllT, AllF] at E
            clear hdi hdep hcl
            go_simp
            exact hK _ _ ⟨by simp [upd, E, hc], hw⟩
          · rintro d a W hdi hdep hcl ⟨rfl, hw⟩ K hK
            have E := hcl.facts 21 hdi rfl hdep [0, 1, 2, 3, 4, 5, 6, 7, 8, 9, 10, 11, 12, 13, 14, 15, 16, 17, 18, 19, 20] [22, 23, 24, 25, 26, 27, 28, 29, 30, 31, 32, 33, 34, 35] (by kernel_rfl) (by kernel_rfl)
            simp only [AllT, AllF] at E
            clear hdi hdep hcl
            go_simp
            exact hK _ _ ⟨by simp [upd, E], hw⟩
          · rintro d a W hdi hdep hcl ⟨rfl, hw⟩ K hK
            have E := hcl.facts 22 hdi rfl hdep [0, 1, 2, 3, 4, 5, 6, 7, 8, 9, 10, 11, 12, 13, 14, 15, 16, 17, 18, 19, 20, 21] [24, 25, 26, 27, 28, 29, 30, 31, 32, 33, 34, 35] (by kernel_rfl) (by kernel_rfl)
            simp only [AllT, AllF] at E
            clear hdi hdep hcl
            have zz := C_12.out.to hw
            have z0 := zz.at 0
            have z1 := zz.at 1
            have z2 := zz.at 2
            have zl := zz.lt
            clear zz
            go_simp
            exact hK _ _ ⟨by simp [upd, E], hw⟩
          · rintro d a W hdi hdep hcl ⟨rfl, hw⟩ K hK
            have E := hcl.facts 23 hdi rfl hdep [0, 1, 2, 3, 4, 5, 6, 7, 8, 9, 10, 11, 12, 13, 14, 15, 16, 17, 18, 19, 20, 21] [24, 25, 26, 27, 28, 29, 30, 31, 32, 33, 34, 35] (by kernel_rfl) (by kernel_rfl)
            simp only [AllT, AllF] at E
            clear hdi hdep hcl
            go_simp
            refine Calls.mono (lline_any W 0 0 0) ?_
            rintro e w9 ⟨rfl, hp9⟩
            exact hK _ _ ⟨by simp [upd, E], hw.trans hp9⟩
          · rintro d a W hdi hdep hcl ⟨rfl, hw⟩ K hK
            have E := hcl.facts 24 hdi rfl hdep [0, 1, 2, 3, 4, 5, 6, 7, 8, 9, 10, 11, 12, 13, 14, 15, 16, 17, 18, 19, 20, 21, 22, 23] [25, 26, 27, 28, 29, 30, 31, 32, 33, 34, 35] (by kernel_rfl) (by kernel_rfl)
            simp only [AllT, AllF] at E
            clear hdi hdep hcl
            go_simp
            exact hK _ _ ⟨by simp [upd, E], hw⟩
          · rintro d a W hdi hdep hcl ⟨rfl, hw⟩ K hK
            have E := hcl.facts 25 hdi rfl hdep [0, 1, 2, 3, 4, 5, 6, 7, 8, 9, 10, 11, 12, 13, 14, 15, 16, 17, 18, 19, 20, 21, 22, 23, 24] [26, 27, 28, 29, 30, 31, 32, 33, 34, 35] (by kernel_rfl) (by kernel_rfl)
            simp only [AllT, AllF] at E
            clear hdi hdep hcl
            go_simp
            exact hK _ _ ⟨by simp [upd, E], hw⟩
          · rintro d a W hdi hdep hcl ⟨rfl, hw⟩ K hK
            have E := hcl.facts 26 hdi rfl hdep [0, 1, 2, 3, 4, 5, 6, 7, 8, 9, 10, 11, 12, 13, 14, 15, 16, 17, 18, 19, 20, 21, 22, 23, 24, 25] [27, 28, 29, 30, 31, 32, 33, 34, 35] (by kernel_rfl) (by kernel_rfl)
            simp only [AllT, AllF] at E
            clear hdi hdep hcl
            go_simp
            exact hK _ _ ⟨by simp [upd, E], hw⟩
          · rintro d a W hdi hdep hcl ⟨rfl, hw⟩ K hK
            have E := hcl.facts 27 hdi rfl hdep [0, 1, 2, 3, 4, 5, 6, 7, 8, 9, 10, 11, 12, 13, 14, 15, 16, 17, 18, 19, 20, 21, 22, 23, 24, 25, 26] [28, 29, 30, 31, 32, 33, 34, 35] (by kernel_rfl) (by kernel_rfl)
            simp only [AllT, AllF] at E
            clear hdi hdep hcl
            go_simp
            exact hK _ _ ⟨by simp [upd, E], hw⟩
          · rintro d a W hdi hdep hcl ⟨rfl, hw⟩ K hK
            have E := hcl.facts 28 hdi rfl hdep [0, 1, 2, 3, 4, 5, 6, 7, 8, 9, 10, 11, 12, 13, 14, 15, 16, 17, 18, 19, 20, 21, 22, 23, 24, 25, 26, 27] [29, 30, 31, 32, 33, 34, 35] (by kernel_rfl) (by kernel_rfl)
            simp only [AllT, AllF] at E
            clear hdi hdep hcl
            go_simp
            exact hK _ _ ⟨by simp [upd, E], hw⟩
          · rintro d a W hdi hdep hcl ⟨rfl, hw⟩ K hK
            have E := hcl.facts 29 hdi rfl hdep [0, 1, 2, 3, 4, 5, 6, 7, 8, 9, 10, 11, 12, 13, 14, 15, 16, 17, 18, 19, 20, 21, 22, 23, 24, 25, 26, 27, 28] [30, 31, 32, 33, 34, 35] (by kernel_rfl) (by kernel_rfl)
            simp only [AllT, AllF] at E
            clear hdi hdep hcl
            go_simp
            exact hK _ _ ⟨by simp [upd, E], hw⟩
          · rintro d a W hdi hdep hcl ⟨rfl, hw⟩ K hK
            have E := hcl.facts 30 hdi rfl hdep [0, 1, 2, 3, 4, 5, 6, 7, 8, 9, 10, 11, 12, 13, 14, 15, 16, 17, 18, 19, 20, 21, 22, 23, 24, 25, 26, 27, 28, 29] [31, 32, 33, 34, 35] (by kernel_rfl) (by kernel_rfl)
            simp only [AllT, AllF] at E
            clear hdi hdep hcl
            go_simp
            exact hK _ _ ⟨by simp [upd, E], hw⟩
          · rintro d a W hdi hdep hcl ⟨rfl, hw⟩ K hK
            have E := hcl.facts 31 hdi rfl hdep [0, 1, 2, 3, 4, 5, 6, 7, 8, 9, 10, 11, 12, 13, 14, 15, 16, 17, 18, 19, 20, 21, 22, 23, 24, 25, 26, 27, 28, 29, 30] [33, 34, 35] (by kernel_rfl) (by kernel_rfl)
            simp only [AllT, AllF] at E
            clear hdi hdep hcl
            go_simp
            exact hK _ _ ⟨by simp [upd, E], hw⟩
          · rintro d a W hdi hdep hcl ⟨rfl, hw⟩ K hK
            have E := hcl.facts 32 hdi rfl hdep [0, 1, 2, 3, 4, 5, 6, 7, 8, 9, 10, 11, 12, 13, 14, 15, 16, 17, 18, 19, 20, 21, 22, 23, 24, 25, 26, 27, 28, 29, 30] [33, 34, 35] (by kernel_rfl) (by kernel_rfl)
            simp only [AllT, AllF] at E
            clear hdi hdep hcl
            go_simp
            exact hK _ _ ⟨by simp [upd, E], hw⟩
          · rintro d a W hdi hdep hcl ⟨rfl, hw⟩ K hK
            have E := hcl.facts 33 hdi rfl hdep [0, 1, 2, 3, 4, 5, 6, 7, 8, 9, 10, 11, 12, 13, 14, 15, 16, 17, 18, 19, 20, 21, 22, 23, 24, 25, 26, 27, 28, 29, 30, 31, 32] [34, 35] (by kernel_rfl) (by kernel_rfl)
            simp only [AllT, AllF] at E
            clear hdi hdep hcl
            go_simp
            exact hK _ _ ⟨by simp [upd, E], hw⟩
          · rintro d a W hdi hdep hcl ⟨rfl, hw⟩ K hK
            have E := hcl.facts 34 hdi rfl hdep [0, 1, 2, 3, 4, 5, 6, 7, 8, 9, 10, 11, 12, 13, 14, 15, 16, 17, 18, 19, 20, 21, 22, 23, 24, 25, 26, 27, 28, 29, 30, 31, 32, 33] [35] (by kernel_rfl) (by kernel_rfl)
            simp only [AllT, AllF] at E
            clear hdi hdep hcl
            go_simp
            exact hK _ _ ⟨by simp [upd, E], hw⟩
          · rintro d a W hdi hdep hcl ⟨rfl, hw⟩ K hK
            have E := hcl.facts 35 hdi rfl hdep [0, 1, 2, 3, 4, 5, 6, 7, 8, 9, 10, 11, 12, 13, 14, 15, 16, 17, 18, 19, 20, 21, 22, 23, 24, 25, 26, 27, 28, 29, 30, 31, 32, 33, 34] [] (by kernel_rfl) (by kernel_rfl)
            simp only [AllT, AllF] at E
            clear hdi hdep hcl
            go_simp
            exact hK _ _ ⟨by simp [upd, E], hw⟩
        · rintro d a W hall ⟨rfl, hw⟩
          have E := AllT.all hall [0, 1, 2, 3, 4, 5, 6, 7, 8, 9, 10, 11, 12, 13, 14, 15, 16, 17, 18, 19, 20, 21, 22, 23, 24, 25, 26, 27, 28, 29, 30, 31, 32, 33, 34, 35] (by kernel_rfl)
          simp only [AllT] at E
          simp only [E, cond_true] at hw ⊢
          clear E hall
          have HP_13 := Lib.hid (HP_12.out.trans hw)
          have HW_13 := Lib.hid (HW_12.out.to hw)
          have L_13 := Lib.hid (L_12.out.to hw)
          have Z_13 := Lib.hid (Z_12.out.to hw)
          have L2_13 := Lib.hid (L2_12.out.to hw)
          have A_13 := Lib.hid (A_12.out.to hw)
          have B_13 := Lib.hid (B_12.out.to hw)
          have C_13 := Lib.hid (C_12.out.to hw)
          have D_13 := Lib.hid (D_12.out.to hw)
          have E_13 := Lib.hid (E_12.out.to hw)
          have F_13 := Lib.hid (F_12.out.to hw)
          clear hw HP_12 HW_12 L_12 Z_12 L2_12 A_12 B_12 C_12 D_12 E_12 F_12
          have z0 := E_13.out.at 0
          have z1 := E_13.out.at 1
          have z2 := E_13.out.at 2
          have zl := E_13.out.lt
          go_wp2_with fail
          clear z0 z1 z2 zl
          refine (RCheckLine_any W L p cap o1 o2 o3 t hLn L_13.out).mono ?_
          rintro e v14 ⟨rfl, hp⟩
          have HP_14 := Lib.hid (HP_13.out.trans hp)
          have HW_14 := Lib.hid (HW_13.out.to hp)
          have L_14 := Lib.hid (L_13.out.to hp)
          have Z_14 := Lib.hid (Z_13.out.to hp)
          have L2_14 := Lib.hid (L2_13.out.to hp)
          have A_14 := Lib.hid (A_13.out.to hp)
          have B_14 := Lib.hid (B_13.out.to hp)
          have C_14 := Lib.hid (C_13.out.to hp)
          have D_14 := Lib.hid (D_13.out.to hp)
          have E_14 := Lib.hid (E_13.out.to hp)
          have F_14 := Lib.hid (F_13.out.to hp)
          clear hp  HP_13 HW_13 L_13 Z_13 L2_13 A_13 B_13 C_13 D_13 E_13 F_13
          rw [HOJ.out.1, HOJ.out.2.1, HOJ.out.2.2.1]
          have ho3 := HOJ.out.2.2.2
          have x0 := F_14.out.at 0
          have x1 := F_14.out.at 1
          have xl := F_14.out.lt
          have z0 := E_14.out.at 0
          have z1 := E_14.out.at 1
          have z2 := E_14.out.at 2
          have zl := E_14.out.lt
          go_wp2_with fail
          clear x0 x1 xl
          clear z0 z1 z2 zl
          clear ho3
          obtain ⟨X15, hX15⟩ : ∃ V : World, v14.alloc (Obj.cells #[Value.int IntKind.i64 u1, Value.int IntKind.i64 u2] 29) = V := ⟨_, rfl⟩
          have hpX15 : Pure v14 X15 := by rw [← hX15]; exact ((Diff.refl v14).alloc _)
          have bGE : Blk (v14.heap.size) 29 #[Value.int IntKind.i64 u1, Value.int IntKind.i64 u2] X15 := by rw [← hX15]; exact (blk0 v14 29 _)
          rw [hX15]
          obtain ⟨g15_0, hg15_0⟩ : ∃ g, v14.heap.size = g := ⟨_, rfl⟩
          rw [hg15_0] at bGE ⊢
          have HP_15 := Lib.hid (HP_14.out.trans hpX15)
          have HW_15 := Lib.hid (HW_14.out.to hpX15)
          have L_15 := Lib.hid (L_14.out.to hpX15)
          have Z_15 := Lib.hid (Z_14.out.to hpX15)
          have L2_15 := Lib.hid (L2_14.out.to hpX15)
          have A_15 := Lib.hid (A_14.out.to hpX15)
          have B_15 := Lib.hid (B_14.out.to hpX15)
          have C_15 := Lib.hid (C_14.out.to hpX15)
          have D_15 := Lib.hid (D_14.out.to hpX15)
          have E_15 := Lib.hid (E_14.out.to hpX15)
          have F_15 := Lib.hid (F_14.out.to hpX15)
          have GE_15 := Lib.hid bGE
          clear hX15 hpX15 hg15_0 bGE HP_14 HW_14 L_14 Z_14 L2_14 A_14 B_14 C_14 D_14 E_14 F_14
          refine (alikeLots_any X15 L p2 p c2 cap hLn L2_15.out L_15.out).mono ?_
          rintro e v16 ⟨rfl, hp⟩
          have HP_16 := Lib.hid (HP_15.out.trans hp)
          have HW_16 := Lib.hid (HW_15.out.to hp)
          have L_16 := Lib.hid (L_15.out.to hp)
          have Z_16 := Lib.hid (Z_15.out.to hp)
          have L2_16 := Lib.hid (L2_15.out.to hp)
          have A_16 := Lib.hid (A_15.out.to hp)
          have B_16 := Lib.hid (B_15.out.to hp)
          have C_16 := Lib.hid (C_15.out.to hp)
          have D_16 := Lib.hid (D_15.out.to hp)
          have E_16 := Lib.hid (E_15.out.to hp)
          have F_16 := Lib.hid (F_15.out.to hp)
          have GE_16 := Lib.hid (GE_15.out.to hp)
          clear hp  HP_15 HW_15 L_15 Z_15 L2_15 A_15 B_15 C_15 D_15 E_15 F_15 GE_15
          go_wp2_with fail
          refine (Works_any v16 HW_16.out).mono ?_
          rintro e v17 ⟨rfl, hp⟩
          have HP_17 := Lib.hid (HP_16.out.trans hp)
          have HW_17 := Lib.hid (HW_16.out.to hp)
          have L_17 := Lib.hid (L_16.out.to hp)
          have Z_17 := Lib.hid (Z_16.out.to hp)
          have L2_17 := Lib.hid (L2_16.out.to hp)
          have A_17 := Lib.hid (A_16.out.to hp)
          have B_17 := Lib.hid (B_16.out.to hp)
          have C_17 := Lib.hid (C_16.out.to hp)
          have D_17 := Lib.hid (D_16.out.to hp)
          have E_17 := Lib.hid (E_16.out.to hp)
          have F_17 := Lib.hid (F_16.out.to hp)
          have GE_17 := Lib.hid (GE_16.out.to hp)
          clear hp  HP_16 HW_16 L_16 Z_16 L2_16 A_16 B_16 C_16 D_16 E_16 F_16 GE_16
          go_wp2
          exact bodyPost_ret (v := .bool true) (by simp [results, Tryd.results5, go_sem]) rfl ⟨rfl, HP_17.out⟩
      · obtain ⟨rfl, rfl, rfl⟩ : l1 = 0 ∧ l2 = 0 ∧ l3 = 0 := by
          have h := HEL.out
          unfold lineOf at h
          rw [if_neg (by rw [h.2.2.2]; exact hc)] at h
          exact ⟨h.1.symm, h.2.1.symm, h.2.2.1.symm⟩
        have hcb : (ce == 0) = false := by simpa using hc
        obtain ⟨rfl, rfl, rfl⟩ : o1 = 0 ∧ o2 = 0 ∧ o3 = 0 := by
          have h := HEO.out
          unfold floorOf at h
          rw [if_neg (by rw [h.2.2.2]; exact ha)] at h
          exact ⟨h.1.symm, h.2.1.symm, h.2.2.1.symm⟩
        have hab : (ae == 0) = false := by simpa using ha
        refine reg_invW (fun d a W => a = { tmps := #[Value.slice p L.n cap, Value.agg #[Value.int IntKind.i64 dv, Value.int IntKind.i64 xv, Value.int IntKind.i64 yv], Value.int IntKind.i64 t, undef, Value.pointer (some { block := gz, off := 0 }), undef, Value.bool false, Value.slice p2 L.n c2, Value.pointer (some { block := g2_0, off := 0 }), Value.int IntKind.i64 ke, Value.pointer (some { block := g4_0, off := 0 }), Value.int IntKind.i64 ke, Value.pointer (some { block := g6_0, off := 0 }), Value.int IntKind.i64 ce, Value.pointer (some { block := g8_0, off := 0 }), Value.int IntKind.i64 ce, Value.pointer (some { block := g10_0, off := 0 }), Value.int IntKind.i64 ae, Value.pointer (some { block := g12_0, off := 0 }), Value.int IntKind.i64 ae, undef, undef, undef, undef, Value.slice p L.n cap, Value.bool false, undef, Value.slice p L.n cap, Value.slice p2 L.n c2, Value.tuple #[Value.agg #[Value.int IntKind.i64 k1, Value.int IntKind.i64 k2], Value.int IntKind.i64 ke], Value.slice p2 L.n c2, Value.agg #[Value.int IntKind.i64 dv, Value.int IntKind.i64 xv, Value.int IntKind.i64 yv], Value.int IntKind.i64 t, Value.tuple #[Value.agg #[Value.int IntKind.i64 k1, Value.int IntKind.i64 k2], Value.int IntKind.i64 ke], Value.agg #[Value.int IntKind.i64 k1, Value.int IntKind.i64 k2], Value.int IntKind.i64 ke, Value.tuple #[Value.agg #[Value.int IntKind.i64 k1, Value.int IntKind.i64 k2], Value.int IntKind.i64 ke], Value.slice p L.n cap, Value.agg #[Value.int IntKind.i64 dv, Value.int IntKind.i64 xv, Value.int IntKind.i64 yv], Value.int IntKind.i64 t, Value.tuple #[Value.agg #[Value.int IntKind.i64 k1, Value.int IntKind.i64 k2], Value.int IntKind.i64 ke], Value.agg #[Value.int IntKind.i64 k1, Value.int IntKind.i64 k2], Value.int IntKind.i64 ke, Value.tuple #[Value.agg #[Value.int IntKind.i64 0, Value.int IntKind.i64 0, Value.int IntKind.i64 0], Value.int IntKind.i64 ce], Value.slice p2 L.n c2, Value.int IntKind.i64 t, Value.tuple #[Value.agg #[Value.int IntKind.i64 0, Value.int IntKind.i64 0, Value.int IntKind.i64 0], Value.int IntKind.i64 ce], Value.agg #[Value.int IntKind.i64 0, Value.int IntKind.i64 0, Value.int IntKind.i64 0], Value.int IntKind.i64 ce, Value.tuple #[Value.agg #[Value.int IntKind.i64 q1, Value.int IntKind.i64 q2], Value.int IntKind.i64 ce], Value.slice p L.n cap, Value.int IntKind.i64 t, Value.tuple #[Value.agg #[Value.int IntKind.i64 q1, Value.int IntKind.i64 q2], Value.int IntKind.i64 ce], Value.agg #[Value.int IntKind.i64 q1, Value.int IntKind.i64 q2], Value.int IntKind.i64 ce, Value.tuple #[Value.agg #[Value.int IntKind.i64 0, Value.int IntKind.i64 0, Value.int IntKind.i64 0], Value.int IntKind.i64 ae], Value.slice p2 L.n c2, Value.int IntKind.i64 t, Value.tuple #[Value.agg #[Value.int IntKind.i64 0, Value.int IntKind.i64 0, Value.int IntKind.i64 0], Value.int IntKind.i64 ae], Value.agg #[Value.int IntKind.i64 0, Value.int IntKind.i64 0, Value.int IntKind.i64 0], Value.int IntKind.i64 ae, Value.tuple #[Value.agg #[Value.int IntKind.i64 u1, Value.int IntKind.i64 u2], Value.int IntKind.i64 ae], Value.slice p L.n cap, Value.int IntKind.i64 t, Value.tuple #[Value.agg #[Value.int IntKind.i64 u1, Value.int IntKind.i64 u2], Value.int IntKind.i64 ae], Value.agg #[Value.int IntKind.i64 u1, Value.int IntKind.i64 u2], Value.int IntKind.i64 ae, (bif d 0 then Value.agg #[Value.int IntKind.i64 k1, Value.int IntKind.i64 k2] else undef), (bif d 1 then Value.agg #[Value.int IntKind.i64 k1, Value.int IntKind.i64 k2] else undef), (bif d 2 then Value.bool false else undef), (bif d 3 then Value.bool false else undef), (bif d 4 then Value.int IntKind.i64 ke else undef), (bif d 5 then Value.int IntKind.i64 ke else undef), (bif d 6 then Value.bool false else undef), (bif d 7 then Value.bool false else undef), (bif d 8 then Value.bool false else undef), (bif d 9 then Value.int IntKind.i64 ce else undef), (bif d 10 then Value.int IntKind.i64 ce else undef), (bif d 11 then Value.bool false else undef), (bif d 12 then Value.bool false else undef), (bif d 13 then Value.bool false else undef), (bif d 14 then Value.int IntKind.i64 ae else undef), (bif d 15 then Value.int IntKind.i64 ae else undef), (bif d 16 then Value.bool false else undef), (bif d 17 then Value.bool false else undef), (bif d 18 then Value.bool false else undef), (bif d 19 then Value.int IntKind.i64 ce else undef), (bif d 20 then Value.bool true else undef), (bif d 21 then Value.bool true else undef), (bif d 22 then Value.agg #[Value.int IntKind.i64 0, Value.int IntKind.i64 0, Value.int IntKind.i64 0] else undef), (bif d 23 then Value.agg #[Value.int IntKind.i64 0, Value.int IntKind.i64 0, Value.int IntKind.i64 0] else undef), (bif d 24 then Value.bool false else undef), (bif d 25 then Value.bool false else undef), (bif d 26 then Value.bool false else undef), (bif d 27 then Value.bool false else undef), (bif d 28 then Value.int IntKind.i64 ae else undef), (bif d 29 then Value.bool true else undef), (bif d 30 then Value.bool true else undef), (bif d 31 then Value.agg #[Value.int IntKind.i64 0, Value.int IntKind.i64 0, Value.int IntKind.i64 0] else undef), (bif d 32 then Value.agg #[Value.int IntKind.i64 0, Value.int IntKind.i64 0, Value.int IntKind.i64 0] else undef), (bif d 33 then Value.bool false else undef), (bif d 34 then Value.bool false else undef), (bif d 35 then Value.bool false else undef), undef, undef, undef, undef, undef, undef, undef, undef, undef, undef, undef, undef, undef, undef, undef, undef, undef, undef, undef, undef, undef, undef, undef, undef, undef, undef, undef, undef, undef, undef, undef, undef, undef, undef, undef, undef, undef, undef, undef, undef, undef, undef, undef], defers := [] } ∧ Pure X12 W) hmx (by kernel_rfl) ?_ ?_ ?_
        · exact ⟨rfl, (Diff.refl _).drew⟩
        · refine ⟨?_, ?_, ?_, ?_, ?_, ?_, ?_, ?_, ?_, ?_, ?_, ?_, ?_, ?_, ?_, ?_, ?_, ?_, ?_, ?_, ?_, ?_, ?_, ?_, ?_, ?_, ?_, ?_, ?_, ?_, ?_, ?_, ?_, ?_, ?_, ?_, trivial⟩
          · rintro d a W hdi hdep hcl ⟨rfl, hw⟩ K hK
            have E := hcl.facts 0 hdi rfl hdep [] [2, 3, 4, 5, 6, 7, 8, 9, 10, 11, 12, 13, 14, 15, 16, 17, 18, 19, 20, 21, 22, 23, 24, 25, 26, 27, 28, 29, 30, 31, 32, 33, 34, 35] (by kernel_rfl) (by kernel_rfl)
            simp only [AllT, AllF] at E
            clear hdi hdep hcl
            have zz := A_12.out.to hw
            have z0 := zz.at 0
            have z1 := zz.at 1
            have zl := zz.lt
            clear zz
            go_simp
            exact hK _ _ ⟨by simp [upd, E], hw⟩
          · rintro d a W hdi hdep hcl ⟨rfl, hw⟩ K hK
            have E := hcl.facts 1 hdi rfl hdep [] [2, 3, 4, 5, 6, 7, 8, 9, 10, 11, 12, 13, 14, 15, 16, 17, 18, 19, 20, 21, 22, 23, 24, 25, 26, 27, 28, 29, 30, 31, 32, 33, 34, 35] (by kernel_rfl) (by kernel_rfl)
            simp only [AllT, AllF] at E
            clear hdi hdep hcl
            have zz := B_12.out.to hw
            have z0 := zz.at 0
            have z1 := zz.at 1
            have zl := zz.lt
            clear zz
            go_simp
            exact hK _ _ ⟨by simp [upd, E], hw⟩
          · rintro d a W hdi hdep hcl ⟨rfl, hw⟩ K hK
            have E := hcl.facts 2 hdi rfl hdep [0, 1] [3, 4, 5, 6, 7, 8, 9, 10, 11, 12, 13, 14, 15, 16, 17, 18, 19, 20, 21, 22, 23, 24, 25, 26, 27, 28, 29, 30, 31, 32, 33, 34, 35] (by kernel_rfl) (by kernel_rfl)
            simp only [AllT, AllF] at E
            clear hdi hdep hcl
            go_simp
            exact hK _ _ ⟨by simp [upd, E], hw⟩
          · rintro d a W hdi hdep hcl ⟨rfl, hw⟩ K hK
            have E := hcl.facts 3 hdi rfl hdep [0, 1, 2] [4, 5, 6, 7, 8, 9, 10, 11, 12, 13, 14, 15, 16, 17, 18, 19, 20, 21, 22, 23, 24, 25, 26, 27, 28, 29, 30, 31, 32, 33, 34, 35] (by kernel_rfl) (by kernel_rfl)
            simp only [AllT, AllF] at E
            clear hdi hdep hcl
            go_simp
            exact hK _ _ ⟨by simp [upd, E], hw⟩
          · rintro d a W hdi hdep hcl ⟨rfl, hw⟩ K hK
            have E := hcl.facts 4 hdi rfl hdep [0, 1, 2, 3] [6, 7, 8, 9, 10, 11, 12, 13, 14, 15, 16, 17, 18, 19, 20, 21, 22, 23, 24, 25, 26, 27, 28, 29, 30, 31, 32, 33, 34, 35] (by kernel_rfl) (by kernel_rfl)
            simp only [AllT, AllF] at E
            clear hdi hdep hcl
            go_simp
            exact hK _ _ ⟨by simp [upd, E], hw⟩
          · rintro d a W hdi hdep hcl ⟨rfl, hw⟩ K hK
            have E := hcl.facts 5 hdi rfl hdep [0, 1, 2, 3] [6, 7, 8, 9, 10, 11, 12, 13, 14, 15, 16, 17, 18, 19, 20, 21, 22, 23, 24, 25, 26, 27, 28, 29, 30, 31, 32, 33, 34, 35] (by kernel_rfl) (by kernel_rfl)
            simp only [AllT, AllF] at E
            clear hdi hdep hcl
            go_simp
            exact hK _ _ ⟨by simp [upd, E], hw⟩
          · rintro d a W hdi hdep hcl ⟨rfl, hw⟩ K hK
            have E := hcl.facts 6 hdi rfl hdep [0, 1, 2, 3, 4, 5] [7, 8, 9, 10, 11, 12, 13, 14, 15, 16, 17, 18, 19, 20, 21, 22, 23, 24, 25, 26, 27, 28, 29, 30, 31, 32, 33, 34, 35] (by kernel_rfl) (by kernel_rfl)
            simp only [AllT, AllF] at E
            clear hdi hdep hcl
            go_simp
            exact hK _ _ ⟨by simp [upd, E], hw⟩
          · rintro d a W hdi hdep hcl ⟨rfl, hw⟩ K hK
            have E := hcl.facts 7 hdi rfl hdep [0, 1, 2, 3, 4, 5, 6] [8, 9, 10, 11, 12, 13, 14, 15, 16, 17, 18, 19, 20, 21, 22, 23, 24, 25, 26, 27, 28, 29, 30, 31, 32, 33, 34, 35] (by kernel_rfl) (by kernel_rfl)
            simp only [AllT, AllF] at E
            clear hdi hdep hcl
            go_simp
            exact hK _ _ ⟨by simp [upd, E], hw⟩
          · rintro d a W hdi hdep hcl ⟨rfl, hw⟩ K hK
            have E := hcl.facts 8 hdi rfl hdep [0, 1, 2, 3, 4, 5, 6, 7] [9, 10, 11, 12, 13, 14, 15, 16, 17, 18, 19, 20, 21, 22, 23, 24, 25, 26, 27, 28, 29, 30, 31, 32, 33, 34, 35] (by kernel_rfl) (by kernel_rfl)
            simp only [AllT, AllF] at E
            clear hdi hdep hcl
            go_simp
            exact hK _ _ ⟨by simp [upd, E], hw⟩
          · rintro d a W hdi hdep hcl ⟨rfl, hw⟩ K hK
            have E := hcl.facts 9 hdi rfl hdep [0, 1, 2, 3, 4, 5, 6, 7, 8] [11, 12, 13, 14, 15, 16, 17, 18, 19, 20, 21, 22, 23, 24, 25, 26, 27, 28, 29, 30, 31, 32, 33, 34, 35] (by kernel_rfl) (by kernel_rfl)
            simp only [AllT, AllF] at E
            clear hdi hdep hcl
            go_simp
            exact hK _ _ ⟨by simp [upd, E], hw⟩
          · rintro d a W hdi hdep hcl ⟨rfl, hw⟩ K hK
            have E := hcl.facts 10 hdi rfl hdep [0, 1, 2, 3, 4, 5, 6, 7, 8] [11, 12, 13, 14, 15, 16, 17, 18, 19, 20, 21, 22, 23, 24, 25, 26, 27, 28, 29, 30, 31, 32, 33, 34, 35] (by kernel_rfl) (by kernel_rfl)
            simp only [AllT, AllF] at E
            clear hdi hdep hcl
            go_simp
            exact hK _ _ ⟨by simp [upd, E], hw⟩
          · rintro d a W hdi hdep hcl ⟨rfl, hw⟩ K hK
            have E := hcl.facts 11 hdi rfl hdep [0, 1, 2, 3, 4, 5, 6, 7, 8, 9, 10] [12, 13, 14, 15, 16, 17, 18, 19, 20, 21, 22, 23, 24, 25, 26, 27, 28, 29, 30, 31, 32, 33, 34, 35] (by kernel_rfl) (by kernel_rfl)
            simp only [AllT, AllF] at E
            clear hdi hdep hcl
            go_simp
            exact hK _ _ ⟨by simp [upd, E], hw⟩
          · rintro d a W hdi hdep hcl ⟨rfl, hw⟩ K hK
            have E := hcl.facts 12 hdi rfl hdep [0, 1, 2, 3, 4, 5, 6, 7, 8, 9, 10, 11] [13, 14, 15, 16, 17, 18, 19, 20, 21, 22, 23, 24, 25, 26, 27, 28, 29, 30, 31, 32, 33, 34, 35] (by kernel_rfl) (by kernel_rfl)
            simp only [AllT, AllF] at E
            clear hdi hdep hcl
            go_simp
            exact hK _ _ ⟨by simp [upd, E], hw⟩
          · rintro d a W hdi hdep hcl ⟨rfl, hw⟩ K hK
            have E := hcl.facts 13 hdi rfl hdep [0, 1, 2, 3, 4, 5, 6, 7, 8, 9, 10, 11, 12] [14, 15, 16, 17, 18, 19, 20, 21, 22, 23, 24, 25, 26, 27, 28, 29, 30, 31, 32, 33, 34, 35] (by kernel_rfl) (by kernel_rfl)
            simp only [AllT, AllF] at E
            clear hdi hdep hcl
            go_simp
            exact hK _ _ ⟨by simp [upd, E], hw⟩
          · rintro d a W hdi hdep hcl ⟨rfl, hw⟩ K hK
            have E := hcl.facts 14 hdi rfl hdep [0, 1, 2, 3, 4, 5, 6, 7, 8, 9, 10, 11, 12, 13] [16, 17, 18, 19, 20, 21, 22, 23, 24, 25, 26, 27, 28, 29, 30, 31, 32, 33, 34, 35] (by kernel_rfl) (by kernel_rfl)
            simp only [AllT, AllF] at E
            clear hdi hdep hcl
            go_simp
            exact hK _ _ ⟨by simp [upd, E], hw⟩
          · rintro d a W hdi hdep hcl ⟨rfl, hw⟩ K hK
            have E := hcl.facts 15 hdi rfl hdep [0, 1, 2, 3, 4, 5, 6, 7, 8, 9, 10, 11, 12, 13] [16, 17, 18, 19, 20, 21, 22, 23, 24, 25, 26, 27, 28, 29, 30, 31, 32, 33, 34, 35] (by kernel_rfl) (by kernel_rfl)
            simp only [AllT, AllF] at E
            clear hdi hdep hcl
            go_simp
            exact hK _ _ ⟨by simp [upd, E], hw⟩
          · rintro d a W hdi hdep hcl ⟨rfl, hw⟩ K hK
            have E := hcl.facts 16 hdi rfl hdep [0, 1, 2, 3, 4, 5, 6, 7, 8, 9, 10, 11, 12, 13, 14, 15] [17, 18, 19, 20, 21, 22, 23, 24, 25, 26, 27, 28, 29, 30, 31, 32, 33, 34, 35] (by kernel_rfl) (by kernel_rfl)
            simp only [AllT, AllF] at E
            clear hdi hdep hcl
            go_simp
            exact hK _ _ ⟨by simp [upd, E], hw⟩
          · rintro d a W hdi hdep hcl ⟨rfl, hw⟩ K hK
            have E := hcl.facts 17 hdi rfl hdep [0, 1, 2, 3, 4, 5, 6, 7, 8, 9, 10, 11, 12, 13, 14, 15, 16] [18, 19, 20, 21, 22, 23, 24, 25, 26, 27, 28, 29, 30, 31, 32, 33, 34, 35] (by kernel_rfl) (by kernel_rfl)
            simp only [AllT, AllF] at E
            clear hdi hdep hcl
            go_simp
            exact hK _ _ ⟨by simp [upd, E], hw⟩
          · rintro d a W hdi hdep hcl ⟨rfl, hw⟩ K hK
            have E := hcl.facts 18 hdi rfl hdep [0, 1, 2, 3, 4, 5, 6, 7, 8, 9, 10, 11, 12, 13, 14, 15, 16, 17] [19, 20, 21, 22, 23, 24, 25, 26, 27, 28, 29, 30, 31, 32, 33, 34, 35] (by kernel_rfl) (by kernel_rfl)
            simp only [AllT, AllF] at E
            clear hdi hdep hcl
            go_simp
            exact hK _ _ ⟨by simp [upd, E], hw⟩
          · rintro d a W hdi hdep hcl ⟨rfl, hw⟩ K hK
            have E := hcl.facts 19 hdi rfl hdep [0, 1, 2, 3, 4, 5, 6, 7, 8, 9, 10, 11, 12, 13, 14, 15, 16, 17, 18] [20, 21, 22, 23, 24, 25, 26, 27, 28, 29, 30, 31, 32, 33, 34, 35] (by kernel_rfl) (by kernel_rfl)
            simp only [AllT, AllF] at E
            clear hdi hdep hcl
            go_simp
            exact hK _ _ ⟨by simp [upd, E], hw⟩
          · rintro d a W hdi hdep hcl ⟨rfl, hw⟩ K hK
            have E := hcl.facts 20 hdi rfl hdep [0, 1, 2, 3, 4, 5, 6, 7, 8, 9, 10, 11, 12, 13, 14, 15, 16, 17, 18, 19] [21, 22, 23, 24, 25, 26, 27, 28, 29, 30, 31, 32, 33, 34, 35] (by kernel_rfl) (by kernel_rfl)
            simp only [AllT, AllF] at E
            clear hdi hdep hcl
            go_simp
            exact hK _ _ ⟨by simp [upd, E, hc], hw⟩
          · rintro d a W hdi hdep hcl ⟨rfl, hw⟩ K hK
            have E := hcl.facts 21 hdi rfl hdep [0, 1, 2, 3, 4, 5, 6, 7, 8, 9, 10, 11, 12, 13, 14, 15, 16, 17, 18, 19, 20] [22, 23, 24, 25, 26, 27, 28, 29, 30, 31, 32, 33, 34, 35] (by kernel_rfl) (by kernel_rfl)
            simp only [AllT, AllF] at E
            clear hdi hdep hcl
            go_simp
            exact hK _ _ ⟨by simp [upd, E], hw⟩
          · rintro d a W hdi hdep hcl ⟨rfl, hw⟩ K hK
            have E := hcl.facts 22 hdi rfl hdep [0, 1, 2, 3, 4, 5, 6, 7, 8, 9, 10, 11, 12, 13, 14, 15, 16, 17, 18, 19, 20, 21] [24, 25, 26, 27, 28, 29, 30, 31, 32, 33, 34, 35] (by kernel_rfl) (by kernel_rfl)
            simp only [AllT, AllF] at E
            clear hdi hdep hcl
            have zz := C_12.out.to hw
            have z0 := zz.at 0
            have z1 := zz.at 1
            have z2 := zz.at 2
            have zl := zz.lt
            clear zz
            go_simp
            exact hK _ _ ⟨by simp [upd, E], hw⟩
          · rintro d a W hdi hdep hcl ⟨rfl, hw⟩ K hK
            have E := hcl.facts 23 hdi rfl hdep [0, 1, 2, 3, 4, 5, 6, 7, 8, 9, 10, 11, 12, 13, 14, 15, 16, 17, 18, 19, 20, 21] [24, 25, 26, 27, 28, 29, 30, 31, 32, 33, 34, 35] (by kernel_rfl) (by kernel_rfl)
            simp only [AllT, AllF] at E
            clear hdi hdep hcl
            go_simp
            refine Calls.mono (lline_any W 0 0 0) ?_
            rintro e w9 ⟨rfl, hp9⟩
            exact hK _ _ ⟨by simp [upd, E], hw.trans hp9⟩
          · rintro d a W hdi hdep hcl ⟨rfl, hw⟩ K hK
            have E := hcl.facts 24 hdi rfl hdep [0, 1, 2, 3, 4, 5, 6, 7, 8, 9, 10, 11, 12, 13, 14, 15, 16, 17, 18, 19, 20, 21, 22, 23] [25, 26, 27, 28, 29, 30, 31, 32, 33, 34, 35] (by kernel_rfl) (by kernel_rfl)
            simp only [AllT, AllF] at E
            clear hdi hdep hcl
            go_simp
            exact hK _ _ ⟨by simp [upd, E], hw⟩
          · rintro d a W hdi hdep hcl ⟨rfl, hw⟩ K hK
            have E := hcl.facts 25 hdi rfl hdep [0, 1, 2, 3, 4, 5, 6, 7, 8, 9, 10, 11, 12, 13, 14, 15, 16, 17, 18, 19, 20, 21, 22, 23, 24] [26, 27, 28, 29, 30, 31, 32, 33, 34, 35] (by kernel_rfl) (by kernel_rfl)
            simp only [AllT, AllF] at E
            clear hdi hdep hcl
            go_simp
            exact hK _ _ ⟨by simp [upd, E], hw⟩
          · rintro d a W hdi hdep hcl ⟨rfl, hw⟩ K hK
            have E := hcl.facts 26 hdi rfl hdep [0, 1, 2, 3, 4, 5, 6, 7, 8, 9, 10, 11, 12, 13, 14, 15, 16, 17, 18, 19, 20, 21, 22, 23, 24, 25] [27, 28, 29, 30, 31, 32, 33, 34, 35] (by kernel_rfl) (by kernel_rfl)
            simp only [AllT, AllF] at E
            clear hdi hdep hcl
            go_simp
            exact hK _ _ ⟨by simp [upd, E], hw⟩
          · rintro d a W hdi hdep hcl ⟨rfl, hw⟩ K hK
            have E := hcl.facts 27 hdi rfl hdep [0, 1, 2, 3, 4, 5, 6, 7, 8, 9, 10, 11, 12, 13, 14, 15, 16, 17, 18, 19, 20, 21, 22, 23, 24, 25, 26] [28, 29, 30, 31, 32, 33, 34, 35] (by kernel_rfl) (by kernel_rfl)
            simp only [AllT, AllF] at E
            clear hdi hdep hcl
            go_simp
            exact hK _ _ ⟨by simp [upd, E], hw⟩
          · rintro d a W hdi hdep hcl ⟨rfl, hw⟩ K hK
            have E := hcl.facts 28 hdi rfl hdep [0, 1, 2, 3, 4, 5, 6, 7, 8, 9, 10, 11, 12, 13, 14, 15, 16, 17, 18, 19, 20, 21, 22, 23, 24, 25, 26, 27] [29, 30, 31, 32, 33, 34, 35] (by kernel_rfl) (by kernel_rfl)
            simp only [AllT, AllF] at E
            clear hdi hdep hcl
            go_simp
            exact hK _ _ ⟨by simp [upd, E], hw⟩
          · rintro d a W hdi hdep hcl ⟨rfl, hw⟩ K hK
            have E := hcl.facts 29 hdi rfl hdep [0, 1, 2, 3, 4, 5, 6, 7, 8, 9, 10, 11, 12, 13, 14, 15, 16, 17, 18, 19, 20, 21, 22, 23, 24, 25, 26, 27, 28] [30, 31, 32, 33, 34, 35] (by kernel_rfl) (by kernel_rfl)
            simp only [AllT, AllF] at E
            clear hdi hdep hcl
            go_simp
            exact hK _ _ ⟨by simp [upd, E, ha], hw⟩
          · rintro d a W hdi hdep hcl ⟨rfl, hw⟩ K hK
            have E := hcl.facts 30 hdi rfl hdep [0, 1, 2, 3, 4, 5, 6, 7, 8, 9, 10, 11, 12, 13, 14, 15, 16, 17, 18, 19, 20, 21, 22, 23, 24, 25, 26, 27, 28, 29] [31, 32, 33, 34, 35] (by kernel_rfl) (by kernel_rfl)
            simp only [AllT, AllF] at E
            clear hdi hdep hcl
            go_simp
            exact hK _ _ ⟨by simp [upd, E], hw⟩
          · rintro d a W hdi hdep hcl ⟨rfl, hw⟩ K hK
            have E := hcl.facts 31 hdi rfl hdep [0, 1, 2, 3, 4, 5, 6, 7, 8, 9, 10, 11, 12, 13, 14, 15, 16, 17, 18, 19, 20, 21, 22, 23, 24, 25, 26, 27, 28, 29, 30] [33, 34, 35] (by kernel_rfl) (by kernel_rfl)
            simp only [AllT, AllF] at E
            clear hdi hdep hcl
            have zz := E_12.out.to hw
            have z0 := zz.at 0
            have z1 := zz.at 1
            have z2 := zz.at 2
            have zl := zz.lt
            clear zz
            go_simp
            exact hK _ _ ⟨by simp [upd, E], hw⟩
          · rintro d a W hdi hdep hcl ⟨rfl, hw⟩ K hK
            have E := hcl.facts 32 hdi rfl hdep [0, 1, 2, 3, 4, 5, 6, 7, 8, 9, 10, 11, 12, 13, 14, 15, 16, 17, 18, 19, 20, 21, 22, 23, 24, 25, 26, 27, 28, 29, 30] [33, 34, 35] (by kernel_rfl) (by kernel_rfl)
            simp only [AllT, AllF] at E
            clear hdi hdep hcl
            go_simp
            refine Calls.mono (lline_any W 0 0 0) ?_
            rintro e w9 ⟨rfl, hp9⟩
            exact hK _ _ ⟨by simp [upd, E], hw.trans hp9⟩
          · rintro d a W hdi hdep hcl ⟨rfl, hw⟩ K hK
            have E := hcl.facts 33 hdi rfl hdep [0, 1, 2, 3, 4, 5, 6, 7, 8, 9, 10, 11, 12, 13, 14, 15, 16, 17, 18, 19, 20, 21, 22, 23, 24, 25, 26, 27, 28, 29, 30, 31, 32] [34, 35] (by kernel_rfl) (by kernel_rfl)
            simp only [AllT, AllF] at E
            clear hdi hdep hcl
            go_simp
            exact hK _ _ ⟨by simp [upd, E], hw⟩
          · rintro d a W hdi hdep hcl ⟨rfl, hw⟩ K hK
            have E := hcl.facts 34 hdi rfl hdep [0, 1, 2, 3, 4, 5, 6, 7, 8, 9, 10, 11, 12, 13, 14, 15, 16, 17, 18, 19, 20, 21, 22, 23, 24, 25, 26, 27, 28, 29, 30, 31, 32, 33] [35] (by kernel_rfl) (by kernel_rfl)
            simp only [AllT, AllF] at E
            clear hdi hdep hcl
            go_simp
            exact hK _ _ ⟨by simp [upd, E], hw⟩
          · rintro d a W hdi hdep hcl ⟨rfl, hw⟩ K hK
            have E := hcl.facts 35 hdi rfl hdep [0, 1, 2, 3, 4, 5, 6, 7, 8, 9, 10, 11, 12, 13, 14, 15, 16, 17, 18, 19, 20, 21, 22, 23, 24, 25, 26, 27, 28, 29, 30, 31, 32, 33, 34] [] (by kernel_rfl) (by kernel_rfl)
            simp only [AllT, AllF] at E
            clear hdi hdep hcl
            go_simp
            exact hK _ _ ⟨by simp [upd, E], hw⟩
        · rintro d a W hall ⟨rfl, hw⟩
          have E := AllT.all hall [0, 1, 2, 3, 4, 5, 6, 7, 8, 9, 10, 11, 12, 13, 14, 15, 16, 17, 18, 19, 20, 21, 22, 23, 24, 25, 26, 27, 28, 29, 30, 31, 32, 33, 34, 35] (by kernel_rfl)
          simp only [AllT] at E
          simp only [E, cond_true] at hw ⊢
          clear E hall
          have HP_13 := Lib.hid (HP_12.out.trans hw)
          have HW_13 := Lib.hid (HW_12.out.to hw)
          have L_13 := Lib.hid (L_12.out.to hw)
          have Z_13 := Lib.hid (Z_12.out.to hw)
          have L2_13 := Lib.hid (L2_12.out.to hw)
          have A_13 := Lib.hid (A_12.out.to hw)
          have B_13 := Lib.hid (B_12.out.to hw)
          have C_13 := Lib.hid (C_12.out.to hw)
          have D_13 := Lib.hid (D_12.out.to hw)
          have E_13 := Lib.hid (E_12.out.to hw)
          have F_13 := Lib.hid (F_12.out.to hw)
          clear hw HP_12 HW_12 L_12 Z_12 L2_12 A_12 B_12 C_12 D_12 E_12 F_12
          go_wp2_with fail
          refine (alikeLots_any W L p2 p c2 cap hLn L2_13.out L_13.out).mono ?_
          rintro e v14 ⟨rfl, hp⟩
          have HP_14 := Lib.hid (HP_13.out.trans hp)
          have HW_14 := Lib.hid (HW_13.out.to hp)
          have L_14 := Lib.hid (L_13.out.to hp)
          have Z_14 := Lib.hid (Z_13.out.to hp)
          have L2_14 := Lib.hid (L2_13.out.to hp)
          have A_14 := Lib.hid (A_13.out.to hp)
          have B_14 := Lib.hid (B_13.out.to hp)
          have C_14 := Lib.hid (C_13.out.to hp)
          have D_14 := Lib.hid (D_13.out.to hp)
          have E_14 := Lib.hid (E_13.out.to hp)
          have F_14 := Lib.hid (F_13.out.to hp)
          clear hp  HP_13 HW_13 L_13 Z_13 L2_13 A_13 B_13 C_13 D_13 E_13 F_13
          go_wp2_with fail
          refine (Works_any v14 HW_14.out).mono ?_
          rintro e v15 ⟨rfl, hp⟩
          have HP_15 := Lib.hid (HP_14.out.trans hp)
          have HW_15 := Lib.hid (HW_14.out.to hp)
          have L_15 := Lib.hid (L_14.out.to hp)
          have Z_15 := Lib.hid (Z_14.out.to hp)
          have L2_15 := Lib.hid (L2_14.out.to hp)
          have A_15 := Lib.hid (A_14.out.to hp)
          have B_15 := Lib.hid (B_14.out.to hp)
          have C_15 := Lib.hid (C_14.out.to hp)
          have D_15 := Lib.hid (D_14.out.to hp)
          have E_15 := Lib.hid (E_14.out.to hp)
          have F_15 := Lib.hid (F_14.out.to hp)
          clear hp  HP_14 HW_14 L_14 Z_14 L2_14 A_14 B_14 C_14 D_14 E_14 F_14
          go_wp2
          exact bodyPost_ret (v := .bool true) (by simp [results, Tryd.results5, go_sem]) rfl ⟨rfl, HP_15.out⟩
end Go.Proofs.YtgpfmnjianflaaaDoor
