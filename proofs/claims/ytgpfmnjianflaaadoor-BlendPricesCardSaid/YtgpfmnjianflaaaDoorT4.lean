/- Walk of BlendPrices. -/
import Derived.Test.YtgpfmnjianflaaaDoorH1
import Derived.Test.YtgpfmnjianflaaaDoorR12
import Derived.Test.YtgpfmnjianflaaaDoorR13
set_option linter.unusedSimpArgs false
set_option linter.unusedVariables false
set_option linter.constructorNameAsVariable false
namespace Go.Proofs.YtgpfmnjianflaaaDoor
open Go.RowKit

set_option maxRecDepth 20000 in
set_option maxHeartbeats 4000000 in
theorem PricesLaw_any (w : World) (L : LT) (p : Option Addr) (cap : Nat) (t : Int) (hl : LotsAt w.heap.size w p L) (_h4 : (Lit.int .i64 t).wf = true) (hg : Gl w) :
    Calls Tryd.prog 4 #[.slice p L.n cap, .int .i64 t] w fun e w' => e = .returned (.bool true) ∧ Pure w w' := by
  have hmx : Tryd.prog.follows .mixedOrders = true := by kernel_rfl
  have HG := Lib.hid hg
  have HL := Lib.hid hl
  clear hg hl
  go_enter Tryd.func4, Tryd.ntmps4
  go_wp2_with fail
  refine (great_any w L p cap).mono ?_
  rintro e w1 ⟨rfl, hp1⟩
  have HP1 := Lib.hid hp1
  have HG1 := Lib.hid (HG.out.to HP1.out)
  have HL1 := Lib.hid (HL.out.to HP1.out)
  clear hp1
  by_cases h14 : 14 < L.n
  · have hb : decide (14 < L.n) = true := by simpa using h14
    rw [hb]
    go_wp2_with fail
    refine (Works_any w1 HG1.out).mono ?_
    rintro e w9 ⟨rfl, hp9⟩
    have HP9 := Lib.hid (HP1.out.trans hp9)
    clear hp9
    go_wp2
    exact bodyPost_ret (v := .bool true) (by simp [results, Tryd.results4, go_sem]) rfl ⟨rfl, HP9.out⟩
  · have hb : decide (14 < L.n) = false := by simpa using h14
    rw [hb]
    have hLn : L.n ≤ 1000 := by omega
    have hLi : ¬ (14 : Int) < (L.n : Int) := by omega
    go_wp2_with fail
    refine (twinLots_any w1 L p cap hLn HL1.out).mono ?_
    rintro e v0 ⟨⟨p2, c2, rfl, hx⟩, hp⟩
    have HP_0 := Lib.hid (HP1.out.trans hp)
    have HW_0 := Lib.hid (HG1.out.to hp)
    have L_0 := Lib.hid (HL1.out.to hp)
    have L2_0 := Lib.hid hx
    clear hp hx HP1 HG1 HL1
    go_wp2_with fail
    refine (Cheapest_any v0 L p2 c2 t hLn L2_0.out HW_0.out).mono ?_
    rintro e v1 ⟨rfl, hp⟩
    have HP_1 := Lib.hid (HP_0.out.trans hp)
    have HW_1 := Lib.hid (HW_0.out.to hp)
    have L_1 := Lib.hid (L_0.out.to hp)
    have L2_1 := Lib.hid (L2_0.out.to hp)
    clear hp  HP_0 HW_0 L_0 L2_0
    obtain ⟨q1, hq1⟩ : ∃ zz, (cheapP L t).1 = zz := ⟨_, rfl⟩
    obtain ⟨q2, hq2⟩ : ∃ zz, (cheapP L t).2 = zz := ⟨_, rfl⟩
    obtain ⟨ce, hce⟩ : ∃ zz, cheapE L t = zz := ⟨_, rfl⟩
    have HEQ : Hid ((cheapP L t).1 = q1 ∧ (cheapP L t).2 = q2 ∧ cheapE L t = ce) := ⟨hq1, hq2, hce⟩
    rw [hq1, hq2, hce]
    clear hq1 hq2 hce
    go_wp2_with fail
    obtain ⟨X2, hX2⟩ : ∃ V : World, v1.alloc (Obj.cells #[Value.int IntKind.i64 q1, Value.int IntKind.i64 q2] 29) = V := ⟨_, rfl⟩
    have hpX2 : Pure v1 X2 := by rw [← hX2]; exact ((Diff.refl v1).alloc _)
    have bA : Blk (v1.heap.size) 29 #[Value.int IntKind.i64 q1, Value.int IntKind.i64 q2] X2 := by rw [← hX2]; exact (blk0 v1 29 _)
    rw [hX2]
    obtain ⟨g2_0, hg2_0⟩ : ∃ g, v1.heap.size = g := ⟨_, rfl⟩
    rw [hg2_0] at bA ⊢
    have HP_2 := Lib.hid (HP_1.out.trans hpX2)
    have HW_2 := Lib.hid (HW_1.out.to hpX2)
    have L_2 := Lib.hid (L_1.out.to hpX2)
    have L2_2 := Lib.hid (L2_1.out.to hpX2)
    have A_2 := Lib.hid bA
    clear hX2 hpX2 hg2_0 bA HP_1 HW_1 L_1 L2_1
    go_wp2_with fail
    refine (RCheapest_any X2 L p cap t hLn L_2.out).mono ?_
    rintro e v3 ⟨rfl, hp⟩
    have HP_3 := Lib.hid (HP_2.out.trans hp)
    have HW_3 := Lib.hid (HW_2.out.to hp)
    have L_3 := Lib.hid (L_2.out.to hp)
    have L2_3 := Lib.hid (L2_2.out.to hp)
    have A_3 := Lib.hid (A_2.out.to hp)
    clear hp  HP_2 HW_2 L_2 L2_2 A_2
    rw [HEQ.out.1, HEQ.out.2.1, HEQ.out.2.2]
    go_wp2_with fail
    obtain ⟨X4, hX4⟩ : ∃ V : World, v3.alloc (Obj.cells #[Value.int IntKind.i64 q1, Value.int IntKind.i64 q2] 29) = V := ⟨_, rfl⟩
    have hpX4 : Pure v3 X4 := by rw [← hX4]; exact ((Diff.refl v3).alloc _)
    have bB : Blk (v3.heap.size) 29 #[Value.int IntKind.i64 q1, Value.int IntKind.i64 q2] X4 := by rw [← hX4]; exact (blk0 v3 29 _)
    rw [hX4]
    obtain ⟨g4_0, hg4_0⟩ : ∃ g, v3.heap.size = g := ⟨_, rfl⟩
    rw [hg4_0] at bB ⊢
    have HP_4 := Lib.hid (HP_3.out.trans hpX4)
    have HW_4 := Lib.hid (HW_3.out.to hpX4)
    have L_4 := Lib.hid (L_3.out.to hpX4)
    have L2_4 := Lib.hid (L2_3.out.to hpX4)
    have A_4 := Lib.hid (A_3.out.to hpX4)
    have B_4 := Lib.hid bB
    clear hX4 hpX4 hg4_0 bB HP_3 HW_3 L_3 L2_3 A_3
    go_wp2_with fail
    refine (AtLeast_any X4 L p2 c2 t hLn L2_4.out HW_4.out).mono ?_
    rintro e v5 ⟨rfl, hp⟩
    have HP_5 := Lib.hid (HP_4.out.trans hp)
    have HW_5 := Lib.hid (HW_4.out.to hp)
    have L_5 := Lib.hid (L_4.out.to hp)
    have L2_5 := Lib.hid (L2_4.out.to hp)
    have A_5 := Lib.hid (A_4.out.to hp)
    have B_5 := Lib.hid (B_4.out.to hp)
    clear hp  HP_4 HW_4 L_4 L2_4 A_4 B_4
    obtain ⟨u1, hu1⟩ : ∃ zz, (atP L t).1 = zz := ⟨_, rfl⟩
    obtain ⟨u2, hu2⟩ : ∃ zz, (atP L t).2 = zz := ⟨_, rfl⟩
    obtain ⟨ae, hae⟩ : ∃ zz, atE L t = zz := ⟨_, rfl⟩
    have HEU : Hid ((atP L t).1 = u1 ∧ (atP L t).2 = u2 ∧ atE L t = ae) := ⟨hu1, hu2, hae⟩
    rw [hu1, hu2, hae]
    clear hu1 hu2 hae
    go_wp2_with fail
    obtain ⟨X6, hX6⟩ : ∃ V : World, v5.alloc (Obj.cells #[Value.int IntKind.i64 u1, Value.int IntKind.i64 u2] 29) = V := ⟨_, rfl⟩
    have hpX6 : Pure v5 X6 := by rw [← hX6]; exact ((Diff.refl v5).alloc _)
    have bC : Blk (v5.heap.size) 29 #[Value.int IntKind.i64 u1, Value.int IntKind.i64 u2] X6 := by rw [← hX6]; exact (blk0 v5 29 _)
    rw [hX6]
    obtain ⟨g6_0, hg6_0⟩ : ∃ g, v5.heap.size = g := ⟨_, rfl⟩
    rw [hg6_0] at bC ⊢
    have HP_6 := Lib.hid (HP_5.out.trans hpX6)
    have HW_6 := Lib.hid (HW_5.out.to hpX6)
    have L_6 := Lib.hid (L_5.out.to hpX6)
    have L2_6 := Lib.hid (L2_5.out.to hpX6)
    have A_6 := Lib.hid (A_5.out.to hpX6)
    have B_6 := Lib.hid (B_5.out.to hpX6)
    have C_6 := Lib.hid bC
    clear hX6 hpX6 hg6_0 bC HP_5 HW_5 L_5 L2_5 A_5 B_5
    go_wp2_with fail
    refine (RAtLeast_any X6 L p cap t hLn L_6.out).mono ?_
    rintro e v7 ⟨rfl, hp⟩
    have HP_7 := Lib.hid (HP_6.out.trans hp)
    have HW_7 := Lib.hid (HW_6.out.to hp)
    have L_7 := Lib.hid (L_6.out.to hp)
    have L2_7 := Lib.hid (L2_6.out.to hp)
    have A_7 := Lib.hid (A_6.out.to hp)
    have B_7 := Lib.hid (B_6.out.to hp)
    have C_7 := Lib.hid (C_6.out.to hp)
    clear hp  HP_6 HW_6 L_6 L2_6 A_6 B_6 C_6
    rw [HEU.out.1, HEU.out.2.1, HEU.out.2.2]
    go_wp2_with fail
    obtain ⟨X8, hX8⟩ : ∃ V : World, v7.alloc (Obj.cells #[Value.int IntKind.i64 u1, Value.int IntKind.i64 u2] 29) = V := ⟨_, rfl⟩
    have hpX8 : Pure v7 X8 := by rw [← hX8]; exact ((Diff.refl v7).alloc _)
    have bD : Blk (v7.heap.size) 29 #[Value.int IntKind.i64 u1, Value.int IntKind.i64 u2] X8 := by rw [← hX8]; exact (blk0 v7 29 _)
    rw [hX8]
    obtain ⟨g8_0, hg8_0⟩ : ∃ g, v7.heap.size = g := ⟨_, rfl⟩
    rw [hg8_0] at bD ⊢
    have HP_8 := Lib.hid (HP_7.out.trans hpX8)
    have HW_8 := Lib.hid (HW_7.out.to hpX8)
    have L_8 := Lib.hid (L_7.out.to hpX8)
    have L2_8 := Lib.hid (L2_7.out.to hpX8)
    have A_8 := Lib.hid (A_7.out.to hpX8)
    have B_8 := Lib.hid (B_7.out.to hpX8)
    have C_8 := Lib.hid (C_7.out.to hpX8)
    have D_8 := Lib.hid bD
    clear hX8 hpX8 hg8_0 bD HP_7 HW_7 L_7 L2_7 A_7 B_7 C_7
    go_wp2_with fail
    refine (Parts_any X8 L p2 c2 t hLn L2_8.out HW_8.out).mono ?_
    rintro e v9 ⟨hpa, hp⟩
    have HP_9 := Lib.hid (HP_8.out.trans hp)
    have HW_9 := Lib.hid (HW_8.out.to hp)
    have L_9 := Lib.hid (L_8.out.to hp)
    have L2_9 := Lib.hid (L2_8.out.to hp)
    have A_9 := Lib.hid (A_8.out.to hp)
    have B_9 := Lib.hid (B_8.out.to hp)
    have C_9 := Lib.hid (C_8.out.to hp)
    have D_9 := Lib.hid (D_8.out.to hp)
    clear hp  HP_8 HW_8 L_8 L2_8 A_8 B_8 C_8 D_8
    unfold PartsAns at hpa
    rw [HEQ.out.2.2] at hpa
    by_cases hc : ce = 0
    · rw [if_pos hc] at hpa
      obtain ⟨g, rfl, hbk, -⟩ := hpa
      obtain rfl := hc
      have HR0 : Hid (Row v9.heap.size v9 (some ⟨g, 0, none⟩) L.n fun k => .int .i64 (L.parts t k)) := row_lit hbk fun k hk => arrI_get hk
      have HJ := Lib.hid (parts_join HEQ.out.2.2)
      clear hbk
      obtain ⟨ff, hff⟩ : ∃ ff, L.parts t = ff := ⟨_, rfl⟩
      rw [hff] at HR0 HJ
      clear hff
      have a0 := A_9.out.at 0
      have a1 := A_9.out.at 1
      have al := A_9.out.lt
      have b0 := B_9.out.at 0
      have b1 := B_9.out.at 1
      have bl := B_9.out.lt
      have c0 := C_9.out.at 0
      have c1 := C_9.out.at 1
      have cl := C_9.out.lt
      have d0 := D_9.out.at 0
      have d1 := D_9.out.at 1
      have dl := D_9.out.lt
      go_wp2_with fail
      clear a0 a1 al
      clear b0 b1 bl
      clear c0 c1 cl
      clear d0 d1 dl
      refine (RCheckBlend_any v9 L p (some ⟨g, 0, none⟩) cap L.n L.n ff hLn hLn L_9.out HR0.out).mono ?_
      rintro e v10 ⟨rfl, hp⟩
      have HP_10 := Lib.hid (HP_9.out.trans hp)
      have HW_10 := Lib.hid (HW_9.out.to hp)
      have L_10 := Lib.hid (L_9.out.to hp)
      have L2_10 := Lib.hid (L2_9.out.to hp)
      have A_10 := Lib.hid (A_9.out.to hp)
      have B_10 := Lib.hid (B_9.out.to hp)
      have C_10 := Lib.hid (C_9.out.to hp)
      have D_10 := Lib.hid (D_9.out.to hp)
      have R_10 := Lib.hid (HR0.out.to hp)
      clear hp  HP_9 HW_9 L_9 L2_9 A_9 B_9 C_9 D_9 HR0
      rw [HJ.out.2.1, HJ.out.2.2.1, HJ.out.2.2.2.1, HEQ.out.1, HEQ.out.2.1]
      go_wp2_with fail
      obtain ⟨X11, hX11⟩ : ∃ V : World, (v10.alloc (Obj.cells #[Value.int IntKind.i64 t, Value.int IntKind.i64 1] 29)).alloc (Obj.cells #[Value.int IntKind.i64 q1, Value.int IntKind.i64 q2] 29) = V := ⟨_, rfl⟩
      have hpX11 : Pure v10 X11 := by rw [← hX11]; exact (((Diff.refl v10).alloc _).alloc _)
      have bE : Blk (v10.heap.size) 29 #[Value.int IntKind.i64 t, Value.int IntKind.i64 1] X11 := by rw [← hX11]; exact ((blk0 v10 29 _).alloc _)
      have bF : Blk (v10.heap.size + 1) 29 #[Value.int IntKind.i64 q1, Value.int IntKind.i64 q2] X11 := by rw [← hX11]; exact (blk1 v10 _ 29 _)
      rw [hX11]
      obtain ⟨g11_0, hg11_0⟩ : ∃ g, v10.heap.size = g := ⟨_, rfl⟩
      rw [hg11_0] at bE bF ⊢
      obtain ⟨g11_1, hg11_1⟩ : ∃ g, g11_0 + 1 = g := ⟨_, rfl⟩
      rw [hg11_1] at bF ⊢
      have HP_11 := Lib.hid (HP_10.out.trans hpX11)
      have HW_11 := Lib.hid (HW_10.out.to hpX11)
      have L_11 := Lib.hid (L_10.out.to hpX11)
      have L2_11 := Lib.hid (L2_10.out.to hpX11)
      have A_11 := Lib.hid (A_10.out.to hpX11)
      have B_11 := Lib.hid (B_10.out.to hpX11)
      have C_11 := Lib.hid (C_10.out.to hpX11)
      have D_11 := Lib.hid (D_10.out.to hpX11)
      have R_11 := Lib.hid (R_10.out.to hpX11)
      have E_11 := Lib.hid bE
      have F_11 := Lib.hid bF
      clear hX11 hpX11 hg11_1 hg11_0 bE bF HP_10 HW_10 L_10 L2_10 A_10 B_10 C_10 D_10 R_10
      go_wp2_with fail
      have hd14 : decide ((14 : Int) < (L.n : Int)) = false := by simpa using hLi
      rw [hd14]
      obtain ⟨cn, HCN⟩ : ∃ cn, Hid (cntTo ff L.n = cn ∧ cn ≤ 2) := by
        obtain ⟨i, k, -, -, h⟩ := HJ.out.2.2.2.2
        exact ⟨_, rfl, cntTo_small h L.n⟩
      refine reg_invW (fun d a W => a = { tmps := #[Value.slice p L.n cap, Value.int IntKind.i64 t, undef, undef, (bif d 26 then Value.bool true else Value.bool false), Value.slice p2 L.n c2, Value.pointer (some { block := g2_0, off := 0 }), Value.int IntKind.i64 0, Value.pointer (some { block := g4_0, off := 0 }), Value.int IntKind.i64 0, Value.pointer (some { block := g6_0, off := 0 }), Value.int IntKind.i64 ae, Value.pointer (some { block := g8_0, off := 0 }), Value.int IntKind.i64 ae, Value.slice (some { block := g, off := 0 }) L.n L.n, Value.int IntKind.i64 0, Value.pointer (some { block := g11_0, off := 0 }), Value.pointer (some { block := g11_1, off := 0 }), Value.slice p L.n cap, Value.bool false, undef, Value.slice p L.n cap, Value.slice p2 L.n c2, Value.tuple #[Value.agg #[Value.int IntKind.i64 q1, Value.int IntKind.i64 q2], Value.int IntKind.i64 0], Value.slice p2 L.n c2, Value.int IntKind.i64 t, Value.tuple #[Value.agg #[Value.int IntKind.i64 q1, Value.int IntKind.i64 q2], Value.int IntKind.i64 0], Value.agg #[Value.int IntKind.i64 q1, Value.int IntKind.i64 q2], Value.int IntKind.i64 0, Value.tuple #[Value.agg #[Value.int IntKind.i64 q1, Value.int IntKind.i64 q2], Value.int IntKind.i64 0], Value.slice p L.n cap, Value.int IntKind.i64 t, Value.tuple #[Value.agg #[Value.int IntKind.i64 q1, Value.int IntKind.i64 q2], Value.int IntKind.i64 0], Value.agg #[Value.int IntKind.i64 q1, Value.int IntKind.i64 q2], Value.int IntKind.i64 0, Value.tuple #[Value.agg #[Value.int IntKind.i64 u1, Value.int IntKind.i64 u2], Value.int IntKind.i64 ae], Value.slice p2 L.n c2, Value.int IntKind.i64 t, Value.tuple #[Value.agg #[Value.int IntKind.i64 u1, Value.int IntKind.i64 u2], Value.int IntKind.i64 ae], Value.agg #[Value.int IntKind.i64 u1, Value.int IntKind.i64 u2], Value.int IntKind.i64 ae, Value.tuple #[Value.agg #[Value.int IntKind.i64 u1, Value.int IntKind.i64 u2], Value.int IntKind.i64 ae], Value.slice p L.n cap, Value.int IntKind.i64 t, Value.tuple #[Value.agg #[Value.int IntKind.i64 u1, Value.int IntKind.i64 u2], Value.int IntKind.i64 ae], Value.agg #[Value.int IntKind.i64 u1, Value.int IntKind.i64 u2], Value.int IntKind.i64 ae, Value.tuple #[Value.slice (some { block := g, off := 0 }) L.n L.n, Value.int IntKind.i64 0], Value.slice p2 L.n c2, Value.int IntKind.i64 t, Value.tuple #[Value.slice (some { block := g, off := 0 }) L.n L.n, Value.int IntKind.i64 0], Value.slice (some { block := g, off := 0 }) L.n L.n, Value.int IntKind.i64 0, Value.agg #[Value.int IntKind.i64 q1, Value.int IntKind.i64 q2], Value.agg #[Value.int IntKind.i64 q1, Value.int IntKind.i64 q2], Value.bool false, Value.bool false, Value.int IntKind.i64 0, Value.int IntKind.i64 0, Value.bool false, Value.bool false, Value.bool false, Value.agg #[Value.int IntKind.i64 u1, Value.int IntKind.i64 u2], Value.agg #[Value.int IntKind.i64 u1, Value.int IntKind.i64 u2], Value.bool false, Value.bool false, Value.bool false, Value.int IntKind.i64 ae, Value.int IntKind.i64 ae, Value.bool false, Value.bool false, Value.bool false, Value.int IntKind.i64 0, Value.int IntKind.i64 0, Value.bool false, Value.bool false, Value.bool false, Value.slice (some { block := g, off := 0 }) L.n L.n, Value.int IntKind.i64 (L.n : Int), Value.bool (false), Value.bool (false), Value.int IntKind.i64 0, Value.bool false, undef, undef, undef, undef, undef, undef, undef, undef, undef, undef, undef, Value.tuple #[Value.agg #[Value.int IntKind.i64 t, Value.int IntKind.i64 1], Value.agg #[Value.int IntKind.i64 q1, Value.int IntKind.i64 q2], Value.int IntKind.i64 0], Value.slice p L.n cap, Value.slice (some { block := g, off := 0 }) L.n L.n, Value.tuple #[Value.agg #[Value.int IntKind.i64 t, Value.int IntKind.i64 1], Value.agg #[Value.int IntKind.i64 q1, Value.int IntKind.i64 q2], Value.int IntKind.i64 0], Value.agg #[Value.int IntKind.i64 t, Value.int IntKind.i64 1], Value.agg #[Value.int IntKind.i64 q1, Value.int IntKind.i64 q2], Value.int IntKind.i64 0, (bif d 0 then Value.int IntKind.i64 0 else undef), (bif d 1 then Value.bool true else undef), (bif d 2 then Value.bool true else undef), (bif d 3 then Value.agg #[Value.int IntKind.i64 t, Value.int IntKind.i64 1] else undef), (bif d 4 then Value.int IntKind.i64 t else undef), (bif d 5 then Value.agg #[Value.int IntKind.i64 t, Value.int IntKind.i64 1] else undef), (bif d 6 then Value.bool true else undef), (bif d 7 then Value.bool true else undef), (bif d 8 then Value.bool true else undef), (bif d 9 then Value.agg #[Value.int IntKind.i64 q1, Value.int IntKind.i64 q2] else undef), (bif d 10 then Value.agg #[Value.int IntKind.i64 q1, Value.int IntKind.i64 q2] else undef), (bif d 11 then Value.bool true else undef), (bif d 12 then Value.bool true else undef), (bif d 13 then Value.bool true else undef), (bif d 14 then Value.slice (some { block := g, off := 0 }) L.n L.n else undef), (bif d 15 then Value.int IntKind.i64 (cn : Int) else undef), (bif d 16 then Value.bool true else undef), (bif d 17 then Value.bool true else undef), (bif d 18 then Value.bool true else undef), (bif d 19 then Value.slice p2 L.n c2 else undef), (bif d 20 then Value.slice p L.n cap else undef), (bif d 21 then Value.bool true else undef), (bif d 22 then Value.bool true else undef), (bif d 23 then Value.bool true else undef), (bif d 24 then Value.bool true else undef), (bif d 25 then Value.bool true else undef)], defers := [] } ∧ Pure X11 W) hmx (by kernel_rfl) ?_ ?_ ?_
      · exact ⟨rfl, (Diff.refl _).drew⟩
      · refine ⟨?_, ?_, ?_, ?_, ?_, ?_, ?_, ?_, ?_, ?_, ?_, ?_, ?_, ?_, ?_, ?_, ?_, ?_, ?_, ?_, ?_, ?_, ?_, ?_, ?_, ?_, ?_, trivial⟩
        · rintro d a W hdi hdep hcl ⟨rfl, hw⟩ K hK
          have E := hcl.facts 0 hdi rfl hdep [] [1, 2, 3, 4, 5, 6, 7, 8, 9, 10, 11, 12, 13, 14, 15, 16, 17, 18, 19, 20, 21, 22, 23, 24, 25, 26] (by kernel_rfl) (by kernel_rfl)
          simp only [AllT, AllF] at E
          clear hdi hdep hcl
          go_simp
          exact hK _ _ ⟨by simp [upd, E], hw⟩
        · rintro d a W hdi hdep hcl ⟨rfl, hw⟩ K hK
          have E := hcl.facts 1 hdi rfl hdep [0] [2, 3, 4, 5, 6, 7, 8, 9, 10, 11, 12, 13, 14, 15, 16, 17, 18, 19, 20, 21, 22, 23, 24, 25, 26] (by kernel_rfl) (by kernel_rfl)
          simp only [AllT, AllF] at E
          clear hdi hdep hcl
          go_simp
          exact hK _ _ ⟨by simp [upd, E], hw⟩
        · rintro d a W hdi hdep hcl ⟨rfl, hw⟩ K hK
          have E := hcl.facts 2 hdi rfl hdep [0, 1] [3, 4, 5, 6, 7, 8, 9, 10, 11, 12, 13, 14, 15, 16, 17, 18, 19, 20, 21, 22, 23, 24, 25, 26] (by kernel_rfl) (by kernel_rfl)
          simp only [AllT, AllF] at E
          clear hdi hdep hcl
          go_simp
          exact hK _ _ ⟨by simp [upd, E], hw⟩
        · rintro d a W hdi hdep hcl ⟨rfl, hw⟩ K hK
          have E := hcl.facts 3 hdi rfl hdep [0, 1, 2] [6, 7, 8, 9, 10, 11, 12, 13, 14, 15, 16, 17, 18, 19, 20, 21, 22, 23, 24, 25, 26] (by kernel_rfl) (by kernel_rfl)
          simp only [AllT, AllF] at E
          clear hdi hdep hcl
          have zz := E_11.out.to hw
          have z0 := zz.at 0
          have z1 := zz.at 1
          have zl := zz.lt
          clear zz
          go_simp
          exact hK _ _ ⟨by simp [upd, E], hw⟩
        · rintro d a W hdi hdep hcl ⟨rfl, hw⟩ K hK
          have E := hcl.facts 4 hdi rfl hdep [0, 1, 2] [5, 6, 7, 8, 9, 10, 11, 12, 13, 14, 15, 16, 17, 18, 19, 20, 21, 22, 23, 24, 25, 26] (by kernel_rfl) (by kernel_rfl)
          simp only [AllT, AllF] at E
          clear hdi hdep hcl
          go_simp
          exact hK _ _ ⟨by simp [upd, E], hw⟩
        · rintro d a W hdi hdep hcl ⟨rfl, hw⟩ K hK
          have E := hcl.facts 5 hdi rfl hdep [0, 1, 2, 4] [6, 7, 8, 9, 10, 11, 12, 13, 14, 15, 16, 17, 18, 19, 20, 21, 22, 23, 24, 25, 26] (by kernel_rfl) (by kernel_rfl)
          simp only [AllT, AllF] at E
          clear hdi hdep hcl
          go_simp
          refine Calls.mono (lby_any W t 1) ?_
          rintro e w9 ⟨rfl, hp9⟩
          exact hK _ _ ⟨by simp [upd, E], hw.trans hp9⟩
        · rintro d a W hdi hdep hcl ⟨rfl, hw⟩ K hK
          have E := hcl.facts 6 hdi rfl hdep [0, 1, 2, 3, 4, 5] [7, 8, 9, 10, 11, 12, 13, 14, 15, 16, 17, 18, 19, 20, 21, 22, 23, 24, 25, 26] (by kernel_rfl) (by kernel_rfl)
          simp only [AllT, AllF] at E
          clear hdi hdep hcl
          go_simp
          exact hK _ _ ⟨by simp [upd, E], hw⟩
        · rintro d a W hdi hdep hcl ⟨rfl, hw⟩ K hK
          have E := hcl.facts 7 hdi rfl hdep [0, 1, 2, 3, 4, 5, 6] [8, 9, 10, 11, 12, 13, 14, 15, 16, 17, 18, 19, 20, 21, 22, 23, 24, 25, 26] (by kernel_rfl) (by kernel_rfl)
          simp only [AllT, AllF] at E
          clear hdi hdep hcl
          go_simp
          exact hK _ _ ⟨by simp [upd, E], hw⟩
        · rintro d a W hdi hdep hcl ⟨rfl, hw⟩ K hK
          have E := hcl.facts 8 hdi rfl hdep [0, 1, 2, 3, 4, 5, 6, 7] [9, 10, 11, 12, 13, 14, 15, 16, 17, 18, 19, 20, 21, 22, 23, 24, 25, 26] (by kernel_rfl) (by kernel_rfl)
          simp only [AllT, AllF] at E
          clear hdi hdep hcl
          go_simp
          exact hK _ _ ⟨by simp [upd, E], hw⟩
        · rintro d a W hdi hdep hcl ⟨rfl, hw⟩ K hK
          have E := hcl.facts 9 hdi rfl hdep [0, 1, 2, 3, 4, 5, 6, 7, 8] [11, 12, 13, 14, 15, 16, 17, 18, 19, 20, 21, 22, 23, 24, 25, 26] (by kernel_rfl) (by kernel_rfl)
          simp only [AllT, AllF] at E
          clear hdi hdep hcl
          have zz := F_11.out.to hw
          have z0 := zz.at 0
          have z1 := zz.at 1
          have zl := zz.lt
          clear zz
          go_simp
          exact hK _ _ ⟨by simp [upd, E], hw⟩
        · rintro d a W hdi hdep hcl ⟨rfl, hw⟩ K hK
          have E := hcl.facts 10 hdi rfl hdep [0, 1, 2, 3, 4, 5, 6, 7, 8] [11, 12, 13, 14, 15, 16, 17, 18, 19, 20, 21, 22, 23, 24, 25, 26] (by kernel_rfl) (by kernel_rfl)
          simp only [AllT, AllF] at E
          clear hdi hdep hcl
          have zz := B_11.out.to hw
          have z0 := zz.at 0
          have z1 := zz.at 1
          have zl := zz.lt
          clear zz
          go_simp
          exact hK _ _ ⟨by simp [upd, E], hw⟩
        · rintro d a W hdi hdep hcl ⟨rfl, hw⟩ K hK
          have E := hcl.facts 11 hdi rfl hdep [0, 1, 2, 3, 4, 5, 6, 7, 8, 9, 10] [12, 13, 14, 15, 16, 17, 18, 19, 20, 21, 22, 23, 24, 25, 26] (by kernel_rfl) (by kernel_rfl)
          simp only [AllT, AllF] at E
          clear hdi hdep hcl
          go_simp
          exact hK _ _ ⟨by simp [upd, E], hw⟩
        · rintro d a W hdi hdep hcl ⟨rfl, hw⟩ K hK
          have E := hcl.facts 12 hdi rfl hdep [0, 1, 2, 3, 4, 5, 6, 7, 8, 9, 10, 11] [13, 14, 15, 16, 17, 18, 19, 20, 21, 22, 23, 24, 25, 26] (by kernel_rfl) (by kernel_rfl)
          simp only [AllT, AllF] at E
          clear hdi hdep hcl
          go_simp
          exact hK _ _ ⟨by simp [upd, E], hw⟩
        · rintro d a W hdi hdep hcl ⟨rfl, hw⟩ K hK
          have E := hcl.facts 13 hdi rfl hdep [0, 1, 2, 3, 4, 5, 6, 7, 8, 9, 10, 11, 12] [14, 15, 16, 17, 18, 19, 20, 21, 22, 23, 24, 25, 26] (by kernel_rfl) (by kernel_rfl)
          simp only [AllT, AllF] at E
          clear hdi hdep hcl
          go_simp
          exact hK _ _ ⟨by simp [upd, E], hw⟩
        · rintro d a W hdi hdep hcl ⟨rfl, hw⟩ K hK
          have E := hcl.facts 14 hdi rfl hdep [0, 1, 2, 3, 4, 5, 6, 7, 8, 9, 10, 11, 12, 13] [15, 16, 17, 18, 19, 20, 21, 22, 23, 24, 25, 26] (by kernel_rfl) (by kernel_rfl)
          simp only [AllT, AllF] at E
          clear hdi hdep hcl
          go_simp
          exact hK _ _ ⟨by simp [upd, E], hw⟩
        · rintro d a W hdi hdep hcl ⟨rfl, hw⟩ K hK
          have E := hcl.facts 15 hdi rfl hdep [0, 1, 2, 3, 4, 5, 6, 7, 8, 9, 10, 11, 12, 13, 14] [16, 17, 18, 19, 20, 21, 22, 23, 24, 25, 26] (by kernel_rfl) (by kernel_rfl)
          simp only [AllT, AllF] at E
          clear hdi hdep hcl
          go_simp
          refine Calls.mono (count_any W (some ⟨g, 0, none⟩) L.n L.n ff hLn (R_11.out.to hw)) ?_
          rw [HCN.out.1]
          rintro e w9 ⟨rfl, hp9⟩
          exact hK _ _ ⟨by simp [upd, E], hw.trans hp9⟩
        · rintro d a W hdi hdep hcl ⟨rfl, hw⟩ K hK
          have E := hcl.facts 16 hdi rfl hdep [0, 1, 2, 3, 4, 5, 6, 7, 8, 9, 10, 11, 12, 13, 14, 15] [17, 18, 19, 20, 21, 22, 23, 24, 25, 26] (by kernel_rfl) (by kernel_rfl)
          simp only [AllT, AllF] at E
          clear hdi hdep hcl
          have hc2 : (cn : Int) ≤ 2 := by have := HCN.out.2; omega
          go_simp
          exact hK _ _ ⟨by simp [upd, E], hw⟩
        · rintro d a W hdi hdep hcl ⟨rfl, hw⟩ K hK
          have E := hcl.facts 17 hdi rfl hdep [0, 1, 2, 3, 4, 5, 6, 7, 8, 9, 10, 11, 12, 13, 14, 15, 16] [18, 19, 20, 21, 22, 23, 24, 25, 26] (by kernel_rfl) (by kernel_rfl)
          simp only [AllT, AllF] at E
          clear hdi hdep hcl
          go_simp
          exact hK _ _ ⟨by simp [upd, E], hw⟩
        · rintro d a W hdi hdep hcl ⟨rfl, hw⟩ K hK
          have E := hcl.facts 18 hdi rfl hdep [0, 1, 2, 3, 4, 5, 6, 7, 8, 9, 10, 11, 12, 13, 14, 15, 16, 17] [19, 20, 21, 22, 23, 24, 25, 26] (by kernel_rfl) (by kernel_rfl)
          simp only [AllT, AllF] at E
          clear hdi hdep hcl
          go_simp
          exact hK _ _ ⟨by simp [upd, E], hw⟩
        · rintro d a W hdi hdep hcl ⟨rfl, hw⟩ K hK
          have E := hcl.facts 19 hdi rfl hdep [0, 1, 2, 3, 4, 5, 6, 7, 8, 9, 10, 11, 12, 13, 14, 15, 16, 17, 18] [21, 22, 23, 24, 25, 26] (by kernel_rfl) (by kernel_rfl)
          simp only [AllT, AllF] at E
          clear hdi hdep hcl
          go_simp
          exact hK _ _ ⟨by simp [upd, E], hw⟩
        · rintro d a W hdi hdep hcl ⟨rfl, hw⟩ K hK
          have E := hcl.facts 20 hdi rfl hdep [0, 1, 2, 3, 4, 5, 6, 7, 8, 9, 10, 11, 12, 13, 14, 15, 16, 17, 18] [21, 22, 23, 24, 25, 26] (by kernel_rfl) (by kernel_rfl)
          simp only [AllT, AllF] at E
          clear hdi hdep hcl
          go_simp
          exact hK _ _ ⟨by simp [upd, E], hw⟩
        · rintro d a W hdi hdep hcl ⟨rfl, hw⟩ K hK
          have E := hcl.facts 21 hdi rfl hdep [0, 1, 2, 3, 4, 5, 6, 7, 8, 9, 10, 11, 12, 13, 14, 15, 16, 17, 18, 19, 20] [22, 23, 24, 25, 26] (by kernel_rfl) (by kernel_rfl)
          simp only [AllT, AllF] at E
          clear hdi hdep hcl
          go_simp
          refine Calls.mono (alikeLots_any W L p2 p c2 cap hLn (L2_11.out.to hw) (L_11.out.to hw)) ?_
          rintro e w9 ⟨rfl, hp9⟩
          exact hK _ _ ⟨by simp [upd, E], hw.trans hp9⟩
        · rintro d a W hdi hdep hcl ⟨rfl, hw⟩ K hK
          have E := hcl.facts 22 hdi rfl hdep [0, 1, 2, 3, 4, 5, 6, 7, 8, 9, 10, 11, 12, 13, 14, 15, 16, 17, 18, 19, 20, 21] [23, 24, 25, 26] (by kernel_rfl) (by kernel_rfl)
          simp only [AllT, AllF] at E
          clear hdi hdep hcl
          go_simp
          exact hK _ _ ⟨by simp [upd, E], hw⟩
        · rintro d a W hdi hdep hcl ⟨rfl, hw⟩ K hK
          have E := hcl.facts 23 hdi rfl hdep [0, 1, 2, 3, 4, 5, 6, 7, 8, 9, 10, 11, 12, 13, 14, 15, 16, 17, 18, 19, 20, 21, 22] [24, 25, 26] (by kernel_rfl) (by kernel_rfl)
          simp only [AllT, AllF] at E
          clear hdi hdep hcl
          go_simp
          exact hK _ _ ⟨by simp [upd, E], hw⟩
        · rintro d a W hdi hdep hcl ⟨rfl, hw⟩ K hK
          have E := hcl.facts 24 hdi rfl hdep [0, 1, 2, 3, 4, 5, 6, 7, 8, 9, 10, 11, 12, 13, 14, 15, 16, 17, 18, 19, 20, 21, 22, 23] [25, 26] (by kernel_rfl) (by kernel_rfl)
          simp only [AllT, AllF] at E
          clear hdi hdep hcl
          go_simp
          refine Calls.mono (Works_any W (HW_11.out.to hw)) ?_
          rintro e w9 ⟨rfl, hp9⟩
          exact hK _ _ ⟨by simp [upd, E], hw.trans hp9⟩
        · rintro d a W hdi hdep hcl ⟨rfl, hw⟩ K hK
          have E := hcl.facts 25 hdi rfl hdep [0, 1, 2, 3, 4, 5, 6, 7, 8, 9, 10, 11, 12, 13, 14, 15, 16, 17, 18, 19, 20, 21, 22, 23, 24] [26] (by kernel_rfl) (by kernel_rfl)
          simp only [AllT, AllF] at E
          clear hdi hdep hcl
          go_simp
          exact hK _ _ ⟨by simp [upd, E], hw⟩
        · rintro d a W hdi hdep hcl ⟨rfl, hw⟩ K hK
          have E := hcl.facts 26 hdi rfl hdep [0, 1, 2, 3, 4, 5, 6, 7, 8, 9, 10, 11, 12, 13, 14, 15, 16, 17, 18, 19, 20, 21, 22, 23, 24, 25] [] (by kernel_rfl) (by kernel_rfl)
          simp only [AllT, AllF] at E
          clear hdi hdep hcl
          go_simp
          exact hK _ _ ⟨by simp [upd, E], hw⟩
      · rintro d a W hall ⟨rfl, hw⟩
        have E := AllT.all hall [0, 1, 2, 3, 4, 5, 6, 7, 8, 9, 10, 11, 12, 13, 14, 15, 16, 17, 18, 19, 20, 21, 22, 23, 24, 25, 26] (by kernel_rfl)
        simp only [AllT] at E
        simp only [E, cond_true] at hw ⊢
        clear E hall
        have HPW := Lib.hid (HP_11.out.trans hw)
        clear hw
        go_wp2
        exact bodyPost_ret (v := .bool true) (by simp [results, Tryd.results4, go_sem]) rfl ⟨rfl, HPW.out⟩
    · rw [if_neg hc] at hpa
      subst hpa
      have hcb : (ce == 0) = false := by simpa using hc
      have hcn : (ce != 0) = true := by simpa using hc
      have a0 := A_9.out.at 0
      have a1 := A_9.out.at 1
      have al := A_9.out.lt
      have b0 := B_9.out.at 0
      have b1 := B_9.out.at 1
      have bl := B_9.out.lt
      have c0 := C_9.out.at 0
      have c1 := C_9.out.at 1
      have cl := C_9.out.lt
      have d0 := D_9.out.at 0
      have d1 := D_9.out.at 1
      have dl := D_9.out.lt
      go_wp2_with fail
      clear a0 a1 al
      clear b0 b1 bl
      clear c0 c1 cl
      clear d0 d1 dl
      refine (alikeLots_any v9 L p2 p c2 cap hLn L2_9.out L_9.out).mono ?_
      rintro e v10 ⟨rfl, hp⟩
      have HP_10 := Lib.hid (HP_9.out.trans hp)
      have HW_10 := Lib.hid (HW_9.out.to hp)
      have L_10 := Lib.hid (L_9.out.to hp)
      have L2_10 := Lib.hid (L2_9.out.to hp)
      have A_10 := Lib.hid (A_9.out.to hp)
      have B_10 := Lib.hid (B_9.out.to hp)
      have C_10 := Lib.hid (C_9.out.to hp)
      have D_10 := Lib.hid (D_9.out.to hp)
      clear hp  HP_9 HW_9 L_9 L2_9 A_9 B_9 C_9 D_9
      go_wp2_with fail
      refine (Works_any v10 HW_10.out).mono ?_
      rintro e v11 ⟨rfl, hp⟩
      have HP_11 := Lib.hid (HP_10.out.trans hp)
      have HW_11 := Lib.hid (HW_10.out.to hp)
      have L_11 := Lib.hid (L_10.out.to hp)
      have L2_11 := Lib.hid (L2_10.out.to hp)
      have A_11 := Lib.hid (A_10.out.to hp)
      have B_11 := Lib.hid (B_10.out.to hp)
      have C_11 := Lib.hid (C_10.out.to hp)
      have D_11 := Lib.hid (D_10.out.to hp)
      clear hp  HP_10 HW_10 L_10 L2_10 A_10 B_10 C_10 D_10
      go_wp2
      exact bodyPost_ret (v := .bool true) (by simp [results, Tryd.results4, go_sem]) rfl ⟨rfl, HP_11.out⟩
end Go.Proofs.YtgpfmnjianflaaaDoor
