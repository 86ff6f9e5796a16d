/- Walk of the law's cheapest. -/
import Derived.Test.YtgpfmnjianflaaaDoorR18
import Derived.Test.YtgpfmnjianflaaaDoorR13
set_option linter.unusedSimpArgs false
set_option linter.unusedVariables false
set_option linter.constructorNameAsVariable false
namespace Go.Proofs.YtgpfmnjianflaaaDoor
open Go.RowKit

/-- A drawn region that stores its result at gr. -/
structure ST (V : World) (gr : Nat) (b : Bool) (c : Array Value) (W : World) : Prop where
  diff : Diff (fun k => k = gr) V W
  blk : Blk gr 29 (bif b then c else #[.int .i64 0, .int .i64 0]) W
section
variable {V W W' : World} {gr : Nat} {b : Bool} {c : Array Value}
theorem ST.draw (h : Blk gr 29 #[.int .i64 0, .int .i64 0] V) : ST V gr false c V.drew := ⟨(Diff.refl V).drew, h.to (Diff.refl V).drew⟩
theorem ST.call (x : ST V gr b c W) (hp : Pure W W') : ST V gr b c W' := ⟨x.diff.trans (hp.mono fun _ _ h => h.elim), x.blk.to hp⟩
theorem ST.set {u v : Value} (x : ST V gr false #[u, v] W) : ST V gr true #[u, v] ((W.setCell ⟨gr, 0, none⟩ u).setCell ⟨gr, 1, none⟩ v) := ⟨x.diff.set2' rfl _ _, x.blk.set2 _ _⟩
end
set_option maxRecDepth 20000 in
set_option maxHeartbeats 4000000 in
theorem cheapest_any (w : World) (L : LT) (p : Option Addr) (cap : Nat) (t : Int) (hok : L.Ok) (ht : 0 ≤ t ∧ t ≤ 100) (hl : LotsAt w.heap.size w p L) (hg : Gl w) :
    Calls Tryd.prog 47 #[.slice p L.n cap, .int .i64 t] w fun e w' => e = .returned (.tuple #[.agg #[.int .i64 (cheapP L t).1, .int .i64 (cheapP L t).2], .bool (cheapE L t == 0), .bool true]) ∧ Pure w w' := by
  have hmx : Tryd.prog.follows .mixedOrders = true := by kernel_rfl
  have HG := Lib.hid hg
  have HL := Lib.hid hl
  have HOK := Lib.hid hok
  have HT := Lib.hid ht
  have HN8 := Lib.hid hok.n8
  have hLn : L.n ≤ 1000 := by have := hok.n8; omega
  have hj := cheap_join hok ht
  have HJC := Lib.hid hj
  clear hg hl hok ht hj
  go_enter Tryd.func47, Tryd.ntmps47
  go_wp2_with fail
  obtain ⟨X, hX⟩ : ∃ V : World, w.alloc (.cells #[.int .i64 0, .int .i64 0] 29) = V := ⟨_, rfl⟩
  have k0 : Blk w.heap.size 29 #[.int .i64 0, .int .i64 0] X := by rw [← hX]; exact Blk.new _ _ _
  have hP : Pure w X := by rw [← hX]; exact (Diff.refl _).alloc _
  rw [hX]
  have HR0 := Lib.hid k0
  have HP0 := Lib.hid hP
  have HG0 := Lib.hid (HG.out.to hP)
  have HL0 := Lib.hid (HL.out.to hP)
  clear hX k0 hP
  obtain ⟨gr, hgr⟩ : ∃ g, w.heap.size = g := ⟨_, rfl⟩
  have HGR := Lib.hid hgr
  rw [hgr] at HR0 ⊢
  clear hgr
  refine (Cheapest_any X L p cap t hLn HL0.out HG0.out).mono ?_
  rintro e v0 ⟨rfl, hp⟩
  have HP_0 := Lib.hid (HP0.out.trans hp)
  have HW_0 := Lib.hid (HG0.out.to hp)
  have L_0 := Lib.hid (HL0.out.to hp)
  have R_0 := Lib.hid (HR0.out.to hp)
  clear hp  HP0 HG0 HL0 HR0
  obtain ⟨q1, hq1⟩ : ∃ zz, (cheapP L t).1 = zz := ⟨_, rfl⟩
  obtain ⟨q2, hq2⟩ : ∃ zz, (cheapP L t).2 = zz := ⟨_, rfl⟩
  obtain ⟨ce, hce⟩ : ∃ zz, cheapE L t = zz := ⟨_, rfl⟩
  have HEQ : Hid ((cheapP L t).1 = q1 ∧ (cheapP L t).2 = q2 ∧ cheapE L t = ce) := ⟨hq1, hq2, hce⟩
  rw [hq1, hq2, hce] at HJC ⊢
  clear hq1 hq2 hce
  go_wp2_with fail
  have HN_A : Hid (gr < v0.heap.size) := by have := R_0.out.lt; show gr < _; omega
  obtain ⟨X1, hX1⟩ : ∃ V : World, v0.alloc (Obj.cells #[Value.int IntKind.i64 q1, Value.int IntKind.i64 q2] 29) = V := ⟨_, rfl⟩
  have hpX1 : Pure v0 X1 := by rw [← hX1]; exact ((Diff.refl v0).alloc _)
  have bA : Blk (v0.heap.size) 29 #[Value.int IntKind.i64 q1, Value.int IntKind.i64 q2] X1 := by rw [← hX1]; exact (blk0 v0 29 _)
  rw [hX1]
  obtain ⟨g1_0, hg1_0⟩ : ∃ g, v0.heap.size = g := ⟨_, rfl⟩
  rw [hg1_0] at bA HN_A ⊢
  have HP_1 := Lib.hid (HP_0.out.trans hpX1)
  have HW_1 := Lib.hid (HW_0.out.to hpX1)
  have L_1 := Lib.hid (L_0.out.to hpX1)
  have R_1 := Lib.hid (R_0.out.to hpX1)
  have A_1 := Lib.hid bA
  clear hX1 hpX1 hg1_0 bA HP_0 HW_0 L_0 R_0
  go_wp2_with fail
  refine (Parts_any X1 L p cap t hLn L_1.out HW_1.out).mono ?_
  rintro e v2 ⟨hpa, hp⟩
  have HP_2 := Lib.hid (HP_1.out.trans hp)
  have HW_2 := Lib.hid (HW_1.out.to hp)
  have L_2 := Lib.hid (L_1.out.to hp)
  have R_2 := Lib.hid (R_1.out.to hp)
  have A_2 := Lib.hid (A_1.out.to hp)
  clear hp  HP_1 HW_1 L_1 R_1 A_1
  unfold PartsAns at hpa
  rw [HEQ.out.2.2] at hpa
  by_cases hc : ce = 0
  · obtain rfl := hc
    rw [if_pos rfl] at hpa
    obtain ⟨g, rfl, hbk, -⟩ := hpa
    have HR1 : Hid (Row v2.heap.size v2 (some ⟨g, 0, none⟩) L.n fun k => .int .i64 (L.parts t k)) := row_lit hbk fun k hk => arrI_get hk
    have HJ := Lib.hid (parts_join HEQ.out.2.2)
    clear hbk
    have HSM : Hid (Sm q1 q2) := by
      rcases HJC.out with ⟨_, _, _, h⟩ | ⟨_, h, _⟩
      · exact h
      · exact absurd h (by decide)
    obtain ⟨ff, hff⟩ : ∃ ff, L.parts t = ff := ⟨_, rfl⟩
    rw [hff] at HR1 HJ
    clear hff
    obtain ⟨cn, HCN⟩ : ∃ cn, Hid (cntTo ff L.n = cn ∧ cn ≤ 2) := by
      obtain ⟨i, k, -, -, h⟩ := HJ.out.2.2.2.2
      exact ⟨_, rfl, cntTo_small h L.n⟩
    go_wp2_with fail
    refine (Line_any v2 L p cap t hLn L_2.out HW_2.out).mono ?_
    rintro e v3 ⟨rfl, hp⟩
    have HP_3 := Lib.hid (HP_2.out.trans hp)
    have HW_3 := Lib.hid (HW_2.out.to hp)
    have L_3 := Lib.hid (L_2.out.to hp)
    have R_3 := Lib.hid (R_2.out.to hp)
    have A_3 := Lib.hid (A_2.out.to hp)
    have P_3 := Lib.hid (HR1.out.to hp)
    clear hp  HP_2 HW_2 L_2 R_2 A_2 HR1
    rw [HEQ.out.2.2]
    obtain ⟨l1, hl1⟩ : ∃ zz, (lineOf L t).1 = zz := ⟨_, rfl⟩
    obtain ⟨l2, hl2⟩ : ∃ zz, (lineOf L t).2.1 = zz := ⟨_, rfl⟩
    obtain ⟨l3, hl3⟩ : ∃ zz, (lineOf L t).2.2 = zz := ⟨_, rfl⟩
    have HLJ : Hid ((lineP L (l1, l2, l3) t).1 = q1 ∧ (lineP L (l1, l2, l3) t).2 = q2 ∧ lineE L (l1, l2, l3) t = 0) := by
      have e : lineOf L t = (l1, l2, l3) := by rw [← hl1, ← hl2, ← hl3]
      have h := line_join HEQ.out.2.2
      rw [e] at h
      exact ⟨by rw [h.2.2.2]; exact HEQ.out.1, by rw [h.2.2.2]; exact HEQ.out.2.1, h.2.2.1⟩
    rw [hl1, hl2, hl3]
    clear hl1 hl2 hl3
    have a0 := A_3.out.at 0
    have a1 := A_3.out.at 1
    have al := A_3.out.lt
    go_wp2_with fail
    clear a0 a1 al
    have HN_C : Hid (gr < v3.heap.size) := by have := R_3.out.lt; show gr < _; omega
    obtain ⟨X4, hX4⟩ : ∃ V : World, v3.alloc (Obj.cells #[Value.int IntKind.i64 l1, Value.int IntKind.i64 l2, Value.int IntKind.i64 l3] 45) = V := ⟨_, rfl⟩
    have hpX4 : Pure v3 X4 := by rw [← hX4]; exact ((Diff.refl v3).alloc _)
    have bC : Blk (v3.heap.size) 45 #[Value.int IntKind.i64 l1, Value.int IntKind.i64 l2, Value.int IntKind.i64 l3] X4 := by rw [← hX4]; exact (blk0 v3 45 _)
    rw [hX4]
    obtain ⟨g4_0, hg4_0⟩ : ∃ g, v3.heap.size = g := ⟨_, rfl⟩
    rw [hg4_0] at bC HN_C ⊢
    have HP_4 := Lib.hid (HP_3.out.trans hpX4)
    have HW_4 := Lib.hid (HW_3.out.to hpX4)
    have L_4 := Lib.hid (L_3.out.to hpX4)
    have R_4 := Lib.hid (R_3.out.to hpX4)
    have A_4 := Lib.hid (A_3.out.to hpX4)
    have P_4 := Lib.hid (P_3.out.to hpX4)
    have C_4 := Lib.hid bC
    clear hX4 hpX4 hg4_0 bC HP_3 HW_3 L_3 R_3 A_3 P_3
    have a0 := A_4.out.at 0
    have a1 := A_4.out.at 1
    have al := A_4.out.lt
    go_wp2_with fail
    clear a0 a1 al
    refine (small_any X4 q1 q2 ⟨HSM.out.b0, by have := HSM.out.b1; omega⟩ ⟨HSM.out.a0, HSM.out.a1⟩ HSM.out.rd).mono ?_
    rintro e v5 ⟨rfl, hp⟩
    have HP_5 := Lib.hid (HP_4.out.trans hp)
    have HW_5 := Lib.hid (HW_4.out.to hp)
    have L_5 := Lib.hid (L_4.out.to hp)
    have R_5 := Lib.hid (R_4.out.to hp)
    have A_5 := Lib.hid (A_4.out.to hp)
    have P_5 := Lib.hid (P_4.out.to hp)
    have C_5 := Lib.hid (C_4.out.to hp)
    clear hp  HP_4 HW_4 L_4 R_4 A_4 P_4 C_4
    go_wp2_with fail
    refine (count_any v5 (some ⟨g, 0, none⟩) L.n L.n ff hLn P_5.out).mono ?_
    rintro e v6 ⟨rfl, hp⟩
    have HP_6 := Lib.hid (HP_5.out.trans hp)
    have HW_6 := Lib.hid (HW_5.out.to hp)
    have L_6 := Lib.hid (L_5.out.to hp)
    have R_6 := Lib.hid (R_5.out.to hp)
    have A_6 := Lib.hid (A_5.out.to hp)
    have P_6 := Lib.hid (P_5.out.to hp)
    have C_6 := Lib.hid (C_5.out.to hp)
    clear hp  HP_5 HW_5 L_5 R_5 A_5 P_5 C_5
    rw [HCN.out.1]
    have hc2 : ¬ (2 : Int) < (cn : Int) := by have := HCN.out.2; omega
    go_wp2_with fail
    clear hc2
    refine (CheckBlend_any v6 L p (some ⟨g, 0, none⟩) cap L.n L.n ff hLn hLn L_6.out P_6.out HW_6.out).mono ?_
    rintro e v7 ⟨rfl, hp⟩
    have HP_7 := Lib.hid (HP_6.out.trans hp)
    have HW_7 := Lib.hid (HW_6.out.to hp)
    have L_7 := Lib.hid (L_6.out.to hp)
    have R_7 := Lib.hid (R_6.out.to hp)
    have A_7 := Lib.hid (A_6.out.to hp)
    have P_7 := Lib.hid (P_6.out.to hp)
    have C_7 := Lib.hid (C_6.out.to hp)
    clear hp  HP_6 HW_6 L_6 R_6 A_6 P_6 C_6
    rw [HJ.out.2.1, HJ.out.2.2.1, HJ.out.2.2.2.1, HEQ.out.1, HEQ.out.2.1]
    go_wp2_with fail
    have HN_E : Hid (gr < v7.heap.size) := by have := R_7.out.lt; show gr < _; omega
    have HN_F : Hid (gr < v7.heap.size + 1) := by have := R_7.out.lt; show gr < _; omega
    obtain ⟨X8, hX8⟩ : ∃ V : World, (v7.alloc (Obj.cells #[Value.int IntKind.i64 t, Value.int IntKind.i64 1] 29)).alloc (Obj.cells #[Value.int IntKind.i64 q1, Value.int IntKind.i64 q2] 29) = V := ⟨_, rfl⟩
    have hpX8 : Pure v7 X8 := by rw [← hX8]; exact (((Diff.refl v7).alloc _).alloc _)
    have bE : Blk (v7.heap.size) 29 #[Value.int IntKind.i64 t, Value.int IntKind.i64 1] X8 := by rw [← hX8]; exact ((blk0 v7 29 _).alloc _)
    have bF : Blk (v7.heap.size + 1) 29 #[Value.int IntKind.i64 q1, Value.int IntKind.i64 q2] X8 := by rw [← hX8]; exact (blk1 v7 _ 29 _)
    rw [hX8]
    obtain ⟨g8_0, hg8_0⟩ : ∃ g, v7.heap.size = g := ⟨_, rfl⟩
    rw [hg8_0] at bE bF HN_E HN_F ⊢
    obtain ⟨g8_1, hg8_1⟩ : ∃ g, g8_0 + 1 = g := ⟨_, rfl⟩
    rw [hg8_1] at bF HN_F ⊢
    have HP_8 := Lib.hid (HP_7.out.trans hpX8)
    have HW_8 := Lib.hid (HW_7.out.to hpX8)
    have L_8 := Lib.hid (L_7.out.to hpX8)
    have R_8 := Lib.hid (R_7.out.to hpX8)
    have A_8 := Lib.hid (A_7.out.to hpX8)
    have P_8 := Lib.hid (P_7.out.to hpX8)
    have C_8 := Lib.hid (C_7.out.to hpX8)
    have E_8 := Lib.hid bE
    have F_8 := Lib.hid bF
    clear hX8 hpX8 hg8_1 hg8_0 bE bF HP_7 HW_7 L_7 R_7 A_7 P_7 C_7
    go_wp2_with fail
    refine (RCheckBlend_any X8 L p (some ⟨g, 0, none⟩) cap L.n L.n ff hLn hLn L_8.out P_8.out).mono ?_
    rintro e v9 ⟨rfl, hp⟩
    have HP_9 := Lib.hid (HP_8.out.trans hp)
    have HW_9 := Lib.hid (HW_8.out.to hp)
    have L_9 := Lib.hid (L_8.out.to hp)
    have R_9 := Lib.hid (R_8.out.to hp)
    have A_9 := Lib.hid (A_8.out.to hp)
    have P_9 := Lib.hid (P_8.out.to hp)
    have C_9 := Lib.hid (C_8.out.to hp)
    have E_9 := Lib.hid (E_8.out.to hp)
    have F_9 := Lib.hid (F_8.out.to hp)
    clear hp  HP_8 HW_8 L_8 R_8 A_8 P_8 C_8 E_8 F_8
    rw [HJ.out.2.1, HJ.out.2.2.1, HJ.out.2.2.2.1, HEQ.out.1, HEQ.out.2.1]
    have c0 := C_9.out.at 0
    have c1 := C_9.out.at 1
    have c2 := C_9.out.at 2
    have cl := C_9.out.lt
    go_wp2_with fail
    clear c0 c1 c2 cl
    have HN_G : Hid (gr < v9.heap.size) := by have := R_9.out.lt; show gr < _; omega
    have HN_H : Hid (gr < v9.heap.size + 1) := by have := R_9.out.lt; show gr < _; omega
    obtain ⟨X10, hX10⟩ : ∃ V : World, (v9.alloc (Obj.cells #[Value.int IntKind.i64 t, Value.int IntKind.i64 1] 29)).alloc (Obj.cells #[Value.int IntKind.i64 q1, Value.int IntKind.i64 q2] 29) = V := ⟨_, rfl⟩
    have hpX10 : Pure v9 X10 := by rw [← hX10]; exact (((Diff.refl v9).alloc _).alloc _)
    have bG : Blk (v9.heap.size) 29 #[Value.int IntKind.i64 t, Value.int IntKind.i64 1] X10 := by rw [← hX10]; exact ((blk0 v9 29 _).alloc _)
    have bH : Blk (v9.heap.size + 1) 29 #[Value.int IntKind.i64 q1, Value.int IntKind.i64 q2] X10 := by rw [← hX10]; exact (blk1 v9 _ 29 _)
    rw [hX10]
    obtain ⟨g10_0, hg10_0⟩ : ∃ g, v9.heap.size = g := ⟨_, rfl⟩
    rw [hg10_0] at bG bH HN_G HN_H ⊢
    obtain ⟨g10_1, hg10_1⟩ : ∃ g, g10_0 + 1 = g := ⟨_, rfl⟩
    rw [hg10_1] at bH HN_H ⊢
    have HP_10 := Lib.hid (HP_9.out.trans hpX10)
    have HW_10 := Lib.hid (HW_9.out.to hpX10)
    have L_10 := Lib.hid (L_9.out.to hpX10)
    have R_10 := Lib.hid (R_9.out.to hpX10)
    have A_10 := Lib.hid (A_9.out.to hpX10)
    have P_10 := Lib.hid (P_9.out.to hpX10)
    have C_10 := Lib.hid (C_9.out.to hpX10)
    have E_10 := Lib.hid (E_9.out.to hpX10)
    have F_10 := Lib.hid (F_9.out.to hpX10)
    have G_10 := Lib.hid bG
    have H_10 := Lib.hid bH
    clear hX10 hpX10 hg10_1 hg10_0 bG bH HP_9 HW_9 L_9 R_9 A_9 P_9 C_9 E_9 F_9
    have c0 := C_10.out.at 0
    have c1 := C_10.out.at 1
    have c2 := C_10.out.at 2
    have cl := C_10.out.lt
    go_wp2_with fail
    clear c0 c1 c2 cl
    refine (CheckLine_any X10 L p cap l1 l2 l3 t hLn L_10.out HW_10.out).mono ?_
    rintro e v11 ⟨rfl, hp⟩
    have HP_11 := Lib.hid (HP_10.out.trans hp)
    have HW_11 := Lib.hid (HW_10.out.to hp)
    have L_11 := Lib.hid (L_10.out.to hp)
    have R_11 := Lib.hid (R_10.out.to hp)
    have A_11 := Lib.hid (A_10.out.to hp)
    have P_11 := Lib.hid (P_10.out.to hp)
    have C_11 := Lib.hid (C_10.out.to hp)
    have E_11 := Lib.hid (E_10.out.to hp)
    have F_11 := Lib.hid (F_10.out.to hp)
    have G_11 := Lib.hid (G_10.out.to hp)
    have H_11 := Lib.hid (H_10.out.to hp)
    clear hp  HP_10 HW_10 L_10 R_10 A_10 P_10 C_10 E_10 F_10 G_10 H_10
    rw [HLJ.out.1, HLJ.out.2.1, HLJ.out.2.2]
    have c0 := C_11.out.at 0
    have c1 := C_11.out.at 1
    have c2 := C_11.out.at 2
    have cl := C_11.out.lt
    go_wp2_with fail
    clear c0 c1 c2 cl
    have HN_K : Hid (gr < v11.heap.size) := by have := R_11.out.lt; show gr < _; omega
    obtain ⟨X12, hX12⟩ : ∃ V : World, v11.alloc (Obj.cells #[Value.int IntKind.i64 q1, Value.int IntKind.i64 q2] 29) = V := ⟨_, rfl⟩
    have hpX12 : Pure v11 X12 := by rw [← hX12]; exact ((Diff.refl v11).alloc _)
    have bK : Blk (v11.heap.size) 29 #[Value.int IntKind.i64 q1, Value.int IntKind.i64 q2] X12 := by rw [← hX12]; exact (blk0 v11 29 _)
    rw [hX12]
    obtain ⟨g12_0, hg12_0⟩ : ∃ g, v11.heap.size = g := ⟨_, rfl⟩
    rw [hg12_0] at bK HN_K ⊢
    have HP_12 := Lib.hid (HP_11.out.trans hpX12)
    have HW_12 := Lib.hid (HW_11.out.to hpX12)
    have L_12 := Lib.hid (L_11.out.to hpX12)
    have R_12 := Lib.hid (R_11.out.to hpX12)
    have A_12 := Lib.hid (A_11.out.to hpX12)
    have P_12 := Lib.hid (P_11.out.to hpX12)
    have C_12 := Lib.hid (C_11.out.to hpX12)
    have E_12 := Lib.hid (E_11.out.to hpX12)
    have F_12 := Lib.hid (F_11.out.to hpX12)
    have G_12 := Lib.hid (G_11.out.to hpX12)
    have H_12 := Lib.hid (H_11.out.to hpX12)
    have K_12 := Lib.hid bK
    clear hX12 hpX12 hg12_0 bK HP_11 HW_11 L_11 R_11 A_11 P_11 C_11 E_11 F_11 G_11 H_11
    have c0 := C_12.out.at 0
    have c1 := C_12.out.at 1
    have c2 := C_12.out.at 2
    have cl := C_12.out.lt
    go_wp2_with fail
    clear c0 c1 c2 cl
    refine (RCheckLine_any X12 L p cap l1 l2 l3 t hLn L_12.out).mono ?_
    rintro e v13 ⟨rfl, hp⟩
    have HP_13 := Lib.hid (HP_12.out.trans hp)
    have HW_13 := Lib.hid (HW_12.out.to hp)
    have L_13 := Lib.hid (L_12.out.to hp)
    have R_13 := Lib.hid (R_12.out.to hp)
    have A_13 := Lib.hid (A_12.out.to hp)
    have P_13 := Lib.hid (P_12.out.to hp)
    have C_13 := Lib.hid (C_12.out.to hp)
    have E_13 := Lib.hid (E_12.out.to hp)
    have F_13 := Lib.hid (F_12.out.to hp)
    have G_13 := Lib.hid (G_12.out.to hp)
    have H_13 := Lib.hid (H_12.out.to hp)
    have K_13 := Lib.hid (K_12.out.to hp)
    clear hp  HP_12 HW_12 L_12 R_12 A_12 P_12 C_12 E_12 F_12 G_12 H_12 K_12
    rw [HLJ.out.1, HLJ.out.2.1, HLJ.out.2.2]
    go_wp2_with fail
    have HN_M : Hid (gr < v13.heap.size) := by have := R_13.out.lt; show gr < _; omega
    obtain ⟨X14, hX14⟩ : ∃ V : World, v13.alloc (Obj.cells #[Value.int IntKind.i64 q1, Value.int IntKind.i64 q2] 29) = V := ⟨_, rfl⟩
    have hpX14 : Pure v13 X14 := by rw [← hX14]; exact ((Diff.refl v13).alloc _)
    have bM : Blk (v13.heap.size) 29 #[Value.int IntKind.i64 q1, Value.int IntKind.i64 q2] X14 := by rw [← hX14]; exact (blk0 v13 29 _)
    rw [hX14]
    obtain ⟨g14_0, hg14_0⟩ : ∃ g, v13.heap.size = g := ⟨_, rfl⟩
    rw [hg14_0] at bM HN_M ⊢
    have HP_14 := Lib.hid (HP_13.out.trans hpX14)
    have HW_14 := Lib.hid (HW_13.out.to hpX14)
    have L_14 := Lib.hid (L_13.out.to hpX14)
    have R_14 := Lib.hid (R_13.out.to hpX14)
    have A_14 := Lib.hid (A_13.out.to hpX14)
    have P_14 := Lib.hid (P_13.out.to hpX14)
    have C_14 := Lib.hid (C_13.out.to hpX14)
    have E_14 := Lib.hid (E_13.out.to hpX14)
    have F_14 := Lib.hid (F_13.out.to hpX14)
    have G_14 := Lib.hid (G_13.out.to hpX14)
    have H_14 := Lib.hid (H_13.out.to hpX14)
    have K_14 := Lib.hid (K_13.out.to hpX14)
    have M_14 := Lib.hid bM
    clear hX14 hpX14 hg14_0 bM HP_13 HW_13 L_13 R_13 A_13 P_13 C_13 E_13 F_13 G_13 H_13 K_13
    go_wp2_with fail
    have hd2 : decide ((2 : Int) < (cn : Int)) = false := by have := HCN.out.2; simp; omega
    rw [hd2]
    clear hd2
    refine reg_invW (fun d a W => a = { tmps := #[Value.slice p L.n cap, Value.int IntKind.i64 t, undef, undef, Value.pointer (some { block := gr, off := 0 }), (bif d 47 then Value.bool true else Value.bool false), (bif d 48 then Value.bool true else Value.bool false), Value.pointer (some { block := g1_0, off := 0 }), Value.int IntKind.i64 0, Value.slice (some { block := g, off := 0 }) L.n L.n, Value.int IntKind.i64 0, Value.pointer (some { block := g4_0, off := 0 }), Value.int IntKind.i64 0, Value.pointer (some { block := g8_0, off := 0 }), Value.pointer (some { block := g8_1, off := 0 }), Value.pointer (some { block := g10_0, off := 0 }), Value.pointer (some { block := g10_1, off := 0 }), Value.pointer (some { block := g12_0, off := 0 }), Value.pointer (some { block := g14_0, off := 0 }), Value.int IntKind.i64 0, Value.tuple #[Value.agg #[Value.int IntKind.i64 q1, Value.int IntKind.i64 q2], Value.int IntKind.i64 0], Value.slice p L.n cap, Value.int IntKind.i64 t, Value.tuple #[Value.agg #[Value.int IntKind.i64 q1, Value.int IntKind.i64 q2], Value.int IntKind.i64 0], Value.agg #[Value.int IntKind.i64 q1, Value.int IntKind.i64 q2], Value.int IntKind.i64 0, Value.tuple #[Value.slice (some { block := g, off := 0 }) L.n L.n, Value.int IntKind.i64 0], Value.slice p L.n cap, Value.int IntKind.i64 t, Value.tuple #[Value.slice (some { block := g, off := 0 }) L.n L.n, Value.int IntKind.i64 0], Value.slice (some { block := g, off := 0 }) L.n L.n, Value.int IntKind.i64 0, Value.tuple #[Value.agg #[Value.int IntKind.i64 l1, Value.int IntKind.i64 l2, Value.int IntKind.i64 l3], Value.int IntKind.i64 0], Value.slice p L.n cap, Value.int IntKind.i64 t, Value.tuple #[Value.agg #[Value.int IntKind.i64 l1, Value.int IntKind.i64 l2, Value.int IntKind.i64 l3], Value.int IntKind.i64 0], Value.agg #[Value.int IntKind.i64 l1, Value.int IntKind.i64 l2, Value.int IntKind.i64 l3], Value.int IntKind.i64 0, Value.int IntKind.i64 0, Value.bool false, undef, undef, undef, undef, undef, undef, undef, undef, undef, undef, undef, undef, undef, undef, undef, undef, undef, undef, undef, undef, undef, undef, undef, undef, undef, undef, undef, undef, Value.int IntKind.i64 0, Value.bool false, Value.bool false, Value.int IntKind.i64 0, Value.bool false, Value.bool false, Value.bool false, Value.agg #[Value.int IntKind.i64 q1, Value.int IntKind.i64 q2], Value.bool true, Value.bool false, Value.bool false, Value.bool false, Value.slice (some { block := g, off := 0 }) L.n L.n, Value.int IntKind.i64 (L.n : Int), Value.slice p L.n cap, Value.int IntKind.i64 (L.n : Int), Value.bool false, Value.bool false, Value.bool false, Value.slice (some { block := g, off := 0 }) L.n L.n, Value.int IntKind.i64 (cn : Int), Value.bool (false), Value.bool (false), undef, Value.tuple #[Value.agg #[Value.int IntKind.i64 t, Value.int IntKind.i64 1], Value.agg #[Value.int IntKind.i64 q1, Value.int IntKind.i64 q2], Value.int IntKind.i64 0], Value.slice p L.n cap, Value.slice (some { block := g, off := 0 }) L.n L.n, Value.tuple #[Value.agg #[Value.int IntKind.i64 t, Value.int IntKind.i64 1], Value.agg #[Value.int IntKind.i64 q1, Value.int IntKind.i64 q2], Value.int IntKind.i64 0], Value.agg #[Value.int IntKind.i64 t, Value.int IntKind.i64 1], Value.agg #[Value.int IntKind.i64 q1, Value.int IntKind.i64 q2], Value.int IntKind.i64 0, Value.tuple #[Value.agg #[Value.int IntKind.i64 t, Value.int IntKind.i64 1], Value.agg #[Value.int IntKind.i64 q1, Value.int IntKind.i64 q2], Value.int IntKind.i64 0], Value.slice p L.n cap, Value.slice (some { block := g, off := 0 }) L.n L.n, Value.tuple #[Value.agg #[Value.int IntKind.i64 t, Value.int IntKind.i64 1], Value.agg #[Value.int IntKind.i64 q1, Value.int IntKind.i64 q2], Value.int IntKind.i64 0], Value.agg #[Value.int IntKind.i64 t, Value.int IntKind.i64 1], Value.agg #[Value.int IntKind.i64 q1, Value.int IntKind.i64 q2], Value.int IntKind.i64 0, Value.tuple #[Value.agg #[Value.int IntKind.i64 q1, Value.int IntKind.i64 q2], Value.int IntKind.i64 0], Value.slice p L.n cap, Value.agg #[Value.int IntKind.i64 l1, Value.int IntKind.i64 l2, Value.int IntKind.i64 l3], Value.int IntKind.i64 t, Value.tuple #[Value.agg #[Value.int IntKind.i64 q1, Value.int IntKind.i64 q2], Value.int IntKind.i64 0], Value.agg #[Value.int IntKind.i64 q1, Value.int IntKind.i64 q2], Value.int IntKind.i64 0, Value.tuple #[Value.agg #[Value.int IntKind.i64 q1, Value.int IntKind.i64 q2], Value.int IntKind.i64 0], Value.slice p L.n cap, Value.agg #[Value.int IntKind.i64 l1, Value.int IntKind.i64 l2, Value.int IntKind.i64 l3], Value.int IntKind.i64 t, Value.tuple #[Value.agg #[Value.int IntKind.i64 q1, Value.int IntKind.i64 q2], Value.int IntKind.i64 0], Value.agg #[Value.int IntKind.i64 q1, Value.int IntKind.i64 q2], Value.int IntKind.i64 0, (bif d 0 then Value.agg #[Value.int IntKind.i64 q1, Value.int IntKind.i64 q2] else undef), (bif d 1 then Value.int IntKind.i64 0 else undef), (bif d 2 then Value.bool true else undef), (bif d 3 then Value.bool true else undef), (bif d 4 then Value.int IntKind.i64 0 else undef), (bif d 5 then Value.bool true else undef), (bif d 6 then Value.bool true else undef), (bif d 7 then Value.bool true else undef), (bif d 8 then Value.int IntKind.i64 0 else undef), (bif d 9 then Value.bool true else undef), (bif d 10 then Value.bool true else undef), (bif d 11 then Value.bool true else undef), (bif d 12 then Value.int IntKind.i64 0 else undef), (bif d 13 then Value.bool true else undef), (bif d 14 then Value.bool true else undef), (bif d 15 then Value.bool true else undef), (bif d 16 then Value.agg #[Value.int IntKind.i64 t, Value.int IntKind.i64 1] else undef), (bif d 17 then Value.int IntKind.i64 t else undef), (bif d 18 then Value.agg #[Value.int IntKind.i64 t, Value.int IntKind.i64 1] else undef), (bif d 19 then Value.bool true else undef), (bif d 20 then Value.bool true else undef), (bif d 21 then Value.bool true else undef), (bif d 22 then Value.agg #[Value.int IntKind.i64 t, Value.int IntKind.i64 1] else undef), (bif d 23 then Value.agg #[Value.int IntKind.i64 t, Value.int IntKind.i64 1] else undef), (bif d 24 then Value.bool true else undef), (bif d 25 then Value.bool true else undef), (bif d 26 then Value.bool true else undef), (bif d 27 then Value.agg #[Value.int IntKind.i64 q1, Value.int IntKind.i64 q2] else undef), (bif d 28 then Value.agg #[Value.int IntKind.i64 q1, Value.int IntKind.i64 q2] else undef), (bif d 29 then Value.bool true else undef), (bif d 30 then Value.bool true else undef), (bif d 31 then Value.bool true else undef), (bif d 32 then Value.agg #[Value.int IntKind.i64 q1, Value.int IntKind.i64 q2] else undef), (bif d 33 then Value.agg #[Value.int IntKind.i64 q1, Value.int IntKind.i64 q2] else undef), (bif d 34 then Value.bool true else undef), (bif d 35 then Value.bool true else undef), (bif d 36 then Value.bool true else undef), (bif d 37 then Value.agg #[Value.int IntKind.i64 q1, Value.int IntKind.i64 q2] else undef), (bif d 38 then Value.agg #[Value.int IntKind.i64 q1, Value.int IntKind.i64 q2] else undef), (bif d 39 then Value.bool true else undef), (bif d 40 then Value.bool true else undef), (bif d 41 then Value.bool true else undef), (bif d 42 then Value.agg #[Value.int IntKind.i64 q1, Value.int IntKind.i64 q2] else undef), (bif d 43 then Value.agg #[Value.int IntKind.i64 q1, Value.int IntKind.i64 q2] else undef), (bif d 44 then Value.bool true else undef), (bif d 45 then Value.bool true else undef)], defers := [] } ∧ ST X14 gr (d 46) #[Value.int IntKind.i64 q1, Value.int IntKind.i64 q2] W) hmx (by kernel_rfl) ?_ ?_ ?_
    · exact ⟨rfl, ST.draw R_14.out⟩
    · refine ⟨?_, ?_, ?_, ?_, ?_, ?_, ?_, ?_, ?_, ?_, ?_, ?_, ?_, ?_, ?_, ?_, ?_, ?_, ?_, ?_, ?_, ?_, ?_, ?_, ?_, ?_, ?_, ?_, ?_, ?_, ?_, ?_, ?_, ?_, ?_, ?_, ?_, ?_, ?_, ?_, ?_, ?_, ?_, ?_, ?_, ?_, ?_, ?_, ?_, trivial⟩
      · rintro d a W hdi hdep hcl ⟨rfl, hw⟩ K hK
        have E := hcl.facts 0 hdi rfl hdep [] [46, 47, 48] (by kernel_rfl) (by kernel_rfl)
        simp only [AllT, AllF] at E
        clear hdi hdep hcl
        have zz := A_14.out.diff hw.diff (by have := HN_A.out; omega)
        have z0 := zz.at 0
        have z1 := zz.at 1
        have zl := zz.lt
        clear zz
        go_simp
        exact hK _ _ ⟨by simp [upd, E], by simpa [upd, E] using hw⟩
      · rintro d a W hdi hdep hcl ⟨rfl, hw⟩ K hK
        have E := hcl.facts 1 hdi rfl hdep [] [2, 3, 4, 5, 6, 7, 8, 9, 10, 11, 12, 13, 14, 15, 16, 17, 18, 19, 20, 21, 22, 23, 24, 25, 26, 27, 28, 29, 30, 31, 32, 33, 34, 35, 36, 37, 38, 39, 40, 41, 42, 43, 44, 45, 46, 47, 48] (by kernel_rfl) (by kernel_rfl)
        simp only [AllT, AllF] at E
        clear hdi hdep hcl
        go_simp
        exact hK _ _ ⟨by simp [upd, E], by simpa [upd, E] using hw⟩
      · rintro d a W hdi hdep hcl ⟨rfl, hw⟩ K hK
        have E := hcl.facts 2 hdi rfl hdep [1] [3, 4, 5, 6, 7, 8, 9, 10, 11, 12, 13, 14, 15, 16, 17, 18, 19, 20, 21, 22, 23, 24, 25, 26, 27, 28, 29, 30, 31, 32, 33, 34, 35, 36, 37, 38, 39, 40, 41, 42, 43, 44, 45, 46, 47, 48] (by kernel_rfl) (by kernel_rfl)
        simp only [AllT, AllF] at E
        clear hdi hdep hcl
        go_simp
        exact hK _ _ ⟨by simp [upd, E], by simpa [upd, E] using hw⟩
      · rintro d a W hdi hdep hcl ⟨rfl, hw⟩ K hK
        have E := hcl.facts 3 hdi rfl hdep [1, 2] [4, 5, 6, 7, 8, 9, 10, 11, 12, 13, 14, 15, 16, 17, 18, 19, 20, 21, 22, 23, 24, 25, 26, 27, 28, 29, 30, 31, 32, 33, 34, 35, 36, 37, 38, 39, 40, 41, 42, 43, 44, 45, 46, 47, 48] (by kernel_rfl) (by kernel_rfl)
        simp only [AllT, AllF] at E
        clear hdi hdep hcl
        go_simp
        exact hK _ _ ⟨by simp [upd, E], by simpa [upd, E] using hw⟩
      · rintro d a W hdi hdep hcl ⟨rfl, hw⟩ K hK
        have E := hcl.facts 4 hdi rfl hdep [1, 2, 3] [5, 6, 7, 8, 9, 10, 11, 12, 13, 14, 15, 16, 17, 18, 19, 20, 21, 22, 23, 24, 25, 26, 27, 28, 29, 30, 31, 32, 33, 34, 35, 36, 37, 38, 39, 40, 41, 42, 43, 44, 45, 46, 47, 48] (by kernel_rfl) (by kernel_rfl)
        simp only [AllT, AllF] at E
        clear hdi hdep hcl
        go_simp
        exact hK _ _ ⟨by simp [upd, E], by simpa [upd, E] using hw⟩
      · rintro d a W hdi hdep hcl ⟨rfl, hw⟩ K hK
        have E := hcl.facts 5 hdi rfl hdep [1, 2, 3, 4] [6, 7, 8, 9, 10, 11, 12, 13, 14, 15, 16, 17, 18, 19, 20, 21, 22, 23, 24, 25, 26, 27, 28, 29, 30, 31, 32, 33, 34, 35, 36, 37, 38, 39, 40, 41, 42, 43, 44, 45, 46, 47, 48] (by kernel_rfl) (by kernel_rfl)
        simp only [AllT, AllF] at E
        clear hdi hdep hcl
        go_simp
        exact hK _ _ ⟨by simp [upd, E], by simpa [upd, E] using hw⟩
      · rintro d a W hdi hdep hcl ⟨rfl, hw⟩ K hK
        have E := hcl.facts 6 hdi rfl hdep [1, 2, 3, 4, 5] [7, 8, 9, 10, 11, 12, 13, 14, 15, 16, 17, 18, 19, 20, 21, 22, 23, 24, 25, 26, 27, 28, 29, 30, 31, 32, 33, 34, 35, 36, 37, 38, 39, 40, 41, 42, 43, 44, 45, 46, 47, 48] (by kernel_rfl) (by kernel_rfl)
        simp only [AllT, AllF] at E
        clear hdi hdep hcl
        go_simp
        exact hK _ _ ⟨by simp [upd, E], by simpa [upd, E] using hw⟩
      · rintro d a W hdi hdep hcl ⟨rfl, hw⟩ K hK
        have E := hcl.facts 7 hdi rfl hdep [1, 2, 3, 4, 5, 6] [8, 9, 10, 11, 12, 13, 14, 15, 16, 17, 18, 19, 20, 21, 22, 23, 24, 25, 26, 27, 28, 29, 30, 31, 32, 33, 34, 35, 36, 37, 38, 39, 40, 41, 42, 43, 44, 45, 46, 47, 48] (by kernel_rfl) (by kernel_rfl)
        simp only [AllT, AllF] at E
        clear hdi hdep hcl
        go_simp
        exact hK _ _ ⟨by simp [upd, E], by simpa [upd, E] using hw⟩
      · rintro d a W hdi hdep hcl ⟨rfl, hw⟩ K hK
        have E := hcl.facts 8 hdi rfl hdep [1, 2, 3, 4, 5, 6, 7] [9, 10, 11, 12, 13, 14, 15, 16, 17, 18, 19, 20, 21, 22, 23, 24, 25, 26, 27, 28, 29, 30, 31, 32, 33, 34, 35, 36, 37, 38, 39, 40, 41, 42, 43, 44, 45, 46, 47, 48] (by kernel_rfl) (by kernel_rfl)
        simp only [AllT, AllF] at E
        clear hdi hdep hcl
        go_simp
        exact hK _ _ ⟨by simp [upd, E], by simpa [upd, E] using hw⟩
      · rintro d a W hdi hdep hcl ⟨rfl, hw⟩ K hK
        have E := hcl.facts 9 hdi rfl hdep [1, 2, 3, 4, 5, 6, 7, 8] [10, 11, 12, 13, 14, 15, 16, 17, 18, 19, 20, 21, 22, 23, 24, 25, 26, 27, 28, 29, 30, 31, 32, 33, 34, 35, 36, 37, 38, 39, 40, 41, 42, 43, 44, 45, 46, 47, 48] (by kernel_rfl) (by kernel_rfl)
        simp only [AllT, AllF] at E
        clear hdi hdep hcl
        go_simp
        exact hK _ _ ⟨by simp [upd, E], by simpa [upd, E] using hw⟩
      · rintro d a W hdi hdep hcl ⟨rfl, hw⟩ K hK
        have E := hcl.facts 10 hdi rfl hdep [1, 2, 3, 4, 5, 6, 7, 8, 9] [11, 12, 13, 14, 15, 16, 17, 18, 19, 20, 21, 22, 23, 24, 25, 26, 27, 28, 29, 30, 31, 32, 33, 34, 35, 36, 37, 38, 39, 40, 41, 42, 43, 44, 45, 46, 47, 48] (by kernel_rfl) (by kernel_rfl)
        simp only [AllT, AllF] at E
        clear hdi hdep hcl
        go_simp
        exact hK _ _ ⟨by simp [upd, E], by simpa [upd, E] using hw⟩
      · rintro d a W hdi hdep hcl ⟨rfl, hw⟩ K hK
        have E := hcl.facts 11 hdi rfl hdep [1, 2, 3, 4, 5, 6, 7, 8, 9, 10] [12, 13, 14, 15, 16, 17, 18, 19, 20, 21, 22, 23, 24, 25, 26, 27, 28, 29, 30, 31, 32, 33, 34, 35, 36, 37, 38, 39, 40, 41, 42, 43, 44, 45, 46, 47, 48] (by kernel_rfl) (by kernel_rfl)
        simp only [AllT, AllF] at E
        clear hdi hdep hcl
        go_simp
        exact hK _ _ ⟨by simp [upd, E], by simpa [upd, E] using hw⟩
      · rintro d a W hdi hdep hcl ⟨rfl, hw⟩ K hK
        have E := hcl.facts 12 hdi rfl hdep [1, 2, 3, 4, 5, 6, 7, 8, 9, 10, 11] [13, 14, 15, 16, 17, 18, 19, 20, 21, 22, 23, 24, 25, 26, 27, 28, 29, 30, 31, 32, 33, 34, 35, 36, 37, 38, 39, 40, 41, 42, 43, 44, 45, 46, 47, 48] (by kernel_rfl) (by kernel_rfl)
        simp only [AllT, AllF] at E
        clear hdi hdep hcl
        go_simp
        exact hK _ _ ⟨by simp [upd, E], by simpa [upd, E] using hw⟩
      · rintro d a W hdi hdep hcl ⟨rfl, hw⟩ K hK
        have E := hcl.facts 13 hdi rfl hdep [1, 2, 3, 4, 5, 6, 7, 8, 9, 10, 11, 12] [14, 15, 16, 17, 18, 19, 20, 21, 22, 23, 24, 25, 26, 27, 28, 29, 30, 31, 32, 33, 34, 35, 36, 37, 38, 39, 40, 41, 42, 43, 44, 45, 46, 47, 48] (by kernel_rfl) (by kernel_rfl)
        simp only [AllT, AllF] at E
        clear hdi hdep hcl
        go_simp
        exact hK _ _ ⟨by simp [upd, E], by simpa [upd, E] using hw⟩
      · rintro d a W hdi hdep hcl ⟨rfl, hw⟩ K hK
        have E := hcl.facts 14 hdi rfl hdep [1, 2, 3, 4, 5, 6, 7, 8, 9, 10, 11, 12, 13] [15, 16, 17, 18, 19, 20, 21, 22, 23, 24, 25, 26, 27, 28, 29, 30, 31, 32, 33, 34, 35, 36, 37, 38, 39, 40, 41, 42, 43, 44, 45, 46, 47, 48] (by kernel_rfl) (by kernel_rfl)
        simp only [AllT, AllF] at E
        clear hdi hdep hcl
        go_simp
        exact hK _ _ ⟨by simp [upd, E], by simpa [upd, E] using hw⟩
      · rintro d a W hdi hdep hcl ⟨rfl, hw⟩ K hK
        have E := hcl.facts 15 hdi rfl hdep [1, 2, 3, 4, 5, 6, 7, 8, 9, 10, 11, 12, 13, 14] [16, 17, 18, 19, 20, 21, 22, 23, 24, 25, 26, 27, 28, 29, 30, 31, 32, 33, 34, 35, 36, 37, 38, 39, 40, 41, 42, 43, 44, 45, 46, 47, 48] (by kernel_rfl) (by kernel_rfl)
        simp only [AllT, AllF] at E
        clear hdi hdep hcl
        go_simp
        exact hK _ _ ⟨by simp [upd, E], by simpa [upd, E] using hw⟩
      · rintro d a W hdi hdep hcl ⟨rfl, hw⟩ K hK
        have E := hcl.facts 16 hdi rfl hdep [1, 2, 3, 4, 5, 6, 7, 8, 9, 10, 11, 12, 13, 14, 15] [19, 20, 21, 22, 23, 24, 25, 26, 27, 28, 29, 30, 31, 32, 33, 34, 35, 36, 37, 38, 39, 40, 41, 42, 43, 44, 45, 46, 47, 48] (by kernel_rfl) (by kernel_rfl)
        simp only [AllT, AllF] at E
        clear hdi hdep hcl
        have zz := E_14.out.diff hw.diff (by have := HN_E.out; omega)
        have z0 := zz.at 0
        have z1 := zz.at 1
        have zl := zz.lt
        clear zz
        go_simp
        exact hK _ _ ⟨by simp [upd, E], by simpa [upd, E] using hw⟩
      · rintro d a W hdi hdep hcl ⟨rfl, hw⟩ K hK
        have E := hcl.facts 17 hdi rfl hdep [1, 2, 3, 4, 5, 6, 7, 8, 9, 10, 11, 12, 13, 14, 15] [18, 19, 20, 21, 22, 23, 24, 25, 26, 27, 28, 29, 30, 31, 32, 33, 34, 35, 36, 37, 38, 39, 40, 41, 42, 43, 44, 45, 46, 47, 48] (by kernel_rfl) (by kernel_rfl)
        simp only [AllT, AllF] at E
        clear hdi hdep hcl
        go_simp
        exact hK _ _ ⟨by simp [upd, E], by simpa [upd, E] using hw⟩
      · rintro d a W hdi hdep hcl ⟨rfl, hw⟩ K hK
        have E := hcl.facts 18 hdi rfl hdep [1, 2, 3, 4, 5, 6, 7, 8, 9, 10, 11, 12, 13, 14, 15, 17] [19, 20, 21, 22, 23, 24, 25, 26, 27, 28, 29, 30, 31, 32, 33, 34, 35, 36, 37, 38, 39, 40, 41, 42, 43, 44, 45, 46, 47, 48] (by kernel_rfl) (by kernel_rfl)
        simp only [AllT, AllF] at E
        clear hdi hdep hcl
        go_simp
        refine Calls.mono (lby_any W t 1) ?_
        rintro e w9 ⟨rfl, hp9⟩
        exact hK _ _ ⟨by simp [upd, E], by simpa [upd, E] using hw.call hp9⟩
      · rintro d a W hdi hdep hcl ⟨rfl, hw⟩ K hK
        have E := hcl.facts 19 hdi rfl hdep [1, 2, 3, 4, 5, 6, 7, 8, 9, 10, 11, 12, 13, 14, 15, 16, 17, 18] [20, 21, 22, 23, 24, 25, 26, 27, 28, 29, 30, 31, 32, 33, 34, 35, 36, 37, 38, 39, 40, 41, 42, 43, 44, 45, 46, 47, 48] (by kernel_rfl) (by kernel_rfl)
        simp only [AllT, AllF] at E
        clear hdi hdep hcl
        go_simp
        exact hK _ _ ⟨by simp [upd, E], by simpa [upd, E] using hw⟩
      · rintro d a W hdi hdep hcl ⟨rfl, hw⟩ K hK
        have E := hcl.facts 20 hdi rfl hdep [1, 2, 3, 4, 5, 6, 7, 8, 9, 10, 11, 12, 13, 14, 15, 16, 17, 18, 19] [21, 22, 23, 24, 25, 26, 27, 28, 29, 30, 31, 32, 33, 34, 35, 36, 37, 38, 39, 40, 41, 42, 43, 44, 45, 46, 47, 48] (by kernel_rfl) (by kernel_rfl)
        simp only [AllT, AllF] at E
        clear hdi hdep hcl
        go_simp
        exact hK _ _ ⟨by simp [upd, E], by simpa [upd, E] using hw⟩
      · rintro d a W hdi hdep hcl ⟨rfl, hw⟩ K hK
        have E := hcl.facts 21 hdi rfl hdep [1, 2, 3, 4, 5, 6, 7, 8, 9, 10, 11, 12, 13, 14, 15, 16, 17, 18, 19, 20] [22, 23, 24, 25, 26, 27, 28, 29, 30, 31, 32, 33, 34, 35, 36, 37, 38, 39, 40, 41, 42, 43, 44, 45, 46, 47, 48] (by kernel_rfl) (by kernel_rfl)
        simp only [AllT, AllF] at E
        clear hdi hdep hcl
        go_simp
        exact hK _ _ ⟨by simp [upd, E], by simpa [upd, E] using hw⟩
      · rintro d a W hdi hdep hcl ⟨rfl, hw⟩ K hK
        have E := hcl.facts 22 hdi rfl hdep [1, 2, 3, 4, 5, 6, 7, 8, 9, 10, 11, 12, 13, 14, 15, 16, 17, 18, 19, 20, 21] [24, 25, 26, 27, 28, 29, 30, 31, 32, 33, 34, 35, 36, 37, 38, 39, 40, 41, 42, 43, 44, 45, 46, 47, 48] (by kernel_rfl) (by kernel_rfl)
        simp only [AllT, AllF] at E
        clear hdi hdep hcl
        have zz := G_14.out.diff hw.diff (by have := HN_G.out; omega)
        have z0 := zz.at 0
        have z1 := zz.at 1
        have zl := zz.lt
        clear zz
        go_simp
        exact hK _ _ ⟨by simp [upd, E], by simpa [upd, E] using hw⟩
      · rintro d a W hdi hdep hcl ⟨rfl, hw⟩ K hK
        have E := hcl.facts 23 hdi rfl hdep [1, 2, 3, 4, 5, 6, 7, 8, 9, 10, 11, 12, 13, 14, 15, 16, 17, 18, 19, 20, 21] [24, 25, 26, 27, 28, 29, 30, 31, 32, 33, 34, 35, 36, 37, 38, 39, 40, 41, 42, 43, 44, 45, 46, 47, 48] (by kernel_rfl) (by kernel_rfl)
        simp only [AllT, AllF] at E
        clear hdi hdep hcl
        have zz := E_14.out.diff hw.diff (by have := HN_E.out; omega)
        have z0 := zz.at 0
        have z1 := zz.at 1
        have zl := zz.lt
        clear zz
        go_simp
        exact hK _ _ ⟨by simp [upd, E], by simpa [upd, E] using hw⟩
      · rintro d a W hdi hdep hcl ⟨rfl, hw⟩ K hK
        have E := hcl.facts 24 hdi rfl hdep [1, 2, 3, 4, 5, 6, 7, 8, 9, 10, 11, 12, 13, 14, 15, 16, 17, 18, 19, 20, 21, 22, 23] [25, 26, 27, 28, 29, 30, 31, 32, 33, 34, 35, 36, 37, 38, 39, 40, 41, 42, 43, 44, 45, 46, 47, 48] (by kernel_rfl) (by kernel_rfl)
        simp only [AllT, AllF] at E
        clear hdi hdep hcl
        go_simp
        exact hK _ _ ⟨by simp [upd, E], by simpa [upd, E] using hw⟩
      · rintro d a W hdi hdep hcl ⟨rfl, hw⟩ K hK
        have E := hcl.facts 25 hdi rfl hdep [1, 2, 3, 4, 5, 6, 7, 8, 9, 10, 11, 12, 13, 14, 15, 16, 17, 18, 19, 20, 21, 22, 23, 24] [26, 27, 28, 29, 30, 31, 32, 33, 34, 35, 36, 37, 38, 39, 40, 41, 42, 43, 44, 45, 46, 47, 48] (by kernel_rfl) (by kernel_rfl)
        simp only [AllT, AllF] at E
        clear hdi hdep hcl
        go_simp
        exact hK _ _ ⟨by simp [upd, E], by simpa [upd, E] using hw⟩
      · rintro d a W hdi hdep hcl ⟨rfl, hw⟩ K hK
        have E := hcl.facts 26 hdi rfl hdep [1, 2, 3, 4, 5, 6, 7, 8, 9, 10, 11, 12, 13, 14, 15, 16, 17, 18, 19, 20, 21, 22, 23, 24, 25] [27, 28, 29, 30, 31, 32, 33, 34, 35, 36, 37, 38, 39, 40, 41, 42, 43, 44, 45, 46, 47, 48] (by kernel_rfl) (by kernel_rfl)
        simp only [AllT, AllF] at E
        clear hdi hdep hcl
        go_simp
        exact hK _ _ ⟨by simp [upd, E], by simpa [upd, E] using hw⟩
      · rintro d a W hdi hdep hcl ⟨rfl, hw⟩ K hK
        have E := hcl.facts 27 hdi rfl hdep [1, 2, 3, 4, 5, 6, 7, 8, 9, 10, 11, 12, 13, 14, 15, 16, 17, 18, 19, 20, 21, 22, 23, 24, 25, 26] [29, 30, 31, 32, 33, 34, 35, 36, 37, 38, 39, 40, 41, 42, 43, 44, 45, 46, 47, 48] (by kernel_rfl) (by kernel_rfl)
        simp only [AllT, AllF] at E
        clear hdi hdep hcl
        have zz := F_14.out.diff hw.diff (by have := HN_F.out; omega)
        have z0 := zz.at 0
        have z1 := zz.at 1
        have zl := zz.lt
        clear zz
        go_simp
        exact hK _ _ ⟨by simp [upd, E], by simpa [upd, E] using hw⟩
      · rintro d a W hdi hdep hcl ⟨rfl, hw⟩ K hK
        have E := hcl.facts 28 hdi rfl hdep [1, 2, 3, 4, 5, 6, 7, 8, 9, 10, 11, 12, 13, 14, 15, 16, 17, 18, 19, 20, 21, 22, 23, 24, 25, 26] [29, 30, 31, 32, 33, 34, 35, 36, 37, 38, 39, 40, 41, 42, 43, 44, 45, 46, 47, 48] (by kernel_rfl) (by kernel_rfl)
        simp only [AllT, AllF] at E
        clear hdi hdep hcl
        have zz := A_14.out.diff hw.diff (by have := HN_A.out; omega)
        have z0 := zz.at 0
        have z1 := zz.at 1
        have zl := zz.lt
        clear zz
        go_simp
        exact hK _ _ ⟨by simp [upd, E], by simpa [upd, E] using hw⟩
      · rintro d a W hdi hdep hcl ⟨rfl, hw⟩ K hK
        have E := hcl.facts 29 hdi rfl hdep [1, 2, 3, 4, 5, 6, 7, 8, 9, 10, 11, 12, 13, 14, 15, 16, 17, 18, 19, 20, 21, 22, 23, 24, 25, 26, 27, 28] [30, 31, 32, 33, 34, 35, 36, 37, 38, 39, 40, 41, 42, 43, 44, 45, 46, 47, 48] (by kernel_rfl) (by kernel_rfl)
        simp only [AllT, AllF] at E
        clear hdi hdep hcl
        go_simp
        exact hK _ _ ⟨by simp [upd, E], by simpa [upd, E] using hw⟩
      · rintro d a W hdi hdep hcl ⟨rfl, hw⟩ K hK
        have E := hcl.facts 30 hdi rfl hdep [1, 2, 3, 4, 5, 6, 7, 8, 9, 10, 11, 12, 13, 14, 15, 16, 17, 18, 19, 20, 21, 22, 23, 24, 25, 26, 27, 28, 29] [31, 32, 33, 34, 35, 36, 37, 38, 39, 40, 41, 42, 43, 44, 45, 46, 47, 48] (by kernel_rfl) (by kernel_rfl)
        simp only [AllT, AllF] at E
        clear hdi hdep hcl
        go_simp
        exact hK _ _ ⟨by simp [upd, E], by simpa [upd, E] using hw⟩
      · rintro d a W hdi hdep hcl ⟨rfl, hw⟩ K hK
        have E := hcl.facts 31 hdi rfl hdep [1, 2, 3, 4, 5, 6, 7, 8, 9, 10, 11, 12, 13, 14, 15, 16, 17, 18, 19, 20, 21, 22, 23, 24, 25, 26, 27, 28, 29, 30] [32, 33, 34, 35, 36, 37, 38, 39, 40, 41, 42, 43, 44, 45, 46, 47, 48] (by kernel_rfl) (by kernel_rfl)
        simp only [AllT, AllF] at E
        clear hdi hdep hcl
        go_simp
        exact hK _ _ ⟨by simp [upd, E], by simpa [upd, E] using hw⟩
      · rintro d a W hdi hdep hcl ⟨rfl, hw⟩ K hK
        have E := hcl.facts 32 hdi rfl hdep [1, 2, 3, 4, 5, 6, 7, 8, 9, 10, 11, 12, 13, 14, 15, 16, 17, 18, 19, 20, 21, 22, 23, 24, 25, 26, 27, 28, 29, 30, 31] [34, 35, 36, 37, 38, 39, 40, 41, 42, 43, 44, 45, 46, 47, 48] (by kernel_rfl) (by kernel_rfl)
        simp only [AllT, AllF] at E
        clear hdi hdep hcl
        have zz := H_14.out.diff hw.diff (by have := HN_H.out; omega)
        have z0 := zz.at 0
        have z1 := zz.at 1
        have zl := zz.lt
        clear zz
        go_simp
        exact hK _ _ ⟨by simp [upd, E], by simpa [upd, E] using hw⟩
      · rintro d a W hdi hdep hcl ⟨rfl, hw⟩ K hK
        have E := hcl.facts 33 hdi rfl hdep [1, 2, 3, 4, 5, 6, 7, 8, 9, 10, 11, 12, 13, 14, 15, 16, 17, 18, 19, 20, 21, 22, 23, 24, 25, 26, 27, 28, 29, 30, 31] [34, 35, 36, 37, 38, 39, 40, 41, 42, 43, 44, 45, 46, 47, 48] (by kernel_rfl) (by kernel_rfl)
        simp only [AllT, AllF] at E
        clear hdi hdep hcl
        have zz := A_14.out.diff hw.diff (by have := HN_A.out; omega)
        have z0 := zz.at 0
        have z1 := zz.at 1
        have zl := zz.lt
        clear zz
        go_simp
        exact hK _ _ ⟨by simp [upd, E], by simpa [upd, E] using hw⟩
      · rintro d a W hdi hdep hcl ⟨rfl, hw⟩ K hK
        have E := hcl.facts 34 hdi rfl hdep [1, 2, 3, 4, 5, 6, 7, 8, 9, 10, 11, 12, 13, 14, 15, 16, 17, 18, 19, 20, 21, 22, 23, 24, 25, 26, 27, 28, 29, 30, 31, 32, 33] [35, 36, 37, 38, 39, 40, 41, 42, 43, 44, 45, 46, 47, 48] (by kernel_rfl) (by kernel_rfl)
        simp only [AllT, AllF] at E
        clear hdi hdep hcl
        go_simp
        exact hK _ _ ⟨by simp [upd, E], by simpa [upd, E] using hw⟩
      · rintro d a W hdi hdep hcl ⟨rfl, hw⟩ K hK
        have E := hcl.facts 35 hdi rfl hdep [1, 2, 3, 4, 5, 6, 7, 8, 9, 10, 11, 12, 13, 14, 15, 16, 17, 18, 19, 20, 21, 22, 23, 24, 25, 26, 27, 28, 29, 30, 31, 32, 33, 34] [36, 37, 38, 39, 40, 41, 42, 43, 44, 45, 46, 47, 48] (by kernel_rfl) (by kernel_rfl)
        simp only [AllT, AllF] at E
        clear hdi hdep hcl
        go_simp
        exact hK _ _ ⟨by simp [upd, E], by simpa [upd, E] using hw⟩
      · rintro d a W hdi hdep hcl ⟨rfl, hw⟩ K hK
        have E := hcl.facts 36 hdi rfl hdep [1, 2, 3, 4, 5, 6, 7, 8, 9, 10, 11, 12, 13, 14, 15, 16, 17, 18, 19, 20, 21, 22, 23, 24, 25, 26, 27, 28, 29, 30, 31, 32, 33, 34, 35] [37, 38, 39, 40, 41, 42, 43, 44, 45, 46, 47, 48] (by kernel_rfl) (by kernel_rfl)
        simp only [AllT, AllF] at E
        clear hdi hdep hcl
        go_simp
        exact hK _ _ ⟨by simp [upd, E], by simpa [upd, E] using hw⟩
      · rintro d a W hdi hdep hcl ⟨rfl, hw⟩ K hK
        have E := hcl.facts 37 hdi rfl hdep [1, 2, 3, 4, 5, 6, 7, 8, 9, 10, 11, 12, 13, 14, 15, 16, 17, 18, 19, 20, 21, 22, 23, 24, 25, 26, 27, 28, 29, 30, 31, 32, 33, 34, 35, 36] [39, 40, 41, 42, 43, 44, 45, 46, 47, 48] (by kernel_rfl) (by kernel_rfl)
        simp only [AllT, AllF] at E
        clear hdi hdep hcl
        have zz := K_14.out.diff hw.diff (by have := HN_K.out; omega)
        have z0 := zz.at 0
        have z1 := zz.at 1
        have zl := zz.lt
        clear zz
        go_simp
        exact hK _ _ ⟨by simp [upd, E], by simpa [upd, E] using hw⟩
      · rintro d a W hdi hdep hcl ⟨rfl, hw⟩ K hK
        have E := hcl.facts 38 hdi rfl hdep [1, 2, 3, 4, 5, 6, 7, 8, 9, 10, 11, 12, 13, 14, 15, 16, 17, 18, 19, 20, 21, 22, 23, 24, 25, 26, 27, 28, 29, 30, 31, 32, 33, 34, 35, 36] [39, 40, 41, 42, 43, 44, 45, 46, 47, 48] (by kernel_rfl) (by kernel_rfl)
        simp only [AllT, AllF] at E
        clear hdi hdep hcl
        have zz := A_14.out.diff hw.diff (by have := HN_A.out; omega)
        have z0 := zz.at 0
        have z1 := zz.at 1
        have zl := zz.lt
        clear zz
        go_simp
        exact hK _ _ ⟨by simp [upd, E], by simpa [upd, E] using hw⟩
      · rintro d a W hdi hdep hcl ⟨rfl, hw⟩ K hK
        have E := hcl.facts 39 hdi rfl hdep [1, 2, 3, 4, 5, 6, 7, 8, 9, 10, 11, 12, 13, 14, 15, 16, 17, 18, 19, 20, 21, 22, 23, 24, 25, 26, 27, 28, 29, 30, 31, 32, 33, 34, 35, 36, 37, 38] [40, 41, 42, 43, 44, 45, 46, 47, 48] (by kernel_rfl) (by kernel_rfl)
        simp only [AllT, AllF] at E
        clear hdi hdep hcl
        go_simp
        exact hK _ _ ⟨by simp [upd, E], by simpa [upd, E] using hw⟩
      · rintro d a W hdi hdep hcl ⟨rfl, hw⟩ K hK
        have E := hcl.facts 40 hdi rfl hdep [1, 2, 3, 4, 5, 6, 7, 8, 9, 10, 11, 12, 13, 14, 15, 16, 17, 18, 19, 20, 21, 22, 23, 24, 25, 26, 27, 28, 29, 30, 31, 32, 33, 34, 35, 36, 37, 38, 39] [41, 42, 43, 44, 45, 46, 47, 48] (by kernel_rfl) (by kernel_rfl)
        simp only [AllT, AllF] at E
        clear hdi hdep hcl
        go_simp
        exact hK _ _ ⟨by simp [upd, E], by simpa [upd, E] using hw⟩
      · rintro d a W hdi hdep hcl ⟨rfl, hw⟩ K hK
        have E := hcl.facts 41 hdi rfl hdep [1, 2, 3, 4, 5, 6, 7, 8, 9, 10, 11, 12, 13, 14, 15, 16, 17, 18, 19, 20, 21, 22, 23, 24, 25, 26, 27, 28, 29, 30, 31, 32, 33, 34, 35, 36, 37, 38, 39, 40] [42, 43, 44, 45, 46, 47, 48] (by kernel_rfl) (by kernel_rfl)
        simp only [AllT, AllF] at E
        clear hdi hdep hcl
        go_simp
        exact hK _ _ ⟨by simp [upd, E], by simpa [upd, E] using hw⟩
      · rintro d a W hdi hdep hcl ⟨rfl, hw⟩ K hK
        have E := hcl.facts 42 hdi rfl hdep [1, 2, 3, 4, 5, 6, 7, 8, 9, 10, 11, 12, 13, 14, 15, 16, 17, 18, 19, 20, 21, 22, 23, 24, 25, 26, 27, 28, 29, 30, 31, 32, 33, 34, 35, 36, 37, 38, 39, 40, 41] [44, 45, 48] (by kernel_rfl) (by kernel_rfl)
        simp only [AllT, AllF] at E
        clear hdi hdep hcl
        have zz := M_14.out.diff hw.diff (by have := HN_M.out; omega)
        have z0 := zz.at 0
        have z1 := zz.at 1
        have zl := zz.lt
        clear zz
        go_simp
        exact hK _ _ ⟨by simp [upd, E], by simpa [upd, E] using hw⟩
      · rintro d a W hdi hdep hcl ⟨rfl, hw⟩ K hK
        have E := hcl.facts 43 hdi rfl hdep [1, 2, 3, 4, 5, 6, 7, 8, 9, 10, 11, 12, 13, 14, 15, 16, 17, 18, 19, 20, 21, 22, 23, 24, 25, 26, 27, 28, 29, 30, 31, 32, 33, 34, 35, 36, 37, 38, 39, 40, 41] [44, 45, 48] (by kernel_rfl) (by kernel_rfl)
        simp only [AllT, AllF] at E
        clear hdi hdep hcl
        have zz := A_14.out.diff hw.diff (by have := HN_A.out; omega)
        have z0 := zz.at 0
        have z1 := zz.at 1
        have zl := zz.lt
        clear zz
        go_simp
        exact hK _ _ ⟨by simp [upd, E], by simpa [upd, E] using hw⟩
      · rintro d a W hdi hdep hcl ⟨rfl, hw⟩ K hK
        have E := hcl.facts 44 hdi rfl hdep [1, 2, 3, 4, 5, 6, 7, 8, 9, 10, 11, 12, 13, 14, 15, 16, 17, 18, 19, 20, 21, 22, 23, 24, 25, 26, 27, 28, 29, 30, 31, 32, 33, 34, 35, 36, 37, 38, 39, 40, 41, 42, 43] [45, 48] (by kernel_rfl) (by kernel_rfl)
        simp only [AllT, AllF] at E
        clear hdi hdep hcl
        go_simp
        exact hK _ _ ⟨by simp [upd, E], by simpa [upd, E] using hw⟩
      · rintro d a W hdi hdep hcl ⟨rfl, hw⟩ K hK
        have E := hcl.facts 45 hdi rfl hdep [1, 2, 3, 4, 5, 6, 7, 8, 9, 10, 11, 12, 13, 14, 15, 16, 17, 18, 19, 20, 21, 22, 23, 24, 25, 26, 27, 28, 29, 30, 31, 32, 33, 34, 35, 36, 37, 38, 39, 40, 41, 42, 43, 44] [48] (by kernel_rfl) (by kernel_rfl)
        simp only [AllT, AllF] at E
        clear hdi hdep hcl
        go_simp
        exact hK _ _ ⟨by simp [upd, E], by simpa [upd, E] using hw⟩
      · rintro d a W hdi hdep hcl ⟨rfl, hw⟩ K hK
        have E := hcl.facts 46 hdi rfl hdep [0, 1, 2, 3, 4, 5, 6, 7, 8, 9, 10, 11, 12, 13, 14, 15, 16, 17, 18, 19, 20, 21, 22, 23, 24, 25, 26, 27, 28, 29, 30, 31, 32, 33, 34, 35, 36, 37, 38, 39, 40, 41] [47, 48] (by kernel_rfl) (by kernel_rfl)
        simp only [AllT, AllF] at E
        clear hdi hdep hcl
        simp only [E] at hw
        have z := hw.blk
        have z0 := z.at 0
        have z1 := z.at 1
        have fz := fun o => z.fz o
        have zl := z.lt
        simp only [cond_false] at z0 z1
        go_simp
        exact hK _ _ ⟨by simp [upd, E], by simpa [upd, E] using hw.set⟩
      · rintro d a W hdi hdep hcl ⟨rfl, hw⟩ K hK
        have E := hcl.facts 47 hdi rfl hdep [0, 1, 2, 3, 4, 5, 6, 7, 8, 9, 10, 11, 12, 13, 14, 15, 16, 17, 18, 19, 20, 21, 22, 23, 24, 25, 26, 27, 28, 29, 30, 31, 32, 33, 34, 35, 36, 37, 38, 39, 40, 41, 46] [48] (by kernel_rfl) (by kernel_rfl)
        simp only [AllT, AllF] at E
        clear hdi hdep hcl
        go_simp
        exact hK _ _ ⟨by simp [upd, E], by simpa [upd, E] using hw⟩
      · rintro d a W hdi hdep hcl ⟨rfl, hw⟩ K hK
        have E := hcl.facts 48 hdi rfl hdep [0, 1, 2, 3, 4, 5, 6, 7, 8, 9, 10, 11, 12, 13, 14, 15, 16, 17, 18, 19, 20, 21, 22, 23, 24, 25, 26, 27, 28, 29, 30, 31, 32, 33, 34, 35, 36, 37, 38, 39, 40, 41, 42, 43, 44, 45, 46, 47] [] (by kernel_rfl) (by kernel_rfl)
        simp only [AllT, AllF] at E
        clear hdi hdep hcl
        go_simp
        exact hK _ _ ⟨by simp [upd, E], by simpa [upd, E] using hw⟩
    · rintro d a W hall ⟨rfl, hw⟩
      have E := AllT.all hall [0, 1, 2, 3, 4, 5, 6, 7, 8, 9, 10, 11, 12, 13, 14, 15, 16, 17, 18, 19, 20, 21, 22, 23, 24, 25, 26, 27, 28, 29, 30, 31, 32, 33, 34, 35, 36, 37, 38, 39, 40, 41, 42, 43, 44, 45, 46, 47, 48] (by kernel_rfl)
      simp only [AllT] at E
      simp only [E, cond_true] at hw ⊢
      clear E hall
      have HPW : Pure w W := HP_14.out.trans' hw.diff (fun x hx e => by have e' : x = gr := e; have := HGR.out; omega)
      have z := hw.blk
      simp only [cond_true] at z
      clear hw
      go_wp2
      exact bodyPost_ret (v := .tuple #[.agg #[.int .i64 q1, .int .i64 q2], .bool true, .bool true]) (by simp [results, Tryd.results47, go_sem, z.at 0, z.at 1]) rfl ⟨by rw [HEQ.out.1, HEQ.out.2.1, HEQ.out.2.2] <;> rfl, HPW⟩
  · obtain ⟨rfl, rfl, rfl⟩ : q1 = 0 ∧ q2 = 0 ∧ ce = 19 := by
      rcases HJC.out with ⟨_, h, _⟩ | ⟨_, h, h2⟩
      · exact absurd h hc
      · exact ⟨by rw [← HEQ.out.1, h2], by rw [← HEQ.out.2.1, h2], h⟩
    rw [if_neg (by decide)] at hpa
    subst hpa
    go_wp2_with fail
    refine (Line_any v2 L p cap t hLn L_2.out HW_2.out).mono ?_
    rintro e v3 ⟨rfl, hp⟩
    have HP_3 := Lib.hid (HP_2.out.trans hp)
    have HW_3 := Lib.hid (HW_2.out.to hp)
    have L_3 := Lib.hid (L_2.out.to hp)
    have R_3 := Lib.hid (R_2.out.to hp)
    have A_3 := Lib.hid (A_2.out.to hp)
    clear hp  HP_2 HW_2 L_2 R_2 A_2
    have e0 : lineOf L t = (0, 0, 0) := by unfold lineOf; rw [if_neg (by rw [HEQ.out.2.2]; decide)]; rfl
    rw [e0, HEQ.out.2.2]
    clear e0
    go_wp2_with fail
    have HN_C : Hid (gr < v3.heap.size) := by have := R_3.out.lt; show gr < _; omega
    obtain ⟨X4, hX4⟩ : ∃ V : World, v3.alloc (Obj.cells #[Value.int IntKind.i64 0, Value.int IntKind.i64 0, Value.int IntKind.i64 0] 45) = V := ⟨_, rfl⟩
    have hpX4 : Pure v3 X4 := by rw [← hX4]; exact ((Diff.refl v3).alloc _)
    have bC : Blk (v3.heap.size) 45 #[Value.int IntKind.i64 0, Value.int IntKind.i64 0, Value.int IntKind.i64 0] X4 := by rw [← hX4]; exact (blk0 v3 45 _)
    rw [hX4]
    obtain ⟨g4_0, hg4_0⟩ : ∃ g, v3.heap.size = g := ⟨_, rfl⟩
    rw [hg4_0] at bC HN_C ⊢
    have HP_4 := Lib.hid (HP_3.out.trans hpX4)
    have HW_4 := Lib.hid (HW_3.out.to hpX4)
    have L_4 := Lib.hid (L_3.out.to hpX4)
    have R_4 := Lib.hid (R_3.out.to hpX4)
    have A_4 := Lib.hid (A_3.out.to hpX4)
    have C_4 := Lib.hid bC
    clear hX4 hpX4 hg4_0 bC HP_3 HW_3 L_3 R_3 A_3
    go_wp2_with fail
    refine reg_invW (fun d a W => a = { tmps := #[Value.slice p L.n cap, Value.int IntKind.i64 t, undef, undef, Value.pointer (some { block := gr, off := 0 }), (bif d 29 then Value.bool false else Value.bool false), (bif d 30 then Value.bool true else Value.bool false), Value.pointer (some { block := g1_0, off := 0 }), Value.int IntKind.i64 19, Value.slice none 0 0, Value.int IntKind.i64 19, Value.pointer (some { block := g4_0, off := 0 }), Value.int IntKind.i64 19, undef, undef, undef, undef, undef, undef, undef, Value.tuple #[Value.agg #[Value.int IntKind.i64 0, Value.int IntKind.i64 0], Value.int IntKind.i64 19], Value.slice p L.n cap, Value.int IntKind.i64 t, Value.tuple #[Value.agg #[Value.int IntKind.i64 0, Value.int IntKind.i64 0], Value.int IntKind.i64 19], Value.agg #[Value.int IntKind.i64 0, Value.int IntKind.i64 0], Value.int IntKind.i64 19, Value.tuple #[Value.slice none 0 0, Value.int IntKind.i64 19], Value.slice p L.n cap, Value.int IntKind.i64 t, Value.tuple #[Value.slice none 0 0, Value.int IntKind.i64 19], Value.slice none 0 0, Value.int IntKind.i64 19, Value.tuple #[Value.agg #[Value.int IntKind.i64 0, Value.int IntKind.i64 0, Value.int IntKind.i64 0], Value.int IntKind.i64 19], Value.slice p L.n cap, Value.int IntKind.i64 t, Value.tuple #[Value.agg #[Value.int IntKind.i64 0, Value.int IntKind.i64 0, Value.int IntKind.i64 0], Value.int IntKind.i64 19], Value.agg #[Value.int IntKind.i64 0, Value.int IntKind.i64 0, Value.int IntKind.i64 0], Value.int IntKind.i64 19, Value.int IntKind.i64 19, Value.bool true, (bif d 0 then Value.agg #[Value.int IntKind.i64 0, Value.int IntKind.i64 0] else undef), (bif d 1 then Value.int IntKind.i64 19 else undef), (bif d 2 then Value.bool true else undef), (bif d 3 then Value.bool true else undef), (bif d 4 then Value.int IntKind.i64 19 else undef), (bif d 5 then Value.int IntKind.i64 19 else undef), (bif d 6 then Value.bool true else undef), (bif d 7 then Value.bool true else undef), (bif d 8 then Value.bool true else undef), (bif d 9 then Value.int IntKind.i64 19 else undef), (bif d 10 then Value.int IntKind.i64 19 else undef), (bif d 11 then Value.bool true else undef), (bif d 12 then Value.bool true else undef), (bif d 13 then Value.bool true else undef), (bif d 14 then Value.agg #[Value.int IntKind.i64 0, Value.int IntKind.i64 0] else undef), (bif d 15 then Value.agg #[Value.int IntKind.i64 0, Value.int IntKind.i64 0] else undef), (bif d 16 then Value.bool true else undef), (bif d 17 then Value.bool true else undef), (bif d 18 then Value.bool true else undef), (bif d 19 then Value.slice none 0 0 else undef), (bif d 20 then Value.int IntKind.i64 0 else undef), (bif d 21 then Value.bool true else undef), (bif d 22 then Value.bool true else undef), (bif d 23 then Value.bool true else undef), (bif d 24 then Value.agg #[Value.int IntKind.i64 0, Value.int IntKind.i64 0, Value.int IntKind.i64 0] else undef), (bif d 25 then Value.agg #[Value.int IntKind.i64 0, Value.int IntKind.i64 0, Value.int IntKind.i64 0] else undef), (bif d 26 then Value.bool true else undef), (bif d 27 then Value.bool true else undef), undef, undef, undef, undef, undef, undef, undef, undef, undef, undef, undef, undef, undef, undef, undef, undef, undef, undef, undef, undef, undef, undef, undef, undef, undef, undef, undef, undef, undef, undef, undef, undef, undef, undef, undef, undef, undef, undef, undef, undef, undef, undef, undef, undef, undef, undef, undef, undef, undef, undef, undef, undef, undef, undef, undef, undef, undef, undef, undef, undef, undef, undef, undef, undef, undef, undef, undef, undef, undef, undef, undef, undef, undef, undef, undef, undef, undef, undef, undef, undef, undef, undef, undef, undef, undef, undef, undef, undef, undef, undef, undef, undef, undef, undef, undef, undef, undef, undef], defers := [] } ∧ ST X4 gr (d 28) #[Value.int IntKind.i64 0, Value.int IntKind.i64 0] W) hmx (by kernel_rfl) ?_ ?_ ?_
    · exact ⟨rfl, ST.draw R_4.out⟩
    · refine ⟨?_, ?_, ?_, ?_, ?_, ?_, ?_, ?_, ?_, ?_, ?_, ?_, ?_, ?_, ?_, ?_, ?_, ?_, ?_, ?_, ?_, ?_, ?_, ?_, ?_, ?_, ?_, ?_, ?_, ?_, ?_, trivial⟩
      · rintro d a W hdi hdep hcl ⟨rfl, hw⟩ K hK
        have E := hcl.facts 0 hdi rfl hdep [] [28, 29, 30] (by kernel_rfl) (by kernel_rfl)
        simp only [AllT, AllF] at E
        clear hdi hdep hcl
        have zz := A_4.out.diff hw.diff (by have := HN_A.out; omega)
        have z0 := zz.at 0
        have z1 := zz.at 1
        have zl := zz.lt
        clear zz
        go_simp
        exact hK _ _ ⟨by simp [upd, E], by simpa [upd, E] using hw⟩
      · rintro d a W hdi hdep hcl ⟨rfl, hw⟩ K hK
        have E := hcl.facts 1 hdi rfl hdep [] [2, 3, 4, 5, 6, 7, 8, 9, 10, 11, 12, 13, 14, 15, 16, 17, 18, 19, 20, 21, 22, 23, 24, 25, 26, 27, 28, 29, 30] (by kernel_rfl) (by kernel_rfl)
        simp only [AllT, AllF] at E
        clear hdi hdep hcl
        go_simp
        exact hK _ _ ⟨by simp [upd, E], by simpa [upd, E] using hw⟩
      · rintro d a W hdi hdep hcl ⟨rfl, hw⟩ K hK
        have E := hcl.facts 2 hdi rfl hdep [1] [3, 4, 5, 6, 7, 8, 9, 10, 11, 12, 13, 14, 15, 16, 17, 18, 19, 20, 21, 22, 23, 24, 25, 26, 27, 28, 29, 30] (by kernel_rfl) (by kernel_rfl)
        simp only [AllT, AllF] at E
        clear hdi hdep hcl
        go_simp
        exact hK _ _ ⟨by simp [upd, E], by simpa [upd, E] using hw⟩
      · rintro d a W hdi hdep hcl ⟨rfl, hw⟩ K hK
        have E := hcl.facts 3 hdi rfl hdep [1, 2] [4, 5, 6, 7, 8, 9, 10, 11, 12, 13, 14, 15, 16, 17, 18, 19, 20, 21, 22, 23, 24, 25, 26, 27, 28, 29, 30] (by kernel_rfl) (by kernel_rfl)
        simp only [AllT, AllF] at E
        clear hdi hdep hcl
        go_simp
        exact hK _ _ ⟨by simp [upd, E], by simpa [upd, E] using hw⟩
      · rintro d a W hdi hdep hcl ⟨rfl, hw⟩ K hK
        have E := hcl.facts 4 hdi rfl hdep [1, 2, 3] [6, 7, 8, 9, 10, 11, 12, 13, 14, 15, 16, 17, 18, 19, 20, 21, 22, 23, 24, 25, 26, 27, 28, 29, 30] (by kernel_rfl) (by kernel_rfl)
        simp only [AllT, AllF] at E
        clear hdi hdep hcl
        go_simp
        exact hK _ _ ⟨by simp [upd, E], by simpa [upd, E] using hw⟩
      · rintro d a W hdi hdep hcl ⟨rfl, hw⟩ K hK
        have E := hcl.facts 5 hdi rfl hdep [1, 2, 3] [6, 7, 8, 9, 10, 11, 12, 13, 14, 15, 16, 17, 18, 19, 20, 21, 22, 23, 24, 25, 26, 27, 28, 29, 30] (by kernel_rfl) (by kernel_rfl)
        simp only [AllT, AllF] at E
        clear hdi hdep hcl
        go_simp
        exact hK _ _ ⟨by simp [upd, E], by simpa [upd, E] using hw⟩
      · rintro d a W hdi hdep hcl ⟨rfl, hw⟩ K hK
        have E := hcl.facts 6 hdi rfl hdep [1, 2, 3, 4, 5] [7, 8, 9, 10, 11, 12, 13, 14, 15, 16, 17, 18, 19, 20, 21, 22, 23, 24, 25, 26, 27, 28, 29, 30] (by kernel_rfl) (by kernel_rfl)
        simp only [AllT, AllF] at E
        clear hdi hdep hcl
        go_simp
        exact hK _ _ ⟨by simp [upd, E], by simpa [upd, E] using hw⟩
      · rintro d a W hdi hdep hcl ⟨rfl, hw⟩ K hK
        have E := hcl.facts 7 hdi rfl hdep [1, 2, 3, 4, 5, 6] [8, 9, 10, 11, 12, 13, 14, 15, 16, 17, 18, 19, 20, 21, 22, 23, 24, 25, 26, 27, 28, 29, 30] (by kernel_rfl) (by kernel_rfl)
        simp only [AllT, AllF] at E
        clear hdi hdep hcl
        go_simp
        exact hK _ _ ⟨by simp [upd, E], by simpa [upd, E] using hw⟩
      · rintro d a W hdi hdep hcl ⟨rfl, hw⟩ K hK
        have E := hcl.facts 8 hdi rfl hdep [1, 2, 3, 4, 5, 6, 7] [9, 10, 11, 12, 13, 14, 15, 16, 17, 18, 19, 20, 21, 22, 23, 24, 25, 26, 27, 28, 29, 30] (by kernel_rfl) (by kernel_rfl)
        simp only [AllT, AllF] at E
        clear hdi hdep hcl
        go_simp
        exact hK _ _ ⟨by simp [upd, E], by simpa [upd, E] using hw⟩
      · rintro d a W hdi hdep hcl ⟨rfl, hw⟩ K hK
        have E := hcl.facts 9 hdi rfl hdep [1, 2, 3, 4, 5, 6, 7, 8] [11, 12, 13, 14, 15, 16, 17, 18, 19, 20, 21, 22, 23, 24, 25, 26, 27, 28, 29, 30] (by kernel_rfl) (by kernel_rfl)
        simp only [AllT, AllF] at E
        clear hdi hdep hcl
        go_simp
        exact hK _ _ ⟨by simp [upd, E], by simpa [upd, E] using hw⟩
      · rintro d a W hdi hdep hcl ⟨rfl, hw⟩ K hK
        have E := hcl.facts 10 hdi rfl hdep [1, 2, 3, 4, 5, 6, 7, 8] [11, 12, 13, 14, 15, 16, 17, 18, 19, 20, 21, 22, 23, 24, 25, 26, 27, 28, 29, 30] (by kernel_rfl) (by kernel_rfl)
        simp only [AllT, AllF] at E
        clear hdi hdep hcl
        go_simp
        exact hK _ _ ⟨by simp [upd, E], by simpa [upd, E] using hw⟩
      · rintro d a W hdi hdep hcl ⟨rfl, hw⟩ K hK
        have E := hcl.facts 11 hdi rfl hdep [1, 2, 3, 4, 5, 6, 7, 8, 9, 10] [12, 13, 14, 15, 16, 17, 18, 19, 20, 21, 22, 23, 24, 25, 26, 27, 28, 29, 30] (by kernel_rfl) (by kernel_rfl)
        simp only [AllT, AllF] at E
        clear hdi hdep hcl
        go_simp
        exact hK _ _ ⟨by simp [upd, E], by simpa [upd, E] using hw⟩
      · rintro d a W hdi hdep hcl ⟨rfl, hw⟩ K hK
        have E := hcl.facts 12 hdi rfl hdep [1, 2, 3, 4, 5, 6, 7, 8, 9, 10, 11] [13, 14, 15, 16, 17, 18, 19, 20, 21, 22, 23, 24, 25, 26, 27, 28, 29, 30] (by kernel_rfl) (by kernel_rfl)
        simp only [AllT, AllF] at E
        clear hdi hdep hcl
        go_simp
        exact hK _ _ ⟨by simp [upd, E], by simpa [upd, E] using hw⟩
      · rintro d a W hdi hdep hcl ⟨rfl, hw⟩ K hK
        have E := hcl.facts 13 hdi rfl hdep [1, 2, 3, 4, 5, 6, 7, 8, 9, 10, 11, 12] [14, 15, 16, 17, 18, 19, 20, 21, 22, 23, 24, 25, 26, 27, 28, 29, 30] (by kernel_rfl) (by kernel_rfl)
        simp only [AllT, AllF] at E
        clear hdi hdep hcl
        go_simp
        exact hK _ _ ⟨by simp [upd, E], by simpa [upd, E] using hw⟩
      · rintro d a W hdi hdep hcl ⟨rfl, hw⟩ K hK
        have E := hcl.facts 14 hdi rfl hdep [1, 2, 3, 4, 5, 6, 7, 8, 9, 10, 11, 12, 13] [16, 17, 18, 19, 20, 21, 22, 23, 24, 25, 26, 27, 28, 29, 30] (by kernel_rfl) (by kernel_rfl)
        simp only [AllT, AllF] at E
        clear hdi hdep hcl
        have zz := A_4.out.diff hw.diff (by have := HN_A.out; omega)
        have z0 := zz.at 0
        have z1 := zz.at 1
        have zl := zz.lt
        clear zz
        go_simp
        exact hK _ _ ⟨by simp [upd, E], by simpa [upd, E] using hw⟩
      · rintro d a W hdi hdep hcl ⟨rfl, hw⟩ K hK
        have E := hcl.facts 15 hdi rfl hdep [1, 2, 3, 4, 5, 6, 7, 8, 9, 10, 11, 12, 13] [16, 17, 18, 19, 20, 21, 22, 23, 24, 25, 26, 27, 28, 29, 30] (by kernel_rfl) (by kernel_rfl)
        simp only [AllT, AllF] at E
        clear hdi hdep hcl
        go_simp
        refine Calls.mono (lby_any W 0 0) ?_
        rintro e w9 ⟨rfl, hp9⟩
        exact hK _ _ ⟨by simp [upd, E], by simpa [upd, E] using hw.call hp9⟩
      · rintro d a W hdi hdep hcl ⟨rfl, hw⟩ K hK
        have E := hcl.facts 16 hdi rfl hdep [1, 2, 3, 4, 5, 6, 7, 8, 9, 10, 11, 12, 13, 14, 15] [17, 18, 19, 20, 21, 22, 23, 24, 25, 26, 27, 28, 29, 30] (by kernel_rfl) (by kernel_rfl)
        simp only [AllT, AllF] at E
        clear hdi hdep hcl
        go_simp
        exact hK _ _ ⟨by simp [upd, E], by simpa [upd, E] using hw⟩
      · rintro d a W hdi hdep hcl ⟨rfl, hw⟩ K hK
        have E := hcl.facts 17 hdi rfl hdep [1, 2, 3, 4, 5, 6, 7, 8, 9, 10, 11, 12, 13, 14, 15, 16] [18, 19, 20, 21, 22, 23, 24, 25, 26, 27, 28, 29, 30] (by kernel_rfl) (by kernel_rfl)
        simp only [AllT, AllF] at E
        clear hdi hdep hcl
        go_simp
        exact hK _ _ ⟨by simp [upd, E], by simpa [upd, E] using hw⟩
      · rintro d a W hdi hdep hcl ⟨rfl, hw⟩ K hK
        have E := hcl.facts 18 hdi rfl hdep [1, 2, 3, 4, 5, 6, 7, 8, 9, 10, 11, 12, 13, 14, 15, 16, 17] [19, 20, 21, 22, 23, 24, 25, 26, 27, 28, 29, 30] (by kernel_rfl) (by kernel_rfl)
        simp only [AllT, AllF] at E
        clear hdi hdep hcl
        go_simp
        exact hK _ _ ⟨by simp [upd, E], by simpa [upd, E] using hw⟩
      · rintro d a W hdi hdep hcl ⟨rfl, hw⟩ K hK
        have E := hcl.facts 19 hdi rfl hdep [1, 2, 3, 4, 5, 6, 7, 8, 9, 10, 11, 12, 13, 14, 15, 16, 17, 18] [20, 21, 22, 23, 24, 25, 26, 27, 28, 29, 30] (by kernel_rfl) (by kernel_rfl)
        simp only [AllT, AllF] at E
        clear hdi hdep hcl
        go_simp
        exact hK _ _ ⟨by simp [upd, E], by simpa [upd, E] using hw⟩
      · rintro d a W hdi hdep hcl ⟨rfl, hw⟩ K hK
        have E := hcl.facts 20 hdi rfl hdep [1, 2, 3, 4, 5, 6, 7, 8, 9, 10, 11, 12, 13, 14, 15, 16, 17, 18, 19] [21, 22, 23, 24, 25, 26, 27, 28, 29, 30] (by kernel_rfl) (by kernel_rfl)
        simp only [AllT, AllF] at E
        clear hdi hdep hcl
        go_simp
        exact hK _ _ ⟨by simp [upd, E], by simpa [upd, E] using hw⟩
      · rintro d a W hdi hdep hcl ⟨rfl, hw⟩ K hK
        have E := hcl.facts 21 hdi rfl hdep [1, 2, 3, 4, 5, 6, 7, 8, 9, 10, 11, 12, 13, 14, 15, 16, 17, 18, 19, 20] [22, 23, 24, 25, 26, 27, 28, 29, 30] (by kernel_rfl) (by kernel_rfl)
        simp only [AllT, AllF] at E
        clear hdi hdep hcl
        go_simp
        exact hK _ _ ⟨by simp [upd, E], by simpa [upd, E] using hw⟩
      · rintro d a W hdi hdep hcl ⟨rfl, hw⟩ K hK
        have E := hcl.facts 22 hdi rfl hdep [1, 2, 3, 4, 5, 6, 7, 8, 9, 10, 11, 12, 13, 14, 15, 16, 17, 18, 19, 20, 21] [23, 24, 25, 26, 27, 28, 29, 30] (by kernel_rfl) (by kernel_rfl)
        simp only [AllT, AllF] at E
        clear hdi hdep hcl
        go_simp
        exact hK _ _ ⟨by simp [upd, E], by simpa [upd, E] using hw⟩
      · rintro d a W hdi hdep hcl ⟨rfl, hw⟩ K hK
        have E := hcl.facts 23 hdi rfl hdep [1, 2, 3, 4, 5, 6, 7, 8, 9, 10, 11, 12, 13, 14, 15, 16, 17, 18, 19, 20, 21, 22] [24, 25, 26, 27, 28, 29, 30] (by kernel_rfl) (by kernel_rfl)
        simp only [AllT, AllF] at E
        clear hdi hdep hcl
        go_simp
        exact hK _ _ ⟨by simp [upd, E], by simpa [upd, E] using hw⟩
      · rintro d a W hdi hdep hcl ⟨rfl, hw⟩ K hK
        have E := hcl.facts 24 hdi rfl hdep [1, 2, 3, 4, 5, 6, 7, 8, 9, 10, 11, 12, 13, 14, 15, 16, 17, 18, 19, 20, 21, 22, 23] [26, 27, 30] (by kernel_rfl) (by kernel_rfl)
        simp only [AllT, AllF] at E
        clear hdi hdep hcl
        have zz := C_4.out.diff hw.diff (by have := HN_C.out; omega)
        have z0 := zz.at 0
        have z1 := zz.at 1
        have z2 := zz.at 2
        have zl := zz.lt
        clear zz
        go_simp
        exact hK _ _ ⟨by simp [upd, E], by simpa [upd, E] using hw⟩
      · rintro d a W hdi hdep hcl ⟨rfl, hw⟩ K hK
        have E := hcl.facts 25 hdi rfl hdep [1, 2, 3, 4, 5, 6, 7, 8, 9, 10, 11, 12, 13, 14, 15, 16, 17, 18, 19, 20, 21, 22, 23] [26, 27, 28, 29, 30] (by kernel_rfl) (by kernel_rfl)
        simp only [AllT, AllF] at E
        clear hdi hdep hcl
        go_simp
        refine Calls.mono (lline_any W 0 0 0) ?_
        rintro e w9 ⟨rfl, hp9⟩
        exact hK _ _ ⟨by simp [upd, E], by simpa [upd, E] using hw.call hp9⟩
      · rintro d a W hdi hdep hcl ⟨rfl, hw⟩ K hK
        have E := hcl.facts 26 hdi rfl hdep [1, 2, 3, 4, 5, 6, 7, 8, 9, 10, 11, 12, 13, 14, 15, 16, 17, 18, 19, 20, 21, 22, 23, 24, 25] [27, 30] (by kernel_rfl) (by kernel_rfl)
        simp only [AllT, AllF] at E
        clear hdi hdep hcl
        go_simp
        exact hK _ _ ⟨by simp [upd, E], by simpa [upd, E] using hw⟩
      · rintro d a W hdi hdep hcl ⟨rfl, hw⟩ K hK
        have E := hcl.facts 27 hdi rfl hdep [1, 2, 3, 4, 5, 6, 7, 8, 9, 10, 11, 12, 13, 14, 15, 16, 17, 18, 19, 20, 21, 22, 23, 24, 25, 26] [30] (by kernel_rfl) (by kernel_rfl)
        simp only [AllT, AllF] at E
        clear hdi hdep hcl
        go_simp
        exact hK _ _ ⟨by simp [upd, E], by simpa [upd, E] using hw⟩
      · rintro d a W hdi hdep hcl ⟨rfl, hw⟩ K hK
        have E := hcl.facts 28 hdi rfl hdep [0, 1, 2, 3, 4, 5, 6, 7, 8, 9, 10, 11, 12, 13, 14, 15, 16, 17, 18, 19, 20, 21, 22, 23, 25] [29, 30] (by kernel_rfl) (by kernel_rfl)
        simp only [AllT, AllF] at E
        clear hdi hdep hcl
        simp only [E] at hw
        have z := hw.blk
        have z0 := z.at 0
        have z1 := z.at 1
        have fz := fun o => z.fz o
        have zl := z.lt
        simp only [cond_false] at z0 z1
        go_simp
        exact hK _ _ ⟨by simp [upd, E], by simpa [upd, E] using hw.set⟩
      · rintro d a W hdi hdep hcl ⟨rfl, hw⟩ K hK
        have E := hcl.facts 29 hdi rfl hdep [0, 1, 2, 3, 4, 5, 6, 7, 8, 9, 10, 11, 12, 13, 14, 15, 16, 17, 18, 19, 20, 21, 22, 23, 25, 28] [30] (by kernel_rfl) (by kernel_rfl)
        simp only [AllT, AllF] at E
        clear hdi hdep hcl
        go_simp
        exact hK _ _ ⟨by simp [upd, E], by simpa [upd, E] using hw⟩
      · rintro d a W hdi hdep hcl ⟨rfl, hw⟩ K hK
        have E := hcl.facts 30 hdi rfl hdep [0, 1, 2, 3, 4, 5, 6, 7, 8, 9, 10, 11, 12, 13, 14, 15, 16, 17, 18, 19, 20, 21, 22, 23, 24, 25, 26, 27, 28, 29] [] (by kernel_rfl) (by kernel_rfl)
        simp only [AllT, AllF] at E
        clear hdi hdep hcl
        go_simp
        exact hK _ _ ⟨by simp [upd, E], by simpa [upd, E] using hw⟩
    · rintro d a W hall ⟨rfl, hw⟩
      have E := AllT.all hall [0, 1, 2, 3, 4, 5, 6, 7, 8, 9, 10, 11, 12, 13, 14, 15, 16, 17, 18, 19, 20, 21, 22, 23, 24, 25, 26, 27, 28, 29, 30] (by kernel_rfl)
      simp only [AllT] at E
      simp only [E, cond_true] at hw ⊢
      clear E hall
      have HPW : Pure w W := HP_4.out.trans' hw.diff (fun x hx e => by have e' : x = gr := e; have := HGR.out; omega)
      have z := hw.blk
      simp only [cond_true] at z
      clear hw
      go_wp2
      exact bodyPost_ret (v := .tuple #[.agg #[.int .i64 0, .int .i64 0], .bool false, .bool true]) (by simp [results, Tryd.results47, go_sem, z.at 0, z.at 1]) rfl ⟨by rw [HEQ.out.1, HEQ.out.2.1, HEQ.out.2.2] <;> rfl, HPW⟩
end Go.Proofs.YtgpfmnjianflaaaDoor
