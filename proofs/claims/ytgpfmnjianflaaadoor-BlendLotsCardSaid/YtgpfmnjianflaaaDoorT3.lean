/- Walk of BlendLots. -/
import Derived.Test.YtgpfmnjianflaaaDoorH1
set_option linter.unusedSimpArgs false
set_option linter.unusedVariables false
set_option linter.constructorNameAsVariable false
namespace Go.Proofs.YtgpfmnjianflaaaDoor
open Go.RowKit


set_option maxRecDepth 20000 in
set_option maxHeartbeats 4000000 in
theorem LotsLaw_any (w : World) (L : LT) (p : Option Addr) (cap : Nat) (q : Option Addr) (n c : Nat) (f : Nat → Int) (hl : LotsAt w.heap.size w p L) (hr : Row w.heap.size w q n fun k => .int .i64 (f k)) (_hw : ∀ i, i < n → (Lit.int .i64 (f i)).wf = true) (hg : Gl w) :
    Calls Tryd.prog 3 #[.slice p L.n cap, .slice q n c] w fun e w' => e = .returned (.bool true) ∧ Pure w w' := by
  have hmx : Tryd.prog.follows .mixedOrders = true := by kernel_rfl
  have HG := Lib.hid hg
  have HL := Lib.hid hl
  have HR := Lib.hid hr
  clear hg hl hr
  go_enter Tryd.func3, Tryd.ntmps3
  go_wp2_with fail
  refine (great_any w L p cap).mono ?_
  rintro e w1 ⟨rfl, hp1⟩
  have HP1 := Lib.hid hp1
  have HG1 := Lib.hid (HG.out.to hp1)
  have HL1 := Lib.hid (HL.out.to hp1)
  have HR1 := Lib.hid (HR.out.to hp1)
  clear hp1
  by_cases h14 : 14 < L.n
  · have hb : decide (14 < L.n) = true := by simpa using h14
    rw [hb]
    go_wp2_with fail
    refine (Works_any w1 HG1.out).mono ?_
    rintro e w9 ⟨rfl, hp9⟩
    have HP9 := Lib.hid (HP1.out.trans hp9)
    clear hp9
    go_wp2
    exact bodyPost_ret (v := .bool true) (by simp [results, Tryd.results3, go_sem]) rfl ⟨rfl, HP9.out⟩
  · have hb : decide (14 < L.n) = false := by simpa using h14
    rw [hb]
    by_cases hn14 : 14 < n
    · have hi : (14 : Int) < (n : Int) := by omega
      go_wp2_with fail
      refine (Works_any w1 HG1.out).mono ?_
      rintro e w9 ⟨rfl, hp9⟩
      have HP9 := Lib.hid (HP1.out.trans hp9)
      clear hp9
      go_wp2
      exact bodyPost_ret (v := .bool true) (by simp [results, Tryd.results3, go_sem]) rfl ⟨rfl, HP9.out⟩
    · have hi : ¬ (14 : Int) < (n : Int) := by omega
      have hLn : L.n ≤ 1000 := by omega
      have hnn : n ≤ 1000 := by omega
      go_wp2_with fail
      refine (twinLots_any w1 L p cap hLn HL1.out).mono ?_
      rintro e v0 ⟨⟨p2, c2, rfl, hx⟩, hp⟩
      have HP_0 := Lib.hid (HP1.out.trans hp)
      have HW_0 := Lib.hid (HG1.out.to hp)
      have L_0 := Lib.hid (HL1.out.to hp)
      have R_0 := Lib.hid (HR1.out.to hp)
      have L2_0 := Lib.hid hx
      clear hp hx HP1 HG1 HL1 HR1
      go_wp2_with fail
      refine (twinLongs_any v0 q n c f hnn R_0.out).mono ?_
      rintro e v1 ⟨⟨q2, d2, rfl, hx⟩, hp⟩
      have HP_1 := Lib.hid (HP_0.out.trans hp)
      have HW_1 := Lib.hid (HW_0.out.to hp)
      have L_1 := Lib.hid (L_0.out.to hp)
      have R_1 := Lib.hid (R_0.out.to hp)
      have L2_1 := Lib.hid (L2_0.out.to hp)
      have R2_1 := Lib.hid hx
      clear hp hx HP_0 HW_0 L_0 R_0 L2_0
      go_wp2_with fail
      refine (CheckBlend_any v1 L p2 q2 c2 n d2 f hLn hnn L2_1.out R2_1.out HW_1.out).mono ?_
      rintro e v2 ⟨rfl, hp⟩
      have HP_2 := Lib.hid (HP_1.out.trans hp)
      have HW_2 := Lib.hid (HW_1.out.to hp)
      have L_2 := Lib.hid (L_1.out.to hp)
      have R_2 := Lib.hid (R_1.out.to hp)
      have L2_2 := Lib.hid (L2_1.out.to hp)
      have R2_2 := Lib.hid (R2_1.out.to hp)
      clear hp  HP_1 HW_1 L_1 R_1 L2_1 R2_1
      obtain ⟨s1, hs1⟩ : ∃ x, (blendS L f n).1 = x := ⟨_, rfl⟩
      obtain ⟨s2, hs2⟩ : ∃ x, (blendS L f n).2 = x := ⟨_, rfl⟩
      obtain ⟨u1, hu1⟩ : ∃ x, (blendP L f n).1 = x := ⟨_, rfl⟩
      obtain ⟨u2, hu2⟩ : ∃ x, (blendP L f n).2 = x := ⟨_, rfl⟩
      obtain ⟨ee, hee⟩ : ∃ x, partsB L f n = x := ⟨_, rfl⟩
      have HE : Hid ((blendS L f n).1 = s1 ∧ (blendS L f n).2 = s2 ∧ (blendP L f n).1 = u1 ∧ (blendP L f n).2 = u2 ∧ partsB L f n = ee) := ⟨hs1, hs2, hu1, hu2, hee⟩
      rw [hs1, hs2, hu1, hu2, hee]
      clear hs1 hs2 hu1 hu2 hee
      go_wp2_with fail
      obtain ⟨X3, hX3⟩ : ∃ V : World, (v2.alloc (Obj.cells #[Value.int IntKind.i64 s1, Value.int IntKind.i64 s2] 29)).alloc (Obj.cells #[Value.int IntKind.i64 u1, Value.int IntKind.i64 u2] 29) = V := ⟨_, rfl⟩
      have hpX3 : Pure v2 X3 := by rw [← hX3]; exact (((Diff.refl v2).alloc _).alloc _)
      have bA : Blk (v2.heap.size) 29 #[Value.int IntKind.i64 s1, Value.int IntKind.i64 s2] X3 := by rw [← hX3]; exact ((blk0 v2 29 _).alloc _)
      have bB : Blk (v2.heap.size + 1) 29 #[Value.int IntKind.i64 u1, Value.int IntKind.i64 u2] X3 := by rw [← hX3]; exact (blk1 v2 _ 29 _)
      rw [hX3]
      obtain ⟨g3_0, hg3_0⟩ : ∃ g, v2.heap.size = g := ⟨_, rfl⟩
      rw [hg3_0] at bA bB ⊢
      obtain ⟨g3_1, hg3_1⟩ : ∃ g, g3_0 + 1 = g := ⟨_, rfl⟩
      rw [hg3_1] at bB ⊢
      have HP_3 := Lib.hid (HP_2.out.trans hpX3)
      have HW_3 := Lib.hid (HW_2.out.to hpX3)
      have L_3 := Lib.hid (L_2.out.to hpX3)
      have R_3 := Lib.hid (R_2.out.to hpX3)
      have L2_3 := Lib.hid (L2_2.out.to hpX3)
      have R2_3 := Lib.hid (R2_2.out.to hpX3)
      have A_3 := Lib.hid bA
      have B_3 := Lib.hid bB
      clear hX3 hpX3 hg3_1 hg3_0 bA bB HP_2 HW_2 L_2 R_2 L2_2 R2_2
      refine (RCheckBlend_any X3 L p q cap n c f hLn hnn L_3.out R_3.out).mono ?_
      rintro e v4 ⟨rfl, hp⟩
      have HP_4 := Lib.hid (HP_3.out.trans hp)
      have HW_4 := Lib.hid (HW_3.out.to hp)
      have L_4 := Lib.hid (L_3.out.to hp)
      have R_4 := Lib.hid (R_3.out.to hp)
      have L2_4 := Lib.hid (L2_3.out.to hp)
      have R2_4 := Lib.hid (R2_3.out.to hp)
      have A_4 := Lib.hid (A_3.out.to hp)
      have B_4 := Lib.hid (B_3.out.to hp)
      clear hp  HP_3 HW_3 L_3 R_3 L2_3 R2_3 A_3 B_3
      rw [HE.out.1, HE.out.2.1, HE.out.2.2.1, HE.out.2.2.2.1, HE.out.2.2.2.2]
      go_wp2_with fail
      obtain ⟨X5, hX5⟩ : ∃ V : World, (v4.alloc (Obj.cells #[Value.int IntKind.i64 s1, Value.int IntKind.i64 s2] 29)).alloc (Obj.cells #[Value.int IntKind.i64 u1, Value.int IntKind.i64 u2] 29) = V := ⟨_, rfl⟩
      have hpX5 : Pure v4 X5 := by rw [← hX5]; exact (((Diff.refl v4).alloc _).alloc _)
      have bC : Blk (v4.heap.size) 29 #[Value.int IntKind.i64 s1, Value.int IntKind.i64 s2] X5 := by rw [← hX5]; exact ((blk0 v4 29 _).alloc _)
      have bD : Blk (v4.heap.size + 1) 29 #[Value.int IntKind.i64 u1, Value.int IntKind.i64 u2] X5 := by rw [← hX5]; exact (blk1 v4 _ 29 _)
      rw [hX5]
      obtain ⟨g5_0, hg5_0⟩ : ∃ g, v4.heap.size = g := ⟨_, rfl⟩
      rw [hg5_0] at bC bD ⊢
      obtain ⟨g5_1, hg5_1⟩ : ∃ g, g5_0 + 1 = g := ⟨_, rfl⟩
      rw [hg5_1] at bD ⊢
      have HP_5 := Lib.hid (HP_4.out.trans hpX5)
      have HW_5 := Lib.hid (HW_4.out.to hpX5)
      have L_5 := Lib.hid (L_4.out.to hpX5)
      have R_5 := Lib.hid (R_4.out.to hpX5)
      have L2_5 := Lib.hid (L2_4.out.to hpX5)
      have R2_5 := Lib.hid (R2_4.out.to hpX5)
      have A_5 := Lib.hid (A_4.out.to hpX5)
      have B_5 := Lib.hid (B_4.out.to hpX5)
      have C_5 := Lib.hid bC
      have D_5 := Lib.hid bD
      clear hX5 hpX5 hg5_1 hg5_0 bC bD HP_4 HW_4 L_4 R_4 L2_4 R2_4 A_4 B_4
      refine (CheckLots_any X5 L p2 c2 hLn L2_5.out HW_5.out).mono ?_
      rintro e v6 ⟨rfl, hp⟩
      have HP_6 := Lib.hid (HP_5.out.trans hp)
      have HW_6 := Lib.hid (HW_5.out.to hp)
      have L_6 := Lib.hid (L_5.out.to hp)
      have R_6 := Lib.hid (R_5.out.to hp)
      have L2_6 := Lib.hid (L2_5.out.to hp)
      have R2_6 := Lib.hid (R2_5.out.to hp)
      have A_6 := Lib.hid (A_5.out.to hp)
      have B_6 := Lib.hid (B_5.out.to hp)
      have C_6 := Lib.hid (C_5.out.to hp)
      have D_6 := Lib.hid (D_5.out.to hp)
      clear hp  HP_5 HW_5 L_5 R_5 L2_5 R2_5 A_5 B_5 C_5 D_5
      go_wp2_with fail
      refine (RCheckLots_any v6 L p cap hLn L_6.out).mono ?_
      rintro e v7 ⟨rfl, hp⟩
      have HP_7 := Lib.hid (HP_6.out.trans hp)
      have HW_7 := Lib.hid (HW_6.out.to hp)
      have L_7 := Lib.hid (L_6.out.to hp)
      have R_7 := Lib.hid (R_6.out.to hp)
      have L2_7 := Lib.hid (L2_6.out.to hp)
      have R2_7 := Lib.hid (R2_6.out.to hp)
      have A_7 := Lib.hid (A_6.out.to hp)
      have B_7 := Lib.hid (B_6.out.to hp)
      have C_7 := Lib.hid (C_6.out.to hp)
      have D_7 := Lib.hid (D_6.out.to hp)
      clear hp  HP_6 HW_6 L_6 R_6 L2_6 R2_6 A_6 B_6 C_6 D_6
      obtain ⟨ck, hck⟩ : ∃ x, checkL L = x := ⟨_, rfl⟩
      rw [hck]
      clear hck
      have he1 : (ck == ck) = true := by simp
      have he2 : (ee == ee) = true := by simp
      have he3 : (s1 == s1) = true := by simp
      have he4 : (s2 == s2) = true := by simp
      have he5 : (u1 == u1) = true := by simp
      have he6 : (u2 == u2) = true := by simp
      have a0 := A_7.out.at 0
      have a1 := A_7.out.at 1
      have al := A_7.out.lt
      have b0 := B_7.out.at 0
      have b1 := B_7.out.at 1
      have bl := B_7.out.lt
      have c0 := C_7.out.at 0
      have c1 := C_7.out.at 1
      have cl := C_7.out.lt
      have d0 := D_7.out.at 0
      have d1 := D_7.out.at 1
      have dl := D_7.out.lt
      go_wp2_with fail
      clear a0 a1 al
      clear b0 b1 bl
      clear c0 c1 cl
      clear d0 d1 dl
      refine (alikeLots_any v7 L p2 p c2 cap hLn L2_7.out L_7.out).mono ?_
      rintro e v8 ⟨rfl, hp⟩
      have HP_8 := Lib.hid (HP_7.out.trans hp)
      have HW_8 := Lib.hid (HW_7.out.to hp)
      have L_8 := Lib.hid (L_7.out.to hp)
      have R_8 := Lib.hid (R_7.out.to hp)
      have L2_8 := Lib.hid (L2_7.out.to hp)
      have R2_8 := Lib.hid (R2_7.out.to hp)
      have A_8 := Lib.hid (A_7.out.to hp)
      have B_8 := Lib.hid (B_7.out.to hp)
      have C_8 := Lib.hid (C_7.out.to hp)
      have D_8 := Lib.hid (D_7.out.to hp)
      clear hp  HP_7 HW_7 L_7 R_7 L2_7 R2_7 A_7 B_7 C_7 D_7
      go_wp2_with fail
      refine (alikeLongs_any v8 q2 q n d2 c f hnn R2_8.out R_8.out).mono ?_
      rintro e v9 ⟨rfl, hp⟩
      have HP_9 := Lib.hid (HP_8.out.trans hp)
      have HW_9 := Lib.hid (HW_8.out.to hp)
      have L_9 := Lib.hid (L_8.out.to hp)
      have R_9 := Lib.hid (R_8.out.to hp)
      have L2_9 := Lib.hid (L2_8.out.to hp)
      have R2_9 := Lib.hid (R2_8.out.to hp)
      have A_9 := Lib.hid (A_8.out.to hp)
      have B_9 := Lib.hid (B_8.out.to hp)
      have C_9 := Lib.hid (C_8.out.to hp)
      have D_9 := Lib.hid (D_8.out.to hp)
      clear hp  HP_8 HW_8 L_8 R_8 L2_8 R2_8 A_8 B_8 C_8 D_8
      go_wp2_with fail
      refine (Works_any v9 HW_9.out).mono ?_
      rintro e v10 ⟨rfl, hp⟩
      have HP_10 := Lib.hid (HP_9.out.trans hp)
      have HW_10 := Lib.hid (HW_9.out.to hp)
      have L_10 := Lib.hid (L_9.out.to hp)
      have R_10 := Lib.hid (R_9.out.to hp)
      have L2_10 := Lib.hid (L2_9.out.to hp)
      have R2_10 := Lib.hid (R2_9.out.to hp)
      have A_10 := Lib.hid (A_9.out.to hp)
      have B_10 := Lib.hid (B_9.out.to hp)
      have C_10 := Lib.hid (C_9.out.to hp)
      have D_10 := Lib.hid (D_9.out.to hp)
      clear hp  HP_9 HW_9 L_9 R_9 L2_9 R2_9 A_9 B_9 C_9 D_9
      go_wp2
      exact bodyPost_ret (v := .bool true) (by simp [results, Tryd.results3, go_sem]) rfl ⟨rfl, HP_10.out⟩
end Go.Proofs.YtgpfmnjianflaaaDoor
