/- Walk of the law's least. -/
import Derived.Test.YtgpfmnjianflaaaDoorR19
set_option linter.unusedSimpArgs false
set_option linter.unusedVariables false
set_option linter.constructorNameAsVariable false
namespace Go.Proofs.YtgpfmnjianflaaaDoor
open Go.RowKit

set_option maxRecDepth 20000 in
set_option maxHeartbeats 4000000 in
theorem least_any (w : World) (L : LT) (p : Option Addr) (cap : Nat) (t : Int) (hok : L.Ok) (ht : 0 ≤ t ∧ t ≤ 100) (hl : LotsAt w.heap.size w p L) (hg : Gl w) :
    Calls Tryd.prog 53 #[.slice p L.n cap, .int .i64 t] w fun e w' => e = .returned (.tuple #[.agg #[.int .i64 (atP L t).1, .int .i64 (atP L t).2], .bool (atE L t == 0), .bool true]) ∧ Pure w w' := by
  have hmx : Tryd.prog.follows .mixedOrders = true := by kernel_rfl
  have HG := Lib.hid hg
  have HL := Lib.hid hl
  have HOK := Lib.hid hok
  have HT := Lib.hid ht
  have HN8 := Lib.hid hok.n8
  have hLn : L.n ≤ 1000 := by have := hok.n8; omega
  have hj := least_join hok ht
  have HJC := Lib.hid hj
  clear hg hl hok ht hj
  go_enter Tryd.func53, Tryd.ntmps53
  go_wp2_with fail
  obtain ⟨X, hX⟩ : ∃ V : World, w.alloc (.cells #[.int .i64 0, .int .i64 0] 29) = V := ⟨_, rfl⟩
  have k0 : Blk w.heap.size 29 #[.int .i64 0, .int .i64 0] X := by rw [← hX]; exact Blk.new _ _ _
  have hP : Pure w X := by rw [← hX]; exact (Diff.refl _).alloc _
  rw [hX]
  have HR0 := Lib.hid k0
  have HP0 := Lib.hid hP
  have HG0 := Lib.hid (HG.out.to hP)
  have HL0 := Lib.hid (HL.out.to hP)
  clear hX k0 hP
  obtain ⟨gr, hgr⟩ : ∃ g, w.heap.size = g := ⟨_, rfl⟩
  have HGR := Lib.hid hgr
  rw [hgr] at HR0 ⊢
  clear hgr
  refine (AtLeast_any X L p cap t hLn HL0.out HG0.out).mono ?_
  rintro e v0 ⟨rfl, hp⟩
  have HP_0 := Lib.hid (HP0.out.trans hp)
  have HW_0 := Lib.hid (HG0.out.to hp)
  have L_0 := Lib.hid (HL0.out.to hp)
  have R_0 := Lib.hid (HR0.out.to hp)
  clear hp  HP0 HG0 HL0 HR0
  obtain ⟨q1, hq1⟩ : ∃ zz, (atP L t).1 = zz := ⟨_, rfl⟩
  obtain ⟨q2, hq2⟩ : ∃ zz, (atP L t).2 = zz := ⟨_, rfl⟩
  obtain ⟨ce, hce⟩ : ∃ zz, atE L t = zz := ⟨_, rfl⟩
  have HEQ : Hid ((atP L t).1 = q1 ∧ (atP L t).2 = q2 ∧ atE L t = ce) := ⟨hq1, hq2, hce⟩
  rw [hq1, hq2, hce] at HJC ⊢
  clear hq1 hq2 hce
  go_wp2_with fail
  have HN_A : Hid (gr < v0.heap.size) := by have := R_0.out.lt; show gr < _; omega
  obtain ⟨X1, hX1⟩ : ∃ V : World, v0.alloc (Obj.cells #[Value.int IntKind.i64 q1, Value.int IntKind.i64 q2] 29) = V := ⟨_, rfl⟩
  have hpX1 : Pure v0 X1 := by rw [← hX1]; exact ((Diff.refl v0).alloc _)
  have bA : Blk (v0.heap.size) 29 #[Value.int IntKind.i64 q1, Value.int IntKind.i64 q2] X1 := by rw [← hX1]; exact (blk0 v0 29 _)
  rw [hX1]
  obtain ⟨g1_0, hg1_0⟩ : ∃ g, v0.heap.size = g := ⟨_, rfl⟩
  rw [hg1_0] at bA HN_A ⊢
  have HP_1 := Lib.hid (HP_0.out.trans hpX1)
  have HW_1 := Lib.hid (HW_0.out.to hpX1)
  have L_1 := Lib.hid (L_0.out.to hpX1)
  have R_1 := Lib.hid (R_0.out.to hpX1)
  have A_1 := Lib.hid bA
  clear hX1 hpX1 hg1_0 bA HP_0 HW_0 L_0 R_0
  go_wp2_with fail
  refine (Floor_any X1 L p cap t hLn L_1.out HW_1.out).mono ?_
  rintro e v2 ⟨rfl, hp⟩
  have HP_2 := Lib.hid (HP_1.out.trans hp)
  have HW_2 := Lib.hid (HW_1.out.to hp)
  have L_2 := Lib.hid (L_1.out.to hp)
  have R_2 := Lib.hid (R_1.out.to hp)
  have A_2 := Lib.hid (A_1.out.to hp)
  clear hp  HP_1 HW_1 L_1 R_1 A_1
  rw [HEQ.out.2.2]
  by_cases hc : ce = 0
  · obtain rfl := hc
    have HSM : Hid (Sm q1 q2) := by
      rcases HJC.out with ⟨_, _, _, h⟩ | ⟨_, h, _⟩
      · exact h
      · exact absurd h (by decide)
    obtain ⟨l1, hl1⟩ : ∃ zz, (floorOf L t).1 = zz := ⟨_, rfl⟩
    obtain ⟨l2, hl2⟩ : ∃ zz, (floorOf L t).2.1 = zz := ⟨_, rfl⟩
    obtain ⟨l3, hl3⟩ : ∃ zz, (floorOf L t).2.2 = zz := ⟨_, rfl⟩
    have HLJ : Hid ((lineP L (l1, l2, l3) t).1 = q1 ∧ (lineP L (l1, l2, l3) t).2 = q2 ∧ lineE L (l1, l2, l3) t = 0 ∧ 0 ≤ l3) := by
      have e : floorOf L t = (l1, l2, l3) := by rw [← hl1, ← hl2, ← hl3]
      have h := floor_join HEQ.out.2.2
      rw [e] at h
      exact ⟨by rw [h.2.2.2.2]; exact HEQ.out.1, by rw [h.2.2.2.2]; exact HEQ.out.2.1, h.2.2.2.1, h.2.2.1⟩
    rw [hl1, hl2, hl3]
    clear hl1 hl2 hl3
    go_wp2_with fail
    have HN_C : Hid (gr < v2.heap.size) := by have := R_2.out.lt; show gr < _; omega
    obtain ⟨X3, hX3⟩ : ∃ V : World, v2.alloc (Obj.cells #[Value.int IntKind.i64 l1, Value.int IntKind.i64 l2, Value.int IntKind.i64 l3] 45) = V := ⟨_, rfl⟩
    have hpX3 : Pure v2 X3 := by rw [← hX3]; exact ((Diff.refl v2).alloc _)
    have bC : Blk (v2.heap.size) 45 #[Value.int IntKind.i64 l1, Value.int IntKind.i64 l2, Value.int IntKind.i64 l3] X3 := by rw [← hX3]; exact (blk0 v2 45 _)
    rw [hX3]
    obtain ⟨g3_0, hg3_0⟩ : ∃ g, v2.heap.size = g := ⟨_, rfl⟩
    rw [hg3_0] at bC HN_C ⊢
    have HP_3 := Lib.hid (HP_2.out.trans hpX3)
    have HW_3 := Lib.hid (HW_2.out.to hpX3)
    have L_3 := Lib.hid (L_2.out.to hpX3)
    have R_3 := Lib.hid (R_2.out.to hpX3)
    have A_3 := Lib.hid (A_2.out.to hpX3)
    have C_3 := Lib.hid bC
    clear hX3 hpX3 hg3_0 bC HP_2 HW_2 L_2 R_2 A_2
    have c0 := C_3.out.at 0
    have c1 := C_3.out.at 1
    have c2 := C_3.out.at 2
    have cl := C_3.out.lt
    go_wp2_with fail
    clear c0 c1 c2 cl
    refine (CheckLine_any X3 L p cap l1 l2 l3 t hLn L_3.out HW_3.out).mono ?_
    rintro e v4 ⟨rfl, hp⟩
    have HP_4 := Lib.hid (HP_3.out.trans hp)
    have HW_4 := Lib.hid (HW_3.out.to hp)
    have L_4 := Lib.hid (L_3.out.to hp)
    have R_4 := Lib.hid (R_3.out.to hp)
    have A_4 := Lib.hid (A_3.out.to hp)
    have C_4 := Lib.hid (C_3.out.to hp)
    clear hp  HP_3 HW_3 L_3 R_3 A_3 C_3
    rw [HLJ.out.1, HLJ.out.2.1, HLJ.out.2.2.1]
    have c0 := C_4.out.at 0
    have c1 := C_4.out.at 1
    have c2 := C_4.out.at 2
    have cl := C_4.out.lt
    go_wp2_with fail
    clear c0 c1 c2 cl
    have HN_K : Hid (gr < v4.heap.size) := by have := R_4.out.lt; show gr < _; omega
    obtain ⟨X5, hX5⟩ : ∃ V : World, v4.alloc (Obj.cells #[Value.int IntKind.i64 q1, Value.int IntKind.i64 q2] 29) = V := ⟨_, rfl⟩
    have hpX5 : Pure v4 X5 := by rw [← hX5]; exact ((Diff.refl v4).alloc _)
    have bK : Blk (v4.heap.size) 29 #[Value.int IntKind.i64 q1, Value.int IntKind.i64 q2] X5 := by rw [← hX5]; exact (blk0 v4 29 _)
    rw [hX5]
    obtain ⟨g5_0, hg5_0⟩ : ∃ g, v4.heap.size = g := ⟨_, rfl⟩
    rw [hg5_0] at bK HN_K ⊢
    have HP_5 := Lib.hid (HP_4.out.trans hpX5)
    have HW_5 := Lib.hid (HW_4.out.to hpX5)
    have L_5 := Lib.hid (L_4.out.to hpX5)
    have R_5 := Lib.hid (R_4.out.to hpX5)
    have A_5 := Lib.hid (A_4.out.to hpX5)
    have C_5 := Lib.hid (C_4.out.to hpX5)
    have K_5 := Lib.hid bK
    clear hX5 hpX5 hg5_0 bK HP_4 HW_4 L_4 R_4 A_4 C_4
    have c0 := C_5.out.at 0
    have c1 := C_5.out.at 1
    have c2 := C_5.out.at 2
    have cl := C_5.out.lt
    go_wp2_with fail
    clear c0 c1 c2 cl
    refine (RCheckLine_any X5 L p cap l1 l2 l3 t hLn L_5.out).mono ?_
    rintro e v6 ⟨rfl, hp⟩
    have HP_6 := Lib.hid (HP_5.out.trans hp)
    have HW_6 := Lib.hid (HW_5.out.to hp)
    have L_6 := Lib.hid (L_5.out.to hp)
    have R_6 := Lib.hid (R_5.out.to hp)
    have A_6 := Lib.hid (A_5.out.to hp)
    have C_6 := Lib.hid (C_5.out.to hp)
    have K_6 := Lib.hid (K_5.out.to hp)
    clear hp  HP_5 HW_5 L_5 R_5 A_5 C_5 K_5
    rw [HLJ.out.1, HLJ.out.2.1, HLJ.out.2.2.1]
    go_wp2_with fail
    have HN_M : Hid (gr < v6.heap.size) := by have := R_6.out.lt; show gr < _; omega
    obtain ⟨X7, hX7⟩ : ∃ V : World, v6.alloc (Obj.cells #[Value.int IntKind.i64 q1, Value.int IntKind.i64 q2] 29) = V := ⟨_, rfl⟩
    have hpX7 : Pure v6 X7 := by rw [← hX7]; exact ((Diff.refl v6).alloc _)
    have bM : Blk (v6.heap.size) 29 #[Value.int IntKind.i64 q1, Value.int IntKind.i64 q2] X7 := by rw [← hX7]; exact (blk0 v6 29 _)
    rw [hX7]
    obtain ⟨g7_0, hg7_0⟩ : ∃ g, v6.heap.size = g := ⟨_, rfl⟩
    rw [hg7_0] at bM HN_M ⊢
    have HP_7 := Lib.hid (HP_6.out.trans hpX7)
    have HW_7 := Lib.hid (HW_6.out.to hpX7)
    have L_7 := Lib.hid (L_6.out.to hpX7)
    have R_7 := Lib.hid (R_6.out.to hpX7)
    have A_7 := Lib.hid (A_6.out.to hpX7)
    have C_7 := Lib.hid (C_6.out.to hpX7)
    have K_7 := Lib.hid (K_6.out.to hpX7)
    have M_7 := Lib.hid bM
    clear hX7 hpX7 hg7_0 bM HP_6 HW_6 L_6 R_6 A_6 C_6 K_6
    go_wp2_with fail
    refine reg_invW (fun d a W => a = { tmps := #[Value.slice p L.n cap, Value.int IntKind.i64 t, undef, undef, Value.pointer (some { block := gr, off := 0 }), (bif d 31 then Value.bool true else Value.bool false), (bif d 32 then Value.bool true else Value.bool false), Value.pointer (some { block := g1_0, off := 0 }), Value.int IntKind.i64 0, Value.pointer (some { block := g3_0, off := 0 }), Value.int IntKind.i64 0, Value.pointer (some { block := g5_0, off := 0 }), Value.int IntKind.i64 0, Value.pointer (some { block := g7_0, off := 0 }), Value.int IntKind.i64 0, Value.tuple #[Value.agg #[Value.int IntKind.i64 q1, Value.int IntKind.i64 q2], Value.int IntKind.i64 0], Value.slice p L.n cap, Value.int IntKind.i64 t, Value.tuple #[Value.agg #[Value.int IntKind.i64 q1, Value.int IntKind.i64 q2], Value.int IntKind.i64 0], Value.agg #[Value.int IntKind.i64 q1, Value.int IntKind.i64 q2], Value.int IntKind.i64 0, Value.tuple #[Value.agg #[Value.int IntKind.i64 l1, Value.int IntKind.i64 l2, Value.int IntKind.i64 l3], Value.int IntKind.i64 0], Value.slice p L.n cap, Value.int IntKind.i64 t, Value.tuple #[Value.agg #[Value.int IntKind.i64 l1, Value.int IntKind.i64 l2, Value.int IntKind.i64 l3], Value.int IntKind.i64 0], Value.agg #[Value.int IntKind.i64 l1, Value.int IntKind.i64 l2, Value.int IntKind.i64 l3], Value.int IntKind.i64 0, Value.int IntKind.i64 0, Value.bool false, undef, undef, undef, undef, undef, undef, undef, undef, undef, undef, undef, undef, undef, undef, undef, undef, undef, undef, Value.tuple #[Value.agg #[Value.int IntKind.i64 q1, Value.int IntKind.i64 q2], Value.int IntKind.i64 0], Value.slice p L.n cap, Value.agg #[Value.int IntKind.i64 l1, Value.int IntKind.i64 l2, Value.int IntKind.i64 l3], Value.int IntKind.i64 t, Value.tuple #[Value.agg #[Value.int IntKind.i64 q1, Value.int IntKind.i64 q2], Value.int IntKind.i64 0], Value.agg #[Value.int IntKind.i64 q1, Value.int IntKind.i64 q2], Value.int IntKind.i64 0, Value.tuple #[Value.agg #[Value.int IntKind.i64 q1, Value.int IntKind.i64 q2], Value.int IntKind.i64 0], Value.slice p L.n cap, Value.agg #[Value.int IntKind.i64 l1, Value.int IntKind.i64 l2, Value.int IntKind.i64 l3], Value.int IntKind.i64 t, Value.tuple #[Value.agg #[Value.int IntKind.i64 q1, Value.int IntKind.i64 q2], Value.int IntKind.i64 0], Value.agg #[Value.int IntKind.i64 q1, Value.int IntKind.i64 q2], Value.int IntKind.i64 0, (bif d 0 then Value.agg #[Value.int IntKind.i64 q1, Value.int IntKind.i64 q2] else undef), (bif d 1 then Value.int IntKind.i64 0 else undef), (bif d 2 then Value.bool true else undef), (bif d 3 then Value.bool true else undef), (bif d 4 then Value.agg #[Value.int IntKind.i64 q1, Value.int IntKind.i64 q2] else undef), (bif d 5 then Value.bool true else undef), (bif d 6 then Value.bool true else undef), (bif d 7 then Value.bool true else undef), (bif d 8 then Value.int IntKind.i64 0 else undef), (bif d 9 then Value.bool true else undef), (bif d 10 then Value.bool true else undef), (bif d 11 then Value.bool true else undef), (bif d 12 then Value.int IntKind.i64 0 else undef), (bif d 13 then Value.bool true else undef), (bif d 14 then Value.bool true else undef), (bif d 15 then Value.bool true else undef), (bif d 16 then Value.agg #[Value.int IntKind.i64 q1, Value.int IntKind.i64 q2] else undef), (bif d 17 then Value.agg #[Value.int IntKind.i64 q1, Value.int IntKind.i64 q2] else undef), (bif d 18 then Value.bool true else undef), (bif d 19 then Value.bool true else undef), (bif d 20 then Value.bool true else undef), (bif d 21 then Value.agg #[Value.int IntKind.i64 q1, Value.int IntKind.i64 q2] else undef), (bif d 22 then Value.agg #[Value.int IntKind.i64 q1, Value.int IntKind.i64 q2] else undef), (bif d 23 then Value.bool true else undef), (bif d 24 then Value.bool true else undef), (bif d 25 then Value.bool true else undef), (bif d 26 then Value.pointer (some { block := g3_0, off := 2 }) else undef), (bif d 27 then Value.int IntKind.i64 l3 else undef), (bif d 28 then Value.bool true else undef), (bif d 29 then Value.bool true else undef)], defers := [] } ∧ ST X7 gr (d 30) #[Value.int IntKind.i64 q1, Value.int IntKind.i64 q2] W) hmx (by kernel_rfl) ?_ ?_ ?_
    · exact ⟨rfl, ST.draw R_7.out⟩
    · refine ⟨?_, ?_, ?_, ?_, ?_, ?_, ?_, ?_, ?_, ?_, ?_, ?_, ?_, ?_, ?_, ?_, ?_, ?_, ?_, ?_, ?_, ?_, ?_, ?_, ?_, ?_, ?_, ?_, ?_, ?_, ?_, ?_, ?_, trivial⟩
      · rintro d a W hdi hdep hcl ⟨rfl, hw⟩ K hK
        have E := hcl.facts 0 hdi rfl hdep [] [30, 31, 32] (by kernel_rfl) (by kernel_rfl)
        simp only [AllT, AllF] at E
        clear hdi hdep hcl
        have zz := A_7.out.diff hw.diff (by have := HN_A.out; omega)
        have z0 := zz.at 0
        have z1 := zz.at 1
        have zl := zz.lt
        clear zz
        go_simp
        exact hK _ _ ⟨by simp [upd, E], by simpa [upd, E] using hw⟩
      · rintro d a W hdi hdep hcl ⟨rfl, hw⟩ K hK
        have E := hcl.facts 1 hdi rfl hdep [] [2, 3, 4, 5, 6, 7, 8, 9, 10, 11, 12, 13, 14, 15, 16, 17, 18, 19, 20, 21, 22, 23, 24, 25, 26, 27, 28, 29, 30, 31, 32] (by kernel_rfl) (by kernel_rfl)
        simp only [AllT, AllF] at E
        clear hdi hdep hcl
        go_simp
        exact hK _ _ ⟨by simp [upd, E], by simpa [upd, E] using hw⟩
      · rintro d a W hdi hdep hcl ⟨rfl, hw⟩ K hK
        have E := hcl.facts 2 hdi rfl hdep [1] [3, 4, 5, 6, 7, 8, 9, 10, 11, 12, 13, 14, 15, 16, 17, 18, 19, 20, 21, 22, 23, 24, 25, 26, 27, 28, 29, 30, 31, 32] (by kernel_rfl) (by kernel_rfl)
        simp only [AllT, AllF] at E
        clear hdi hdep hcl
        go_simp
        exact hK _ _ ⟨by simp [upd, E], by simpa [upd, E] using hw⟩
      · rintro d a W hdi hdep hcl ⟨rfl, hw⟩ K hK
        have E := hcl.facts 3 hdi rfl hdep [1, 2] [4, 5, 6, 7, 8, 9, 10, 11, 12, 13, 14, 15, 16, 17, 18, 19, 20, 21, 22, 23, 24, 25, 26, 27, 28, 29, 30, 31, 32] (by kernel_rfl) (by kernel_rfl)
        simp only [AllT, AllF] at E
        clear hdi hdep hcl
        go_simp
        exact hK _ _ ⟨by simp [upd, E], by simpa [upd, E] using hw⟩
      · rintro d a W hdi hdep hcl ⟨rfl, hw⟩ K hK
        have E := hcl.facts 4 hdi rfl hdep [1, 2, 3] [5, 6, 7, 8, 9, 10, 11, 12, 13, 14, 15, 16, 17, 18, 19, 20, 21, 22, 23, 24, 25, 26, 27, 28, 29, 30, 31, 32] (by kernel_rfl) (by kernel_rfl)
        simp only [AllT, AllF] at E
        clear hdi hdep hcl
        have zz := A_7.out.diff hw.diff (by have := HN_A.out; omega)
        have z0 := zz.at 0
        have z1 := zz.at 1
        have zl := zz.lt
        clear zz
        go_simp
        exact hK _ _ ⟨by simp [upd, E], by simpa [upd, E] using hw⟩
      · rintro d a W hdi hdep hcl ⟨rfl, hw⟩ K hK
        have E := hcl.facts 5 hdi rfl hdep [1, 2, 3, 4] [6, 7, 8, 9, 10, 11, 12, 13, 14, 15, 16, 17, 18, 19, 20, 21, 22, 23, 24, 25, 26, 27, 28, 29, 30, 31, 32] (by kernel_rfl) (by kernel_rfl)
        simp only [AllT, AllF] at E
        clear hdi hdep hcl
        go_simp
        refine Calls.mono (small_any W q1 q2 ⟨HSM.out.b0, by have := HSM.out.b1; omega⟩ ⟨HSM.out.a0, HSM.out.a1⟩ HSM.out.rd) ?_
        rintro e w9 ⟨rfl, hp9⟩
        exact hK _ _ ⟨by simp [upd, E], by simpa [upd, E] using hw.call hp9⟩
      · rintro d a W hdi hdep hcl ⟨rfl, hw⟩ K hK
        have E := hcl.facts 6 hdi rfl hdep [1, 2, 3, 4, 5] [7, 8, 9, 10, 11, 12, 13, 14, 15, 16, 17, 18, 19, 20, 21, 22, 23, 24, 25, 26, 27, 28, 29, 30, 31, 32] (by kernel_rfl) (by kernel_rfl)
        simp only [AllT, AllF] at E
        clear hdi hdep hcl
        go_simp
        exact hK _ _ ⟨by simp [upd, E], by simpa [upd, E] using hw⟩
      · rintro d a W hdi hdep hcl ⟨rfl, hw⟩ K hK
        have E := hcl.facts 7 hdi rfl hdep [1, 2, 3, 4, 5, 6] [8, 9, 10, 11, 12, 13, 14, 15, 16, 17, 18, 19, 20, 21, 22, 23, 24, 25, 26, 27, 28, 29, 30, 31, 32] (by kernel_rfl) (by kernel_rfl)
        simp only [AllT, AllF] at E
        clear hdi hdep hcl
        go_simp
        exact hK _ _ ⟨by simp [upd, E], by simpa [upd, E] using hw⟩
      · rintro d a W hdi hdep hcl ⟨rfl, hw⟩ K hK
        have E := hcl.facts 8 hdi rfl hdep [1, 2, 3, 4, 5, 6, 7] [9, 10, 11, 12, 13, 14, 15, 16, 17, 18, 19, 20, 21, 22, 23, 24, 25, 26, 27, 28, 29, 30, 31, 32] (by kernel_rfl) (by kernel_rfl)
        simp only [AllT, AllF] at E
        clear hdi hdep hcl
        go_simp
        exact hK _ _ ⟨by simp [upd, E], by simpa [upd, E] using hw⟩
      · rintro d a W hdi hdep hcl ⟨rfl, hw⟩ K hK
        have E := hcl.facts 9 hdi rfl hdep [1, 2, 3, 4, 5, 6, 7, 8] [10, 11, 12, 13, 14, 15, 16, 17, 18, 19, 20, 21, 22, 23, 24, 25, 26, 27, 28, 29, 30, 31, 32] (by kernel_rfl) (by kernel_rfl)
        simp only [AllT, AllF] at E
        clear hdi hdep hcl
        go_simp
        exact hK _ _ ⟨by simp [upd, E], by simpa [upd, E] using hw⟩
      · rintro d a W hdi hdep hcl ⟨rfl, hw⟩ K hK
        have E := hcl.facts 10 hdi rfl hdep [1, 2, 3, 4, 5, 6, 7, 8, 9] [11, 12, 13, 14, 15, 16, 17, 18, 19, 20, 21, 22, 23, 24, 25, 26, 27, 28, 29, 30, 31, 32] (by kernel_rfl) (by kernel_rfl)
        simp only [AllT, AllF] at E
        clear hdi hdep hcl
        go_simp
        exact hK _ _ ⟨by simp [upd, E], by simpa [upd, E] using hw⟩
      · rintro d a W hdi hdep hcl ⟨rfl, hw⟩ K hK
        have E := hcl.facts 11 hdi rfl hdep [1, 2, 3, 4, 5, 6, 7, 8, 9, 10] [12, 13, 14, 15, 16, 17, 18, 19, 20, 21, 22, 23, 24, 25, 26, 27, 28, 29, 30, 31, 32] (by kernel_rfl) (by kernel_rfl)
        simp only [AllT, AllF] at E
        clear hdi hdep hcl
        go_simp
        exact hK _ _ ⟨by simp [upd, E], by simpa [upd, E] using hw⟩
      · rintro d a W hdi hdep hcl ⟨rfl, hw⟩ K hK
        have E := hcl.facts 12 hdi rfl hdep [1, 2, 3, 4, 5, 6, 7, 8, 9, 10, 11] [13, 14, 15, 16, 17, 18, 19, 20, 21, 22, 23, 24, 25, 26, 27, 28, 29, 30, 31, 32] (by kernel_rfl) (by kernel_rfl)
        simp only [AllT, AllF] at E
        clear hdi hdep hcl
        go_simp
        exact hK _ _ ⟨by simp [upd, E], by simpa [upd, E] using hw⟩
      · rintro d a W hdi hdep hcl ⟨rfl, hw⟩ K hK
        have E := hcl.facts 13 hdi rfl hdep [1, 2, 3, 4, 5, 6, 7, 8, 9, 10, 11, 12] [14, 15, 16, 17, 18, 19, 20, 21, 22, 23, 24, 25, 26, 27, 28, 29, 30, 31, 32] (by kernel_rfl) (by kernel_rfl)
        simp only [AllT, AllF] at E
        clear hdi hdep hcl
        go_simp
        exact hK _ _ ⟨by simp [upd, E], by simpa [upd, E] using hw⟩
      · rintro d a W hdi hdep hcl ⟨rfl, hw⟩ K hK
        have E := hcl.facts 14 hdi rfl hdep [1, 2, 3, 4, 5, 6, 7, 8, 9, 10, 11, 12, 13] [15, 16, 17, 18, 19, 20, 21, 22, 23, 24, 25, 26, 27, 28, 29, 30, 31, 32] (by kernel_rfl) (by kernel_rfl)
        simp only [AllT, AllF] at E
        clear hdi hdep hcl
        go_simp
        exact hK _ _ ⟨by simp [upd, E], by simpa [upd, E] using hw⟩
      · rintro d a W hdi hdep hcl ⟨rfl, hw⟩ K hK
        have E := hcl.facts 15 hdi rfl hdep [1, 2, 3, 4, 5, 6, 7, 8, 9, 10, 11, 12, 13, 14] [16, 17, 18, 19, 20, 21, 22, 23, 24, 25, 26, 27, 28, 29, 30, 31, 32] (by kernel_rfl) (by kernel_rfl)
        simp only [AllT, AllF] at E
        clear hdi hdep hcl
        go_simp
        exact hK _ _ ⟨by simp [upd, E], by simpa [upd, E] using hw⟩
      · rintro d a W hdi hdep hcl ⟨rfl, hw⟩ K hK
        have E := hcl.facts 16 hdi rfl hdep [1, 2, 3, 4, 5, 6, 7, 8, 9, 10, 11, 12, 13, 14, 15] [18, 19, 20, 21, 22, 23, 24, 25, 26, 27, 28, 29, 30, 31, 32] (by kernel_rfl) (by kernel_rfl)
        simp only [AllT, AllF] at E
        clear hdi hdep hcl
        have zz := K_7.out.diff hw.diff (by have := HN_K.out; omega)
        have z0 := zz.at 0
        have z1 := zz.at 1
        have zl := zz.lt
        clear zz
        go_simp
        exact hK _ _ ⟨by simp [upd, E], by simpa [upd, E] using hw⟩
      · rintro d a W hdi hdep hcl ⟨rfl, hw⟩ K hK
        have E := hcl.facts 17 hdi rfl hdep [1, 2, 3, 4, 5, 6, 7, 8, 9, 10, 11, 12, 13, 14, 15] [18, 19, 20, 21, 22, 23, 24, 25, 26, 27, 28, 29, 30, 31, 32] (by kernel_rfl) (by kernel_rfl)
        simp only [AllT, AllF] at E
        clear hdi hdep hcl
        have zz := A_7.out.diff hw.diff (by have := HN_A.out; omega)
        have z0 := zz.at 0
        have z1 := zz.at 1
        have zl := zz.lt
        clear zz
        go_simp
        exact hK _ _ ⟨by simp [upd, E], by simpa [upd, E] using hw⟩
      · rintro d a W hdi hdep hcl ⟨rfl, hw⟩ K hK
        have E := hcl.facts 18 hdi rfl hdep [1, 2, 3, 4, 5, 6, 7, 8, 9, 10, 11, 12, 13, 14, 15, 16, 17] [19, 20, 21, 22, 23, 24, 25, 26, 27, 28, 29, 30, 31, 32] (by kernel_rfl) (by kernel_rfl)
        simp only [AllT, AllF] at E
        clear hdi hdep hcl
        go_simp
        exact hK _ _ ⟨by simp [upd, E], by simpa [upd, E] using hw⟩
      · rintro d a W hdi hdep hcl ⟨rfl, hw⟩ K hK
        have E := hcl.facts 19 hdi rfl hdep [1, 2, 3, 4, 5, 6, 7, 8, 9, 10, 11, 12, 13, 14, 15, 16, 17, 18] [20, 21, 22, 23, 24, 25, 26, 27, 28, 29, 30, 31, 32] (by kernel_rfl) (by kernel_rfl)
        simp only [AllT, AllF] at E
        clear hdi hdep hcl
        go_simp
        exact hK _ _ ⟨by simp [upd, E], by simpa [upd, E] using hw⟩
      · rintro d a W hdi hdep hcl ⟨rfl, hw⟩ K hK
        have E := hcl.facts 20 hdi rfl hdep [1, 2, 3, 4, 5, 6, 7, 8, 9, 10, 11, 12, 13, 14, 15, 16, 17, 18, 19] [21, 22, 23, 24, 25, 26, 27, 28, 29, 30, 31, 32] (by kernel_rfl) (by kernel_rfl)
        simp only [AllT, AllF] at E
        clear hdi hdep hcl
        go_simp
        exact hK _ _ ⟨by simp [upd, E], by simpa [upd, E] using hw⟩
      · rintro d a W hdi hdep hcl ⟨rfl, hw⟩ K hK
        have E := hcl.facts 21 hdi rfl hdep [1, 2, 3, 4, 5, 6, 7, 8, 9, 10, 11, 12, 13, 14, 15, 16, 17, 18, 19, 20] [23, 24, 25, 26, 27, 28, 29, 30, 31, 32] (by kernel_rfl) (by kernel_rfl)
        simp only [AllT, AllF] at E
        clear hdi hdep hcl
        have zz := M_7.out.diff hw.diff (by have := HN_M.out; omega)
        have z0 := zz.at 0
        have z1 := zz.at 1
        have zl := zz.lt
        clear zz
        go_simp
        exact hK _ _ ⟨by simp [upd, E], by simpa [upd, E] using hw⟩
      · rintro d a W hdi hdep hcl ⟨rfl, hw⟩ K hK
        have E := hcl.facts 22 hdi rfl hdep [1, 2, 3, 4, 5, 6, 7, 8, 9, 10, 11, 12, 13, 14, 15, 16, 17, 18, 19, 20] [23, 24, 25, 26, 27, 28, 29, 30, 31, 32] (by kernel_rfl) (by kernel_rfl)
        simp only [AllT, AllF] at E
        clear hdi hdep hcl
        have zz := A_7.out.diff hw.diff (by have := HN_A.out; omega)
        have z0 := zz.at 0
        have z1 := zz.at 1
        have zl := zz.lt
        clear zz
        go_simp
        exact hK _ _ ⟨by simp [upd, E], by simpa [upd, E] using hw⟩
      · rintro d a W hdi hdep hcl ⟨rfl, hw⟩ K hK
        have E := hcl.facts 23 hdi rfl hdep [1, 2, 3, 4, 5, 6, 7, 8, 9, 10, 11, 12, 13, 14, 15, 16, 17, 18, 19, 20, 21, 22] [24, 25, 26, 27, 28, 29, 30, 31, 32] (by kernel_rfl) (by kernel_rfl)
        simp only [AllT, AllF] at E
        clear hdi hdep hcl
        go_simp
        exact hK _ _ ⟨by simp [upd, E], by simpa [upd, E] using hw⟩
      · rintro d a W hdi hdep hcl ⟨rfl, hw⟩ K hK
        have E := hcl.facts 24 hdi rfl hdep [1, 2, 3, 4, 5, 6, 7, 8, 9, 10, 11, 12, 13, 14, 15, 16, 17, 18, 19, 20, 21, 22, 23] [25, 26, 27, 28, 29, 30, 31, 32] (by kernel_rfl) (by kernel_rfl)
        simp only [AllT, AllF] at E
        clear hdi hdep hcl
        go_simp
        exact hK _ _ ⟨by simp [upd, E], by simpa [upd, E] using hw⟩
      · rintro d a W hdi hdep hcl ⟨rfl, hw⟩ K hK
        have E := hcl.facts 25 hdi rfl hdep [1, 2, 3, 4, 5, 6, 7, 8, 9, 10, 11, 12, 13, 14, 15, 16, 17, 18, 19, 20, 21, 22, 23, 24] [26, 27, 28, 29, 30, 31, 32] (by kernel_rfl) (by kernel_rfl)
        simp only [AllT, AllF] at E
        clear hdi hdep hcl
        go_simp
        exact hK _ _ ⟨by simp [upd, E], by simpa [upd, E] using hw⟩
      · rintro d a W hdi hdep hcl ⟨rfl, hw⟩ K hK
        have E := hcl.facts 26 hdi rfl hdep [1, 2, 3, 4, 5, 6, 7, 8, 9, 10, 11, 12, 13, 14, 15, 16, 17, 18, 19, 20, 21, 22, 23, 24, 25] [27, 28, 29, 32] (by kernel_rfl) (by kernel_rfl)
        simp only [AllT, AllF] at E
        clear hdi hdep hcl
        go_simp
        exact hK _ _ ⟨by simp [upd, E], by simpa [upd, E] using hw⟩
      · rintro d a W hdi hdep hcl ⟨rfl, hw⟩ K hK
        have E := hcl.facts 27 hdi rfl hdep [1, 2, 3, 4, 5, 6, 7, 8, 9, 10, 11, 12, 13, 14, 15, 16, 17, 18, 19, 20, 21, 22, 23, 24, 25, 26] [28, 29, 32] (by kernel_rfl) (by kernel_rfl)
        simp only [AllT, AllF] at E
        clear hdi hdep hcl
        have zz := C_7.out.diff hw.diff (by have := HN_C.out; omega)
        have z0 := zz.at 0
        have z1 := zz.at 1
        have z2 := zz.at 2
        have zl := zz.lt
        clear zz
        go_simp
        exact hK _ _ ⟨by simp [upd, E], by simpa [upd, E] using hw⟩
      · rintro d a W hdi hdep hcl ⟨rfl, hw⟩ K hK
        have E := hcl.facts 28 hdi rfl hdep [1, 2, 3, 4, 5, 6, 7, 8, 9, 10, 11, 12, 13, 14, 15, 16, 17, 18, 19, 20, 21, 22, 23, 24, 25, 26, 27] [29, 32] (by kernel_rfl) (by kernel_rfl)
        simp only [AllT, AllF] at E
        clear hdi hdep hcl
        have hl3 := HLJ.out.2.2.2
        go_simp
        exact hK _ _ ⟨by simp [upd, E], by simpa [upd, E] using hw⟩
      · rintro d a W hdi hdep hcl ⟨rfl, hw⟩ K hK
        have E := hcl.facts 29 hdi rfl hdep [1, 2, 3, 4, 5, 6, 7, 8, 9, 10, 11, 12, 13, 14, 15, 16, 17, 18, 19, 20, 21, 22, 23, 24, 25, 26, 27, 28] [32] (by kernel_rfl) (by kernel_rfl)
        simp only [AllT, AllF] at E
        clear hdi hdep hcl
        go_simp
        exact hK _ _ ⟨by simp [upd, E], by simpa [upd, E] using hw⟩
      · rintro d a W hdi hdep hcl ⟨rfl, hw⟩ K hK
        have E := hcl.facts 30 hdi rfl hdep [0, 1, 2, 3, 4, 5, 6, 7, 8, 9, 10, 11, 12, 13, 14, 15, 16, 17, 18, 19, 20, 21, 22, 23, 24, 25] [31, 32] (by kernel_rfl) (by kernel_rfl)
        simp only [AllT, AllF] at E
        clear hdi hdep hcl
        simp only [E] at hw
        have z := hw.blk
        have z0 := z.at 0
        have z1 := z.at 1
        have fz := fun o => z.fz o
        have zl := z.lt
        simp only [cond_false] at z0 z1
        go_simp
        exact hK _ _ ⟨by simp [upd, E], by simpa [upd, E] using hw.set⟩
      · rintro d a W hdi hdep hcl ⟨rfl, hw⟩ K hK
        have E := hcl.facts 31 hdi rfl hdep [0, 1, 2, 3, 4, 5, 6, 7, 8, 9, 10, 11, 12, 13, 14, 15, 16, 17, 18, 19, 20, 21, 22, 23, 24, 25, 30] [32] (by kernel_rfl) (by kernel_rfl)
        simp only [AllT, AllF] at E
        clear hdi hdep hcl
        go_simp
        exact hK _ _ ⟨by simp [upd, E], by simpa [upd, E] using hw⟩
      · rintro d a W hdi hdep hcl ⟨rfl, hw⟩ K hK
        have E := hcl.facts 32 hdi rfl hdep [0, 1, 2, 3, 4, 5, 6, 7, 8, 9, 10, 11, 12, 13, 14, 15, 16, 17, 18, 19, 20, 21, 22, 23, 24, 25, 26, 27, 28, 29, 30, 31] [] (by kernel_rfl) (by kernel_rfl)
        simp only [AllT, AllF] at E
        clear hdi hdep hcl
        go_simp
        exact hK _ _ ⟨by simp [upd, E], by simpa [upd, E] using hw⟩
    · rintro d a W hall ⟨rfl, hw⟩
      have E := AllT.all hall [0, 1, 2, 3, 4, 5, 6, 7, 8, 9, 10, 11, 12, 13, 14, 15, 16, 17, 18, 19, 20, 21, 22, 23, 24, 25, 26, 27, 28, 29, 30, 31, 32] (by kernel_rfl)
      simp only [AllT] at E
      simp only [E, cond_true] at hw ⊢
      clear E hall
      have HPW : Pure w W := HP_7.out.trans' hw.diff (fun x hx e => by have e' : x = gr := e; have := HGR.out; omega)
      have z := hw.blk
      simp only [cond_true] at z
      clear hw
      go_wp2
      exact bodyPost_ret (v := .tuple #[.agg #[.int .i64 q1, .int .i64 q2], .bool true, .bool true]) (by simp [results, Tryd.results53, go_sem, z.at 0, z.at 1]) rfl ⟨by rw [HEQ.out.1, HEQ.out.2.1, HEQ.out.2.2] <;> rfl, HPW⟩
  · obtain ⟨rfl, rfl, rfl⟩ : q1 = 0 ∧ q2 = 0 ∧ ce = 19 := by
      rcases HJC.out with ⟨_, h, _⟩ | ⟨_, h, h2⟩
      · exact absurd h hc
      · exact ⟨by rw [← HEQ.out.1, h2], by rw [← HEQ.out.2.1, h2], h⟩
    have e0 : floorOf L t = (0, 0, 0) := by unfold floorOf; rw [if_neg (by rw [HEQ.out.2.2]; decide)]; rfl
    rw [e0]
    clear e0
    have a0 := A_2.out.at 0
    have a1 := A_2.out.at 1
    have al := A_2.out.lt
    go_wp2_with fail
    clear a0 a1 al
    have HN_C : Hid (gr < v2.heap.size) := by have := R_2.out.lt; show gr < _; omega
    obtain ⟨X3, hX3⟩ : ∃ V : World, v2.alloc (Obj.cells #[Value.int IntKind.i64 0, Value.int IntKind.i64 0, Value.int IntKind.i64 0] 45) = V := ⟨_, rfl⟩
    have hpX3 : Pure v2 X3 := by rw [← hX3]; exact ((Diff.refl v2).alloc _)
    have bC : Blk (v2.heap.size) 45 #[Value.int IntKind.i64 0, Value.int IntKind.i64 0, Value.int IntKind.i64 0] X3 := by rw [← hX3]; exact (blk0 v2 45 _)
    rw [hX3]
    obtain ⟨g3_0, hg3_0⟩ : ∃ g, v2.heap.size = g := ⟨_, rfl⟩
    rw [hg3_0] at bC HN_C ⊢
    have HP_3 := Lib.hid (HP_2.out.trans hpX3)
    have HW_3 := Lib.hid (HW_2.out.to hpX3)
    have L_3 := Lib.hid (L_2.out.to hpX3)
    have R_3 := Lib.hid (R_2.out.to hpX3)
    have A_3 := Lib.hid (A_2.out.to hpX3)
    have C_3 := Lib.hid bC
    clear hX3 hpX3 hg3_0 bC HP_2 HW_2 L_2 R_2 A_2
    go_wp2_with fail
    refine reg_invW (fun d a W => a = { tmps := #[Value.slice p L.n cap, Value.int IntKind.i64 t, undef, undef, Value.pointer (some { block := gr, off := 0 }), (bif d 19 then Value.bool false else Value.bool false), (bif d 20 then Value.bool true else Value.bool false), Value.pointer (some { block := g1_0, off := 0 }), Value.int IntKind.i64 19, Value.pointer (some { block := g3_0, off := 0 }), Value.int IntKind.i64 19, undef, undef, undef, undef, Value.tuple #[Value.agg #[Value.int IntKind.i64 0, Value.int IntKind.i64 0], Value.int IntKind.i64 19], Value.slice p L.n cap, Value.int IntKind.i64 t, Value.tuple #[Value.agg #[Value.int IntKind.i64 0, Value.int IntKind.i64 0], Value.int IntKind.i64 19], Value.agg #[Value.int IntKind.i64 0, Value.int IntKind.i64 0], Value.int IntKind.i64 19, Value.tuple #[Value.agg #[Value.int IntKind.i64 0, Value.int IntKind.i64 0, Value.int IntKind.i64 0], Value.int IntKind.i64 19], Value.slice p L.n cap, Value.int IntKind.i64 t, Value.tuple #[Value.agg #[Value.int IntKind.i64 0, Value.int IntKind.i64 0, Value.int IntKind.i64 0], Value.int IntKind.i64 19], Value.agg #[Value.int IntKind.i64 0, Value.int IntKind.i64 0, Value.int IntKind.i64 0], Value.int IntKind.i64 19, Value.int IntKind.i64 19, Value.bool true, (bif d 0 then Value.agg #[Value.int IntKind.i64 0, Value.int IntKind.i64 0] else undef), (bif d 1 then Value.int IntKind.i64 19 else undef), (bif d 2 then Value.bool true else undef), (bif d 3 then Value.bool true else undef), (bif d 4 then Value.int IntKind.i64 19 else undef), (bif d 5 then Value.int IntKind.i64 19 else undef), (bif d 6 then Value.bool true else undef), (bif d 7 then Value.bool true else undef), (bif d 8 then Value.bool true else undef), (bif d 9 then Value.agg #[Value.int IntKind.i64 0, Value.int IntKind.i64 0] else undef), (bif d 10 then Value.agg #[Value.int IntKind.i64 0, Value.int IntKind.i64 0] else undef), (bif d 11 then Value.bool true else undef), (bif d 12 then Value.bool true else undef), (bif d 13 then Value.bool true else undef), (bif d 14 then Value.agg #[Value.int IntKind.i64 0, Value.int IntKind.i64 0, Value.int IntKind.i64 0] else undef), (bif d 15 then Value.agg #[Value.int IntKind.i64 0, Value.int IntKind.i64 0, Value.int IntKind.i64 0] else undef), (bif d 16 then Value.bool true else undef), (bif d 17 then Value.bool true else undef), undef, undef, undef, undef, undef, undef, undef, undef, undef, undef, undef, undef, undef, undef, undef, undef, undef, undef, undef, undef, undef, undef, undef, undef, undef, undef, undef, undef, undef, undef, undef, undef, undef, undef, undef, undef, undef, undef, undef, undef, undef, undef, undef, undef], defers := [] } ∧ ST X3 gr (d 18) #[Value.int IntKind.i64 0, Value.int IntKind.i64 0] W) hmx (by kernel_rfl) ?_ ?_ ?_
    · exact ⟨rfl, ST.draw R_3.out⟩
    · refine ⟨?_, ?_, ?_, ?_, ?_, ?_, ?_, ?_, ?_, ?_, ?_, ?_, ?_, ?_, ?_, ?_, ?_, ?_, ?_, ?_, ?_, trivial⟩
      · rintro d a W hdi hdep hcl ⟨rfl, hw⟩ K hK
        have E := hcl.facts 0 hdi rfl hdep [] [18, 19, 20] (by kernel_rfl) (by kernel_rfl)
        simp only [AllT, AllF] at E
        clear hdi hdep hcl
        have zz := A_3.out.diff hw.diff (by have := HN_A.out; omega)
        have z0 := zz.at 0
        have z1 := zz.at 1
        have zl := zz.lt
        clear zz
        go_simp
        exact hK _ _ ⟨by simp [upd, E], by simpa [upd, E] using hw⟩
      · rintro d a W hdi hdep hcl ⟨rfl, hw⟩ K hK
        have E := hcl.facts 1 hdi rfl hdep [] [2, 3, 4, 5, 6, 7, 8, 9, 10, 11, 12, 13, 14, 15, 16, 17, 18, 19, 20] (by kernel_rfl) (by kernel_rfl)
        simp only [AllT, AllF] at E
        clear hdi hdep hcl
        go_simp
        exact hK _ _ ⟨by simp [upd, E], by simpa [upd, E] using hw⟩
      · rintro d a W hdi hdep hcl ⟨rfl, hw⟩ K hK
        have E := hcl.facts 2 hdi rfl hdep [1] [3, 4, 5, 6, 7, 8, 9, 10, 11, 12, 13, 14, 15, 16, 17, 18, 19, 20] (by kernel_rfl) (by kernel_rfl)
        simp only [AllT, AllF] at E
        clear hdi hdep hcl
        go_simp
        exact hK _ _ ⟨by simp [upd, E], by simpa [upd, E] using hw⟩
      · rintro d a W hdi hdep hcl ⟨rfl, hw⟩ K hK
        have E := hcl.facts 3 hdi rfl hdep [1, 2] [4, 5, 6, 7, 8, 9, 10, 11, 12, 13, 14, 15, 16, 17, 18, 19, 20] (by kernel_rfl) (by kernel_rfl)
        simp only [AllT, AllF] at E
        clear hdi hdep hcl
        go_simp
        exact hK _ _ ⟨by simp [upd, E], by simpa [upd, E] using hw⟩
      · rintro d a W hdi hdep hcl ⟨rfl, hw⟩ K hK
        have E := hcl.facts 4 hdi rfl hdep [1, 2, 3] [6, 7, 8, 9, 10, 11, 12, 13, 14, 15, 16, 17, 18, 19, 20] (by kernel_rfl) (by kernel_rfl)
        simp only [AllT, AllF] at E
        clear hdi hdep hcl
        go_simp
        exact hK _ _ ⟨by simp [upd, E], by simpa [upd, E] using hw⟩
      · rintro d a W hdi hdep hcl ⟨rfl, hw⟩ K hK
        have E := hcl.facts 5 hdi rfl hdep [1, 2, 3] [6, 7, 8, 9, 10, 11, 12, 13, 14, 15, 16, 17, 18, 19, 20] (by kernel_rfl) (by kernel_rfl)
        simp only [AllT, AllF] at E
        clear hdi hdep hcl
        go_simp
        exact hK _ _ ⟨by simp [upd, E], by simpa [upd, E] using hw⟩
      · rintro d a W hdi hdep hcl ⟨rfl, hw⟩ K hK
        have E := hcl.facts 6 hdi rfl hdep [1, 2, 3, 4, 5] [7, 8, 9, 10, 11, 12, 13, 14, 15, 16, 17, 18, 19, 20] (by kernel_rfl) (by kernel_rfl)
        simp only [AllT, AllF] at E
        clear hdi hdep hcl
        go_simp
        exact hK _ _ ⟨by simp [upd, E], by simpa [upd, E] using hw⟩
      · rintro d a W hdi hdep hcl ⟨rfl, hw⟩ K hK
        have E := hcl.facts 7 hdi rfl hdep [1, 2, 3, 4, 5, 6] [8, 9, 10, 11, 12, 13, 14, 15, 16, 17, 18, 19, 20] (by kernel_rfl) (by kernel_rfl)
        simp only [AllT, AllF] at E
        clear hdi hdep hcl
        go_simp
        exact hK _ _ ⟨by simp [upd, E], by simpa [upd, E] using hw⟩
      · rintro d a W hdi hdep hcl ⟨rfl, hw⟩ K hK
        have E := hcl.facts 8 hdi rfl hdep [1, 2, 3, 4, 5, 6, 7] [9, 10, 11, 12, 13, 14, 15, 16, 17, 18, 19, 20] (by kernel_rfl) (by kernel_rfl)
        simp only [AllT, AllF] at E
        clear hdi hdep hcl
        go_simp
        exact hK _ _ ⟨by simp [upd, E], by simpa [upd, E] using hw⟩
      · rintro d a W hdi hdep hcl ⟨rfl, hw⟩ K hK
        have E := hcl.facts 9 hdi rfl hdep [1, 2, 3, 4, 5, 6, 7, 8] [11, 12, 13, 14, 15, 16, 17, 18, 19, 20] (by kernel_rfl) (by kernel_rfl)
        simp only [AllT, AllF] at E
        clear hdi hdep hcl
        have zz := A_3.out.diff hw.diff (by have := HN_A.out; omega)
        have z0 := zz.at 0
        have z1 := zz.at 1
        have zl := zz.lt
        clear zz
        go_simp
        exact hK _ _ ⟨by simp [upd, E], by simpa [upd, E] using hw⟩
      · rintro d a W hdi hdep hcl ⟨rfl, hw⟩ K hK
        have E := hcl.facts 10 hdi rfl hdep [1, 2, 3, 4, 5, 6, 7, 8] [11, 12, 13, 14, 15, 16, 17, 18, 19, 20] (by kernel_rfl) (by kernel_rfl)
        simp only [AllT, AllF] at E
        clear hdi hdep hcl
        go_simp
        refine Calls.mono (lby_any W 0 0) ?_
        rintro e w9 ⟨rfl, hp9⟩
        exact hK _ _ ⟨by simp [upd, E], by simpa [upd, E] using hw.call hp9⟩
      · rintro d a W hdi hdep hcl ⟨rfl, hw⟩ K hK
        have E := hcl.facts 11 hdi rfl hdep [1, 2, 3, 4, 5, 6, 7, 8, 9, 10] [12, 13, 14, 15, 16, 17, 18, 19, 20] (by kernel_rfl) (by kernel_rfl)
        simp only [AllT, AllF] at E
        clear hdi hdep hcl
        go_simp
        exact hK _ _ ⟨by simp [upd, E], by simpa [upd, E] using hw⟩
      · rintro d a W hdi hdep hcl ⟨rfl, hw⟩ K hK
        have E := hcl.facts 12 hdi rfl hdep [1, 2, 3, 4, 5, 6, 7, 8, 9, 10, 11] [13, 14, 15, 16, 17, 18, 19, 20] (by kernel_rfl) (by kernel_rfl)
        simp only [AllT, AllF] at E
        clear hdi hdep hcl
        go_simp
        exact hK _ _ ⟨by simp [upd, E], by simpa [upd, E] using hw⟩
      · rintro d a W hdi hdep hcl ⟨rfl, hw⟩ K hK
        have E := hcl.facts 13 hdi rfl hdep [1, 2, 3, 4, 5, 6, 7, 8, 9, 10, 11, 12] [14, 15, 16, 17, 18, 19, 20] (by kernel_rfl) (by kernel_rfl)
        simp only [AllT, AllF] at E
        clear hdi hdep hcl
        go_simp
        exact hK _ _ ⟨by simp [upd, E], by simpa [upd, E] using hw⟩
      · rintro d a W hdi hdep hcl ⟨rfl, hw⟩ K hK
        have E := hcl.facts 14 hdi rfl hdep [1, 2, 3, 4, 5, 6, 7, 8, 9, 10, 11, 12, 13] [16, 17, 20] (by kernel_rfl) (by kernel_rfl)
        simp only [AllT, AllF] at E
        clear hdi hdep hcl
        have zz := C_3.out.diff hw.diff (by have := HN_C.out; omega)
        have z0 := zz.at 0
        have z1 := zz.at 1
        have z2 := zz.at 2
        have zl := zz.lt
        clear zz
        go_simp
        exact hK _ _ ⟨by simp [upd, E], by simpa [upd, E] using hw⟩
      · rintro d a W hdi hdep hcl ⟨rfl, hw⟩ K hK
        have E := hcl.facts 15 hdi rfl hdep [1, 2, 3, 4, 5, 6, 7, 8, 9, 10, 11, 12, 13] [16, 17, 18, 19, 20] (by kernel_rfl) (by kernel_rfl)
        simp only [AllT, AllF] at E
        clear hdi hdep hcl
        go_simp
        refine Calls.mono (lline_any W 0 0 0) ?_
        rintro e w9 ⟨rfl, hp9⟩
        exact hK _ _ ⟨by simp [upd, E], by simpa [upd, E] using hw.call hp9⟩
      · rintro d a W hdi hdep hcl ⟨rfl, hw⟩ K hK
        have E := hcl.facts 16 hdi rfl hdep [1, 2, 3, 4, 5, 6, 7, 8, 9, 10, 11, 12, 13, 14, 15] [17, 20] (by kernel_rfl) (by kernel_rfl)
        simp only [AllT, AllF] at E
        clear hdi hdep hcl
        go_simp
        exact hK _ _ ⟨by simp [upd, E], by simpa [upd, E] using hw⟩
      · rintro d a W hdi hdep hcl ⟨rfl, hw⟩ K hK
        have E := hcl.facts 17 hdi rfl hdep [1, 2, 3, 4, 5, 6, 7, 8, 9, 10, 11, 12, 13, 14, 15, 16] [20] (by kernel_rfl) (by kernel_rfl)
        simp only [AllT, AllF] at E
        clear hdi hdep hcl
        go_simp
        exact hK _ _ ⟨by simp [upd, E], by simpa [upd, E] using hw⟩
      · rintro d a W hdi hdep hcl ⟨rfl, hw⟩ K hK
        have E := hcl.facts 18 hdi rfl hdep [0, 1, 2, 3, 4, 5, 6, 7, 8, 9, 10, 11, 12, 13, 15] [19, 20] (by kernel_rfl) (by kernel_rfl)
        simp only [AllT, AllF] at E
        clear hdi hdep hcl
        simp only [E] at hw
        have z := hw.blk
        have z0 := z.at 0
        have z1 := z.at 1
        have fz := fun o => z.fz o
        have zl := z.lt
        simp only [cond_false] at z0 z1
        go_simp
        exact hK _ _ ⟨by simp [upd, E], by simpa [upd, E] using hw.set⟩
      · rintro d a W hdi hdep hcl ⟨rfl, hw⟩ K hK
        have E := hcl.facts 19 hdi rfl hdep [0, 1, 2, 3, 4, 5, 6, 7, 8, 9, 10, 11, 12, 13, 15, 18] [20] (by kernel_rfl) (by kernel_rfl)
        simp only [AllT, AllF] at E
        clear hdi hdep hcl
        go_simp
        exact hK _ _ ⟨by simp [upd, E], by simpa [upd, E] using hw⟩
      · rintro d a W hdi hdep hcl ⟨rfl, hw⟩ K hK
        have E := hcl.facts 20 hdi rfl hdep [0, 1, 2, 3, 4, 5, 6, 7, 8, 9, 10, 11, 12, 13, 14, 15, 16, 17, 18, 19] [] (by kernel_rfl) (by kernel_rfl)
        simp only [AllT, AllF] at E
        clear hdi hdep hcl
        go_simp
        exact hK _ _ ⟨by simp [upd, E], by simpa [upd, E] using hw⟩
    · rintro d a W hall ⟨rfl, hw⟩
      have E := AllT.all hall [0, 1, 2, 3, 4, 5, 6, 7, 8, 9, 10, 11, 12, 13, 14, 15, 16, 17, 18, 19, 20] (by kernel_rfl)
      simp only [AllT] at E
      simp only [E, cond_true] at hw ⊢
      clear E hall
      have HPW : Pure w W := HP_3.out.trans' hw.diff (fun x hx e => by have e' : x = gr := e; have := HGR.out; omega)
      have z := hw.blk
      simp only [cond_true] at z
      clear hw
      go_wp2
      exact bodyPost_ret (v := .tuple #[.agg #[.int .i64 0, .int .i64 0], .bool false, .bool true]) (by simp [results, Tryd.results53, go_sem, z.at 0, z.at 1]) rfl ⟨by rw [HEQ.out.1, HEQ.out.2.1, HEQ.out.2.2] <;> rfl, HPW⟩
end Go.Proofs.YtgpfmnjianflaaaDoor
