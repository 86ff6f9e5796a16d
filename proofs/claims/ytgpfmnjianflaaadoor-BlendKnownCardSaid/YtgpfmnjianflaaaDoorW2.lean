/- Walk of BlendKnown. -/
import Derived.Test.YtgpfmnjianflaaaDoorM9
set_option linter.unusedSimpArgs false
set_option linter.unusedVariables false
set_option linter.constructorNameAsVariable false
namespace Go.Proofs.YtgpfmnjianflaaaDoor
open Go.RowKit

def g3 (k : Nat) : Int := ([1, 0, 0, 0, 2] : List Int).getD k 0
theorem u1 : partsB L5 g3 5 = 0 ∧ blendS L5 g3 5 = (50, 3) ∧ blendP L5 g3 5 = (50, 1) := by decide +kernel
theorem u2 : cheapE L5 10 = 0 ∧ cheapP L5 10 = (30, 1) := by decide +kernel
theorem u3 : cheapE L2 15 = 0 ∧ cheapP L2 15 = (85, 2) := by decide +kernel
theorem u4 : atE L5 15 = 0 ∧ atP L5 15 = (65, 2) := by decide +kernel
theorem u5 : atE L5 0 = 0 ∧ atP L5 0 = (30, 1) := by decide +kernel
theorem u6 : atE L2 30 = 0 ∧ atP L2 30 = (20, 1) := by decide +kernel
theorem u7 : lineE L5 (2, 11, 3) 25 = 16 := by decide +kernel
theorem u8 : checkL L2 = 0 ∧ L2.cornersE = [0, 1] := by decide +kernel
section
variable {pA pB : Option Addr} {w : World} (h : WI pA pB w)
include h
theorem q1 {q : Option Addr} (cA c : Nat) (hq : Row w.heap.size w q 5 fun k => .int .i64 (g3 k)) : Calls Tryd.prog 20 #[.slice pA 5 cA, .slice q 5 c] w fun e w' => e = .returned (.tuple #[.agg #[.int .i64 50, .int .i64 3], .agg #[.int .i64 50, .int .i64 1], .int .i64 0]) ∧ Pure w w' := by
  have := CheckBlend_any w L5 pA q cA 5 c g3 (by decide) (by decide) h.a hq h.g
  rw [u1.1, u1.2.1, u1.2.2] at this; exact this
theorem q2 (cA : Nat) : Calls Tryd.prog 26 #[.slice pA 5 cA, .int .i64 10] w fun e w' => e = .returned (.tuple #[.agg #[.int .i64 30, .int .i64 1], .int .i64 0]) ∧ Pure w w' := by
  have := Cheapest_any w L5 pA cA 10 (by decide) h.a h.g
  rw [u2.1, u2.2] at this; exact this
theorem q3 (cB : Nat) : Calls Tryd.prog 26 #[.slice pB 2 cB, .int .i64 15] w fun e w' => e = .returned (.tuple #[.agg #[.int .i64 85, .int .i64 2], .int .i64 0]) ∧ Pure w w' := by
  have := Cheapest_any w L2 pB cB 15 (by decide) h.b h.g
  rw [u3.1, u3.2] at this; exact this
theorem q4 (cA : Nat) : Calls Tryd.prog 28 #[.slice pA 5 cA, .int .i64 15] w fun e w' => e = .returned (.tuple #[.agg #[.int .i64 65, .int .i64 2], .int .i64 0]) ∧ Pure w w' := by
  have := AtLeast_any w L5 pA cA 15 (by decide) h.a h.g
  rw [u4.1, u4.2] at this; exact this
theorem q5 (cA : Nat) : Calls Tryd.prog 28 #[.slice pA 5 cA, .int .i64 0] w fun e w' => e = .returned (.tuple #[.agg #[.int .i64 30, .int .i64 1], .int .i64 0]) ∧ Pure w w' := by
  have := AtLeast_any w L5 pA cA 0 (by decide) h.a h.g
  rw [u5.1, u5.2] at this; exact this
theorem q6 (cB : Nat) : Calls Tryd.prog 28 #[.slice pB 2 cB, .int .i64 30] w fun e w' => e = .returned (.tuple #[.agg #[.int .i64 20, .int .i64 1], .int .i64 0]) ∧ Pure w w' := by
  have := AtLeast_any w L2 pB cB 30 (by decide) h.b h.g
  rw [u6.1, u6.2] at this; exact this
theorem q7 (cA : Nat) : Calls Tryd.prog 33 #[.slice pA 5 cA, .agg #[.int .i64 2, .int .i64 11, .int .i64 3], .int .i64 25] w fun e w' => e = .returned (.tuple #[.agg #[.int .i64 0, .int .i64 0], .int .i64 16]) ∧ Pure w w' := by
  have := CheckLine_any w L5 pA cA 2 11 3 25 (by decide) h.a h.g
  rw [line_bad u7 (by decide), u7] at this; exact this
theorem q8 (cB : Nat) : Calls Tryd.prog 38 #[.slice pB 2 cB] w fun e w' => (∃ q c, e = .returned (.tuple #[.slice q 2 c, .int .i64 0]) ∧ RowN w' q [0, 1]) ∧ Pure w w' := by
  have := Corners_any w L2 pB cB (by decide) h.b h.g
  rw [u8.1, u8.2] at this; exact this
theorem q9 (cB : Nat) : Calls Tryd.prog 22 #[.slice pB 2 cB] w fun e w' => e = .returned (.int .i64 0) ∧ Pure w w' := by
  have := CheckLots_any w L2 pB cB (by decide) h.b h.g
  rw [u8.1] at this; exact this
end
/-- The list that is built on the way. -/
structure K10X (V0 : World) (d : Nat → Bool) (a : Act) (W : World) : Prop where
  pure : Pure V0 W
  p : d 67 = true → ∃ s, At a 133 (.slice (some ⟨s, 0, none⟩) 2 2) ∧ Row W.heap.size W (some ⟨s, 0, none⟩) 2 fun k => .int .i64 (nthN [0, 1] k : Int)
  q : d 68 = true → ∃ s, At a 134 (.slice (some ⟨s, 0, none⟩) 2 2) ∧ Row W.heap.size W (some ⟨s, 0, none⟩) 2 fun k => .int .i64 (nthN [0, 1] k : Int)
theorem K10X.start {V0 W : World} {a : Act} (h : Pure V0 W) : K10X V0 (fun _ => false) a W := ⟨h, fun h => (by cases h), fun h => (by cases h)⟩
section
variable {V0 W W' : World} {d : Nat → Bool} {a : Act} (h : K10X V0 d a W) (hp : Pure W W')
include h hp
theorem K10X.put (i t : Nat) (v : Value) (hi : i ≠ 67 ∧ i ≠ 68) (ht : t ≠ 133 ∧ t ≠ 134) : K10X V0 (upd d i) (a.put (some t) v) W' :=
  ⟨h.pure.trans hp, fun e => keepS (h.p (upd_ne (by omega) e)) hp (by omega), fun e => keepS (h.q (upd_ne (by omega) e)) hp (by omega)⟩
theorem K10X.b62 {g : Nat} (hs : 133 < a.tmps.size) (hr : Row W'.heap.size W' (some ⟨g, 0, none⟩) 2 fun k => .int .i64 (nthN [0, 1] k : Int)) (hn : d 68 = false) : K10X V0 (upd d 67) (a.put (some 133) (.slice (some ⟨g, 0, none⟩) 2 2)) W' :=
  ⟨h.pure.trans hp, fun _ => ⟨g, At.new hs, hr⟩, fun e => (by rw [upd_ne (by decide) e] at hn; cases hn)⟩
theorem K10X.b63 {g : Nat} (hs : 134 < a.tmps.size) (hr : Row W'.heap.size W' (some ⟨g, 0, none⟩) 2 fun k => .int .i64 (nthN [0, 1] k : Int)) : K10X V0 (upd d 68) (a.put (some 134) (.slice (some ⟨g, 0, none⟩) 2 2)) W' :=
  ⟨h.pure.trans hp, fun e => keepS (h.p (upd_ne (by decide) e)) hp (by decide), fun _ => ⟨g, At.new hs, hr⟩⟩
end
def k10S : List Nat := [1, 2, 3, 4, 5, 6, 7, 8, 9, 10, 11, 12, 13, 14, 15, 17, 18, 19]
def k10J : List Nat := [0, 1, 2, 3, 4, 5, 6, 7, 8, 9, 10, 11, 12, 13, 14, 15, 16, 17, 18, 19, 20, 21, 22, 23, 24, 25, 26, 27, 28, 29, 30, 31, 32, 33, 34, 35, 36, 37, 38, 39, 40, 41, 42, 43, 44, 45, 46, 47, 48, 49, 50, 51, 52, 53, 54, 55, 56, 57, 58, 59, 60, 61, 62, 63, 64, 65, 66, 69, 70, 71, 72, 73, 74, 75, 76, 77, 78, 79]
def k10D (j : Nat) : Nat := ([66, 67, 68, 69, 70, 71, 72, 73, 74, 75, 76, 77, 78, 79, 80, 81, 82, 83, 84, 85, 86, 87, 88, 89, 90, 91, 92, 93, 94, 95, 96, 97, 98, 99, 100, 101, 102, 103, 104, 105, 106, 107, 108, 109, 110, 111, 112, 113, 114, 115, 116, 117, 118, 119, 120, 121, 122, 123, 124, 125, 126, 127, 128, 129, 130, 131, 132, 133, 134, 135, 136, 137, 138, 139, 140, 141, 142, 143, 144, 0] : List Nat).getD j 0
def k10B (gS gP gC gD gF gG gH : Nat) (pA pB qk : Option Addr) (cA cB ck : Nat) (s : Nat) : Value := match s with
  | 1 => Value.slice pA 5 cA
  | 2 => Value.slice pB 2 cB
  | 3 => Value.pointer (some { block := gS, off := 0 })
  | 4 => Value.pointer (some { block := gP, off := 0 })
  | 5 => Value.int IntKind.i64 0
  | 6 => Value.pointer (some { block := gC, off := 0 })
  | 7 => Value.int IntKind.i64 0
  | 8 => Value.pointer (some { block := gD, off := 0 })
  | 9 => Value.int IntKind.i64 0
  | 10 => Value.pointer (some { block := gF, off := 0 })
  | 11 => Value.int IntKind.i64 0
  | 12 => Value.pointer (some { block := gG, off := 0 })
  | 13 => Value.int IntKind.i64 0
  | 14 => Value.pointer (some { block := gH, off := 0 })
  | 15 => Value.int IntKind.i64 0
  | 17 => Value.int IntKind.i64 16
  | 18 => Value.slice qk 2 ck
  | 19 => Value.int IntKind.i64 0
  | _ => undef
def k10V (gS gP gC gD gF gG gH : Nat) (pA pB qk : Option Addr) (cA cB ck : Nat) (j : Nat) : Value := match j with
  | 0 => Value.int IntKind.i64 0
  | 1 => Value.bool true
  | 2 => Value.bool true
  | 3 => Value.agg #[Value.int IntKind.i64 50, Value.int IntKind.i64 3]
  | 4 => Value.agg #[Value.int IntKind.i64 50, Value.int IntKind.i64 3]
  | 5 => Value.bool true
  | 6 => Value.bool true
  | 7 => Value.bool true
  | 8 => Value.agg #[Value.int IntKind.i64 50, Value.int IntKind.i64 1]
  | 9 => Value.agg #[Value.int IntKind.i64 50, Value.int IntKind.i64 1]
  | 10 => Value.bool true
  | 11 => Value.bool true
  | 12 => Value.bool true
  | 13 => Value.int IntKind.i64 0
  | 14 => Value.bool true
  | 15 => Value.bool true
  | 16 => Value.bool true
  | 17 => Value.agg #[Value.int IntKind.i64 30, Value.int IntKind.i64 1]
  | 18 => Value.agg #[Value.int IntKind.i64 30, Value.int IntKind.i64 1]
  | 19 => Value.bool true
  | 20 => Value.bool true
  | 21 => Value.bool true
  | 22 => Value.int IntKind.i64 0
  | 23 => Value.bool true
  | 24 => Value.bool true
  | 25 => Value.bool true
  | 26 => Value.agg #[Value.int IntKind.i64 85, Value.int IntKind.i64 2]
  | 27 => Value.agg #[Value.int IntKind.i64 85, Value.int IntKind.i64 2]
  | 28 => Value.bool true
  | 29 => Value.bool true
  | 30 => Value.bool true
  | 31 => Value.int IntKind.i64 0
  | 32 => Value.bool true
  | 33 => Value.bool true
  | 34 => Value.bool true
  | 35 => Value.agg #[Value.int IntKind.i64 65, Value.int IntKind.i64 2]
  | 36 => Value.agg #[Value.int IntKind.i64 65, Value.int IntKind.i64 2]
  | 37 => Value.bool true
  | 38 => Value.bool true
  | 39 => Value.bool true
  | 40 => Value.int IntKind.i64 0
  | 41 => Value.bool true
  | 42 => Value.bool true
  | 43 => Value.bool true
  | 44 => Value.agg #[Value.int IntKind.i64 30, Value.int IntKind.i64 1]
  | 45 => Value.agg #[Value.int IntKind.i64 30, Value.int IntKind.i64 1]
  | 46 => Value.bool true
  | 47 => Value.bool true
  | 48 => Value.bool true
  | 49 => Value.int IntKind.i64 0
  | 50 => Value.bool true
  | 51 => Value.bool true
  | 52 => Value.bool true
  | 53 => Value.agg #[Value.int IntKind.i64 20, Value.int IntKind.i64 1]
  | 54 => Value.agg #[Value.int IntKind.i64 20, Value.int IntKind.i64 1]
  | 55 => Value.bool true
  | 56 => Value.bool true
  | 57 => Value.bool true
  | 58 => Value.int IntKind.i64 16
  | 59 => Value.bool true
  | 60 => Value.bool true
  | 61 => Value.bool true
  | 62 => Value.int IntKind.i64 0
  | 63 => Value.bool true
  | 64 => Value.bool true
  | 65 => Value.bool true
  | 66 => Value.slice qk 2 ck
  | 69 => Value.bool true
  | 70 => Value.bool true
  | 71 => Value.bool true
  | 72 => Value.slice pB 2 cB
  | 73 => Value.int IntKind.i64 0
  | 74 => Value.bool true
  | 75 => Value.bool true
  | 76 => Value.bool true
  | 77 => Value.bool true
  | 78 => Value.bool true
  | 79 => Value.bool true
  | _ => undef
set_option maxRecDepth 20000 in
set_option maxHeartbeats 4000000 in
theorem Known_any (w : World) (hg : Gl w) : Calls Tryd.prog 15 #[] w fun e w' => e = .returned (.bool true) ∧ Pure w w' := by
  have hmx : Tryd.prog.follows .mixedOrders = true := by kernel_rfl
  have HG := Lib.hid hg
  clear hg
  go_enter Tryd.func15, Tryd.ntmps15
  go_wp2_with fail
  refine (five_any w).mono ?_
  rintro e w1 ⟨⟨pA, cA, rfl, hA⟩, hp1⟩
  have HA := Lib.hid hA
  have HP1 := Lib.hid hp1
  clear hA hp1
  go_wp2_with fail
  refine (two_any w1).mono ?_
  rintro e w2 ⟨⟨pB, cB, rfl, hB⟩, hp2⟩
  have HP2 := Lib.hid (HP1.out.trans hp2)
  have HW2 : Hid (WI pA pB w2) := ⟨HA.out.to hp2, hB, HG.out.to HP2.out⟩
  clear hB hp2
  go_wp2_with fail
  obtain ⟨X0, hX0⟩ : ∃ V : World, w2.alloc (Obj.cells #[Value.int IntKind.i64 1, Value.int IntKind.i64 0, Value.int IntKind.i64 0, Value.int IntKind.i64 0, Value.int IntKind.i64 2] 2) = V := ⟨_, rfl⟩
  have hpX0 : Pure w2 X0 := by rw [← hX0]; exact ((Diff.refl w2).alloc _)
  have bL1 : Blk (w2.heap.size) 2 #[Value.int IntKind.i64 1, Value.int IntKind.i64 0, Value.int IntKind.i64 0, Value.int IntKind.i64 0, Value.int IntKind.i64 2] X0 := by rw [← hX0]; exact (blk0 w2 2 _)
  rw [hX0]
  obtain ⟨g0_0, hg0_0⟩ : ∃ g, w2.heap.size = g := ⟨_, rfl⟩
  rw [hg0_0] at bL1 ⊢
  have HP_0 := Lib.hid (HP2.out.trans hpX0)
  have HW_0 := Lib.hid (HW2.out.to hpX0)
  have L1_0 := Lib.hid bL1
  clear hX0 hpX0 hg0_0 bL1 HP2 HW2
  refine (llongs_any X0 _ _ 5 5 rfl).mono ?_
  rintro e v1 ⟨rfl, hp⟩
  have HP_1 := Lib.hid (HP_0.out.trans hp)
  have HW_1 := Lib.hid (HW_0.out.to hp)
  have L1_1 := Lib.hid (L1_0.out.to hp)
  clear hp  HP_0 HW_0 L1_0
  go_wp2_with fail
  refine (q1 HW_1.out cA 5 (row_lit (n := 5) (f := g3) L1_1.out (fun k hk => by rcases k with _ | _ | _ | _ | _ | k <;> first | rfl | omega))).mono ?_
  rintro e v2 ⟨rfl, hp⟩
  have HP_2 := Lib.hid (HP_1.out.trans hp)
  have HW_2 := Lib.hid (HW_1.out.to hp)
  have L1_2 := Lib.hid (L1_1.out.to hp)
  clear hp  HP_1 HW_1 L1_1
  go_wp2_with fail
  obtain ⟨X3, hX3⟩ : ∃ V : World, (v2.alloc (Obj.cells #[Value.int IntKind.i64 50, Value.int IntKind.i64 3] 29)).alloc (Obj.cells #[Value.int IntKind.i64 50, Value.int IntKind.i64 1] 29) = V := ⟨_, rfl⟩
  have hpX3 : Pure v2 X3 := by rw [← hX3]; exact (((Diff.refl v2).alloc _).alloc _)
  have bS : Blk (v2.heap.size) 29 #[Value.int IntKind.i64 50, Value.int IntKind.i64 3] X3 := by rw [← hX3]; exact ((blk0 v2 29 _).alloc _)
  have bP : Blk (v2.heap.size + 1) 29 #[Value.int IntKind.i64 50, Value.int IntKind.i64 1] X3 := by rw [← hX3]; exact (blk1 v2 _ 29 _)
  rw [hX3]
  obtain ⟨g3_0, hg3_0⟩ : ∃ g, v2.heap.size = g := ⟨_, rfl⟩
  rw [hg3_0] at bS bP ⊢
  obtain ⟨g3_1, hg3_1⟩ : ∃ g, g3_0 + 1 = g := ⟨_, rfl⟩
  rw [hg3_1] at bP ⊢
  have HP_3 := Lib.hid (HP_2.out.trans hpX3)
  have HW_3 := Lib.hid (HW_2.out.to hpX3)
  have S_3 := Lib.hid bS
  have P_3 := Lib.hid bP
  clear hX3 hpX3 hg3_1 hg3_0 bS bP HP_2 HW_2
  refine (q2 HW_3.out cA).mono ?_
  rintro e v4 ⟨rfl, hp⟩
  have HP_4 := Lib.hid (HP_3.out.trans hp)
  have HW_4 := Lib.hid (HW_3.out.to hp)
  have S_4 := Lib.hid (S_3.out.to hp)
  have P_4 := Lib.hid (P_3.out.to hp)
  clear hp  HP_3 HW_3 S_3 P_3
  go_wp2_with fail
  obtain ⟨X5, hX5⟩ : ∃ V : World, v4.alloc (Obj.cells #[Value.int IntKind.i64 30, Value.int IntKind.i64 1] 29) = V := ⟨_, rfl⟩
  have hpX5 : Pure v4 X5 := by rw [← hX5]; exact ((Diff.refl v4).alloc _)
  have bC : Blk (v4.heap.size) 29 #[Value.int IntKind.i64 30, Value.int IntKind.i64 1] X5 := by rw [← hX5]; exact (blk0 v4 29 _)
  rw [hX5]
  obtain ⟨g5_0, hg5_0⟩ : ∃ g, v4.heap.size = g := ⟨_, rfl⟩
  rw [hg5_0] at bC ⊢
  have HP_5 := Lib.hid (HP_4.out.trans hpX5)
  have HW_5 := Lib.hid (HW_4.out.to hpX5)
  have S_5 := Lib.hid (S_4.out.to hpX5)
  have P_5 := Lib.hid (P_4.out.to hpX5)
  have C_5 := Lib.hid bC
  clear hX5 hpX5 hg5_0 bC HP_4 HW_4 S_4 P_4
  refine (q3 HW_5.out cB).mono ?_
  rintro e v6 ⟨rfl, hp⟩
  have HP_6 := Lib.hid (HP_5.out.trans hp)
  have HW_6 := Lib.hid (HW_5.out.to hp)
  have S_6 := Lib.hid (S_5.out.to hp)
  have P_6 := Lib.hid (P_5.out.to hp)
  have C_6 := Lib.hid (C_5.out.to hp)
  clear hp  HP_5 HW_5 S_5 P_5 C_5
  go_wp2_with fail
  obtain ⟨X7, hX7⟩ : ∃ V : World, v6.alloc (Obj.cells #[Value.int IntKind.i64 85, Value.int IntKind.i64 2] 29) = V := ⟨_, rfl⟩
  have hpX7 : Pure v6 X7 := by rw [← hX7]; exact ((Diff.refl v6).alloc _)
  have bD : Blk (v6.heap.size) 29 #[Value.int IntKind.i64 85, Value.int IntKind.i64 2] X7 := by rw [← hX7]; exact (blk0 v6 29 _)
  rw [hX7]
  obtain ⟨g7_0, hg7_0⟩ : ∃ g, v6.heap.size = g := ⟨_, rfl⟩
  rw [hg7_0] at bD ⊢
  have HP_7 := Lib.hid (HP_6.out.trans hpX7)
  have HW_7 := Lib.hid (HW_6.out.to hpX7)
  have S_7 := Lib.hid (S_6.out.to hpX7)
  have P_7 := Lib.hid (P_6.out.to hpX7)
  have C_7 := Lib.hid (C_6.out.to hpX7)
  have D_7 := Lib.hid bD
  clear hX7 hpX7 hg7_0 bD HP_6 HW_6 S_6 P_6 C_6
  refine (q4 HW_7.out cA).mono ?_
  rintro e v8 ⟨rfl, hp⟩
  have HP_8 := Lib.hid (HP_7.out.trans hp)
  have HW_8 := Lib.hid (HW_7.out.to hp)
  have S_8 := Lib.hid (S_7.out.to hp)
  have P_8 := Lib.hid (P_7.out.to hp)
  have C_8 := Lib.hid (C_7.out.to hp)
  have D_8 := Lib.hid (D_7.out.to hp)
  clear hp  HP_7 HW_7 S_7 P_7 C_7 D_7
  go_wp2_with fail
  obtain ⟨X9, hX9⟩ : ∃ V : World, v8.alloc (Obj.cells #[Value.int IntKind.i64 65, Value.int IntKind.i64 2] 29) = V := ⟨_, rfl⟩
  have hpX9 : Pure v8 X9 := by rw [← hX9]; exact ((Diff.refl v8).alloc _)
  have bF : Blk (v8.heap.size) 29 #[Value.int IntKind.i64 65, Value.int IntKind.i64 2] X9 := by rw [← hX9]; exact (blk0 v8 29 _)
  rw [hX9]
  obtain ⟨g9_0, hg9_0⟩ : ∃ g, v8.heap.size = g := ⟨_, rfl⟩
  rw [hg9_0] at bF ⊢
  have HP_9 := Lib.hid (HP_8.out.trans hpX9)
  have HW_9 := Lib.hid (HW_8.out.to hpX9)
  have S_9 := Lib.hid (S_8.out.to hpX9)
  have P_9 := Lib.hid (P_8.out.to hpX9)
  have C_9 := Lib.hid (C_8.out.to hpX9)
  have D_9 := Lib.hid (D_8.out.to hpX9)
  have F_9 := Lib.hid bF
  clear hX9 hpX9 hg9_0 bF HP_8 HW_8 S_8 P_8 C_8 D_8
  refine (q5 HW_9.out cA).mono ?_
  rintro e v10 ⟨rfl, hp⟩
  have HP_10 := Lib.hid (HP_9.out.trans hp)
  have HW_10 := Lib.hid (HW_9.out.to hp)
  have S_10 := Lib.hid (S_9.out.to hp)
  have P_10 := Lib.hid (P_9.out.to hp)
  have C_10 := Lib.hid (C_9.out.to hp)
  have D_10 := Lib.hid (D_9.out.to hp)
  have F_10 := Lib.hid (F_9.out.to hp)
  clear hp  HP_9 HW_9 S_9 P_9 C_9 D_9 F_9
  go_wp2_with fail
  obtain ⟨X11, hX11⟩ : ∃ V : World, v10.alloc (Obj.cells #[Value.int IntKind.i64 30, Value.int IntKind.i64 1] 29) = V := ⟨_, rfl⟩
  have hpX11 : Pure v10 X11 := by rw [← hX11]; exact ((Diff.refl v10).alloc _)
  have bG : Blk (v10.heap.size) 29 #[Value.int IntKind.i64 30, Value.int IntKind.i64 1] X11 := by rw [← hX11]; exact (blk0 v10 29 _)
  rw [hX11]
  obtain ⟨g11_0, hg11_0⟩ : ∃ g, v10.heap.size = g := ⟨_, rfl⟩
  rw [hg11_0] at bG ⊢
  have HP_11 := Lib.hid (HP_10.out.trans hpX11)
  have HW_11 := Lib.hid (HW_10.out.to hpX11)
  have S_11 := Lib.hid (S_10.out.to hpX11)
  have P_11 := Lib.hid (P_10.out.to hpX11)
  have C_11 := Lib.hid (C_10.out.to hpX11)
  have D_11 := Lib.hid (D_10.out.to hpX11)
  have F_11 := Lib.hid (F_10.out.to hpX11)
  have G_11 := Lib.hid bG
  clear hX11 hpX11 hg11_0 bG HP_10 HW_10 S_10 P_10 C_10 D_10 F_10
  refine (q6 HW_11.out cB).mono ?_
  rintro e v12 ⟨rfl, hp⟩
  have HP_12 := Lib.hid (HP_11.out.trans hp)
  have HW_12 := Lib.hid (HW_11.out.to hp)
  have S_12 := Lib.hid (S_11.out.to hp)
  have P_12 := Lib.hid (P_11.out.to hp)
  have C_12 := Lib.hid (C_11.out.to hp)
  have D_12 := Lib.hid (D_11.out.to hp)
  have F_12 := Lib.hid (F_11.out.to hp)
  have G_12 := Lib.hid (G_11.out.to hp)
  clear hp  HP_11 HW_11 S_11 P_11 C_11 D_11 F_11 G_11
  go_wp2_with fail
  obtain ⟨X13, hX13⟩ : ∃ V : World, v12.alloc (Obj.cells #[Value.int IntKind.i64 20, Value.int IntKind.i64 1] 29) = V := ⟨_, rfl⟩
  have hpX13 : Pure v12 X13 := by rw [← hX13]; exact ((Diff.refl v12).alloc _)
  have bH : Blk (v12.heap.size) 29 #[Value.int IntKind.i64 20, Value.int IntKind.i64 1] X13 := by rw [← hX13]; exact (blk0 v12 29 _)
  rw [hX13]
  obtain ⟨g13_0, hg13_0⟩ : ∃ g, v12.heap.size = g := ⟨_, rfl⟩
  rw [hg13_0] at bH ⊢
  have HP_13 := Lib.hid (HP_12.out.trans hpX13)
  have HW_13 := Lib.hid (HW_12.out.to hpX13)
  have S_13 := Lib.hid (S_12.out.to hpX13)
  have P_13 := Lib.hid (P_12.out.to hpX13)
  have C_13 := Lib.hid (C_12.out.to hpX13)
  have D_13 := Lib.hid (D_12.out.to hpX13)
  have F_13 := Lib.hid (F_12.out.to hpX13)
  have G_13 := Lib.hid (G_12.out.to hpX13)
  have H_13 := Lib.hid bH
  clear hX13 hpX13 hg13_0 bH HP_12 HW_12 S_12 P_12 C_12 D_12 F_12 G_12
  refine (lline_any X13 2 11 3).mono ?_
  rintro e v14 ⟨rfl, hp⟩
  have HP_14 := Lib.hid (HP_13.out.trans hp)
  have HW_14 := Lib.hid (HW_13.out.to hp)
  have S_14 := Lib.hid (S_13.out.to hp)
  have P_14 := Lib.hid (P_13.out.to hp)
  have C_14 := Lib.hid (C_13.out.to hp)
  have D_14 := Lib.hid (D_13.out.to hp)
  have F_14 := Lib.hid (F_13.out.to hp)
  have G_14 := Lib.hid (G_13.out.to hp)
  have H_14 := Lib.hid (H_13.out.to hp)
  clear hp  HP_13 HW_13 S_13 P_13 C_13 D_13 F_13 G_13 H_13
  go_wp2_with fail
  refine (q7 HW_14.out cA).mono ?_
  rintro e v15 ⟨rfl, hp⟩
  have HP_15 := Lib.hid (HP_14.out.trans hp)
  have HW_15 := Lib.hid (HW_14.out.to hp)
  have S_15 := Lib.hid (S_14.out.to hp)
  have P_15 := Lib.hid (P_14.out.to hp)
  have C_15 := Lib.hid (C_14.out.to hp)
  have D_15 := Lib.hid (D_14.out.to hp)
  have F_15 := Lib.hid (F_14.out.to hp)
  have G_15 := Lib.hid (G_14.out.to hp)
  have H_15 := Lib.hid (H_14.out.to hp)
  clear hp  HP_14 HW_14 S_14 P_14 C_14 D_14 F_14 G_14 H_14
  go_wp2_with fail
  obtain ⟨X16, hX16⟩ : ∃ V : World, v15.alloc (Obj.cells #[Value.int IntKind.i64 0, Value.int IntKind.i64 0] 29) = V := ⟨_, rfl⟩
  have hpX16 : Pure v15 X16 := by rw [← hX16]; exact ((Diff.refl v15).alloc _)
  rw [hX16]
  obtain ⟨g16_0, hg16_0⟩ : ∃ g, v15.heap.size = g := ⟨_, rfl⟩
  rw [hg16_0]
  have HP_16 := Lib.hid (HP_15.out.trans hpX16)
  have HW_16 := Lib.hid (HW_15.out.to hpX16)
  have S_16 := Lib.hid (S_15.out.to hpX16)
  have P_16 := Lib.hid (P_15.out.to hpX16)
  have C_16 := Lib.hid (C_15.out.to hpX16)
  have D_16 := Lib.hid (D_15.out.to hpX16)
  have F_16 := Lib.hid (F_15.out.to hpX16)
  have G_16 := Lib.hid (G_15.out.to hpX16)
  have H_16 := Lib.hid (H_15.out.to hpX16)
  clear hX16 hpX16 hg16_0  HP_15 HW_15 S_15 P_15 C_15 D_15 F_15 G_15 H_15
  refine (q8 HW_16.out cB).mono ?_
  rintro e v17 ⟨⟨qk, ck, rfl, hx⟩, hp⟩
  have HP_17 := Lib.hid (HP_16.out.trans hp)
  have HW_17 := Lib.hid (HW_16.out.to hp)
  have S_17 := Lib.hid (S_16.out.to hp)
  have P_17 := Lib.hid (P_16.out.to hp)
  have C_17 := Lib.hid (C_16.out.to hp)
  have D_17 := Lib.hid (D_16.out.to hp)
  have F_17 := Lib.hid (F_16.out.to hp)
  have G_17 := Lib.hid (G_16.out.to hp)
  have H_17 := Lib.hid (H_16.out.to hp)
  have K_17 := Lib.hid hx
  clear hp hx HP_16 HW_16 S_16 P_16 C_16 D_16 F_16 G_16 H_16
  go_wp2_with fail
  obtain ⟨gS, hgS⟩ : ∃ g, g3_0 = g := ⟨_, rfl⟩
  obtain ⟨gP, hgP⟩ : ∃ g, g3_1 = g := ⟨_, rfl⟩
  obtain ⟨gC, hgC⟩ : ∃ g, g5_0 = g := ⟨_, rfl⟩
  obtain ⟨gD, hgD⟩ : ∃ g, g7_0 = g := ⟨_, rfl⟩
  obtain ⟨gF, hgF⟩ : ∃ g, g9_0 = g := ⟨_, rfl⟩
  obtain ⟨gG, hgG⟩ : ∃ g, g11_0 = g := ⟨_, rfl⟩
  obtain ⟨gH, hgH⟩ : ∃ g, g13_0 = g := ⟨_, rfl⟩
  rw [hgS] at S_17
  rw [hgP] at P_17
  rw [hgC] at C_17
  rw [hgD] at D_17
  rw [hgF] at F_17
  rw [hgG] at G_17
  rw [hgH] at H_17
  rw [hgS, hgP, hgC, hgD, hgF, hgG, hgH]
  clear hgS hgP hgC hgD hgF hgG hgH
  simp only [List.append_eq, List.cons_append, List.nil_append, List.append_toArray, List.append_nil]
  refine reg_invW (fun d a W => SF 145 k10S (k10B gS gP gC gD gF gG gH pA pB qk cA cB ck) k10J k10D (k10V gS gP gC gD gF gG gH pA pB qk cA cB ck) d a ∧ K10X v17 d a W) hmx (by kernel_rfl) ?_ ?_ ?_
  · refine ⟨SF.start rfl rfl (fun s hs => ?_), ?_⟩
    · simp only [k10S, List.mem_cons, List.mem_nil_iff, or_false] at hs
      rcases hs with rfl | rfl | rfl | rfl | rfl | rfl | rfl | rfl | rfl | rfl | rfl | rfl | rfl | rfl | rfl | rfl | rfl | rfl <;> rfl
    · exact K10X.start (Diff.refl v17).drew
  · refine ⟨?_, ?_, ?_, ?_, ?_, ?_, ?_, ?_, ?_, ?_, ?_, ?_, ?_, ?_, ?_, ?_, ?_, ?_, ?_, ?_, ?_, ?_, ?_, ?_, ?_, ?_, ?_, ?_, ?_, ?_, ?_, ?_, ?_, ?_, ?_, ?_, ?_, ?_, ?_, ?_, ?_, ?_, ?_, ?_, ?_, ?_, ?_, ?_, ?_, ?_, ?_, ?_, ?_, ?_, ?_, ?_, ?_, ?_, ?_, ?_, ?_, ?_, ?_, ?_, ?_, ?_, ?_, ?_, ?_, ?_, ?_, ?_, ?_, ?_, ?_, ?_, ?_, ?_, ?_, ?_, trivial⟩
    · rintro d a W hdi hdep hcl ⟨hF, hX⟩ K hK
      have E := hcl.facts 0 hdi rfl hdep [] [] (by kernel_rfl) (by kernel_rfl)
      simp only [AllT, AllF] at E
      rw [if_pos (wanted_free rfl)]
      have o0 : At a 5 (Value.int IntKind.i64 0) := hF.base 5 (by decide)
      refine wp_move_at _ rfl o0.eval ?_
      exact hK _ _ ⟨hF.put 0 (Value.int IntKind.i64 0) 66 (by omega) (by kernel_rfl) (by kernel_rfl) (.inl ⟨rfl, rfl⟩), hX.put (Diff.refl _) 0 66 _ (by decide) (by decide)⟩
    · rintro d a W hdi hdep hcl ⟨hF, hX⟩ K hK
      have E := hcl.facts 1 hdi rfl hdep [0] [] (by kernel_rfl) (by kernel_rfl)
      simp only [AllT, AllF] at E
      rw [if_pos (wanted_free rfl)]
      have o0 : At a 66 (Value.int IntKind.i64 0) := hF.done 0 (by decide) (by simp only [E])
      refine wp_eql_int _ _ _ _ (by decide) rfl o0.eval rfl ?_
      exact hK _ _ ⟨hF.put 1 (Value.bool true) 67 (by omega) (by kernel_rfl) (by kernel_rfl) (.inl ⟨rfl, rfl⟩), hX.put (Diff.refl _) 1 67 _ (by decide) (by decide)⟩
    · rintro d a W hdi hdep hcl ⟨hF, hX⟩ K hK
      have E := hcl.facts 2 hdi rfl hdep [1] [] (by kernel_rfl) (by kernel_rfl)
      simp only [AllT, AllF] at E
      rw [if_pos (wanted_free rfl)]
      have o0 : At a 67 (Value.bool true) := hF.done 1 (by decide) (by simp only [E])
      refine wp_move_at _ rfl o0.eval ?_
      exact hK _ _ ⟨hF.put 2 (Value.bool true) 68 (by omega) (by kernel_rfl) (by kernel_rfl) (.inl ⟨rfl, rfl⟩), hX.put (Diff.refl _) 2 68 _ (by decide) (by decide)⟩
    · rintro d a W hdi hdep hcl ⟨hF, hX⟩ K hK
      have E := hcl.facts 3 hdi rfl hdep [2] [] (by kernel_rfl) (by kernel_rfl)
      simp only [AllT, AllF] at E
      have o0 : At a 68 (Value.bool true) := hF.done 2 (by decide) (by simp only [E])
      rw [if_pos (wanted_at (g := 2) (b := true) (s := 68) rfl rfl o0)]
      have o1 : At a 3 (Value.pointer (some { block := gS, off := 0 })) := hF.base 3 (by decide)
      have kz := S_17.out.to hX.pure
      refine wp_load_two _ rfl o1.eval (kz.at 0) (kz.at 1) kz.lt ?_
      exact hK _ _ ⟨hF.put 3 (Value.agg #[Value.int IntKind.i64 50, Value.int IntKind.i64 3]) 69 (by omega) (by kernel_rfl) (by kernel_rfl) (.inl ⟨rfl, rfl⟩), hX.put (Diff.refl _) 3 69 _ (by decide) (by decide)⟩
    · rintro d a W hdi hdep hcl ⟨hF, hX⟩ K hK
      have E := hcl.facts 4 hdi rfl hdep [2] [] (by kernel_rfl) (by kernel_rfl)
      simp only [AllT, AllF] at E
      have o0 : At a 68 (Value.bool true) := hF.done 2 (by decide) (by simp only [E])
      rw [if_pos (wanted_at (g := 2) (b := true) (s := 68) rfl rfl o0)]
      refine wp_call_at 31 (enters_of Tryd.func31 (by kernel_rfl) rfl) _ _ rfl #[Value.int IntKind.i64 50, Value.int IntKind.i64 3] (by simp [Act.eval]) (lby_any _ 50 3) ?_
      intro W' hp
      exact hK _ _ ⟨hF.put 4 (Value.agg #[Value.int IntKind.i64 50, Value.int IntKind.i64 3]) 70 (by omega) (by kernel_rfl) (by kernel_rfl) (.inl ⟨rfl, rfl⟩), hX.put hp 4 70 _ (by decide) (by decide)⟩
    · rintro d a W hdi hdep hcl ⟨hF, hX⟩ K hK
      have E := hcl.facts 5 hdi rfl hdep [2, 3, 4] [] (by kernel_rfl) (by kernel_rfl)
      simp only [AllT, AllF] at E
      have o0 : At a 68 (Value.bool true) := hF.done 2 (by decide) (by simp only [E])
      rw [if_pos (wanted_at (g := 2) (b := true) (s := 68) rfl rfl o0)]
      have o1 : At a 69 (Value.agg #[Value.int IntKind.i64 50, Value.int IntKind.i64 3]) := hF.done 3 (by decide) (by simp only [E])
      have o2 : At a 70 (Value.agg #[Value.int IntKind.i64 50, Value.int IntKind.i64 3]) := hF.done 4 (by decide) (by simp only [E])
      refine wp_eql_two _ _ _ rfl o1.eval o2.eval ?_
      exact hK _ _ ⟨hF.put 5 (Value.bool true) 71 (by omega) (by kernel_rfl) (by kernel_rfl) (.inl ⟨rfl, rfl⟩), hX.put (Diff.refl _) 5 71 _ (by decide) (by decide)⟩
    · rintro d a W hdi hdep hcl ⟨hF, hX⟩ K hK
      have E := hcl.facts 6 hdi rfl hdep [2, 5] [] (by kernel_rfl) (by kernel_rfl)
      simp only [AllT, AllF] at E
      rw [if_pos (wanted_free rfl)]
      have o0 : At a 68 (Value.bool true) := hF.done 2 (by decide) (by simp only [E])
      have o1 : At a 71 (Value.bool true) := hF.done 5 (by decide) (by simp only [E])
      refine wp_pick_true _ _ _ rfl o0.eval o1.eval ?_
      exact hK _ _ ⟨hF.put 6 (Value.bool true) 72 (by omega) (by kernel_rfl) (by kernel_rfl) (.inl ⟨rfl, rfl⟩), hX.put (Diff.refl _) 6 72 _ (by decide) (by decide)⟩
    · rintro d a W hdi hdep hcl ⟨hF, hX⟩ K hK
      have E := hcl.facts 7 hdi rfl hdep [4, 6] [] (by kernel_rfl) (by kernel_rfl)
      simp only [AllT, AllF] at E
      rw [if_pos (wanted_free rfl)]
      have o0 : At a 72 (Value.bool true) := hF.done 6 (by decide) (by simp only [E])
      refine wp_move_at _ rfl o0.eval ?_
      exact hK _ _ ⟨hF.put 7 (Value.bool true) 73 (by omega) (by kernel_rfl) (by kernel_rfl) (.inl ⟨rfl, rfl⟩), hX.put (Diff.refl _) 7 73 _ (by decide) (by decide)⟩
    · rintro d a W hdi hdep hcl ⟨hF, hX⟩ K hK
      have E := hcl.facts 8 hdi rfl hdep [7] [] (by kernel_rfl) (by kernel_rfl)
      simp only [AllT, AllF] at E
      have o0 : At a 73 (Value.bool true) := hF.done 7 (by decide) (by simp only [E])
      rw [if_pos (wanted_at (g := 7) (b := true) (s := 73) rfl rfl o0)]
      have o1 : At a 4 (Value.pointer (some { block := gP, off := 0 })) := hF.base 4 (by decide)
      have kz := P_17.out.to hX.pure
      refine wp_load_two _ rfl o1.eval (kz.at 0) (kz.at 1) kz.lt ?_
      exact hK _ _ ⟨hF.put 8 (Value.agg #[Value.int IntKind.i64 50, Value.int IntKind.i64 1]) 74 (by omega) (by kernel_rfl) (by kernel_rfl) (.inl ⟨rfl, rfl⟩), hX.put (Diff.refl _) 8 74 _ (by decide) (by decide)⟩
    · rintro d a W hdi hdep hcl ⟨hF, hX⟩ K hK
      have E := hcl.facts 9 hdi rfl hdep [7] [] (by kernel_rfl) (by kernel_rfl)
      simp only [AllT, AllF] at E
      have o0 : At a 73 (Value.bool true) := hF.done 7 (by decide) (by simp only [E])
      rw [if_pos (wanted_at (g := 7) (b := true) (s := 73) rfl rfl o0)]
      refine wp_call_at 31 (enters_of Tryd.func31 (by kernel_rfl) rfl) _ _ rfl #[Value.int IntKind.i64 50, Value.int IntKind.i64 1] (by simp [Act.eval]) (lby_any _ 50 1) ?_
      intro W' hp
      exact hK _ _ ⟨hF.put 9 (Value.agg #[Value.int IntKind.i64 50, Value.int IntKind.i64 1]) 75 (by omega) (by kernel_rfl) (by kernel_rfl) (.inl ⟨rfl, rfl⟩), hX.put hp 9 75 _ (by decide) (by decide)⟩
    · rintro d a W hdi hdep hcl ⟨hF, hX⟩ K hK
      have E := hcl.facts 10 hdi rfl hdep [7, 8, 9] [] (by kernel_rfl) (by kernel_rfl)
      simp only [AllT, AllF] at E
      have o0 : At a 73 (Value.bool true) := hF.done 7 (by decide) (by simp only [E])
      rw [if_pos (wanted_at (g := 7) (b := true) (s := 73) rfl rfl o0)]
      have o1 : At a 74 (Value.agg #[Value.int IntKind.i64 50, Value.int IntKind.i64 1]) := hF.done 8 (by decide) (by simp only [E])
      have o2 : At a 75 (Value.agg #[Value.int IntKind.i64 50, Value.int IntKind.i64 1]) := hF.done 9 (by decide) (by simp only [E])
      refine wp_eql_two _ _ _ rfl o1.eval o2.eval ?_
      exact hK _ _ ⟨hF.put 10 (Value.bool true) 76 (by omega) (by kernel_rfl) (by kernel_rfl) (.inl ⟨rfl, rfl⟩), hX.put (Diff.refl _) 10 76 _ (by decide) (by decide)⟩
    · rintro d a W hdi hdep hcl ⟨hF, hX⟩ K hK
      have E := hcl.facts 11 hdi rfl hdep [7, 10] [] (by kernel_rfl) (by kernel_rfl)
      simp only [AllT, AllF] at E
      rw [if_pos (wanted_free rfl)]
      have o0 : At a 73 (Value.bool true) := hF.done 7 (by decide) (by simp only [E])
      have o1 : At a 76 (Value.bool true) := hF.done 10 (by decide) (by simp only [E])
      refine wp_pick_true _ _ _ rfl o0.eval o1.eval ?_
      exact hK _ _ ⟨hF.put 11 (Value.bool true) 77 (by omega) (by kernel_rfl) (by kernel_rfl) (.inl ⟨rfl, rfl⟩), hX.put (Diff.refl _) 11 77 _ (by decide) (by decide)⟩
    · rintro d a W hdi hdep hcl ⟨hF, hX⟩ K hK
      have E := hcl.facts 12 hdi rfl hdep [9, 11] [] (by kernel_rfl) (by kernel_rfl)
      simp only [AllT, AllF] at E
      rw [if_pos (wanted_free rfl)]
      have o0 : At a 77 (Value.bool true) := hF.done 11 (by decide) (by simp only [E])
      refine wp_move_at _ rfl o0.eval ?_
      exact hK _ _ ⟨hF.put 12 (Value.bool true) 78 (by omega) (by kernel_rfl) (by kernel_rfl) (.inl ⟨rfl, rfl⟩), hX.put (Diff.refl _) 12 78 _ (by decide) (by decide)⟩
    · rintro d a W hdi hdep hcl ⟨hF, hX⟩ K hK
      have E := hcl.facts 13 hdi rfl hdep [12] [] (by kernel_rfl) (by kernel_rfl)
      simp only [AllT, AllF] at E
      have o0 : At a 78 (Value.bool true) := hF.done 12 (by decide) (by simp only [E])
      rw [if_pos (wanted_at (g := 12) (b := true) (s := 78) rfl rfl o0)]
      have o1 : At a 7 (Value.int IntKind.i64 0) := hF.base 7 (by decide)
      refine wp_move_at _ rfl o1.eval ?_
      exact hK _ _ ⟨hF.put 13 (Value.int IntKind.i64 0) 79 (by omega) (by kernel_rfl) (by kernel_rfl) (.inl ⟨rfl, rfl⟩), hX.put (Diff.refl _) 13 79 _ (by decide) (by decide)⟩
    · rintro d a W hdi hdep hcl ⟨hF, hX⟩ K hK
      have E := hcl.facts 14 hdi rfl hdep [12, 13] [] (by kernel_rfl) (by kernel_rfl)
      simp only [AllT, AllF] at E
      have o0 : At a 78 (Value.bool true) := hF.done 12 (by decide) (by simp only [E])
      rw [if_pos (wanted_at (g := 12) (b := true) (s := 78) rfl rfl o0)]
      have o1 : At a 79 (Value.int IntKind.i64 0) := hF.done 13 (by decide) (by simp only [E])
      refine wp_eql_int _ _ _ _ (by decide) rfl o1.eval rfl ?_
      exact hK _ _ ⟨hF.put 14 (Value.bool true) 80 (by omega) (by kernel_rfl) (by kernel_rfl) (.inl ⟨rfl, rfl⟩), hX.put (Diff.refl _) 14 80 _ (by decide) (by decide)⟩
    · rintro d a W hdi hdep hcl ⟨hF, hX⟩ K hK
      have E := hcl.facts 15 hdi rfl hdep [12, 14] [] (by kernel_rfl) (by kernel_rfl)
      simp only [AllT, AllF] at E
      rw [if_pos (wanted_free rfl)]
      have o0 : At a 78 (Value.bool true) := hF.done 12 (by decide) (by simp only [E])
      have o1 : At a 80 (Value.bool true) := hF.done 14 (by decide) (by simp only [E])
      refine wp_pick_true _ _ _ rfl o0.eval o1.eval ?_
      exact hK _ _ ⟨hF.put 15 (Value.bool true) 81 (by omega) (by kernel_rfl) (by kernel_rfl) (.inl ⟨rfl, rfl⟩), hX.put (Diff.refl _) 15 81 _ (by decide) (by decide)⟩
    · rintro d a W hdi hdep hcl ⟨hF, hX⟩ K hK
      have E := hcl.facts 16 hdi rfl hdep [12, 15] [] (by kernel_rfl) (by kernel_rfl)
      simp only [AllT, AllF] at E
      rw [if_pos (wanted_free rfl)]
      have o0 : At a 81 (Value.bool true) := hF.done 15 (by decide) (by simp only [E])
      refine wp_move_at _ rfl o0.eval ?_
      exact hK _ _ ⟨hF.put 16 (Value.bool true) 82 (by omega) (by kernel_rfl) (by kernel_rfl) (.inl ⟨rfl, rfl⟩), hX.put (Diff.refl _) 16 82 _ (by decide) (by decide)⟩
    · rintro d a W hdi hdep hcl ⟨hF, hX⟩ K hK
      have E := hcl.facts 17 hdi rfl hdep [16] [] (by kernel_rfl) (by kernel_rfl)
      simp only [AllT, AllF] at E
      have o0 : At a 82 (Value.bool true) := hF.done 16 (by decide) (by simp only [E])
      rw [if_pos (wanted_at (g := 16) (b := true) (s := 82) rfl rfl o0)]
      have o1 : At a 6 (Value.pointer (some { block := gC, off := 0 })) := hF.base 6 (by decide)
      have kz := C_17.out.to hX.pure
      refine wp_load_two _ rfl o1.eval (kz.at 0) (kz.at 1) kz.lt ?_
      exact hK _ _ ⟨hF.put 17 (Value.agg #[Value.int IntKind.i64 30, Value.int IntKind.i64 1]) 83 (by omega) (by kernel_rfl) (by kernel_rfl) (.inl ⟨rfl, rfl⟩), hX.put (Diff.refl _) 17 83 _ (by decide) (by decide)⟩
    · rintro d a W hdi hdep hcl ⟨hF, hX⟩ K hK
      have E := hcl.facts 18 hdi rfl hdep [16] [] (by kernel_rfl) (by kernel_rfl)
      simp only [AllT, AllF] at E
      have o0 : At a 82 (Value.bool true) := hF.done 16 (by decide) (by simp only [E])
      rw [if_pos (wanted_at (g := 16) (b := true) (s := 82) rfl rfl o0)]
      refine wp_call_at 31 (enters_of Tryd.func31 (by kernel_rfl) rfl) _ _ rfl #[Value.int IntKind.i64 30, Value.int IntKind.i64 1] (by simp [Act.eval]) (lby_any _ 30 1) ?_
      intro W' hp
      exact hK _ _ ⟨hF.put 18 (Value.agg #[Value.int IntKind.i64 30, Value.int IntKind.i64 1]) 84 (by omega) (by kernel_rfl) (by kernel_rfl) (.inl ⟨rfl, rfl⟩), hX.put hp 18 84 _ (by decide) (by decide)⟩
    · rintro d a W hdi hdep hcl ⟨hF, hX⟩ K hK
      have E := hcl.facts 19 hdi rfl hdep [16, 17, 18] [] (by kernel_rfl) (by kernel_rfl)
      simp only [AllT, AllF] at E
      have o0 : At a 82 (Value.bool true) := hF.done 16 (by decide) (by simp only [E])
      rw [if_pos (wanted_at (g := 16) (b := true) (s := 82) rfl rfl o0)]
      have o1 : At a 83 (Value.agg #[Value.int IntKind.i64 30, Value.int IntKind.i64 1]) := hF.done 17 (by decide) (by simp only [E])
      have o2 : At a 84 (Value.agg #[Value.int IntKind.i64 30, Value.int IntKind.i64 1]) := hF.done 18 (by decide) (by simp only [E])
      refine wp_eql_two _ _ _ rfl o1.eval o2.eval ?_
      exact hK _ _ ⟨hF.put 19 (Value.bool true) 85 (by omega) (by kernel_rfl) (by kernel_rfl) (.inl ⟨rfl, rfl⟩), hX.put (Diff.refl _) 19 85 _ (by decide) (by decide)⟩
    · rintro d a W hdi hdep hcl ⟨hF, hX⟩ K hK
      have E := hcl.facts 20 hdi rfl hdep [16, 19] [] (by kernel_rfl) (by kernel_rfl)
      simp only [AllT, AllF] at E
      rw [if_pos (wanted_free rfl)]
      have o0 : At a 82 (Value.bool true) := hF.done 16 (by decide) (by simp only [E])
      have o1 : At a 85 (Value.bool true) := hF.done 19 (by decide) (by simp only [E])
      refine wp_pick_true _ _ _ rfl o0.eval o1.eval ?_
      exact hK _ _ ⟨hF.put 20 (Value.bool true) 86 (by omega) (by kernel_rfl) (by kernel_rfl) (.inl ⟨rfl, rfl⟩), hX.put (Diff.refl _) 20 86 _ (by decide) (by decide)⟩
    · rintro d a W hdi hdep hcl ⟨hF, hX⟩ K hK
      have E := hcl.facts 21 hdi rfl hdep [18, 20] [] (by kernel_rfl) (by kernel_rfl)
      simp only [AllT, AllF] at E
      rw [if_pos (wanted_free rfl)]
      have o0 : At a 86 (Value.bool true) := hF.done 20 (by decide) (by simp only [E])
      refine wp_move_at _ rfl o0.eval ?_
      exact hK _ _ ⟨hF.put 21 (Value.bool true) 87 (by omega) (by kernel_rfl) (by kernel_rfl) (.inl ⟨rfl, rfl⟩), hX.put (Diff.refl _) 21 87 _ (by decide) (by decide)⟩
    · rintro d a W hdi hdep hcl ⟨hF, hX⟩ K hK
      have E := hcl.facts 22 hdi rfl hdep [21] [] (by kernel_rfl) (by kernel_rfl)
      simp only [AllT, AllF] at E
      have o0 : At a 87 (Value.bool true) := hF.done 21 (by decide) (by simp only [E])
      rw [if_pos (wanted_at (g := 21) (b := true) (s := 87) rfl rfl o0)]
      have o1 : At a 9 (Value.int IntKind.i64 0) := hF.base 9 (by decide)
      refine wp_move_at _ rfl o1.eval ?_
      exact hK _ _ ⟨hF.put 22 (Value.int IntKind.i64 0) 88 (by omega) (by kernel_rfl) (by kernel_rfl) (.inl ⟨rfl, rfl⟩), hX.put (Diff.refl _) 22 88 _ (by decide) (by decide)⟩
    · rintro d a W hdi hdep hcl ⟨hF, hX⟩ K hK
      have E := hcl.facts 23 hdi rfl hdep [21, 22] [] (by kernel_rfl) (by kernel_rfl)
      simp only [AllT, AllF] at E
      have o0 : At a 87 (Value.bool true) := hF.done 21 (by decide) (by simp only [E])
      rw [if_pos (wanted_at (g := 21) (b := true) (s := 87) rfl rfl o0)]
      have o1 : At a 88 (Value.int IntKind.i64 0) := hF.done 22 (by decide) (by simp only [E])
      refine wp_eql_int _ _ _ _ (by decide) rfl o1.eval rfl ?_
      exact hK _ _ ⟨hF.put 23 (Value.bool true) 89 (by omega) (by kernel_rfl) (by kernel_rfl) (.inl ⟨rfl, rfl⟩), hX.put (Diff.refl _) 23 89 _ (by decide) (by decide)⟩
    · rintro d a W hdi hdep hcl ⟨hF, hX⟩ K hK
      have E := hcl.facts 24 hdi rfl hdep [21, 23] [] (by kernel_rfl) (by kernel_rfl)
      simp only [AllT, AllF] at E
      rw [if_pos (wanted_free rfl)]
      have o0 : At a 87 (Value.bool true) := hF.done 21 (by decide) (by simp only [E])
      have o1 : At a 89 (Value.bool true) := hF.done 23 (by decide) (by simp only [E])
      refine wp_pick_true _ _ _ rfl o0.eval o1.eval ?_
      exact hK _ _ ⟨hF.put 24 (Value.bool true) 90 (by omega) (by kernel_rfl) (by kernel_rfl) (.inl ⟨rfl, rfl⟩), hX.put (Diff.refl _) 24 90 _ (by decide) (by decide)⟩
    · rintro d a W hdi hdep hcl ⟨hF, hX⟩ K hK
      have E := hcl.facts 25 hdi rfl hdep [21, 24] [] (by kernel_rfl) (by kernel_rfl)
      simp only [AllT, AllF] at E
      rw [if_pos (wanted_free rfl)]
      have o0 : At a 90 (Value.bool true) := hF.done 24 (by decide) (by simp only [E])
      refine wp_move_at _ rfl o0.eval ?_
      exact hK _ _ ⟨hF.put 25 (Value.bool true) 91 (by omega) (by kernel_rfl) (by kernel_rfl) (.inl ⟨rfl, rfl⟩), hX.put (Diff.refl _) 25 91 _ (by decide) (by decide)⟩
    · rintro d a W hdi hdep hcl ⟨hF, hX⟩ K hK
      have E := hcl.facts 26 hdi rfl hdep [25] [] (by kernel_rfl) (by kernel_rfl)
      simp only [AllT, AllF] at E
      have o0 : At a 91 (Value.bool true) := hF.done 25 (by decide) (by simp only [E])
      rw [if_pos (wanted_at (g := 25) (b := true) (s := 91) rfl rfl o0)]
      have o1 : At a 8 (Value.pointer (some { block := gD, off := 0 })) := hF.base 8 (by decide)
      have kz := D_17.out.to hX.pure
      refine wp_load_two _ rfl o1.eval (kz.at 0) (kz.at 1) kz.lt ?_
      exact hK _ _ ⟨hF.put 26 (Value.agg #[Value.int IntKind.i64 85, Value.int IntKind.i64 2]) 92 (by omega) (by kernel_rfl) (by kernel_rfl) (.inl ⟨rfl, rfl⟩), hX.put (Diff.refl _) 26 92 _ (by decide) (by decide)⟩
    · rintro d a W hdi hdep hcl ⟨hF, hX⟩ K hK
      have E := hcl.facts 27 hdi rfl hdep [25] [] (by kernel_rfl) (by kernel_rfl)
      simp only [AllT, AllF] at E
      have o0 : At a 91 (Value.bool true) := hF.done 25 (by decide) (by simp only [E])
      rw [if_pos (wanted_at (g := 25) (b := true) (s := 91) rfl rfl o0)]
      refine wp_call_at 31 (enters_of Tryd.func31 (by kernel_rfl) rfl) _ _ rfl #[Value.int IntKind.i64 85, Value.int IntKind.i64 2] (by simp [Act.eval]) (lby_any _ 85 2) ?_
      intro W' hp
      exact hK _ _ ⟨hF.put 27 (Value.agg #[Value.int IntKind.i64 85, Value.int IntKind.i64 2]) 93 (by omega) (by kernel_rfl) (by kernel_rfl) (.inl ⟨rfl, rfl⟩), hX.put hp 27 93 _ (by decide) (by decide)⟩
    · rintro d a W hdi hdep hcl ⟨hF, hX⟩ K hK
      have E := hcl.facts 28 hdi rfl hdep [25, 26, 27] [] (by kernel_rfl) (by kernel_rfl)
      simp only [AllT, AllF] at E
      have o0 : At a 91 (Value.bool true) := hF.done 25 (by decide) (by simp only [E])
      rw [if_pos (wanted_at (g := 25) (b := true) (s := 91) rfl rfl o0)]
      have o1 : At a 92 (Value.agg #[Value.int IntKind.i64 85, Value.int IntKind.i64 2]) := hF.done 26 (by decide) (by simp only [E])
      have o2 : At a 93 (Value.agg #[Value.int IntKind.i64 85, Value.int IntKind.i64 2]) := hF.done 27 (by decide) (by simp only [E])
      refine wp_eql_two _ _ _ rfl o1.eval o2.eval ?_
      exact hK _ _ ⟨hF.put 28 (Value.bool true) 94 (by omega) (by kernel_rfl) (by kernel_rfl) (.inl ⟨rfl, rfl⟩), hX.put (Diff.refl _) 28 94 _ (by decide) (by decide)⟩
    · rintro d a W hdi hdep hcl ⟨hF, hX⟩ K hK
      have E := hcl.facts 29 hdi rfl hdep [25, 28] [] (by kernel_rfl) (by kernel_rfl)
      simp only [AllT, AllF] at E
      rw [if_pos (wanted_free rfl)]
      have o0 : At a 91 (Value.bool true) := hF.done 25 (by decide) (by simp only [E])
      have o1 : At a 94 (Value.bool true) := hF.done 28 (by decide) (by simp only [E])
      refine wp_pick_true _ _ _ rfl o0.eval o1.eval ?_
      exact hK _ _ ⟨hF.put 29 (Value.bool true) 95 (by omega) (by kernel_rfl) (by kernel_rfl) (.inl ⟨rfl, rfl⟩), hX.put (Diff.refl _) 29 95 _ (by decide) (by decide)⟩
    · rintro d a W hdi hdep hcl ⟨hF, hX⟩ K hK
      have E := hcl.facts 30 hdi rfl hdep [27, 29] [] (by kernel_rfl) (by kernel_rfl)
      simp only [AllT, AllF] at E
      rw [if_pos (wanted_free rfl)]
      have o0 : At a 95 (Value.bool true) := hF.done 29 (by decide) (by simp only [E])
      refine wp_move_at _ rfl o0.eval ?_
      exact hK _ _ ⟨hF.put 30 (Value.bool true) 96 (by omega) (by kernel_rfl) (by kernel_rfl) (.inl ⟨rfl, rfl⟩), hX.put (Diff.refl _) 30 96 _ (by decide) (by decide)⟩
    · rintro d a W hdi hdep hcl ⟨hF, hX⟩ K hK
      have E := hcl.facts 31 hdi rfl hdep [30] [] (by kernel_rfl) (by kernel_rfl)
      simp only [AllT, AllF] at E
      have o0 : At a 96 (Value.bool true) := hF.done 30 (by decide) (by simp only [E])
      rw [if_pos (wanted_at (g := 30) (b := true) (s := 96) rfl rfl o0)]
      have o1 : At a 11 (Value.int IntKind.i64 0) := hF.base 11 (by decide)
      refine wp_move_at _ rfl o1.eval ?_
      exact hK _ _ ⟨hF.put 31 (Value.int IntKind.i64 0) 97 (by omega) (by kernel_rfl) (by kernel_rfl) (.inl ⟨rfl, rfl⟩), hX.put (Diff.refl _) 31 97 _ (by decide) (by decide)⟩
    · rintro d a W hdi hdep hcl ⟨hF, hX⟩ K hK
      have E := hcl.facts 32 hdi rfl hdep [30, 31] [] (by kernel_rfl) (by kernel_rfl)
      simp only [AllT, AllF] at E
      have o0 : At a 96 (Value.bool true) := hF.done 30 (by decide) (by simp only [E])
      rw [if_pos (wanted_at (g := 30) (b := true) (s := 96) rfl rfl o0)]
      have o1 : At a 97 (Value.int IntKind.i64 0) := hF.done 31 (by decide) (by simp only [E])
      refine wp_eql_int _ _ _ _ (by decide) rfl o1.eval rfl ?_
      exact hK _ _ ⟨hF.put 32 (Value.bool true) 98 (by omega) (by kernel_rfl) (by kernel_rfl) (.inl ⟨rfl, rfl⟩), hX.put (Diff.refl _) 32 98 _ (by decide) (by decide)⟩
    · rintro d a W hdi hdep hcl ⟨hF, hX⟩ K hK
      have E := hcl.facts 33 hdi rfl hdep [30, 32] [] (by kernel_rfl) (by kernel_rfl)
      simp only [AllT, AllF] at E
      rw [if_pos (wanted_free rfl)]
      have o0 : At a 96 (Value.bool true) := hF.done 30 (by decide) (by simp only [E])
      have o1 : At a 98 (Value.bool true) := hF.done 32 (by decide) (by simp only [E])
      refine wp_pick_true _ _ _ rfl o0.eval o1.eval ?_
      exact hK _ _ ⟨hF.put 33 (Value.bool true) 99 (by omega) (by kernel_rfl) (by kernel_rfl) (.inl ⟨rfl, rfl⟩), hX.put (Diff.refl _) 33 99 _ (by decide) (by decide)⟩
    · rintro d a W hdi hdep hcl ⟨hF, hX⟩ K hK
      have E := hcl.facts 34 hdi rfl hdep [30, 33] [] (by kernel_rfl) (by kernel_rfl)
      simp only [AllT, AllF] at E
      rw [if_pos (wanted_free rfl)]
      have o0 : At a 99 (Value.bool true) := hF.done 33 (by decide) (by simp only [E])
      refine wp_move_at _ rfl o0.eval ?_
      exact hK _ _ ⟨hF.put 34 (Value.bool true) 100 (by omega) (by kernel_rfl) (by kernel_rfl) (.inl ⟨rfl, rfl⟩), hX.put (Diff.refl _) 34 100 _ (by decide) (by decide)⟩
    · rintro d a W hdi hdep hcl ⟨hF, hX⟩ K hK
      have E := hcl.facts 35 hdi rfl hdep [34] [] (by kernel_rfl) (by kernel_rfl)
      simp only [AllT, AllF] at E
      have o0 : At a 100 (Value.bool true) := hF.done 34 (by decide) (by simp only [E])
      rw [if_pos (wanted_at (g := 34) (b := true) (s := 100) rfl rfl o0)]
      have o1 : At a 10 (Value.pointer (some { block := gF, off := 0 })) := hF.base 10 (by decide)
      have kz := F_17.out.to hX.pure
      refine wp_load_two _ rfl o1.eval (kz.at 0) (kz.at 1) kz.lt ?_
      exact hK _ _ ⟨hF.put 35 (Value.agg #[Value.int IntKind.i64 65, Value.int IntKind.i64 2]) 101 (by omega) (by kernel_rfl) (by kernel_rfl) (.inl ⟨rfl, rfl⟩), hX.put (Diff.refl _) 35 101 _ (by decide) (by decide)⟩
    · rintro d a W hdi hdep hcl ⟨hF, hX⟩ K hK
      have E := hcl.facts 36 hdi rfl hdep [34] [] (by kernel_rfl) (by kernel_rfl)
      simp only [AllT, AllF] at E
      have o0 : At a 100 (Value.bool true) := hF.done 34 (by decide) (by simp only [E])
      rw [if_pos (wanted_at (g := 34) (b := true) (s := 100) rfl rfl o0)]
      refine wp_call_at 31 (enters_of Tryd.func31 (by kernel_rfl) rfl) _ _ rfl #[Value.int IntKind.i64 65, Value.int IntKind.i64 2] (by simp [Act.eval]) (lby_any _ 65 2) ?_
      intro W' hp
      exact hK _ _ ⟨hF.put 36 (Value.agg #[Value.int IntKind.i64 65, Value.int IntKind.i64 2]) 102 (by omega) (by kernel_rfl) (by kernel_rfl) (.inl ⟨rfl, rfl⟩), hX.put hp 36 102 _ (by decide) (by decide)⟩
    · rintro d a W hdi hdep hcl ⟨hF, hX⟩ K hK
      have E := hcl.facts 37 hdi rfl hdep [34, 35, 36] [] (by kernel_rfl) (by kernel_rfl)
      simp only [AllT, AllF] at E
      have o0 : At a 100 (Value.bool true) := hF.done 34 (by decide) (by simp only [E])
      rw [if_pos (wanted_at (g := 34) (b := true) (s := 100) rfl rfl o0)]
      have o1 : At a 101 (Value.agg #[Value.int IntKind.i64 65, Value.int IntKind.i64 2]) := hF.done 35 (by decide) (by simp only [E])
      have o2 : At a 102 (Value.agg #[Value.int IntKind.i64 65, Value.int IntKind.i64 2]) := hF.done 36 (by decide) (by simp only [E])
      refine wp_eql_two _ _ _ rfl o1.eval o2.eval ?_
      exact hK _ _ ⟨hF.put 37 (Value.bool true) 103 (by omega) (by kernel_rfl) (by kernel_rfl) (.inl ⟨rfl, rfl⟩), hX.put (Diff.refl _) 37 103 _ (by decide) (by decide)⟩
    · rintro d a W hdi hdep hcl ⟨hF, hX⟩ K hK
      have E := hcl.facts 38 hdi rfl hdep [34, 37] [] (by kernel_rfl) (by kernel_rfl)
      simp only [AllT, AllF] at E
      rw [if_pos (wanted_free rfl)]
      have o0 : At a 100 (Value.bool true) := hF.done 34 (by decide) (by simp only [E])
      have o1 : At a 103 (Value.bool true) := hF.done 37 (by decide) (by simp only [E])
      refine wp_pick_true _ _ _ rfl o0.eval o1.eval ?_
      exact hK _ _ ⟨hF.put 38 (Value.bool true) 104 (by omega) (by kernel_rfl) (by kernel_rfl) (.inl ⟨rfl, rfl⟩), hX.put (Diff.refl _) 38 104 _ (by decide) (by decide)⟩
    · rintro d a W hdi hdep hcl ⟨hF, hX⟩ K hK
      have E := hcl.facts 39 hdi rfl hdep [36, 38] [] (by kernel_rfl) (by kernel_rfl)
      simp only [AllT, AllF] at E
      rw [if_pos (wanted_free rfl)]
      have o0 : At a 104 (Value.bool true) := hF.done 38 (by decide) (by simp only [E])
      refine wp_move_at _ rfl o0.eval ?_
      exact hK _ _ ⟨hF.put 39 (Value.bool true) 105 (by omega) (by kernel_rfl) (by kernel_rfl) (.inl ⟨rfl, rfl⟩), hX.put (Diff.refl _) 39 105 _ (by decide) (by decide)⟩
    · rintro d a W hdi hdep hcl ⟨hF, hX⟩ K hK
      have E := hcl.facts 40 hdi rfl hdep [39] [] (by kernel_rfl) (by kernel_rfl)
      simp only [AllT, AllF] at E
      have o0 : At a 105 (Value.bool true) := hF.done 39 (by decide) (by simp only [E])
      rw [if_pos (wanted_at (g := 39) (b := true) (s := 105) rfl rfl o0)]
      have o1 : At a 13 (Value.int IntKind.i64 0) := hF.base 13 (by decide)
      refine wp_move_at _ rfl o1.eval ?_
      exact hK _ _ ⟨hF.put 40 (Value.int IntKind.i64 0) 106 (by omega) (by kernel_rfl) (by kernel_rfl) (.inl ⟨rfl, rfl⟩), hX.put (Diff.refl _) 40 106 _ (by decide) (by decide)⟩
    · rintro d a W hdi hdep hcl ⟨hF, hX⟩ K hK
      have E := hcl.facts 41 hdi rfl hdep [39, 40] [] (by kernel_rfl) (by kernel_rfl)
      simp only [AllT, AllF] at E
      have o0 : At a 105 (Value.bool true) := hF.done 39 (by decide) (by simp only [E])
      rw [if_pos (wanted_at (g := 39) (b := true) (s := 105) rfl rfl o0)]
      have o1 : At a 106 (Value.int IntKind.i64 0) := hF.done 40 (by decide) (by simp only [E])
      refine wp_eql_int _ _ _ _ (by decide) rfl o1.eval rfl ?_
      exact hK _ _ ⟨hF.put 41 (Value.bool true) 107 (by omega) (by kernel_rfl) (by kernel_rfl) (.inl ⟨rfl, rfl⟩), hX.put (Diff.refl _) 41 107 _ (by decide) (by decide)⟩
    · rintro d a W hdi hdep hcl ⟨hF, hX⟩ K hK
      have E := hcl.facts 42 hdi rfl hdep [39, 41] [] (by kernel_rfl) (by kernel_rfl)
      simp only [AllT, AllF] at E
      rw [if_pos (wanted_free rfl)]
      have o0 : At a 105 (Value.bool true) := hF.done 39 (by decide) (by simp only [E])
      have o1 : At a 107 (Value.bool true) := hF.done 41 (by decide) (by simp only [E])
      refine wp_pick_true _ _ _ rfl o0.eval o1.eval ?_
      exact hK _ _ ⟨hF.put 42 (Value.bool true) 108 (by omega) (by kernel_rfl) (by kernel_rfl) (.inl ⟨rfl, rfl⟩), hX.put (Diff.refl _) 42 108 _ (by decide) (by decide)⟩
    · rintro d a W hdi hdep hcl ⟨hF, hX⟩ K hK
      have E := hcl.facts 43 hdi rfl hdep [39, 42] [] (by kernel_rfl) (by kernel_rfl)
      simp only [AllT, AllF] at E
      rw [if_pos (wanted_free rfl)]
      have o0 : At a 108 (Value.bool true) := hF.done 42 (by decide) (by simp only [E])
      refine wp_move_at _ rfl o0.eval ?_
      exact hK _ _ ⟨hF.put 43 (Value.bool true) 109 (by omega) (by kernel_rfl) (by kernel_rfl) (.inl ⟨rfl, rfl⟩), hX.put (Diff.refl _) 43 109 _ (by decide) (by decide)⟩
    · rintro d a W hdi hdep hcl ⟨hF, hX⟩ K hK
      have E := hcl.facts 44 hdi rfl hdep [43] [] (by kernel_rfl) (by kernel_rfl)
      simp only [AllT, AllF] at E
      have o0 : At a 109 (Value.bool true) := hF.done 43 (by decide) (by simp only [E])
      rw [if_pos (wanted_at (g := 43) (b := true) (s := 109) rfl rfl o0)]
      have o1 : At a 12 (Value.pointer (some { block := gG, off := 0 })) := hF.base 12 (by decide)
      have kz := G_17.out.to hX.pure
      refine wp_load_two _ rfl o1.eval (kz.at 0) (kz.at 1) kz.lt ?_
      exact hK _ _ ⟨hF.put 44 (Value.agg #[Value.int IntKind.i64 30, Value.int IntKind.i64 1]) 110 (by omega) (by kernel_rfl) (by kernel_rfl) (.inl ⟨rfl, rfl⟩), hX.put (Diff.refl _) 44 110 _ (by decide) (by decide)⟩
    · rintro d a W hdi hdep hcl ⟨hF, hX⟩ K hK
      have E := hcl.facts 45 hdi rfl hdep [43] [] (by kernel_rfl) (by kernel_rfl)
      simp only [AllT, AllF] at E
      have o0 : At a 109 (Value.bool true) := hF.done 43 (by decide) (by simp only [E])
      rw [if_pos (wanted_at (g := 43) (b := true) (s := 109) rfl rfl o0)]
      refine wp_call_at 31 (enters_of Tryd.func31 (by kernel_rfl) rfl) _ _ rfl #[Value.int IntKind.i64 30, Value.int IntKind.i64 1] (by simp [Act.eval]) (lby_any _ 30 1) ?_
      intro W' hp
      exact hK _ _ ⟨hF.put 45 (Value.agg #[Value.int IntKind.i64 30, Value.int IntKind.i64 1]) 111 (by omega) (by kernel_rfl) (by kernel_rfl) (.inl ⟨rfl, rfl⟩), hX.put hp 45 111 _ (by decide) (by decide)⟩
    · rintro d a W hdi hdep hcl ⟨hF, hX⟩ K hK
      have E := hcl.facts 46 hdi rfl hdep [43, 44, 45] [] (by kernel_rfl) (by kernel_rfl)
      simp only [AllT, AllF] at E
      have o0 : At a 109 (Value.bool true) := hF.done 43 (by decide) (by simp only [E])
      rw [if_pos (wanted_at (g := 43) (b := true) (s := 109) rfl rfl o0)]
      have o1 : At a 110 (Value.agg #[Value.int IntKind.i64 30, Value.int IntKind.i64 1]) := hF.done 44 (by decide) (by simp only [E])
      have o2 : At a 111 (Value.agg #[Value.int IntKind.i64 30, Value.int IntKind.i64 1]) := hF.done 45 (by decide) (by simp only [E])
      refine wp_eql_two _ _ _ rfl o1.eval o2.eval ?_
      exact hK _ _ ⟨hF.put 46 (Value.bool true) 112 (by omega) (by kernel_rfl) (by kernel_rfl) (.inl ⟨rfl, rfl⟩), hX.put (Diff.refl _) 46 112 _ (by decide) (by decide)⟩
    · rintro d a W hdi hdep hcl ⟨hF, hX⟩ K hK
      have E := hcl.facts 47 hdi rfl hdep [43, 46] [] (by kernel_rfl) (by kernel_rfl)
      simp only [AllT, AllF] at E
      rw [if_pos (wanted_free rfl)]
      have o0 : At a 109 (Value.bool true) := hF.done 43 (by decide) (by simp only [E])
      have o1 : At a 112 (Value.bool true) := hF.done 46 (by decide) (by simp only [E])
      refine wp_pick_true _ _ _ rfl o0.eval o1.eval ?_
      exact hK _ _ ⟨hF.put 47 (Value.bool true) 113 (by omega) (by kernel_rfl) (by kernel_rfl) (.inl ⟨rfl, rfl⟩), hX.put (Diff.refl _) 47 113 _ (by decide) (by decide)⟩
    · rintro d a W hdi hdep hcl ⟨hF, hX⟩ K hK
      have E := hcl.facts 48 hdi rfl hdep [45, 47] [] (by kernel_rfl) (by kernel_rfl)
      simp only [AllT, AllF] at E
      rw [if_pos (wanted_free rfl)]
      have o0 : At a 113 (Value.bool true) := hF.done 47 (by decide) (by simp only [E])
      refine wp_move_at _ rfl o0.eval ?_
      exact hK _ _ ⟨hF.put 48 (Value.bool true) 114 (by omega) (by kernel_rfl) (by kernel_rfl) (.inl ⟨rfl, rfl⟩), hX.put (Diff.refl _) 48 114 _ (by decide) (by decide)⟩
    · rintro d a W hdi hdep hcl ⟨hF, hX⟩ K hK
      have E := hcl.facts 49 hdi rfl hdep [48] [] (by kernel_rfl) (by kernel_rfl)
      simp only [AllT, AllF] at E
      have o0 : At a 114 (Value.bool true) := hF.done 48 (by decide) (by simp only [E])
      rw [if_pos (wanted_at (g := 48) (b := true) (s := 114) rfl rfl o0)]
      have o1 : At a 15 (Value.int IntKind.i64 0) := hF.base 15 (by decide)
      refine wp_move_at _ rfl o1.eval ?_
      exact hK _ _ ⟨hF.put 49 (Value.int IntKind.i64 0) 115 (by omega) (by kernel_rfl) (by kernel_rfl) (.inl ⟨rfl, rfl⟩), hX.put (Diff.refl _) 49 115 _ (by decide) (by decide)⟩
    · rintro d a W hdi hdep hcl ⟨hF, hX⟩ K hK
      have E := hcl.facts 50 hdi rfl hdep [48, 49] [] (by kernel_rfl) (by kernel_rfl)
      simp only [AllT, AllF] at E
      have o0 : At a 114 (Value.bool true) := hF.done 48 (by decide) (by simp only [E])
      rw [if_pos (wanted_at (g := 48) (b := true) (s := 114) rfl rfl o0)]
      have o1 : At a 115 (Value.int IntKind.i64 0) := hF.done 49 (by decide) (by simp only [E])
      refine wp_eql_int _ _ _ _ (by decide) rfl o1.eval rfl ?_
      exact hK _ _ ⟨hF.put 50 (Value.bool true) 116 (by omega) (by kernel_rfl) (by kernel_rfl) (.inl ⟨rfl, rfl⟩), hX.put (Diff.refl _) 50 116 _ (by decide) (by decide)⟩
    · rintro d a W hdi hdep hcl ⟨hF, hX⟩ K hK
      have E := hcl.facts 51 hdi rfl hdep [48, 50] [] (by kernel_rfl) (by kernel_rfl)
      simp only [AllT, AllF] at E
      rw [if_pos (wanted_free rfl)]
      have o0 : At a 114 (Value.bool true) := hF.done 48 (by decide) (by simp only [E])
      have o1 : At a 116 (Value.bool true) := hF.done 50 (by decide) (by simp only [E])
      refine wp_pick_true _ _ _ rfl o0.eval o1.eval ?_
      exact hK _ _ ⟨hF.put 51 (Value.bool true) 117 (by omega) (by kernel_rfl) (by kernel_rfl) (.inl ⟨rfl, rfl⟩), hX.put (Diff.refl _) 51 117 _ (by decide) (by decide)⟩
    · rintro d a W hdi hdep hcl ⟨hF, hX⟩ K hK
      have E := hcl.facts 52 hdi rfl hdep [48, 51] [] (by kernel_rfl) (by kernel_rfl)
      simp only [AllT, AllF] at E
      rw [if_pos (wanted_free rfl)]
      have o0 : At a 117 (Value.bool true) := hF.done 51 (by decide) (by simp only [E])
      refine wp_move_at _ rfl o0.eval ?_
      exact hK _ _ ⟨hF.put 52 (Value.bool true) 118 (by omega) (by kernel_rfl) (by kernel_rfl) (.inl ⟨rfl, rfl⟩), hX.put (Diff.refl _) 52 118 _ (by decide) (by decide)⟩
    · rintro d a W hdi hdep hcl ⟨hF, hX⟩ K hK
      have E := hcl.facts 53 hdi rfl hdep [52] [] (by kernel_rfl) (by kernel_rfl)
      simp only [AllT, AllF] at E
      have o0 : At a 118 (Value.bool true) := hF.done 52 (by decide) (by simp only [E])
      rw [if_pos (wanted_at (g := 52) (b := true) (s := 118) rfl rfl o0)]
      have o1 : At a 14 (Value.pointer (some { block := gH, off := 0 })) := hF.base 14 (by decide)
      have kz := H_17.out.to hX.pure
      refine wp_load_two _ rfl o1.eval (kz.at 0) (kz.at 1) kz.lt ?_
      exact hK _ _ ⟨hF.put 53 (Value.agg #[Value.int IntKind.i64 20, Value.int IntKind.i64 1]) 119 (by omega) (by kernel_rfl) (by kernel_rfl) (.inl ⟨rfl, rfl⟩), hX.put (Diff.refl _) 53 119 _ (by decide) (by decide)⟩
    · rintro d a W hdi hdep hcl ⟨hF, hX⟩ K hK
      have E := hcl.facts 54 hdi rfl hdep [52] [] (by kernel_rfl) (by kernel_rfl)
      simp only [AllT, AllF] at E
      have o0 : At a 118 (Value.bool true) := hF.done 52 (by decide) (by simp only [E])
      rw [if_pos (wanted_at (g := 52) (b := true) (s := 118) rfl rfl o0)]
      refine wp_call_at 31 (enters_of Tryd.func31 (by kernel_rfl) rfl) _ _ rfl #[Value.int IntKind.i64 20, Value.int IntKind.i64 1] (by simp [Act.eval]) (lby_any _ 20 1) ?_
      intro W' hp
      exact hK _ _ ⟨hF.put 54 (Value.agg #[Value.int IntKind.i64 20, Value.int IntKind.i64 1]) 120 (by omega) (by kernel_rfl) (by kernel_rfl) (.inl ⟨rfl, rfl⟩), hX.put hp 54 120 _ (by decide) (by decide)⟩
    · rintro d a W hdi hdep hcl ⟨hF, hX⟩ K hK
      have E := hcl.facts 55 hdi rfl hdep [52, 53, 54] [] (by kernel_rfl) (by kernel_rfl)
      simp only [AllT, AllF] at E
      have o0 : At a 118 (Value.bool true) := hF.done 52 (by decide) (by simp only [E])
      rw [if_pos (wanted_at (g := 52) (b := true) (s := 118) rfl rfl o0)]
      have o1 : At a 119 (Value.agg #[Value.int IntKind.i64 20, Value.int IntKind.i64 1]) := hF.done 53 (by decide) (by simp only [E])
      have o2 : At a 120 (Value.agg #[Value.int IntKind.i64 20, Value.int IntKind.i64 1]) := hF.done 54 (by decide) (by simp only [E])
      refine wp_eql_two _ _ _ rfl o1.eval o2.eval ?_
      exact hK _ _ ⟨hF.put 55 (Value.bool true) 121 (by omega) (by kernel_rfl) (by kernel_rfl) (.inl ⟨rfl, rfl⟩), hX.put (Diff.refl _) 55 121 _ (by decide) (by decide)⟩
    · rintro d a W hdi hdep hcl ⟨hF, hX⟩ K hK
      have E := hcl.facts 56 hdi rfl hdep [52, 55] [] (by kernel_rfl) (by kernel_rfl)
      simp only [AllT, AllF] at E
      rw [if_pos (wanted_free rfl)]
      have o0 : At a 118 (Value.bool true) := hF.done 52 (by decide) (by simp only [E])
      have o1 : At a 121 (Value.bool true) := hF.done 55 (by decide) (by simp only [E])
      refine wp_pick_true _ _ _ rfl o0.eval o1.eval ?_
      exact hK _ _ ⟨hF.put 56 (Value.bool true) 122 (by omega) (by kernel_rfl) (by kernel_rfl) (.inl ⟨rfl, rfl⟩), hX.put (Diff.refl _) 56 122 _ (by decide) (by decide)⟩
    · rintro d a W hdi hdep hcl ⟨hF, hX⟩ K hK
      have E := hcl.facts 57 hdi rfl hdep [54, 56] [] (by kernel_rfl) (by kernel_rfl)
      simp only [AllT, AllF] at E
      rw [if_pos (wanted_free rfl)]
      have o0 : At a 122 (Value.bool true) := hF.done 56 (by decide) (by simp only [E])
      refine wp_move_at _ rfl o0.eval ?_
      exact hK _ _ ⟨hF.put 57 (Value.bool true) 123 (by omega) (by kernel_rfl) (by kernel_rfl) (.inl ⟨rfl, rfl⟩), hX.put (Diff.refl _) 57 123 _ (by decide) (by decide)⟩
    · rintro d a W hdi hdep hcl ⟨hF, hX⟩ K hK
      have E := hcl.facts 58 hdi rfl hdep [57] [] (by kernel_rfl) (by kernel_rfl)
      simp only [AllT, AllF] at E
      have o0 : At a 123 (Value.bool true) := hF.done 57 (by decide) (by simp only [E])
      rw [if_pos (wanted_at (g := 57) (b := true) (s := 123) rfl rfl o0)]
      have o1 : At a 17 (Value.int IntKind.i64 16) := hF.base 17 (by decide)
      refine wp_move_at _ rfl o1.eval ?_
      exact hK _ _ ⟨hF.put 58 (Value.int IntKind.i64 16) 124 (by omega) (by kernel_rfl) (by kernel_rfl) (.inl ⟨rfl, rfl⟩), hX.put (Diff.refl _) 58 124 _ (by decide) (by decide)⟩
    · rintro d a W hdi hdep hcl ⟨hF, hX⟩ K hK
      have E := hcl.facts 59 hdi rfl hdep [57, 58] [] (by kernel_rfl) (by kernel_rfl)
      simp only [AllT, AllF] at E
      have o0 : At a 123 (Value.bool true) := hF.done 57 (by decide) (by simp only [E])
      rw [if_pos (wanted_at (g := 57) (b := true) (s := 123) rfl rfl o0)]
      have o1 : At a 124 (Value.int IntKind.i64 16) := hF.done 58 (by decide) (by simp only [E])
      refine wp_eql_int _ _ _ _ (by decide) rfl o1.eval rfl ?_
      exact hK _ _ ⟨hF.put 59 (Value.bool true) 125 (by omega) (by kernel_rfl) (by kernel_rfl) (.inl ⟨rfl, rfl⟩), hX.put (Diff.refl _) 59 125 _ (by decide) (by decide)⟩
    · rintro d a W hdi hdep hcl ⟨hF, hX⟩ K hK
      have E := hcl.facts 60 hdi rfl hdep [57, 59] [] (by kernel_rfl) (by kernel_rfl)
      simp only [AllT, AllF] at E
      rw [if_pos (wanted_free rfl)]
      have o0 : At a 123 (Value.bool true) := hF.done 57 (by decide) (by simp only [E])
      have o1 : At a 125 (Value.bool true) := hF.done 59 (by decide) (by simp only [E])
      refine wp_pick_true _ _ _ rfl o0.eval o1.eval ?_
      exact hK _ _ ⟨hF.put 60 (Value.bool true) 126 (by omega) (by kernel_rfl) (by kernel_rfl) (.inl ⟨rfl, rfl⟩), hX.put (Diff.refl _) 60 126 _ (by decide) (by decide)⟩
    · rintro d a W hdi hdep hcl ⟨hF, hX⟩ K hK
      have E := hcl.facts 61 hdi rfl hdep [57, 60] [] (by kernel_rfl) (by kernel_rfl)
      simp only [AllT, AllF] at E
      rw [if_pos (wanted_free rfl)]
      have o0 : At a 126 (Value.bool true) := hF.done 60 (by decide) (by simp only [E])
      refine wp_move_at _ rfl o0.eval ?_
      exact hK _ _ ⟨hF.put 61 (Value.bool true) 127 (by omega) (by kernel_rfl) (by kernel_rfl) (.inl ⟨rfl, rfl⟩), hX.put (Diff.refl _) 61 127 _ (by decide) (by decide)⟩
    · rintro d a W hdi hdep hcl ⟨hF, hX⟩ K hK
      have E := hcl.facts 62 hdi rfl hdep [61] [] (by kernel_rfl) (by kernel_rfl)
      simp only [AllT, AllF] at E
      have o0 : At a 127 (Value.bool true) := hF.done 61 (by decide) (by simp only [E])
      rw [if_pos (wanted_at (g := 61) (b := true) (s := 127) rfl rfl o0)]
      have o1 : At a 19 (Value.int IntKind.i64 0) := hF.base 19 (by decide)
      refine wp_move_at _ rfl o1.eval ?_
      exact hK _ _ ⟨hF.put 62 (Value.int IntKind.i64 0) 128 (by omega) (by kernel_rfl) (by kernel_rfl) (.inl ⟨rfl, rfl⟩), hX.put (Diff.refl _) 62 128 _ (by decide) (by decide)⟩
    · rintro d a W hdi hdep hcl ⟨hF, hX⟩ K hK
      have E := hcl.facts 63 hdi rfl hdep [61, 62] [] (by kernel_rfl) (by kernel_rfl)
      simp only [AllT, AllF] at E
      have o0 : At a 127 (Value.bool true) := hF.done 61 (by decide) (by simp only [E])
      rw [if_pos (wanted_at (g := 61) (b := true) (s := 127) rfl rfl o0)]
      have o1 : At a 128 (Value.int IntKind.i64 0) := hF.done 62 (by decide) (by simp only [E])
      refine wp_eql_int _ _ _ _ (by decide) rfl o1.eval rfl ?_
      exact hK _ _ ⟨hF.put 63 (Value.bool true) 129 (by omega) (by kernel_rfl) (by kernel_rfl) (.inl ⟨rfl, rfl⟩), hX.put (Diff.refl _) 63 129 _ (by decide) (by decide)⟩
    · rintro d a W hdi hdep hcl ⟨hF, hX⟩ K hK
      have E := hcl.facts 64 hdi rfl hdep [61, 63] [] (by kernel_rfl) (by kernel_rfl)
      simp only [AllT, AllF] at E
      rw [if_pos (wanted_free rfl)]
      have o0 : At a 127 (Value.bool true) := hF.done 61 (by decide) (by simp only [E])
      have o1 : At a 129 (Value.bool true) := hF.done 63 (by decide) (by simp only [E])
      refine wp_pick_true _ _ _ rfl o0.eval o1.eval ?_
      exact hK _ _ ⟨hF.put 64 (Value.bool true) 130 (by omega) (by kernel_rfl) (by kernel_rfl) (.inl ⟨rfl, rfl⟩), hX.put (Diff.refl _) 64 130 _ (by decide) (by decide)⟩
    · rintro d a W hdi hdep hcl ⟨hF, hX⟩ K hK
      have E := hcl.facts 65 hdi rfl hdep [61, 64] [] (by kernel_rfl) (by kernel_rfl)
      simp only [AllT, AllF] at E
      rw [if_pos (wanted_free rfl)]
      have o0 : At a 130 (Value.bool true) := hF.done 64 (by decide) (by simp only [E])
      refine wp_move_at _ rfl o0.eval ?_
      exact hK _ _ ⟨hF.put 65 (Value.bool true) 131 (by omega) (by kernel_rfl) (by kernel_rfl) (.inl ⟨rfl, rfl⟩), hX.put (Diff.refl _) 65 131 _ (by decide) (by decide)⟩
    · rintro d a W hdi hdep hcl ⟨hF, hX⟩ K hK
      have E := hcl.facts 66 hdi rfl hdep [65] [] (by kernel_rfl) (by kernel_rfl)
      simp only [AllT, AllF] at E
      have o0 : At a 131 (Value.bool true) := hF.done 65 (by decide) (by simp only [E])
      rw [if_pos (wanted_at (g := 65) (b := true) (s := 131) rfl rfl o0)]
      have o1 : At a 18 (Value.slice qk 2 ck) := hF.base 18 (by decide)
      refine wp_move_at _ rfl o1.eval ?_
      exact hK _ _ ⟨hF.put 66 (Value.slice qk 2 ck) 132 (by omega) (by kernel_rfl) (by kernel_rfl) (.inl ⟨rfl, rfl⟩), hX.put (Diff.refl _) 66 132 _ (by decide) (by decide)⟩
    · rintro d a W hdi hdep hcl ⟨hF, hX⟩ K hK
      have E := hcl.facts 67 hdi rfl hdep [65] [68] (by kernel_rfl) (by kernel_rfl)
      simp only [AllT, AllF] at E
      have o0 : At a 131 (Value.bool true) := hF.done 65 (by decide) (by simp only [E])
      rw [if_pos (wanted_at (g := 65) (b := true) (s := 131) rfl rfl o0)]
      refine wp_build_ints 2 _ rfl #[Value.int IntKind.i64 0, Value.int IntKind.i64 1] (fun w => by go_simp) ?_
      have hb := Blk.new W 3 #[Value.int IntKind.i64 0, Value.int IntKind.i64 1]
      have hp : Pure W (W.alloc (Obj.cells #[Value.int IntKind.i64 0, Value.int IntKind.i64 1] 3)) := (Diff.refl W).alloc _
      refine hK _ _ ⟨hF.put 67 _ 133 (by omega) (by kernel_rfl) (by kernel_rfl) (.inr (by decide)), ?_⟩
      have hs : 133 < a.tmps.size := by rw [hF.size]; omega
      exact hX.b62 hp hs (row_lit hb (fun k hk => by rcases k with _ | _ | k <;> first | rfl | omega)) (by simp only [E])
    · rintro d a W hdi hdep hcl ⟨hF, hX⟩ K hK
      have E := hcl.facts 68 hdi rfl hdep [65, 67] [] (by kernel_rfl) (by kernel_rfl)
      simp only [AllT, AllF] at E
      have o0 : At a 131 (Value.bool true) := hF.done 65 (by decide) (by simp only [E])
      rw [if_pos (wanted_at (g := 65) (b := true) (s := 131) rfl rfl o0)]
      obtain ⟨s, hs1, hs2⟩ := hX.p (by simp only [E])
      refine wp_call_at 60 (enters_of Tryd.func60 (by kernel_rfl) rfl) _ _ rfl #[Value.slice (some ⟨s, 0, none⟩) 2 2] (by rw [show (#[Operand.tmp 133] : Array Operand).map a.eval = #[a.eval (.tmp 133)] from map_one _ _, hs1.eval]) (lof_any _ _ _ _ _ rfl) ?_
      intro W' hp
      have hs : 134 < a.tmps.size := by rw [hF.size]; omega
      exact hK _ _ ⟨hF.put 68 _ 134 (by omega) (by kernel_rfl) (by kernel_rfl) (.inr (by decide)), hX.b63 hp hs (hs2.to hp)⟩
    · rintro d a W hdi hdep hcl ⟨hF, hX⟩ K hK
      have E := hcl.facts 69 hdi rfl hdep [65, 66, 68] [] (by kernel_rfl) (by kernel_rfl)
      simp only [AllT, AllF] at E
      have o0 : At a 131 (Value.bool true) := hF.done 65 (by decide) (by simp only [E])
      rw [if_pos (wanted_at (g := 65) (b := true) (s := 131) rfl rfl o0)]
      obtain ⟨s, hs1, hs2⟩ := hX.q (by simp only [E])
      have q1 : At a 132 (Value.slice qk 2 ck) := hF.done 66 (by decide) (by simp only [E])
      refine wp_call_at 44 (enters_of Tryd.func44 (by kernel_rfl) rfl) _ _ rfl #[Value.slice qk 2 ck, Value.slice (some ⟨s, 0, none⟩) 2 2] (by rw [show (#[Operand.tmp 132, Operand.tmp 134] : Array Operand).map a.eval = #[a.eval (.tmp 132), a.eval (.tmp 134)] from map_two _ _ _, q1.eval, hs1.eval]) (ints_same ck 2 (n := 2) (f := fun k => (nthN [0, 1] k : Int)) (by omega) (K_17.out.to hX.pure) hs2) ?_
      intro W' hp
      exact hK _ _ ⟨hF.put 69 (Value.bool true) 135 (by omega) (by kernel_rfl) (by kernel_rfl) (.inl ⟨rfl, rfl⟩), hX.put hp 69 135 _ (by decide) (by decide)⟩
    · rintro d a W hdi hdep hcl ⟨hF, hX⟩ K hK
      have E := hcl.facts 70 hdi rfl hdep [65, 69] [] (by kernel_rfl) (by kernel_rfl)
      simp only [AllT, AllF] at E
      rw [if_pos (wanted_free rfl)]
      have o0 : At a 131 (Value.bool true) := hF.done 65 (by decide) (by simp only [E])
      have o1 : At a 135 (Value.bool true) := hF.done 69 (by decide) (by simp only [E])
      refine wp_pick_true _ _ _ rfl o0.eval o1.eval ?_
      exact hK _ _ ⟨hF.put 70 (Value.bool true) 136 (by omega) (by kernel_rfl) (by kernel_rfl) (.inl ⟨rfl, rfl⟩), hX.put (Diff.refl _) 70 136 _ (by decide) (by decide)⟩
    · rintro d a W hdi hdep hcl ⟨hF, hX⟩ K hK
      have E := hcl.facts 71 hdi rfl hdep [69, 70] [] (by kernel_rfl) (by kernel_rfl)
      simp only [AllT, AllF] at E
      rw [if_pos (wanted_free rfl)]
      have o0 : At a 136 (Value.bool true) := hF.done 70 (by decide) (by simp only [E])
      refine wp_move_at _ rfl o0.eval ?_
      exact hK _ _ ⟨hF.put 71 (Value.bool true) 137 (by omega) (by kernel_rfl) (by kernel_rfl) (.inl ⟨rfl, rfl⟩), hX.put (Diff.refl _) 71 137 _ (by decide) (by decide)⟩
    · rintro d a W hdi hdep hcl ⟨hF, hX⟩ K hK
      have E := hcl.facts 72 hdi rfl hdep [71] [] (by kernel_rfl) (by kernel_rfl)
      simp only [AllT, AllF] at E
      have o0 : At a 137 (Value.bool true) := hF.done 71 (by decide) (by simp only [E])
      rw [if_pos (wanted_at (g := 71) (b := true) (s := 137) rfl rfl o0)]
      have o1 : At a 2 (Value.slice pB 2 cB) := hF.base 2 (by decide)
      refine wp_move_at _ rfl o1.eval ?_
      exact hK _ _ ⟨hF.put 72 (Value.slice pB 2 cB) 138 (by omega) (by kernel_rfl) (by kernel_rfl) (.inl ⟨rfl, rfl⟩), hX.put (Diff.refl _) 72 138 _ (by decide) (by decide)⟩
    · rintro d a W hdi hdep hcl ⟨hF, hX⟩ K hK
      have E := hcl.facts 73 hdi rfl hdep [71, 72] [] (by kernel_rfl) (by kernel_rfl)
      simp only [AllT, AllF] at E
      have o0 : At a 137 (Value.bool true) := hF.done 71 (by decide) (by simp only [E])
      rw [if_pos (wanted_at (g := 71) (b := true) (s := 137) rfl rfl o0)]
      have o1 : At a 138 (Value.slice pB 2 cB) := hF.done 72 (by decide) (by simp only [E])
      refine wp_call_at 22 (enters_of Tryd.func22 (by kernel_rfl) rfl) _ _ rfl #[Value.slice pB 2 cB] (by rw [show (#[Operand.tmp 138] : Array Operand).map a.eval = #[a.eval (.tmp 138)] from map_one _ _, o1.eval]) (q9 (HW_17.out.to hX.pure) cB) ?_
      intro W' hp
      exact hK _ _ ⟨hF.put 73 (Value.int IntKind.i64 0) 139 (by omega) (by kernel_rfl) (by kernel_rfl) (.inl ⟨rfl, rfl⟩), hX.put hp 73 139 _ (by decide) (by decide)⟩
    · rintro d a W hdi hdep hcl ⟨hF, hX⟩ K hK
      have E := hcl.facts 74 hdi rfl hdep [71, 73] [] (by kernel_rfl) (by kernel_rfl)
      simp only [AllT, AllF] at E
      have o0 : At a 137 (Value.bool true) := hF.done 71 (by decide) (by simp only [E])
      rw [if_pos (wanted_at (g := 71) (b := true) (s := 137) rfl rfl o0)]
      have o1 : At a 139 (Value.int IntKind.i64 0) := hF.done 73 (by decide) (by simp only [E])
      refine wp_eql_int _ _ _ _ (by decide) rfl o1.eval rfl ?_
      exact hK _ _ ⟨hF.put 74 (Value.bool true) 140 (by omega) (by kernel_rfl) (by kernel_rfl) (.inl ⟨rfl, rfl⟩), hX.put (Diff.refl _) 74 140 _ (by decide) (by decide)⟩
    · rintro d a W hdi hdep hcl ⟨hF, hX⟩ K hK
      have E := hcl.facts 75 hdi rfl hdep [71, 74] [] (by kernel_rfl) (by kernel_rfl)
      simp only [AllT, AllF] at E
      rw [if_pos (wanted_free rfl)]
      have o0 : At a 137 (Value.bool true) := hF.done 71 (by decide) (by simp only [E])
      have o1 : At a 140 (Value.bool true) := hF.done 74 (by decide) (by simp only [E])
      refine wp_pick_true _ _ _ rfl o0.eval o1.eval ?_
      exact hK _ _ ⟨hF.put 75 (Value.bool true) 141 (by omega) (by kernel_rfl) (by kernel_rfl) (.inl ⟨rfl, rfl⟩), hX.put (Diff.refl _) 75 141 _ (by decide) (by decide)⟩
    · rintro d a W hdi hdep hcl ⟨hF, hX⟩ K hK
      have E := hcl.facts 76 hdi rfl hdep [73, 75] [] (by kernel_rfl) (by kernel_rfl)
      simp only [AllT, AllF] at E
      rw [if_pos (wanted_free rfl)]
      have o0 : At a 141 (Value.bool true) := hF.done 75 (by decide) (by simp only [E])
      refine wp_move_at _ rfl o0.eval ?_
      exact hK _ _ ⟨hF.put 76 (Value.bool true) 142 (by omega) (by kernel_rfl) (by kernel_rfl) (.inl ⟨rfl, rfl⟩), hX.put (Diff.refl _) 76 142 _ (by decide) (by decide)⟩
    · rintro d a W hdi hdep hcl ⟨hF, hX⟩ K hK
      have E := hcl.facts 77 hdi rfl hdep [76] [] (by kernel_rfl) (by kernel_rfl)
      simp only [AllT, AllF] at E
      have o0 : At a 142 (Value.bool true) := hF.done 76 (by decide) (by simp only [E])
      rw [if_pos (wanted_at (g := 76) (b := true) (s := 142) rfl rfl o0)]
      refine wp_call_at 17 (enters_of Tryd.func17 (by kernel_rfl) rfl) _ _ rfl #[] (by simp) (Works_any _ ((HW_17.out.to hX.pure).g)) ?_
      intro W' hp
      exact hK _ _ ⟨hF.put 77 (Value.bool true) 143 (by omega) (by kernel_rfl) (by kernel_rfl) (.inl ⟨rfl, rfl⟩), hX.put hp 77 143 _ (by decide) (by decide)⟩
    · rintro d a W hdi hdep hcl ⟨hF, hX⟩ K hK
      have E := hcl.facts 78 hdi rfl hdep [76, 77] [] (by kernel_rfl) (by kernel_rfl)
      simp only [AllT, AllF] at E
      rw [if_pos (wanted_free rfl)]
      have o0 : At a 142 (Value.bool true) := hF.done 76 (by decide) (by simp only [E])
      have o1 : At a 143 (Value.bool true) := hF.done 77 (by decide) (by simp only [E])
      refine wp_pick_true _ _ _ rfl o0.eval o1.eval ?_
      exact hK _ _ ⟨hF.put 78 (Value.bool true) 144 (by omega) (by kernel_rfl) (by kernel_rfl) (.inl ⟨rfl, rfl⟩), hX.put (Diff.refl _) 78 144 _ (by decide) (by decide)⟩
    · rintro d a W hdi hdep hcl ⟨hF, hX⟩ K hK
      have E := hcl.facts 79 hdi rfl hdep [77, 78] [] (by kernel_rfl) (by kernel_rfl)
      simp only [AllT, AllF] at E
      rw [if_pos (wanted_free rfl)]
      have o0 : At a 144 (Value.bool true) := hF.done 78 (by decide) (by simp only [E])
      refine wp_assign_at _ rfl o0.eval ?_
      exact hK _ _ ⟨hF.put 79 (Value.bool true) 0 (by omega) (by kernel_rfl) (by kernel_rfl) (.inl ⟨rfl, rfl⟩), hX.put (Diff.refl _) 79 0 _ (by decide) (by decide)⟩
  · rintro d a W hall ⟨hF, hX⟩
    have E := AllT.all hall [79] (by kernel_rfl)
    have oR : At a 0 (Value.bool true) := hF.done 79 (by decide) E.1
    have hpe := hX.pure
    have r1 : a.tmps[0]? = some (.bool true) := oR
    go_wp2_with fail
    exact bodyPost_ret (v := .bool true) (by simp only [results, Tryd.results15]; simp [go_sem, r1]) hF.nodef ⟨rfl, HP_17.out.trans hpe⟩
end Go.Proofs.YtgpfmnjianflaaaDoor
