/- Walk of the law's noMore. -/
import Derived.Test.YtgpfmnjianflaaaDoorR20
import Derived.Test.YtgpfmnjianflaaaDoorT8
set_option linter.unusedSimpArgs false
set_option linter.unusedVariables false
set_option linter.constructorNameAsVariable false
namespace Go.Proofs.YtgpfmnjianflaaaDoor
open Go.RowKit

theorem atE_can {L : LT} {t : Int} (hok : L.Ok) (ht : 0 ≤ t ∧ t ≤ 100) : (atE L t == 0) = true ↔ ∃ k, k < L.n ∧ t ≤ L.s k := by
  rcases least_join hok ht with ⟨h1, h2, _⟩ | ⟨h1, h2, _⟩
  · rw [h2]; exact ⟨fun _ => h1, fun _ => rfl⟩
  · rw [h2]; exact ⟨fun h => absurd h (by decide), fun ⟨k, hk, h⟩ => by have := h1 k hk; omega⟩
theorem more_cheap {L M : LT} (hL : L.Ok) (hM : M.Ok) {t : Int} (ht : 0 ≤ t ∧ t ≤ 100) (hd : Dom L M) {x1 x2 y1 y2 : Int} {i1 i2 : Bool} (e1 : cheapP L t = (x1, x2)) (e2 : cheapP M t = (y1, y2)) (f1 : (cheapE L t == 0) = i1) (f2 : (cheapE M t == 0) = i2) (h : i1 = true) :
    i2 = true ∧ Sm x1 x2 ∧ Sm y1 y2 ∧ decide (x1 * y2 < y1 * x2) = false := by
  have c1 := (cheapE_can hL ht).1 (f1.trans h)
  have c2 := CanB.dom hd c1
  rcases cheap_join hL ht with ⟨_, _, a3, a4⟩ | ⟨h, _⟩
  rotate_left
  · exact absurd c1 h
  rcases cheap_join hM ht with ⟨_, _, b3, b4⟩ | ⟨h, _⟩
  rotate_left
  · exact absurd c2 h
  rw [e1] at a3 a4
  rw [e2] at b3 b4
  have hle := Cheap.dom hd a3 b3
  simp only at a3 a4 b3 b4 hle
  exact ⟨by rw [← f2]; exact (cheapE_can hM ht).2 c2, a4, b4, decide_eq_false (by omega)⟩
theorem more_least {L M : LT} (hL : L.Ok) (hM : M.Ok) {t : Int} (ht : 0 ≤ t ∧ t ≤ 100) (hd : Dom L M) {x1 x2 y1 y2 : Int} {i1 i2 : Bool} (e1 : atP L t = (x1, x2)) (e2 : atP M t = (y1, y2)) (f1 : (atE L t == 0) = i1) (f2 : (atE M t == 0) = i2) (h : i1 = true) :
    i2 = true ∧ Sm x1 x2 ∧ Sm y1 y2 ∧ decide (x1 * y2 < y1 * x2) = false := by
  have c1 := (atE_can hL ht).1 (f1.trans h)
  have c2 : ∃ k, k < M.n ∧ t ≤ M.s k := by
    obtain ⟨k, hk, h1⟩ := c1
    obtain ⟨j, hj, h2, _⟩ := hd k hk
    exact ⟨j, hj, by omega⟩
  rcases least_join hL ht with ⟨_, _, a3, a4⟩ | ⟨h, _⟩
  rotate_left
  · obtain ⟨k, hk, h1⟩ := c1; have := h k hk; omega
  rcases least_join hM ht with ⟨_, _, b3, b4⟩ | ⟨h, _⟩
  rotate_left
  · obtain ⟨k, hk, h1⟩ := c2; have := h k hk; omega
  rw [e1] at a3 a4
  rw [e2] at b3 b4
  have hle := Least.dom hd a3 b3
  simp only at a3 a4 b3 b4 hle
  exact ⟨by rw [← f2]; exact (atE_can hM ht).2 c2, a4, b4, decide_eq_false (by omega)⟩
set_option maxRecDepth 20000 in
set_option maxHeartbeats 4000000 in
theorem noMore_any (w : World) (L M : LT) (p q : Option Addr) (cap cq : Nat) (t : Int) (hL : L.Ok) (hM : M.Ok) (ht : 0 ≤ t ∧ t ≤ 100) (hd : Dom L M) (hl : LotsAt w.heap.size w p L) (hm : LotsAt w.heap.size w q M) (hg : Gl w) :
    Calls Tryd.prog 56 #[.slice p L.n cap, .slice q M.n cq, .int .i64 t] w fun e w' => e = .returned (.bool true) ∧ Pure w w' := by
  have hmx : Tryd.prog.follows .mixedOrders = true := by kernel_rfl
  have HG := Lib.hid hg
  have HL := Lib.hid hl
  have HM := Lib.hid hm
  have HOL := Lib.hid hL
  have HOM := Lib.hid hM
  have HT := Lib.hid ht
  have HD := Lib.hid hd
  have HP0 : Hid (Pure w w) := Diff.refl w
  clear hg hl hm hL hM ht hd
  go_enter Tryd.func56, Tryd.ntmps56
  go_wp2_with fail
  refine (cheapest_any w L p cap t HOL.out HT.out HL.out HG.out).mono ?_
  rintro e v0 ⟨rfl, hp⟩
  have HP_0 := Lib.hid (HP0.out.trans hp)
  have HW_0 := Lib.hid (HG.out.to hp)
  have L_0 := Lib.hid (HL.out.to hp)
  have M_0 := Lib.hid (HM.out.to hp)
  clear hp  HP0 HG HL HM
  obtain ⟨x1, hx1⟩ : ∃ zz, (cheapP L t).1 = zz := ⟨_, rfl⟩
  obtain ⟨x2, hx2⟩ : ∃ zz, (cheapP L t).2 = zz := ⟨_, rfl⟩
  obtain ⟨i1, hi1⟩ : ∃ zz, (cheapE L t == 0) = zz := ⟨_, rfl⟩
  have HNA : Hid (cheapP L t = (x1, x2) ∧ (cheapE L t == 0) = i1) := ⟨by rw [← hx1, ← hx2], hi1⟩
  rw [hx1, hx2, hi1]
  clear hx1 hx2 hi1
  go_wp2_with fail
  obtain ⟨X1, hX1⟩ : ∃ V : World, v0.alloc (Obj.cells #[Value.int IntKind.i64 x1, Value.int IntKind.i64 x2] 29) = V := ⟨_, rfl⟩
  have hpX1 : Pure v0 X1 := by rw [← hX1]; exact ((Diff.refl v0).alloc _)
  have bA : Blk (v0.heap.size) 29 #[Value.int IntKind.i64 x1, Value.int IntKind.i64 x2] X1 := by rw [← hX1]; exact (blk0 v0 29 _)
  rw [hX1]
  obtain ⟨g1_0, hg1_0⟩ : ∃ g, v0.heap.size = g := ⟨_, rfl⟩
  rw [hg1_0] at bA ⊢
  have HP_1 := Lib.hid (HP_0.out.trans hpX1)
  have HW_1 := Lib.hid (HW_0.out.to hpX1)
  have L_1 := Lib.hid (L_0.out.to hpX1)
  have M_1 := Lib.hid (M_0.out.to hpX1)
  have A_1 := Lib.hid bA
  clear hX1 hpX1 hg1_0 bA HP_0 HW_0 L_0 M_0
  go_wp2_with fail
  refine (cheapest_any X1 M q cq t HOM.out HT.out M_1.out HW_1.out).mono ?_
  rintro e v2 ⟨rfl, hp⟩
  have HP_2 := Lib.hid (HP_1.out.trans hp)
  have HW_2 := Lib.hid (HW_1.out.to hp)
  have L_2 := Lib.hid (L_1.out.to hp)
  have M_2 := Lib.hid (M_1.out.to hp)
  have A_2 := Lib.hid (A_1.out.to hp)
  clear hp  HP_1 HW_1 L_1 M_1 A_1
  obtain ⟨y1, hy1⟩ : ∃ zz, (cheapP M t).1 = zz := ⟨_, rfl⟩
  obtain ⟨y2, hy2⟩ : ∃ zz, (cheapP M t).2 = zz := ⟨_, rfl⟩
  obtain ⟨i2, hi2⟩ : ∃ zz, (cheapE M t == 0) = zz := ⟨_, rfl⟩
  have HNB : Hid (cheapP M t = (y1, y2) ∧ (cheapE M t == 0) = i2) := ⟨by rw [← hy1, ← hy2], hi2⟩
  rw [hy1, hy2, hi2]
  clear hy1 hy2 hi2
  go_wp2_with fail
  obtain ⟨X3, hX3⟩ : ∃ V : World, v2.alloc (Obj.cells #[Value.int IntKind.i64 y1, Value.int IntKind.i64 y2] 29) = V := ⟨_, rfl⟩
  have hpX3 : Pure v2 X3 := by rw [← hX3]; exact ((Diff.refl v2).alloc _)
  have bB : Blk (v2.heap.size) 29 #[Value.int IntKind.i64 y1, Value.int IntKind.i64 y2] X3 := by rw [← hX3]; exact (blk0 v2 29 _)
  rw [hX3]
  obtain ⟨g3_0, hg3_0⟩ : ∃ g, v2.heap.size = g := ⟨_, rfl⟩
  rw [hg3_0] at bB ⊢
  have HP_3 := Lib.hid (HP_2.out.trans hpX3)
  have HW_3 := Lib.hid (HW_2.out.to hpX3)
  have L_3 := Lib.hid (L_2.out.to hpX3)
  have M_3 := Lib.hid (M_2.out.to hpX3)
  have A_3 := Lib.hid (A_2.out.to hpX3)
  have B_3 := Lib.hid bB
  clear hX3 hpX3 hg3_0 bB HP_2 HW_2 L_2 M_2 A_2
  go_wp2_with fail
  refine (least_any X3 L p cap t HOL.out HT.out L_3.out HW_3.out).mono ?_
  rintro e v4 ⟨rfl, hp⟩
  have HP_4 := Lib.hid (HP_3.out.trans hp)
  have HW_4 := Lib.hid (HW_3.out.to hp)
  have L_4 := Lib.hid (L_3.out.to hp)
  have M_4 := Lib.hid (M_3.out.to hp)
  have A_4 := Lib.hid (A_3.out.to hp)
  have B_4 := Lib.hid (B_3.out.to hp)
  clear hp  HP_3 HW_3 L_3 M_3 A_3 B_3
  obtain ⟨u1, hu1⟩ : ∃ zz, (atP L t).1 = zz := ⟨_, rfl⟩
  obtain ⟨u2, hu2⟩ : ∃ zz, (atP L t).2 = zz := ⟨_, rfl⟩
  obtain ⟨i3, hi3⟩ : ∃ zz, (atE L t == 0) = zz := ⟨_, rfl⟩
  have HNC : Hid (atP L t = (u1, u2) ∧ (atE L t == 0) = i3) := ⟨by rw [← hu1, ← hu2], hi3⟩
  rw [hu1, hu2, hi3]
  clear hu1 hu2 hi3
  go_wp2_with fail
  obtain ⟨X5, hX5⟩ : ∃ V : World, v4.alloc (Obj.cells #[Value.int IntKind.i64 u1, Value.int IntKind.i64 u2] 29) = V := ⟨_, rfl⟩
  have hpX5 : Pure v4 X5 := by rw [← hX5]; exact ((Diff.refl v4).alloc _)
  have bC : Blk (v4.heap.size) 29 #[Value.int IntKind.i64 u1, Value.int IntKind.i64 u2] X5 := by rw [← hX5]; exact (blk0 v4 29 _)
  rw [hX5]
  obtain ⟨g5_0, hg5_0⟩ : ∃ g, v4.heap.size = g := ⟨_, rfl⟩
  rw [hg5_0] at bC ⊢
  have HP_5 := Lib.hid (HP_4.out.trans hpX5)
  have HW_5 := Lib.hid (HW_4.out.to hpX5)
  have L_5 := Lib.hid (L_4.out.to hpX5)
  have M_5 := Lib.hid (M_4.out.to hpX5)
  have A_5 := Lib.hid (A_4.out.to hpX5)
  have B_5 := Lib.hid (B_4.out.to hpX5)
  have C_5 := Lib.hid bC
  clear hX5 hpX5 hg5_0 bC HP_4 HW_4 L_4 M_4 A_4 B_4
  go_wp2_with fail
  refine (least_any X5 M q cq t HOM.out HT.out M_5.out HW_5.out).mono ?_
  rintro e v6 ⟨rfl, hp⟩
  have HP_6 := Lib.hid (HP_5.out.trans hp)
  have HW_6 := Lib.hid (HW_5.out.to hp)
  have L_6 := Lib.hid (L_5.out.to hp)
  have M_6 := Lib.hid (M_5.out.to hp)
  have A_6 := Lib.hid (A_5.out.to hp)
  have B_6 := Lib.hid (B_5.out.to hp)
  have C_6 := Lib.hid (C_5.out.to hp)
  clear hp  HP_5 HW_5 L_5 M_5 A_5 B_5 C_5
  obtain ⟨v1, hv1⟩ : ∃ zz, (atP M t).1 = zz := ⟨_, rfl⟩
  obtain ⟨v2, hv2⟩ : ∃ zz, (atP M t).2 = zz := ⟨_, rfl⟩
  obtain ⟨i4, hi4⟩ : ∃ zz, (atE M t == 0) = zz := ⟨_, rfl⟩
  have HND : Hid (atP M t = (v1, v2) ∧ (atE M t == 0) = i4) := ⟨by rw [← hv1, ← hv2], hi4⟩
  rw [hv1, hv2, hi4]
  clear hv1 hv2 hi4
  have HC : Hid (i1 = true → _) := more_cheap HOL.out HOM.out HT.out HD.out HNA.out.1 HNB.out.1 HNA.out.2 HNB.out.2
  have HE : Hid (i3 = true → _) := more_least HOL.out HOM.out HT.out HD.out HNC.out.1 HND.out.1 HNC.out.2 HND.out.2
  cases i1
  · cases i3
    · clear HNA HNB HNC HND
      go_wp2_with fail
      obtain ⟨X7, hX7⟩ : ∃ V : World, v6.alloc (Obj.cells #[Value.int IntKind.i64 v1, Value.int IntKind.i64 v2] 29) = V := ⟨_, rfl⟩
      have hpX7 : Pure v6 X7 := by rw [← hX7]; exact ((Diff.refl v6).alloc _)
      have bD : Blk (v6.heap.size) 29 #[Value.int IntKind.i64 v1, Value.int IntKind.i64 v2] X7 := by rw [← hX7]; exact (blk0 v6 29 _)
      rw [hX7]
      obtain ⟨g7_0, hg7_0⟩ : ∃ g, v6.heap.size = g := ⟨_, rfl⟩
      rw [hg7_0] at bD ⊢
      have HP_7 := Lib.hid (HP_6.out.trans hpX7)
      have HW_7 := Lib.hid (HW_6.out.to hpX7)
      have L_7 := Lib.hid (L_6.out.to hpX7)
      have M_7 := Lib.hid (M_6.out.to hpX7)
      have A_7 := Lib.hid (A_6.out.to hpX7)
      have B_7 := Lib.hid (B_6.out.to hpX7)
      have C_7 := Lib.hid (C_6.out.to hpX7)
      have D_7 := Lib.hid bD
      clear hX7 hpX7 hg7_0 bD HP_6 HW_6 L_6 M_6 A_6 B_6 C_6
      exact bodyPost_ret (v := .bool true) (by simp [results, Tryd.results56, go_sem]) rfl ⟨rfl, HP_7.out⟩
    · clear HNA HNB HNC HND
      obtain ⟨rfl, hs3, hs4, hd2⟩ := HE.out rfl
      have S3 := Lib.hid hs3
      have S4 := Lib.hid hs4
      have D2 := Lib.hid hd2
      clear hs3 hs4 hd2 HE
      have k0 := C_6.out.at 0
      have k1 := C_6.out.at 1
      have kl := C_6.out.lt
      go_wp2_with fail
      clear k0 k1 kl
      obtain ⟨X7, hX7⟩ : ∃ V : World, v6.alloc (Obj.cells #[Value.int IntKind.i64 v1, Value.int IntKind.i64 v2] 29) = V := ⟨_, rfl⟩
      have hpX7 : Pure v6 X7 := by rw [← hX7]; exact ((Diff.refl v6).alloc _)
      have bD : Blk (v6.heap.size) 29 #[Value.int IntKind.i64 v1, Value.int IntKind.i64 v2] X7 := by rw [← hX7]; exact (blk0 v6 29 _)
      rw [hX7]
      obtain ⟨g7_0, hg7_0⟩ : ∃ g, v6.heap.size = g := ⟨_, rfl⟩
      rw [hg7_0] at bD ⊢
      have HP_7 := Lib.hid (HP_6.out.trans hpX7)
      have HW_7 := Lib.hid (HW_6.out.to hpX7)
      have L_7 := Lib.hid (L_6.out.to hpX7)
      have M_7 := Lib.hid (M_6.out.to hpX7)
      have A_7 := Lib.hid (A_6.out.to hpX7)
      have B_7 := Lib.hid (B_6.out.to hpX7)
      have C_7 := Lib.hid (C_6.out.to hpX7)
      have D_7 := Lib.hid bD
      clear hX7 hpX7 hg7_0 bD HP_6 HW_6 L_6 M_6 A_6 B_6 C_6
      refine (RLess_any X7 u1 u2 v1 v2 ⟨by have := S3.out.a0; omega, by have := S3.out.a1; have := S3.out.b1; omega⟩ ⟨by have := S3.out.b0; omega, by have := S3.out.b1; omega⟩ ⟨by have := S4.out.a0; omega, by have := S4.out.a1; have := S4.out.b1; omega⟩ ⟨by have := S4.out.b0; omega, by have := S4.out.b1; omega⟩).mono ?_
      rintro e v8 ⟨rfl, hp⟩
      have HP_8 := Lib.hid (HP_7.out.trans hp)
      have HW_8 := Lib.hid (HW_7.out.to hp)
      have L_8 := Lib.hid (L_7.out.to hp)
      have M_8 := Lib.hid (M_7.out.to hp)
      have A_8 := Lib.hid (A_7.out.to hp)
      have B_8 := Lib.hid (B_7.out.to hp)
      have C_8 := Lib.hid (C_7.out.to hp)
      have D_8 := Lib.hid (D_7.out.to hp)
      clear hp  HP_7 HW_7 L_7 M_7 A_7 B_7 C_7 D_7
      rw [D2.out]
      go_wp2
      exact bodyPost_ret (v := .bool true) (by simp [results, Tryd.results56, go_sem]) rfl ⟨rfl, HP_8.out⟩
  · cases i3
    · clear HNA HNB HNC HND
      obtain ⟨rfl, hs1, hs2, hd1⟩ := HC.out rfl
      have S1 := Lib.hid hs1
      have S2 := Lib.hid hs2
      have D1 := Lib.hid hd1
      clear hs1 hs2 hd1 HC
      have k0 := A_6.out.at 0
      have k1 := A_6.out.at 1
      have kl := A_6.out.lt
      have l0 := B_6.out.at 0
      have l1 := B_6.out.at 1
      have ll := B_6.out.lt
      go_wp2_with fail
      clear k0 k1 kl
      clear l0 l1 ll
      obtain ⟨X7, hX7⟩ : ∃ V : World, v6.alloc (Obj.cells #[Value.int IntKind.i64 v1, Value.int IntKind.i64 v2] 29) = V := ⟨_, rfl⟩
      have hpX7 : Pure v6 X7 := by rw [← hX7]; exact ((Diff.refl v6).alloc _)
      have bD : Blk (v6.heap.size) 29 #[Value.int IntKind.i64 v1, Value.int IntKind.i64 v2] X7 := by rw [← hX7]; exact (blk0 v6 29 _)
      rw [hX7]
      obtain ⟨g7_0, hg7_0⟩ : ∃ g, v6.heap.size = g := ⟨_, rfl⟩
      rw [hg7_0] at bD ⊢
      have HP_7 := Lib.hid (HP_6.out.trans hpX7)
      have HW_7 := Lib.hid (HW_6.out.to hpX7)
      have L_7 := Lib.hid (L_6.out.to hpX7)
      have M_7 := Lib.hid (M_6.out.to hpX7)
      have A_7 := Lib.hid (A_6.out.to hpX7)
      have B_7 := Lib.hid (B_6.out.to hpX7)
      have C_7 := Lib.hid (C_6.out.to hpX7)
      have D_7 := Lib.hid bD
      clear hX7 hpX7 hg7_0 bD HP_6 HW_6 L_6 M_6 A_6 B_6 C_6
      refine (RLess_any X7 x1 x2 y1 y2 ⟨by have := S1.out.a0; omega, by have := S1.out.a1; have := S1.out.b1; omega⟩ ⟨by have := S1.out.b0; omega, by have := S1.out.b1; omega⟩ ⟨by have := S2.out.a0; omega, by have := S2.out.a1; have := S2.out.b1; omega⟩ ⟨by have := S2.out.b0; omega, by have := S2.out.b1; omega⟩).mono ?_
      rintro e v8 ⟨rfl, hp⟩
      have HP_8 := Lib.hid (HP_7.out.trans hp)
      have HW_8 := Lib.hid (HW_7.out.to hp)
      have L_8 := Lib.hid (L_7.out.to hp)
      have M_8 := Lib.hid (M_7.out.to hp)
      have A_8 := Lib.hid (A_7.out.to hp)
      have B_8 := Lib.hid (B_7.out.to hp)
      have C_8 := Lib.hid (C_7.out.to hp)
      have D_8 := Lib.hid (D_7.out.to hp)
      clear hp  HP_7 HW_7 L_7 M_7 A_7 B_7 C_7 D_7
      rw [D1.out]
      go_wp2
      exact bodyPost_ret (v := .bool true) (by simp [results, Tryd.results56, go_sem]) rfl ⟨rfl, HP_8.out⟩
    · clear HNA HNB HNC HND
      obtain ⟨rfl, hs1, hs2, hd1⟩ := HC.out rfl
      have S1 := Lib.hid hs1
      have S2 := Lib.hid hs2
      have D1 := Lib.hid hd1
      clear hs1 hs2 hd1 HC
      obtain ⟨rfl, hs3, hs4, hd2⟩ := HE.out rfl
      have S3 := Lib.hid hs3
      have S4 := Lib.hid hs4
      have D2 := Lib.hid hd2
      clear hs3 hs4 hd2 HE
      have k0 := A_6.out.at 0
      have k1 := A_6.out.at 1
      have kl := A_6.out.lt
      have l0 := B_6.out.at 0
      have l1 := B_6.out.at 1
      have ll := B_6.out.lt
      go_wp2_with fail
      clear k0 k1 kl
      clear l0 l1 ll
      obtain ⟨X7, hX7⟩ : ∃ V : World, v6.alloc (Obj.cells #[Value.int IntKind.i64 v1, Value.int IntKind.i64 v2] 29) = V := ⟨_, rfl⟩
      have hpX7 : Pure v6 X7 := by rw [← hX7]; exact ((Diff.refl v6).alloc _)
      have bD : Blk (v6.heap.size) 29 #[Value.int IntKind.i64 v1, Value.int IntKind.i64 v2] X7 := by rw [← hX7]; exact (blk0 v6 29 _)
      rw [hX7]
      obtain ⟨g7_0, hg7_0⟩ : ∃ g, v6.heap.size = g := ⟨_, rfl⟩
      rw [hg7_0] at bD ⊢
      have HP_7 := Lib.hid (HP_6.out.trans hpX7)
      have HW_7 := Lib.hid (HW_6.out.to hpX7)
      have L_7 := Lib.hid (L_6.out.to hpX7)
      have M_7 := Lib.hid (M_6.out.to hpX7)
      have A_7 := Lib.hid (A_6.out.to hpX7)
      have B_7 := Lib.hid (B_6.out.to hpX7)
      have C_7 := Lib.hid (C_6.out.to hpX7)
      have D_7 := Lib.hid bD
      clear hX7 hpX7 hg7_0 bD HP_6 HW_6 L_6 M_6 A_6 B_6 C_6
      refine (RLess_any X7 x1 x2 y1 y2 ⟨by have := S1.out.a0; omega, by have := S1.out.a1; have := S1.out.b1; omega⟩ ⟨by have := S1.out.b0; omega, by have := S1.out.b1; omega⟩ ⟨by have := S2.out.a0; omega, by have := S2.out.a1; have := S2.out.b1; omega⟩ ⟨by have := S2.out.b0; omega, by have := S2.out.b1; omega⟩).mono ?_
      rintro e v8 ⟨rfl, hp⟩
      have HP_8 := Lib.hid (HP_7.out.trans hp)
      have HW_8 := Lib.hid (HW_7.out.to hp)
      have L_8 := Lib.hid (L_7.out.to hp)
      have M_8 := Lib.hid (M_7.out.to hp)
      have A_8 := Lib.hid (A_7.out.to hp)
      have B_8 := Lib.hid (B_7.out.to hp)
      have C_8 := Lib.hid (C_7.out.to hp)
      have D_8 := Lib.hid (D_7.out.to hp)
      clear hp  HP_7 HW_7 L_7 M_7 A_7 B_7 C_7 D_7
      rw [D1.out]
      have k0 := C_8.out.at 0
      have k1 := C_8.out.at 1
      have kl := C_8.out.lt
      have l0 := D_8.out.at 0
      have l1 := D_8.out.at 1
      have ll := D_8.out.lt
      go_wp2_with fail
      clear k0 k1 kl
      clear l0 l1 ll
      refine (RLess_any v8 u1 u2 v1 v2 ⟨by have := S3.out.a0; omega, by have := S3.out.a1; have := S3.out.b1; omega⟩ ⟨by have := S3.out.b0; omega, by have := S3.out.b1; omega⟩ ⟨by have := S4.out.a0; omega, by have := S4.out.a1; have := S4.out.b1; omega⟩ ⟨by have := S4.out.b0; omega, by have := S4.out.b1; omega⟩).mono ?_
      rintro e v9 ⟨rfl, hp⟩
      have HP_9 := Lib.hid (HP_8.out.trans hp)
      have HW_9 := Lib.hid (HW_8.out.to hp)
      have L_9 := Lib.hid (L_8.out.to hp)
      have M_9 := Lib.hid (M_8.out.to hp)
      have A_9 := Lib.hid (A_8.out.to hp)
      have B_9 := Lib.hid (B_8.out.to hp)
      have C_9 := Lib.hid (C_8.out.to hp)
      have D_9 := Lib.hid (D_8.out.to hp)
      clear hp  HP_8 HW_8 L_8 M_8 A_8 B_8 C_8 D_8
      rw [D2.out]
      go_wp2
      exact bodyPost_ret (v := .bool true) (by simp [results, Tryd.results56, go_sem]) rfl ⟨rfl, HP_9.out⟩
end Go.Proofs.YtgpfmnjianflaaaDoor
