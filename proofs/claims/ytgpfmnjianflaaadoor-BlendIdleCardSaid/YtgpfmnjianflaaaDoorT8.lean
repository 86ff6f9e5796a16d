/- Walk of BlendMixed. -/
import Derived.Test.YtgpfmnjianflaaaDoorR19
set_option linter.unusedSimpArgs false
set_option linter.unusedVariables false
set_option linter.constructorNameAsVariable false
namespace Go.Proofs.YtgpfmnjianflaaaDoor
open Go.RowKit

theorem can_mid {L : LT} {a b m : Int} (ha : CanB L a) (hb : CanB L b) (hm : a + b = 2 * m) : CanB L m := by
  obtain ⟨⟨i, hi, h1⟩, k, hk, h2⟩ := ha
  obtain ⟨⟨i', hi', h1'⟩, k', hk', h2'⟩ := hb
  refine ⟨?_, ?_⟩
  · by_cases h : a ≤ b
    · exact ⟨i, hi, by omega⟩
    · exact ⟨i', hi', by omega⟩
  · by_cases h : a ≤ b
    · exact ⟨k', hk', by omega⟩
    · exact ⟨k, hk, by omega⟩
theorem cheapE_can {L : LT} {t : Int} (hok : L.Ok) (ht : 0 ≤ t ∧ t ≤ 100) : (cheapE L t == 0) = true ↔ CanB L t := by
  rcases cheap_join hok ht with ⟨h1, h2, _⟩ | ⟨h1, h2, _⟩
  · rw [h2]; exact ⟨fun _ => h1, fun _ => rfl⟩
  · rw [h2]; exact ⟨fun h => absurd h (by decide), fun h => absurd h h1⟩
/-- Half of both, together, is no less than what is in the middle. -/
theorem half_ok {L : LT} (hok : L.Ok) {a b m : Int} (ha : 0 ≤ a ∧ a ≤ 100) (hb : 0 ≤ b ∧ b ≤ 100) (hm : a + b = 2 * m) (h1 : (cheapE L a == 0) = true) (h2 : (cheapE L b == 0) = true) {x1 x2 y1 y2 z1 z2 : Int}
    (e1 : cheapP L a = (x1, x2)) (e2 : cheapP L b = (y1, y2)) (e3 : cheapP L m = (z1, z2)) :
    Sm x1 x2 ∧ Sm y1 y2 ∧ Sm z1 z2 ∧ decide (redN (x1 * y2 + y1 * x2) (2 * x2 * y2) * z2 < z1 * redD (x1 * y2 + y1 * x2) (2 * x2 * y2)) = false ∧
      (0 ≤ redN (x1 * y2 + y1 * x2) (2 * x2 * y2) ∧ redN (x1 * y2 + y1 * x2) (2 * x2 * y2) ≤ 20000000) ∧ 0 < redD (x1 * y2 + y1 * x2) (2 * x2 * y2) ∧ redD (x1 * y2 + y1 * x2) (2 * x2 * y2) ≤ 20000 := by
  have c1 := (cheapE_can hok ha).1 h1
  have c2 := (cheapE_can hok hb).1 h2
  have hmm : 0 ≤ m ∧ m ≤ 100 := by omega
  have c3 := can_mid c1 c2 hm
  rcases cheap_join hok ha with ⟨_, _, a3, a4⟩ | ⟨h, _⟩
  rotate_left
  · exact absurd c1 h
  rcases cheap_join hok hb with ⟨_, _, b3, b4⟩ | ⟨h, _⟩
  rotate_left
  · exact absurd c2 h
  rcases cheap_join hok hmm with ⟨_, _, m3, m4⟩ | ⟨h, _⟩
  rotate_left
  · exact absurd c3 h
  rw [e1] at a3 a4
  rw [e2] at b3 b4
  rw [e3] at m3 m4
  have hmix := Cheap.mixed a3 b3 m3 hm
  simp only at a3 a4 b3 b4 m3 m4 hmix
  have hp2 : 0 < x2 * y2 := Int.mul_pos (by have := a4.b0; omega) (by have := b4.b0; omega)
  have hpp : 2 * x2 * y2 = 2 * (x2 * y2) := by grind
  have hp : 0 < 2 * x2 * y2 := by omega
  have hq2 : x2 * y2 ≤ 10000 := by
    have q1 := Int.mul_le_mul_of_nonneg_right a4.b1 (show 0 ≤ y2 by have := b4.b0; omega)
    have := b4.b1
    omega
  have u1 : 0 ≤ x1 * y2 := Int.mul_nonneg a4.a0 (by have := b4.b0; omega)
  have u2 : 0 ≤ y1 * x2 := Int.mul_nonneg b4.a0 (by have := a4.b0; omega)
  have u3 : x1 * y2 ≤ 1000 * (x2 * y2) := by
    have q := Int.mul_le_mul_of_nonneg_right a4.a1 (show 0 ≤ y2 by have := b4.b0; omega)
    have e : 1000 * x2 * y2 = 1000 * (x2 * y2) := by grind
    omega
  have u4 : y1 * x2 ≤ 1000 * (x2 * y2) := by
    have q := Int.mul_le_mul_of_nonneg_right b4.a1 (show 0 ≤ x2 by have := a4.b0; omega)
    have e : 1000 * y2 * x2 = 1000 * (x2 * y2) := by grind
    omega
  have r := red_le (x1 * y2 + y1 * x2) hp
  have rp := redD_pos (a := x1 * y2 + y1 * x2) hp
  have rn := r.2.1 (by omega)
  have rc := (red_eq (a := redN (x1 * y2 + y1 * x2) (2 * x2 * y2)) (b := redD (x1 * y2 + y1 * x2) (2 * x2 * y2)) (c := x1 * y2 + y1 * x2) (d := 2 * x2 * y2) rp hp).1 (red_red hp)
  refine ⟨a4, b4, m4, ?_, ⟨by omega, by omega⟩, by omega, by omega⟩
  refine decide_eq_false fun hlt => ?_
  have hz : 0 < z2 := by have := m4.b0; omega
  have k1 := Int.mul_lt_mul_of_pos_right hlt hp
  have k2 := Int.mul_le_mul_of_nonneg_right hmix (show 0 ≤ redD (x1 * y2 + y1 * x2) (2 * x2 * y2) by omega)
  generalize redN (x1 * y2 + y1 * x2) (2 * x2 * y2) = N at *
  generalize redD (x1 * y2 + y1 * x2) (2 * x2 * y2) = D at *
  generalize x1 * y2 + y1 * x2 = n at *
  generalize 2 * x2 * y2 = d at *
  have f1 : N * z2 * d = n * z2 * D := by rw [show N * z2 * d = N * d * z2 by grind, rc]; grind
  have f2 : z1 * D * d = z1 * d * D := by grind
  omega
theorem half_bnd {x1 x2 y1 y2 : Int} (a4 : Sm x1 x2) (b4 : Sm y1 y2) : (0 ≤ x1 * y2 ∧ x1 * y2 ≤ 10000000) ∧ (0 ≤ y1 * x2 ∧ y1 * x2 ≤ 10000000) ∧ (0 < x2 * y2 ∧ x2 * y2 ≤ 10000) ∧ 2 * x2 * y2 = 2 * (x2 * y2) := by
  have hp2 : 0 < x2 * y2 := Int.mul_pos (by have := a4.b0; omega) (by have := b4.b0; omega)
  have hpp : 2 * x2 * y2 = 2 * (x2 * y2) := by grind
  have hq2 : x2 * y2 ≤ 10000 := by
    have q1 := Int.mul_le_mul_of_nonneg_right a4.b1 (show 0 ≤ y2 by have := b4.b0; omega)
    have := b4.b1
    omega
  have u1 : 0 ≤ x1 * y2 := Int.mul_nonneg a4.a0 (by have := b4.b0; omega)
  have u2 : 0 ≤ y1 * x2 := Int.mul_nonneg b4.a0 (by have := a4.b0; omega)
  have u3 : x1 * y2 ≤ 1000 * (x2 * y2) := by
    have q := Int.mul_le_mul_of_nonneg_right a4.a1 (show 0 ≤ y2 by have := b4.b0; omega)
    have e : 1000 * x2 * y2 = 1000 * (x2 * y2) := by grind
    omega
  have u4 : y1 * x2 ≤ 1000 * (x2 * y2) := by
    have q := Int.mul_le_mul_of_nonneg_right b4.a1 (show 0 ≤ x2 by have := a4.b0; omega)
    have e : 1000 * y2 * x2 = 1000 * (x2 * y2) := by grind
    omega
  exact ⟨⟨u1, by omega⟩, ⟨u2, by omega⟩, ⟨hp2, hq2⟩, hpp⟩
theorem wf_u8 {n : Int} (h : (Lit.int .u8 n).wf = true) : 0 ≤ n ∧ n ≤ 255 := by
  unfold Lit.wf at h
  rw [Bool.and_eq_true] at h
  exact ⟨of_decide_eq_true h.1, of_decide_eq_true h.2⟩
set_option maxRecDepth 20000 in
set_option maxHeartbeats 4000000 in
theorem MixedLaw_any (w : World) (L : LT) (p : Option Addr) (cap : Nat) (n1 n2 : Int) (hl : LotsAt w.heap.size w p L) (h1 : (Lit.int .u8 n1).wf = true) (h2 : (Lit.int .u8 n2).wf = true) (hg : Gl w) :
    Calls Tryd.prog 8 #[.slice p L.n cap, .int .u8 n1, .int .u8 n2] w fun e w' => e = .returned (.bool true) ∧ Pure w w' := by
  have hmx : Tryd.prog.follows .mixedOrders = true := by kernel_rfl
  have HG := Lib.hid hg
  have HL := Lib.hid hl
  have H1 := Lib.hid (wf_u8 h1)
  have H2 := Lib.hid (wf_u8 h2)
  clear hg hl h1 h2
  go_enter Tryd.func8, Tryd.ntmps8
  go_wp2_with fail
  refine (fine_any w L p cap HL.out).mono ?_
  rintro e w1 ⟨rfl, hp1⟩
  have HP1 := Lib.hid hp1
  have HG1 := Lib.hid (HG.out.to HP1.out)
  have HL1 := Lib.hid (HL.out.to HP1.out)
  clear hp1
  cases hfb : fineB L with
  | false =>
    clear hfb
    go_wp2_with fail
    refine (Works_any w1 HG1.out).mono ?_
    rintro e w9 ⟨rfl, hp9⟩
    have HP9 := Lib.hid (HP1.out.trans hp9)
    clear hp9
    go_wp2
    exact bodyPost_ret (v := .bool true) (by simp [results, Tryd.results8, go_sem]) rfl ⟨rfl, HP9.out⟩
  | true =>
    have HOK := Lib.hid (fineB_iff.1 hfb)
    clear hfb
    have HSA : Hid (0 ≤ shp n1 ∧ shp n1 ≤ 100) := shp_in n1
    have HSB : Hid (0 ≤ shp n2 ∧ shp n2 ≤ 100) := shp_in n2
    go_wp2_with fail
    refine (sharpness_any w1 n1 H1.out).mono ?_
    rintro e v0 ⟨rfl, hp⟩
    have HP_0 := Lib.hid (HP1.out.trans hp)
    have HW_0 := Lib.hid (HG1.out.to hp)
    have L_0 := Lib.hid (HL1.out.to hp)
    clear hp  HP1 HG1 HL1
    go_wp2_with fail
    refine (sharpness_any v0 n2 H2.out).mono ?_
    rintro e v1 ⟨rfl, hp⟩
    have HP_1 := Lib.hid (HP_0.out.trans hp)
    have HW_1 := Lib.hid (HW_0.out.to hp)
    have L_1 := Lib.hid (L_0.out.to hp)
    clear hp  HP_0 HW_0 L_0
    obtain ⟨a, ha⟩ : ∃ z, shp n1 = z := ⟨_, rfl⟩
    obtain ⟨b, hb⟩ : ∃ z, shp n2 = z := ⟨_, rfl⟩
    rw [ha] at HSA ⊢
    rw [hb] at HSB ⊢
    clear ha hb
    have hw1 : IntKind.i64.wrap (a + b) = a + b := IntWalk.i64_in _ (by have := HSA.out; have := HSB.out; omega)
    have ht2 : (a + b).tmod 2 = (a + b) % 2 := Int.tmod_eq_emod_of_nonneg (by have := HSA.out; have := HSB.out; omega)
    by_cases hpar : (a + b) % 2 = 0
    · obtain ⟨m, hm⟩ : ∃ m, a + b = 2 * m := ⟨(a + b) / 2, by omega⟩
      have HM := Lib.hid hm
      have HMR : Hid (0 ≤ m ∧ m ≤ 100) := ⟨by have := HSA.out; have := HSB.out; omega, by have := HSA.out; have := HSB.out; omega⟩
      have hw2 : (a + b).tmod 2 = 0 := by rw [ht2, hpar]
      have hw4 : (a + b).tdiv 2 = m := by rw [hm]; exact Int.mul_tdiv_cancel_left m (by decide)
      have hw3 : IntKind.i64.wrap m = m := IntWalk.i64_in _ (by have := HMR.out; omega)
      clear ht2 hm hpar
      go_wp2_with fail
      refine (cheapest_any v1 L p cap a HOK.out HSA.out L_1.out HW_1.out).mono ?_
      rintro e v2 ⟨rfl, hp⟩
      have HP_2 := Lib.hid (HP_1.out.trans hp)
      have HW_2 := Lib.hid (HW_1.out.to hp)
      have L_2 := Lib.hid (L_1.out.to hp)
      clear hp  HP_1 HW_1 L_1
      obtain ⟨x1, hx1⟩ : ∃ zz, (cheapP L a).1 = zz := ⟨_, rfl⟩
      obtain ⟨x2, hx2⟩ : ∃ zz, (cheapP L a).2 = zz := ⟨_, rfl⟩
      obtain ⟨i1, hi1⟩ : ∃ zz, (cheapE L a == 0) = zz := ⟨_, rfl⟩
      have HNA : Hid (cheapP L a = (x1, x2) ∧ (cheapE L a == 0) = i1) := ⟨by rw [← hx1, ← hx2], hi1⟩
      rw [hx1, hx2, hi1]
      clear hx1 hx2 hi1
      go_wp2_with fail
      obtain ⟨X3, hX3⟩ : ∃ V : World, v2.alloc (Obj.cells #[Value.int IntKind.i64 x1, Value.int IntKind.i64 x2] 29) = V := ⟨_, rfl⟩
      have hpX3 : Pure v2 X3 := by rw [← hX3]; exact ((Diff.refl v2).alloc _)
      have bA : Blk (v2.heap.size) 29 #[Value.int IntKind.i64 x1, Value.int IntKind.i64 x2] X3 := by rw [← hX3]; exact (blk0 v2 29 _)
      rw [hX3]
      obtain ⟨g3_0, hg3_0⟩ : ∃ g, v2.heap.size = g := ⟨_, rfl⟩
      rw [hg3_0] at bA ⊢
      have HP_3 := Lib.hid (HP_2.out.trans hpX3)
      have HW_3 := Lib.hid (HW_2.out.to hpX3)
      have L_3 := Lib.hid (L_2.out.to hpX3)
      have A_3 := Lib.hid bA
      clear hX3 hpX3 hg3_0 bA HP_2 HW_2 L_2
      go_wp2_with fail
      refine (cheapest_any X3 L p cap b HOK.out HSB.out L_3.out HW_3.out).mono ?_
      rintro e v4 ⟨rfl, hp⟩
      have HP_4 := Lib.hid (HP_3.out.trans hp)
      have HW_4 := Lib.hid (HW_3.out.to hp)
      have L_4 := Lib.hid (L_3.out.to hp)
      have A_4 := Lib.hid (A_3.out.to hp)
      clear hp  HP_3 HW_3 L_3 A_3
      obtain ⟨y1, hy1⟩ : ∃ zz, (cheapP L b).1 = zz := ⟨_, rfl⟩
      obtain ⟨y2, hy2⟩ : ∃ zz, (cheapP L b).2 = zz := ⟨_, rfl⟩
      obtain ⟨i2, hi2⟩ : ∃ zz, (cheapE L b == 0) = zz := ⟨_, rfl⟩
      have HNB : Hid (cheapP L b = (y1, y2) ∧ (cheapE L b == 0) = i2) := ⟨by rw [← hy1, ← hy2], hi2⟩
      rw [hy1, hy2, hi2]
      clear hy1 hy2 hi2
      go_wp2_with fail
      obtain ⟨X5, hX5⟩ : ∃ V : World, v4.alloc (Obj.cells #[Value.int IntKind.i64 y1, Value.int IntKind.i64 y2] 29) = V := ⟨_, rfl⟩
      have hpX5 : Pure v4 X5 := by rw [← hX5]; exact ((Diff.refl v4).alloc _)
      have bB : Blk (v4.heap.size) 29 #[Value.int IntKind.i64 y1, Value.int IntKind.i64 y2] X5 := by rw [← hX5]; exact (blk0 v4 29 _)
      rw [hX5]
      obtain ⟨g5_0, hg5_0⟩ : ∃ g, v4.heap.size = g := ⟨_, rfl⟩
      rw [hg5_0] at bB ⊢
      have HP_5 := Lib.hid (HP_4.out.trans hpX5)
      have HW_5 := Lib.hid (HW_4.out.to hpX5)
      have L_5 := Lib.hid (L_4.out.to hpX5)
      have A_5 := Lib.hid (A_4.out.to hpX5)
      have B_5 := Lib.hid bB
      clear hX5 hpX5 hg5_0 bB HP_4 HW_4 L_4 A_4
      go_wp2_with fail
      refine (cheapest_any X5 L p cap m HOK.out HMR.out L_5.out HW_5.out).mono ?_
      rintro e v6 ⟨rfl, hp⟩
      have HP_6 := Lib.hid (HP_5.out.trans hp)
      have HW_6 := Lib.hid (HW_5.out.to hp)
      have L_6 := Lib.hid (L_5.out.to hp)
      have A_6 := Lib.hid (A_5.out.to hp)
      have B_6 := Lib.hid (B_5.out.to hp)
      clear hp  HP_5 HW_5 L_5 A_5 B_5
      obtain ⟨z1, hz1⟩ : ∃ zz, (cheapP L m).1 = zz := ⟨_, rfl⟩
      obtain ⟨z2, hz2⟩ : ∃ zz, (cheapP L m).2 = zz := ⟨_, rfl⟩
      obtain ⟨i3, hi3⟩ : ∃ zz, (cheapE L m == 0) = zz := ⟨_, rfl⟩
      have HNC : Hid (cheapP L m = (z1, z2) ∧ (cheapE L m == 0) = i3) := ⟨by rw [← hz1, ← hz2], hi3⟩
      rw [hz1, hz2, hi3]
      clear hz1 hz2 hi3
      cases i1
      · go_wp2_with fail
        obtain ⟨X7, hX7⟩ : ∃ V : World, v6.alloc (Obj.cells #[Value.int IntKind.i64 z1, Value.int IntKind.i64 z2] 29) = V := ⟨_, rfl⟩
        have hpX7 : Pure v6 X7 := by rw [← hX7]; exact ((Diff.refl v6).alloc _)
        have bC : Blk (v6.heap.size) 29 #[Value.int IntKind.i64 z1, Value.int IntKind.i64 z2] X7 := by rw [← hX7]; exact (blk0 v6 29 _)
        rw [hX7]
        obtain ⟨g7_0, hg7_0⟩ : ∃ g, v6.heap.size = g := ⟨_, rfl⟩
        rw [hg7_0] at bC ⊢
        have HP_7 := Lib.hid (HP_6.out.trans hpX7)
        have HW_7 := Lib.hid (HW_6.out.to hpX7)
        have L_7 := Lib.hid (L_6.out.to hpX7)
        have A_7 := Lib.hid (A_6.out.to hpX7)
        have B_7 := Lib.hid (B_6.out.to hpX7)
        have C_7 := Lib.hid bC
        clear hX7 hpX7 hg7_0 bC HP_6 HW_6 L_6 A_6 B_6
        refine (Works_any X7 HW_7.out).mono ?_
        rintro e v8 ⟨rfl, hp⟩
        have HP_8 := Lib.hid (HP_7.out.trans hp)
        have HW_8 := Lib.hid (HW_7.out.to hp)
        have L_8 := Lib.hid (L_7.out.to hp)
        have A_8 := Lib.hid (A_7.out.to hp)
        have B_8 := Lib.hid (B_7.out.to hp)
        have C_8 := Lib.hid (C_7.out.to hp)
        clear hp  HP_7 HW_7 L_7 A_7 B_7 C_7
        go_wp2
        exact bodyPost_ret (v := .bool true) (by simp [results, Tryd.results8, go_sem]) rfl ⟨rfl, HP_8.out⟩
      · cases i2
        · go_wp2_with fail
          obtain ⟨X7, hX7⟩ : ∃ V : World, v6.alloc (Obj.cells #[Value.int IntKind.i64 z1, Value.int IntKind.i64 z2] 29) = V := ⟨_, rfl⟩
          have hpX7 : Pure v6 X7 := by rw [← hX7]; exact ((Diff.refl v6).alloc _)
          have bC : Blk (v6.heap.size) 29 #[Value.int IntKind.i64 z1, Value.int IntKind.i64 z2] X7 := by rw [← hX7]; exact (blk0 v6 29 _)
          rw [hX7]
          obtain ⟨g7_0, hg7_0⟩ : ∃ g, v6.heap.size = g := ⟨_, rfl⟩
          rw [hg7_0] at bC ⊢
          have HP_7 := Lib.hid (HP_6.out.trans hpX7)
          have HW_7 := Lib.hid (HW_6.out.to hpX7)
          have L_7 := Lib.hid (L_6.out.to hpX7)
          have A_7 := Lib.hid (A_6.out.to hpX7)
          have B_7 := Lib.hid (B_6.out.to hpX7)
          have C_7 := Lib.hid bC
          clear hX7 hpX7 hg7_0 bC HP_6 HW_6 L_6 A_6 B_6
          refine (Works_any X7 HW_7.out).mono ?_
          rintro e v8 ⟨rfl, hp⟩
          have HP_8 := Lib.hid (HP_7.out.trans hp)
          have HW_8 := Lib.hid (HW_7.out.to hp)
          have L_8 := Lib.hid (L_7.out.to hp)
          have A_8 := Lib.hid (A_7.out.to hp)
          have B_8 := Lib.hid (B_7.out.to hp)
          have C_8 := Lib.hid (C_7.out.to hp)
          clear hp  HP_7 HW_7 L_7 A_7 B_7 C_7
          go_wp2
          exact bodyPost_ret (v := .bool true) (by simp [results, Tryd.results8, go_sem]) rfl ⟨rfl, HP_8.out⟩
        · have HH := Lib.hid (half_ok HOK.out HSA.out HSB.out HM.out HNA.out.2 HNB.out.2 HNA.out.1 HNB.out.1 HNC.out.1)
          have h3 : i3 = true := by rw [← HNC.out.2]; exact (cheapE_can HOK.out HMR.out).2 (can_mid ((cheapE_can HOK.out HSA.out).1 HNA.out.2) ((cheapE_can HOK.out HSB.out).1 HNB.out.2) HM.out)
          subst h3
          have HBD := Lib.hid (half_bnd HH.out.1 HH.out.2.1)
          have v1 : IntKind.i64.wrap (x1 * y2) = x1 * y2 := IntWalk.i64_in _ (by have := HBD.out; omega)
          have v2 : IntKind.i64.wrap (y1 * x2) = y1 * x2 := IntWalk.i64_in _ (by have := HBD.out; omega)
          have v3 : IntKind.i64.wrap (x1 * y2 + y1 * x2) = x1 * y2 + y1 * x2 := IntWalk.i64_in _ (by have := HBD.out; omega)
          have v4 : IntKind.i64.wrap (2 * x2) = 2 * x2 := IntWalk.i64_in _ (by have := HH.out.1.b0; have := HH.out.1.b1; omega)
          have v5 : IntKind.i64.wrap (2 * x2 * y2) = 2 * x2 * y2 := IntWalk.i64_in _ (by have := HBD.out; omega)
          have q0 := A_6.out.at 0
          have q1 := A_6.out.at 1
          have ql := A_6.out.lt
          have r0 := B_6.out.at 0
          have r1 := B_6.out.at 1
          have rl := B_6.out.lt
          go_wp2_with fail
          clear q0 q1 ql
          clear r0 r1 rl
          clear v1 v2 v3 v4 v5
          obtain ⟨X7, hX7⟩ : ∃ V : World, v6.alloc (Obj.cells #[Value.int IntKind.i64 z1, Value.int IntKind.i64 z2] 29) = V := ⟨_, rfl⟩
          have hpX7 : Pure v6 X7 := by rw [← hX7]; exact ((Diff.refl v6).alloc _)
          have bC : Blk (v6.heap.size) 29 #[Value.int IntKind.i64 z1, Value.int IntKind.i64 z2] X7 := by rw [← hX7]; exact (blk0 v6 29 _)
          rw [hX7]
          obtain ⟨g7_0, hg7_0⟩ : ∃ g, v6.heap.size = g := ⟨_, rfl⟩
          rw [hg7_0] at bC ⊢
          have HP_7 := Lib.hid (HP_6.out.trans hpX7)
          have HW_7 := Lib.hid (HW_6.out.to hpX7)
          have L_7 := Lib.hid (L_6.out.to hpX7)
          have A_7 := Lib.hid (A_6.out.to hpX7)
          have B_7 := Lib.hid (B_6.out.to hpX7)
          have C_7 := Lib.hid bC
          clear hX7 hpX7 hg7_0 bC HP_6 HW_6 L_6 A_6 B_6
          refine (RBy_any X7 (x1 * y2 + y1 * x2) (2 * x2 * y2) ⟨by have := HBD.out; omega, by have := HBD.out; omega⟩ ⟨by have := HBD.out; omega, by have := HBD.out; omega⟩).mono ?_
          rintro e v8 ⟨rfl, hp⟩
          have HP_8 := Lib.hid (HP_7.out.trans hp)
          have HW_8 := Lib.hid (HW_7.out.to hp)
          have L_8 := Lib.hid (L_7.out.to hp)
          have A_8 := Lib.hid (A_7.out.to hp)
          have B_8 := Lib.hid (B_7.out.to hp)
          have C_8 := Lib.hid (C_7.out.to hp)
          clear hp  HP_7 HW_7 L_7 A_7 B_7 C_7
          obtain ⟨N, hN⟩ : ∃ z, redN (x1 * y2 + y1 * x2) (2 * x2 * y2) = z := ⟨_, rfl⟩
          obtain ⟨D, hD⟩ : ∃ z, redD (x1 * y2 + y1 * x2) (2 * x2 * y2) = z := ⟨_, rfl⟩
          rw [hN, hD] at HH ⊢
          clear hN hD
          have s0 := C_8.out.at 0
          have s1 := C_8.out.at 1
          have sl := C_8.out.lt
          go_wp2_with fail
          clear s0 s1 sl
          obtain ⟨X9, hX9⟩ : ∃ V : World, v8.alloc (Obj.cells #[Value.int IntKind.i64 N, Value.int IntKind.i64 D] 29) = V := ⟨_, rfl⟩
          have hpX9 : Pure v8 X9 := by rw [← hX9]; exact ((Diff.refl v8).alloc _)
          have bH : Blk (v8.heap.size) 29 #[Value.int IntKind.i64 N, Value.int IntKind.i64 D] X9 := by rw [← hX9]; exact (blk0 v8 29 _)
          rw [hX9]
          obtain ⟨g9_0, hg9_0⟩ : ∃ g, v8.heap.size = g := ⟨_, rfl⟩
          rw [hg9_0] at bH ⊢
          have HP_9 := Lib.hid (HP_8.out.trans hpX9)
          have HW_9 := Lib.hid (HW_8.out.to hpX9)
          have L_9 := Lib.hid (L_8.out.to hpX9)
          have A_9 := Lib.hid (A_8.out.to hpX9)
          have B_9 := Lib.hid (B_8.out.to hpX9)
          have C_9 := Lib.hid (C_8.out.to hpX9)
          have H_9 := Lib.hid bH
          clear hX9 hpX9 hg9_0 bH HP_8 HW_8 L_8 A_8 B_8 C_8
          have s0 := C_9.out.at 0
          have s1 := C_9.out.at 1
          have sl := C_9.out.lt
          have r0 := H_9.out.at 0
          have r1 := H_9.out.at 1
          have rl := H_9.out.lt
          go_wp2_with fail
          clear s0 s1 sl
          clear r0 r1 rl
          refine (RLess_any X9 N D z1 z2 ⟨by have := HH.out.2.2.2.2; omega, by have := HH.out.2.2.2.2; omega⟩ ⟨by have := HH.out.2.2.2.2; omega, by have := HH.out.2.2.2.2; omega⟩ ⟨by have := HH.out.2.2.1.a0; omega, by have := HH.out.2.2.1.a1; have := HH.out.2.2.1.b1; omega⟩ ⟨by have := HH.out.2.2.1.b0; omega, by have := HH.out.2.2.1.b1; omega⟩).mono ?_
          rintro e v10 ⟨rfl, hp⟩
          have HP_10 := Lib.hid (HP_9.out.trans hp)
          have HW_10 := Lib.hid (HW_9.out.to hp)
          have L_10 := Lib.hid (L_9.out.to hp)
          have A_10 := Lib.hid (A_9.out.to hp)
          have B_10 := Lib.hid (B_9.out.to hp)
          have C_10 := Lib.hid (C_9.out.to hp)
          have H_10 := Lib.hid (H_9.out.to hp)
          clear hp  HP_9 HW_9 L_9 A_9 B_9 C_9 H_9
          rw [HH.out.2.2.2.1]
          go_wp2_with fail
          refine (Works_any v10 HW_10.out).mono ?_
          rintro e v11 ⟨rfl, hp⟩
          have HP_11 := Lib.hid (HP_10.out.trans hp)
          have HW_11 := Lib.hid (HW_10.out.to hp)
          have L_11 := Lib.hid (L_10.out.to hp)
          have A_11 := Lib.hid (A_10.out.to hp)
          have B_11 := Lib.hid (B_10.out.to hp)
          have C_11 := Lib.hid (C_10.out.to hp)
          have H_11 := Lib.hid (H_10.out.to hp)
          clear hp  HP_10 HW_10 L_10 A_10 B_10 C_10 H_10
          go_wp2
          exact bodyPost_ret (v := .bool true) (by simp [results, Tryd.results8, go_sem]) rfl ⟨rfl, HP_11.out⟩
    · have hr : (a + b) % 2 = 1 := by omega
      have hw2 : (a + b).tmod 2 = 1 := by rw [ht2, hr]
      clear ht2 hr hpar
      go_wp2_with fail
      refine (Works_any v1 HW_1.out).mono ?_
      rintro e v2 ⟨rfl, hp⟩
      have HP_2 := Lib.hid (HP_1.out.trans hp)
      have HW_2 := Lib.hid (HW_1.out.to hp)
      have L_2 := Lib.hid (L_1.out.to hp)
      clear hp  HP_1 HW_1 L_1
      go_wp2
      exact bodyPost_ret (v := .bool true) (by simp [results, Tryd.results8, go_sem]) rfl ⟨rfl, HP_2.out⟩
end Go.Proofs.YtgpfmnjianflaaaDoor
