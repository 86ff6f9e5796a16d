/- The reference: the walk of Joined. -/
import Derived.Test.YtmedkmbfggphdaaDoorJ0
import Derived.Test.YtmedkmbfggphdaaDoorM19
import Derived.StillTailTactics
set_option linter.unusedSimpArgs false
set_option linter.unusedVariables false
set_option linter.constructorNameAsVariable false
namespace Go.Proofs.YtmedkmbfggphdaaDoor
open Go.RowKit

theorem row_fin {W : World} {g n c : Nat} {F : Nat → Int} {f : Nat → Value} (h : W.rowIs g 2 n f) (hf : ∀ j, j ≠ c → f j = .int .i64 (if j < c then F j else 0)) {x : Int} (hx : x = F c) :
    (W.setCell ⟨g, c, none⟩ (.int .i64 x)).rowIs g 2 n (fun j => .int .i64 (if j < c + 1 then F j else 0)) := by
  refine (h.set c _).congr (fun j _ => ?_)
  by_cases h1 : j = c
  · subst h1; simp [hx]
  · rw [if_neg h1, hf j h1]
    by_cases h2 : j < c
    · rw [if_pos h2, if_pos (by omega)]
    · rw [if_neg h2, if_neg (by omega)]
theorem row_mid {W : World} {g n c : Nat} {F : Nat → Int} {f : Nat → Value} (h : W.rowIs g 2 n f) (x : Value) (hf : ∀ j, j ≠ c → f j = .int .i64 (if j < c then F j else 0)) :
    ∃ f', (W.setCell ⟨g, c, none⟩ x).rowIs g 2 n f' ∧ ∀ j, j ≠ c → f' j = .int .i64 (if j < c then F j else 0) :=
  ⟨_, h.set c x, fun j hj => by rw [if_neg hj, hf j hj]⟩

set_option maxRecDepth 20000 in
set_option maxHeartbeats 8000000 in
theorem Joined_any (w : World) (b : BK) (p : Option Addr) (cap N : Nat) (but : Int) (hv : b.Valid) (hb : BookAt w.heap.size w p b) (hN : (N : Int) = 1 + b.lots + b.total) :
    Calls Tryd.prog 75 #[bookV b p cap, .int .i64 but] w fun e w' => ∃ u, e = .returned u ∧ MatAt w' u N (jm (j0 fun a c => b.bd but a c) N N) ∧ Pure w w' := by
  have hl1 := hv.lots1
  have hl6 := hv.lots6
  have h12 := hv.tot
  have hmx : Tryd.prog.follows .mixedOrders = true := by kernel_rfl
  have HN := Lib.hid hN
  have hN19 : N ≤ 19 := by omega
  have hN1 : 1 ≤ N := by omega
  clear hN
  go_enter Tryd.func75, Tryd.ntmps75
  go_wp2_with fail
  obtain ⟨X, hX⟩ : ∃ X, w.alloc (.cells (bookC b p cap) 26) = X := ⟨_, rfl⟩
  have hP : Hid (Pure w X) := by rw [← hX]; exact (Diff.refl w).alloc _
  have hX1 : BoxB w.heap.size b p cap X := by rw [← hX]; exact BoxB.new w b p cap 26
  rw [hX]
  clear hX
  have HB := Lib.hid hX1
  have HHB : Hid (BookAt w.heap.size w p b) := hb
  clear hX1 hb
  obtain ⟨gb, hgb⟩ : ∃ gb, w.heap.size = gb := ⟨_, rfl⟩
  have HG : Hid (w.heap.size = gb) := hgb
  rw [hgb] at HB ⊢
  clear hgb
  obtain ⟨c0, c1, c2, c3, cl⟩ := HB.out
  go_wp2_with fail
  refine (Names_any X b p cap hv ((HHB.out.diff hP.out (Nat.le_refl _) (fun _ _ => id)).mono hP.out.size)).mono ?_
  rintro e w1 ⟨rfl, hp1⟩
  have hP1 : Hid (Pure w w1) := hP.out.trans hp1
  have HB1 := Lib.hid (HB.out.pure hp1)
  clear c0 c1 c2 c3 cl HB hp1 hP
  rw [← HN.out]
  go_wp2_with fail
  obtain ⟨F, hF⟩ : ∃ F : Nat → Nat → Int, F = j0 fun a c => b.bd but a c := ⟨_, rfl⟩
  have HF := Lib.hid hF
  have hin : JIn F := by rw [hF]; exact j0_in b hv but
  have HIN := Lib.hid hin

  clear hF hin
  go_loopw [6, 7] (fun u i wr => ∃ (k : Nat) (v : Value) (G : Nat → Nat), k ≤ N ∧ i = .int .i64 k ∧ u = v ∧ Hid (JP w1 w1.heap.size N k F v G wr)) (fun _ i _ => N - (intOf i).toNat)
  case atStart => exact ⟨0, _, fun _ => 0, Nat.zero_le _, rfl, rfl, ⟨Diff.refl _, World.ownsRow_nil _ _ _ _, fun j hj => by omega, fun j hj => by omega, fun i j hi => by omega, Nat.le_refl _⟩⟩
  case round =>
    obtain ⟨k, v, G, hk, rfl, huv, HJ⟩ := hrel
    have huv' := huv.symm
    clear huv
    subst huv'
    by_cases hkn : k < N
    · have hki : (k : Int) < N := by omega
      have hk0 : (0 : Int) ≤ k := by omega
      have hmk := run_make_row' (P := Tryd.prog) 27 2 (.int .i64 0) 8 Tryd.underlying27 info2 rfl .i64 .i64 N (by omega) (by omega)
      go_wp2_with fail
      obtain ⟨wo, rfl⟩ : ∃ wo : World, wo = wr := ⟨_, rfl⟩
      obtain ⟨W0, hW0⟩ : ∃ W0, wo.alloc (.cells (madeCells #[.int .i64 0] N) 2) = W0 := ⟨_, rfl⟩
      have HP0 : Hid (Pure wo W0) := by show Pure wo W0; rw [← hW0]; exact (Diff.refl wo).alloc _
      have HR0 : Hid (W0.rowIs wo.heap.size 2 N (fun j => .int .i64 (if j < 0 then F k j else 0))) := by show World.rowIs W0 _ _ _ _; rw [← hW0]; exact World.rowIs_made _ _ _ _
      obtain ⟨g, hg⟩ : ∃ g, wo.heap.size = g := ⟨_, rfl⟩
      have HG2 := Lib.hid hg
      rw [hW0]
      rw [hg] at HR0 ⊢
      clear hW0 hg hmk
      go_loopw [9] (fun i wj => ∃ c : Nat, c ≤ N ∧ i = .int .i64 c ∧ Hid (Pure wo wj) ∧ Hid (wj.rowIs g 2 N (fun j => .int .i64 (if j < c then F k j else 0)))) (fun i _ => N - (intOf i).toNat)
      case atStart => exact ⟨0, Nat.zero_le _, rfl, HP0.out, HR0.out⟩
      case round =>
        obtain ⟨c, hc, rfl, HPj, HRj⟩ := hrel
        by_cases hcn : c < N
        · have hci : (c : Int) < N := by omega
          have hc0 : (0 : Int) ≤ c := by omega
          obtain ⟨c0, c1, c2, c3, cl⟩ := HB1.out.pure (HJ.out.pw.trans HPj.out)
          go_wp2_with fail
          have HW : Hid (Pure w wr) := hP1.out.trans (HJ.out.pw.trans HPj.out)
          refine (Bound_any wr b p cap (k : Int) (c : Int) but hv ((HHB.out.diff HW.out (Nat.le_refl _) (fun _ _ => id)).mono HW.out.size) hk0 (by have := HN.out; omega) hc0 (by have := HN.out; omega)).mono ?_
          rintro e w5 ⟨rfl, hp5⟩
          have HP5 : Hid (Pure wo w5) := HPj.out.trans hp5
          have HR5 : Hid (w5.rowIs g 2 N (fun j => .int .i64 (if j < c then F k j else 0))) := rowPure HRj.out hp5
          have zc := HR5.out.cell hcn
          have fc : ∀ o, w5.frozen? ⟨g, o, none⟩ = false := fun o => HR5.out.frozen o
          have hFk : Hid (F k c = if k = c then 0 else (b.bd but k c).getD farI) := by show _ = _; rw [HF.out]; rfl
          clear c0 c1 c2 c3 cl hp5
          have hgo : Hid (g < wo.heap.size → False) := fun hlt => by have := HG2.out; omega
          cases hbd : b.bd but k c with
          | none =>
            have HD := Lib.hid hbd
            clear hbd
            by_cases hkc : k = c
            · subst hkc
              go_wp2_with fail
              refine ⟨⟨k + 1, by omega, by push_cast; rfl, ?_, ?_⟩, by simp only [intOf]; omega⟩
              · show Pure wo _
                repeat (first | exact HP5.out | refine Diff.setCell ?_ (fun hlt => hgo.out hlt) _)
              · obtain ⟨f1, h1, h2⟩ := row_mid HR5.out (.int .i64 1099511627776) (fun j _ => rfl)
                exact row_fin h1 h2 (by rw [hFk.out]; simp)
            · have hkc' : ¬ (k : Int) = (c : Int) := by omega
              go_wp2_with fail
              refine ⟨⟨c + 1, by omega, by push_cast; rfl, ?_, ?_⟩, by simp only [intOf]; omega⟩
              · show Pure wo _
                repeat (first | exact HP5.out | refine Diff.setCell ?_ (fun hlt => hgo.out hlt) _)
              · exact row_fin HR5.out (fun j _ => rfl) (by rw [hFk.out, if_neg hkc, HD.out]; rfl)
          | some v =>
            have HD := Lib.hid hbd
            clear hbd
            by_cases hkc : k = c
            · subst hkc
              go_wp2_with fail
              refine ⟨⟨k + 1, by omega, by push_cast; rfl, ?_, ?_⟩, by simp only [intOf]; omega⟩
              · show Pure wo _
                repeat (first | exact HP5.out | refine Diff.setCell ?_ (fun hlt => hgo.out hlt) _)
              · obtain ⟨f1, h1, h2⟩ := row_mid HR5.out (.int .i64 1099511627776) (fun j _ => rfl)
                obtain ⟨f2, h3, h4⟩ := row_mid h1 (.int .i64 v) h2
                exact row_fin h3 h4 (by rw [hFk.out]; simp)
            · have hkc' : ¬ (k : Int) = (c : Int) := by omega
              go_wp2_with fail
              refine ⟨⟨c + 1, by omega, by push_cast; rfl, ?_, ?_⟩, by simp only [intOf]; omega⟩
              · show Pure wo _
                repeat (first | exact HP5.out | refine Diff.setCell ?_ (fun hlt => hgo.out hlt) _)
              · obtain ⟨f1, h1, h2⟩ := row_mid HR5.out (.int .i64 1099511627776) (fun j _ => rfl)
                exact row_fin h1 h2 (by rw [hFk.out, if_neg hkc, HD.out]; rfl)
        · obtain rfl : c = N := by omega
          have hgl : w1.heap.size ≤ g := by have := HJ.out.pw.size; have := HG2.out; omega
          obtain ⟨v', w', hr2, hJ2⟩ := HJ.out.push (by omega) HPj.out (Nat.le_of_eq HG2.out) hgl (HRj.out.congr (fun j hj => by rw [if_pos hj]))
          have HJ2 := Lib.hid hJ2
          clear hJ2 hgl
          go_wp2_with (at_builtin; refine Lib.wpList_append_run _ rfl _ _ _ _ rfl _ _ rfl rfl _ _ hr2 ?_)
          exact ⟨⟨k + 1, _, _, by omega, by push_cast; rfl, rfl, HJ2.out⟩, by simp only [intOf]; omega⟩
    · obtain rfl : k = N := by omega
      obtain ⟨ub, cap', rfl, hub⟩ := HJ.out.form hN1
      obtain ⟨wo, rfl⟩ : ∃ wo : World, wo = wr := ⟨_, rfl⟩
      go_wp2_with fail
      go_loopw [12] (fun i wr => ∃ m : Nat, m ≤ k ∧ i = .int .i64 m ∧ Hid (JP w1 w1.heap.size k k (jm F k m) (.slice (some ⟨ub, 0, none⟩) k cap') G wr)) (fun i _ => k - (intOf i).toNat)
      case atStart => exact ⟨0, Nat.zero_le _, rfl, HJ.out⟩
      case round =>
        obtain ⟨m, hm, rfl, HJm⟩ := hrel
        by_cases hmk : m < k
        · have hmi : (m : Int) < k := by omega
          have hm0 : (0 : Int) ≤ m := by omega
          obtain ⟨wm, rfl⟩ : ∃ wm : World, wm = wr := ⟨_, rfl⟩
          obtain ⟨Fm, hFm⟩ : ∃ Fm, jm F k m = Fm := ⟨_, rfl⟩
          have HFm := Lib.hid hFm
          have HIm : Hid (JIn Fm) := by rw [← hFm]; exact JIn.m HIN.out k m
          rw [hFm] at HJm
          clear hFm
          go_wp2_with fail
          go_loopw [13] (fun i wr => ∃ a : Nat, a ≤ k ∧ i = .int .i64 a ∧ Hid (JP w1 w1.heap.size k k (ji Fm m k a) (.slice (some ⟨ub, 0, none⟩) k cap') G wr)) (fun i _ => k - (intOf i).toNat)
          case atStart => exact ⟨0, Nat.zero_le _, rfl, HJm.out⟩
          case round =>
            obtain ⟨a, ha, rfl, HJa⟩ := hrel
            by_cases hak : a < k
            · have hai : (a : Int) < k := by omega
              have ha0 : (0 : Int) ≤ a := by omega
              obtain ⟨wa, rfl⟩ : ∃ wa : World, wa = wr := ⟨_, rfl⟩
              obtain ⟨Fa, hFa⟩ : ∃ Fa, ji Fm m k a = Fa := ⟨_, rfl⟩
              have HFa := Lib.hid hFa
              have HIa : Hid (JIn Fa) := by rw [← hFa]; exact JIn.i HIm.out m k a
              rw [hFa] at HJa
              clear hFa
              go_wp2_with fail
              go_loopw [14] (fun i wr => ∃ c : Nat, c ≤ k ∧ i = .int .i64 c ∧ Hid (JP w1 w1.heap.size k k (jk Fa m a c) (.slice (some ⟨ub, 0, none⟩) k cap') G wr)) (fun i _ => k - (intOf i).toNat)
              case atStart => exact ⟨0, Nat.zero_le _, rfl, HJa.out⟩
              case round =>
                obtain ⟨c, hc, rfl, HJc⟩ := hrel
                by_cases hck : c < k
                · have hci : (c : Int) < k := by omega
                  have hc0 : (0 : Int) ≤ c := by omega
                  obtain ⟨R, hR⟩ : ∃ R, jk Fa m a c = R := ⟨_, rfl⟩
                  have HS : Hid (jk Fa m a (c + 1) = jstep R m a c) := by rw [← hR]; rfl
                  have HIc : JIn R := by rw [← hR]; exact JIn.k HIa.out m a c
                  have b1 := HIc a m
                  have b2 := HIc m c
                  have b3 := HIc a c
                  simp only [farI] at b1 b2 b3
                  rw [hR] at HJc
                  clear hR HIc
                  have x1 := HJc.out.outer hak
                  have x2 := HJc.out.outer hmk
                  have x3 := HJc.out.inner hak hmk
                  have x4 := HJc.out.inner hmk hck
                  have x5 := HJc.out.inner hak hck
                  have f1 := (HJc.out.rows a hak).frozen c
                  obtain ⟨v1, hv1⟩ : ∃ v, R a m = v := ⟨_, rfl⟩
                  obtain ⟨v2, hv2⟩ : ∃ v, R m c = v := ⟨_, rfl⟩
                  obtain ⟨v3, hv3⟩ : ∃ v, R a c = v := ⟨_, rfl⟩
                  have HV1 := Lib.hid hv1
                  have HV2 := Lib.hid hv2
                  have HV3 := Lib.hid hv3
                  rw [hv1] at b1 x3
                  rw [hv2] at b2 x4
                  rw [hv3] at b3 x5
                  clear hv1 hv2 hv3
                  obtain ⟨Ga, hGa⟩ : ∃ g, G a = g := ⟨_, rfl⟩
                  obtain ⟨Gm, hGm⟩ : ∃ g, G m = g := ⟨_, rfl⟩
                  have HGa := Lib.hid hGa
                  have HGm := Lib.hid hGm
                  rw [hGa] at x1 x3 x5 f1
                  rw [hGm] at x2 x4
                  clear hGa hGm
                  by_cases h1 : v1 < 1099511627776
                  · by_cases h2 : v2 < 1099511627776
                    · have hsum : IntKind.i64.wrap (v1 + v2) = v1 + v2 := IntWalk.i64_in _ (by omega)
                      go_wp2_with fail
                      go_still_tail 29, hmx
                      have hdr : ({ heap := wr.heap, tape := wr.tape, drawn := wr.drawn + 1, os := wr.os, output := wr.output } : World) = wr.drew := rfl
                      rw [hdr]
                      have HJd : Hid (JP w1 w1.heap.size k k R (.slice (some ⟨ub, 0, none⟩) k cap') G wr.drew) := HJc.out.pure (Diff.refl _).drew
                      obtain ⟨W, hW⟩ : ∃ W, wr.drew = W := ⟨_, rfl⟩
                      rw [hW] at HJd ⊢
                      clear hW hdr x1 x2 x3 x4 x5 f1
                      have x1 := HJd.out.outer hak
                      have x2 := HJd.out.outer hmk
                      have x3 := HJd.out.inner hak hmk
                      have x4 := HJd.out.inner hmk hck
                      have x5 := HJd.out.inner hak hck
                      have f1 := (HJd.out.rows a hak).frozen c
                      rw [HV1.out] at x3
                      rw [HV2.out] at x4
                      rw [HV3.out] at x5
                      rw [HGa.out] at x1 x3 x5 f1
                      rw [HGm.out] at x2 x4
                      go_wp2_with fail
                      refine ⟨⟨c + 1, by omega, by push_cast; rfl, ?_⟩, by simp only [intOf]; omega⟩
                      have hx : max (-farI) (min v3 (v1 + v2)) = (if -1099511627776 < (if v1 + v2 < v3 then v1 + v2 else v3) then (if v1 + v2 < v3 then v1 + v2 else v3) else -1099511627776) := by
                        simp only [farI]
                        by_cases q1 : v1 + v2 < v3 <;> simp only [q1, if_true, if_false] <;> split <;> omega
                      have hset := HJd.out.set c hak (max (-farI) (min v3 (v1 + v2)))
                      rw [HGa.out, hx] at hset
                      rw [HS.out]
                      unfold jstep
                      rw [HV1.out, HV2.out, HV3.out, if_pos ⟨h1, h2⟩, hx]
                      exact hset
                    · have HQ : Hid (jk Fa m a (c + 1) = R) := by show _ = _; rw [HS.out, jstep, if_neg (fun hh => h2 (by have := hh.2; rw [HV2.out] at this; exact this))]
                      go_wp2_with fail
                      exact ⟨⟨c + 1, by omega, by push_cast; rfl, by rw [HQ.out]; exact HJc.out⟩, by simp only [intOf]; omega⟩
                  · have HQ : Hid (jk Fa m a (c + 1) = R) := by show _ = _; rw [HS.out, jstep, if_neg (fun hh => h1 (by have := hh.1; rw [HV1.out] at this; exact this))]
                    go_wp2_with fail
                    exact ⟨⟨c + 1, by omega, by push_cast; rfl, by rw [HQ.out]; exact HJc.out⟩, by simp only [intOf]; omega⟩
                · obtain rfl : c = k := by omega
                  have HQ : Hid (ji Fm m c (a + 1) = jk Fa m a c) := by show _ = _; rw [← HFa.out]; rfl
                  go_wp2_with fail
                  exact ⟨⟨a + 1, by omega, by push_cast; rfl, by rw [HQ.out]; exact HJc.out⟩, by simp only [intOf]; omega⟩
            · obtain rfl : a = k := by omega
              have HQ : Hid (jm F a (m + 1) = ji Fm m a a) := by show _ = _; rw [← HFm.out]; rfl
              go_wp2_with fail
              exact ⟨⟨m + 1, by omega, by push_cast; rfl, by rw [HQ.out]; exact HJa.out⟩, by simp only [intOf]; omega⟩
        · obtain rfl : m = k := by omega
          go_wp2_with fail
          exact bodyPost_ret (v := .slice (some ⟨ub, 0, none⟩) m cap') (by simp [results, Tryd.results75, go_sem]) rfl ⟨_, rfl, by rw [← HF.out]; exact MatAt.of HJm.out hN1, hP1.out.trans HJm.out.pw⟩
end Go.Proofs.YtmedkmbfggphdaaDoor
