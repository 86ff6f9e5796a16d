/- The reference: Wrong. -/
import Derived.Test.YtmedkmbfggphdaaDoorJ3
import Derived.Test.YtmedkmbfggphdaaDoorT0
set_option linter.unusedSimpArgs false
set_option linter.unusedVariables false
set_option linter.constructorNameAsVariable false
namespace Go.Proofs.YtmedkmbfggphdaaDoor
open Go.RowKit

def wrongQ (b : BK) (w : World) (e : Ending) (w' : World) : Prop :=
  if checkB b ≠ 0 then e = .returned (.tuple #[.slice none 0 0, .int .i64 (checkB b)])
  else ∃ (L : Nat) (u : Value), b.lots = L ∧ e = .returned (.tuple #[u, .int .i64 0]) ∧ w'.ownsRow w.heap.size 3 1 u (wrongTo b L b.total).length (vals (wrongTo b L b.total))

set_option maxRecDepth 20000 in
set_option maxHeartbeats 8000000 in
theorem RWrong_any (w : World) (b : BK) (p : Option Addr) (cap : Nat) (hs : b.Small) (hb : BookAt w.heap.size w p b) :
    Calls Tryd.prog 45 #[bookV b p cap] w fun e w' => wrongQ b w e w' ∧ Pure w w' := by
  have HB := Lib.hid hb
  clear hb
  go_enter Tryd.func45, Tryd.ntmps45
  go_wp2_with fail
  obtain ⟨X, hX⟩ : ∃ X, w.alloc (.cells (bookC b p cap) 26) = X := ⟨_, rfl⟩
  have hP : Hid (Pure w X) := by rw [← hX]; exact (Diff.refl w).alloc _
  have hX1 : BoxB w.heap.size b p cap X := by rw [← hX]; exact BoxB.new w b p cap 26
  obtain ⟨g0, hg0⟩ : ∃ g, w.heap.size = g := ⟨_, rfl⟩
  rw [hX]
  rw [hg0] at hX1 ⊢
  clear hX hg0
  have H0 := Lib.hid hX1
  obtain ⟨c0, c1, c2, c3, cl⟩ := hX1
  go_wp2_with fail
  refine (RCheckBook_any X b p cap hs (HB.out.to hP.out)).mono ?_
  rintro e w1 ⟨rfl, hp1⟩
  have hP1 : Hid (Pure w w1) := hP.out.trans hp1
  have H1 := Lib.hid (H0.out.pure hp1)
  clear c0 c1 c2 c3 cl hp1 hP H0
  obtain ⟨c0, c1, c2, c3, cl⟩ := H1.out
  by_cases hck : checkB b = 0
  · have hv := checkB_valid hck
    have HCK := Lib.hid hck
    rw [hck]
    clear hck
    obtain ⟨N, hN⟩ := Int.eq_ofNat_of_zero_le (show 0 ≤ 1 + b.lots + b.total by have := hv.lots1; omega)
    obtain ⟨L, hL⟩ := Int.eq_ofNat_of_zero_le (show 0 ≤ b.lots by have := hv.lots1; omega)
    have HNN : Hid ((N : Int) = 1 + b.lots + b.total) := hN.symm
    have HL := Lib.hid hL
    have h12 := hv.tot
    clear hN hL
    clear c0 c1 c2 c3 cl
    obtain ⟨t, ht⟩ : ∃ t, b.total = t := ⟨_, rfl⟩
    have HT := Lib.hid ht
    rw [ht] at h12
    clear ht
    go_wp2_with fail
    go_loopw [4, 5] (fun u i wr => ∃ (k : Nat) (v : Value), k ≤ t ∧ i = .int .i64 k ∧ u = v ∧ Hid (wr.ownsRow w1.heap.size 3 1 v (wrongTo b L k).length (vals (wrongTo b L k))) ∧ Hid (Pure w1 wr)) (fun _ i _ => t - (intOf i).toNat)
    case atStart => exact ⟨0, _, Nat.zero_le _, rfl, rfl, World.ownsRow_nil _ _ _ _, Diff.refl _⟩
    case round =>
      obtain ⟨k, v, hk, rfl, huv, HO, HPr⟩ := hrel
      have huv' := huv.symm
      clear huv
      subst huv'
      have HW : Hid (Pure w wr) := hP1.out.trans HPr.out
      have HX := Lib.hid (H1.out.pure HPr.out)
      obtain ⟨c0, c1, c2, c3, cl⟩ := HX.out
      have hki0 : (0 : Int) ≤ k := by omega
      go_wp2_with fail
      refine (Tastes_len wr b p cap hv (HB.out.to HW.out)).mono ?_
      rintro e w2 ⟨⟨q, c, rfl⟩, hp2⟩
      rw [HT.out]
      have HW2 : Hid (Pure w w2) := HW.out.trans hp2
      have HP2 : Hid (Pure w1 w2) := HPr.out.trans hp2
      have HX2 := Lib.hid (HX.out.pure hp2)
      have HO2 := Lib.hid (own_pure HO.out hp2)
      clear c0 c1 c2 c3 cl hp2 HPr HX HO HW
      obtain ⟨c0, c1, c2, c3, cl⟩ := HX2.out
      by_cases hkt : k < t
      · have hki : (k : Int) < t := by omega
        go_wp2_with fail
        refine (Can_any w2 b p cap N k hv (HB.out.to HW2.out) HNN.out).mono ?_
        rintro e w3 ⟨rfl, hp3⟩
        rw [joined_cut b hv N L k HNN.out HL.out (by rw [HT.out]; exact hkt)]
        have HW3 : Hid (Pure w w3) := HW2.out.trans hp3
        have HP3 : Hid (Pure w1 w3) := HP2.out.trans hp3
        have HX3 := Lib.hid (HX2.out.pure hp3)
        have HO3 := Lib.hid (own_pure HO2.out hp3)
        clear c0 c1 c2 c3 cl hp3 HP2 HX2 HO2 HW2
        have hlen := wrongTo_length b L k
        cases hc : noneB (cutM L k b.es L) with
        | true =>
          have HW : Hid (wrongTo b L (k + 1) = wrongTo b L k) := by show _ = _; simp only [wrongTo, hc, if_true, List.append_nil]
          go_wp2_with fail
          exact ⟨⟨k + 1, _, by omega, by push_cast; rfl, rfl, by rw [HW.out]; exact HO3.out, HP3.out⟩, by simp only [intOf]; omega⟩
        | false =>
          have HW : Hid (wrongTo b L (k + 1) = wrongTo b L k ++ [(k : Int)]) := by show _ = _; simp [wrongTo, hc]
          obtain ⟨v', w', hr, hown, hd, hob, g', c', rfl⟩ := push_one 44 3 (.int .i64 0) 8 Tryd.underlying44 info3 rfl (by omega) HO3.out (by omega) (HP3.out.size) (.int .i64 k) rfl
          have HO4 : Hid (w'.ownsRow w1.heap.size 3 1 (.slice (some ⟨g', 0, none⟩) ((wrongTo b L k).length + 1) c') (wrongTo b L (k + 1)).length (vals (wrongTo b L (k + 1)))) := by
            show World.ownsRow _ _ _ _ _ _ _
            rw [HW.out, List.length_append, vals_append]
            exact hown
          have HP4 : Hid (Pure w1 w') := HP3.out.trans' hd (fun x hx hh => by have := (HO3.out.lt x hh.symm).1; omega)
          clear hown hd hob
          go_wp2_with (at_builtin; refine Lib.wpList_append_run _ rfl _ _ _ _ rfl _ _ rfl rfl _ _ hr ?_)
          exact ⟨⟨k + 1, _, by omega, by push_cast; rfl, rfl, HO4.out, HP4.out⟩, by simp only [intOf]; omega⟩
      · obtain rfl : k = t := by omega
        obtain ⟨q', d', rfl, -⟩ := slice_of_own HO2.out
        go_wp2_with fail
        exact bodyPost_ret (v := .tuple #[.slice q' (wrongTo b L k).length d', .int .i64 0]) (by simp [results, Tryd.results45, go_sem]) rfl ⟨by unfold wrongQ; rw [if_neg (by have := HCK.out; omega), HT.out]; exact ⟨L, _, HL.out, rfl, own_mono HO2.out hP1.out.size⟩, HW2.out⟩
  · go_wp2_with fail
    refine (RCheckBook_any w1 b p cap hs (HB.out.to hP1.out)).mono ?_
    rintro e w2 ⟨rfl, hp2⟩
    have hP2 : Hid (Pure w w2) := hP1.out.trans hp2
    clear hp2
    go_wp2_with fail
    exact bodyPost_ret (v := .tuple #[.slice none 0 0, .int .i64 (checkB b)]) (by simp [results, Tryd.results45, go_sem]) rfl ⟨by unfold wrongQ; rw [if_pos hck], hP2.out⟩
end Go.Proofs.YtmedkmbfggphdaaDoor
