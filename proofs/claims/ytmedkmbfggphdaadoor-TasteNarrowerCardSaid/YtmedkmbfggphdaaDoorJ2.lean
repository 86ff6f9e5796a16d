/- The reference: Can, end, Least, Greatest, RoundError. -/
import Derived.Test.YtmedkmbfggphdaaDoorJ1
import Derived.Test.YtmedkmbfggphdaaDoorM19
set_option linter.unusedSimpArgs false
set_option linter.unusedVariables false
set_option linter.constructorNameAsVariable false
namespace Go.Proofs.YtmedkmbfggphdaaDoor
open Go.RowKit

theorem es_in (b : BK) (hv : b.Valid) (N : Nat) (hN : (N : Int) = 1 + b.lots + b.total) : ∀ e ∈ b.es, e.f < N ∧ e.t < N := by
  intro e he
  simp only [BK.es, BK.netM, List.mem_map, List.mem_range] at he
  obtain ⟨i, hi, rfl⟩ := he
  have := b.bn_lt hv i hi
  simp only; omega
theorem joined_b (b : BK) (hv : b.Valid) (N : Nat) (hN : (N : Int) = 1 + b.lots + b.total) :
    canJ (jm (j0 fun a c => b.bd (-1) a c) N N) N = !(noneB b.es) ∧ (noneB b.es = false → Rel N (jm (j0 fun a c => b.bd (-1) a c) N N) b.T) := by
  have h6 := hv.lots6
  have h12 := hv.tot
  exact joined_iff (b.netM_good hv) (b.loose hv) (by omega) (es_in b hv N hN) (fun a c => b.bd (-1) a c) (fun a c ha hc => (b.bound_eq hv a c (by omega) (by omega) (by omega) (by omega)).symm)
theorem joined_cut (b : BK) (hv : b.Valid) (N L q : Nat) (hN : (N : Int) = 1 + b.lots + b.total) (hL : b.lots = L) (hq : q < b.total) :
    canJ (jm (j0 fun a c => b.bd q a c) N N) N = !(noneB (cutM L q b.es L)) := by
  have h6 := hv.lots6
  have h12 := hv.tot
  have hs := cutM_sub L q b.es L
  exact (joined_iff ((b.netM_good hv).sub hs) (fun e he => b.loose hv e (hs.subset he)) (by omega) (fun e he => es_in b hv N hN e (hs.subset he)) (fun a c => b.bd q a c) (fun a c ha hc => (b.cut_eq hv L q hL hq a c (by omega) (by omega) (by omega) (by omega)).symm)).1
theorem canJ_false {R : Nat → Nat → Int} {n k : Nat} (hk : k < n) (h : R k k < 0) : canJ R n = false := by
  simp only [canJ, List.all_eq_false, List.mem_range]
  exact ⟨k, hk, by simp; omega⟩
theorem canJ_true {R : Nat → Nat → Int} {n : Nat} (h : ∀ k, k < n → 0 ≤ R k k) : canJ R n = true := by
  simp only [canJ, List.all_eq_true, List.mem_range, decide_eq_true_eq]
  exact h

set_option maxRecDepth 20000 in
set_option maxHeartbeats 4000000 in
theorem Can_any (w : World) (b : BK) (p : Option Addr) (cap N : Nat) (but : Int) (hv : b.Valid) (hb : BookAt w.heap.size w p b) (hN : (N : Int) = 1 + b.lots + b.total) :
    Calls Tryd.prog 74 #[bookV b p cap, .int .i64 but] w fun e w' => e = .returned (.bool (canJ (jm (j0 fun a c => b.bd but a c) N N) N)) ∧ Pure w w' := by
  have hl1 := hv.lots1
  have hl6 := hv.lots6
  have h12 := hv.tot
  have HN := Lib.hid hN
  have hN19 : N ≤ 19 := by omega
  clear hN
  go_enter Tryd.func74, Tryd.ntmps74
  go_wp2_with fail
  obtain ⟨X, hX⟩ : ∃ X, w.alloc (.cells (bookC b p cap) 26) = X := ⟨_, rfl⟩
  have hP : Hid (Pure w X) := by rw [← hX]; exact (Diff.refl w).alloc _
  have hX1 : BoxB w.heap.size b p cap X := by rw [← hX]; exact BoxB.new w b p cap 26
  rw [hX]
  clear hX
  obtain ⟨c0, c1, c2, c3, cl⟩ := hX1
  go_wp2_with fail
  refine (Joined_any X b p cap N but hv ((hb.diff hP.out (Nat.le_refl _) (fun _ _ => id)).mono hP.out.size) HN.out).mono ?_
  rintro e w1 ⟨u, rfl, hM, hp1⟩
  have hP1 : Hid (Pure w w1) := hP.out.trans hp1
  clear c0 c1 c2 c3 cl hp1 hP hb
  obtain ⟨R, hR⟩ : ∃ R, (jm (j0 fun a c => b.bd but a c) N N) = R := ⟨_, rfl⟩
  have HR := Lib.hid hR
  rw [hR] at hM
  clear hR
  obtain ⟨ub, uc, G, rfl, hub, hall⟩ := hM
  have HA := Lib.hid hall
  clear hall
  go_wp2_with fail
  go_loopw [6] (fun i wr => ∃ k : Nat, k ≤ N ∧ i = .int .i64 k ∧ Hid (∀ j, j < k → 0 ≤ R j j) ∧ Hid (Pure w1 wr)) (fun i _ => N - (intOf i).toNat)
  case atStart => exact ⟨0, Nat.zero_le _, rfl, fun j hj => by omega, Diff.refl _⟩
  case round =>
    obtain ⟨k, hk, rfl, HS, HPr⟩ := hrel
    by_cases hkn : k < N
    · have hki : (k : Int) < N := by omega
      have hk0 : (0 : Int) ≤ k := by omega
      have x1 := ((pcell HPr.out).1 _ _ hub).trans (HA.out k hkn).1
      have x2 := ((pcell HPr.out).1 _ _ (HA.out k hkn).2.1).trans ((HA.out k hkn).2.2 k hkn)
      obtain ⟨v, hv⟩ : ∃ v, R k k = v := ⟨_, rfl⟩
      have HV := Lib.hid hv
      rw [hv] at x2
      clear hv
      by_cases h0 : v < 0
      · go_wp2_with fail
        exact bodyPost_ret (v := .bool false) (by simp [results, Tryd.results74, go_sem]) rfl ⟨by rw [HR.out, canJ_false hkn (by rw [HV.out]; exact h0)], hP1.out.trans HPr.out⟩
      · go_wp2_with fail
        exact ⟨⟨k + 1, by omega, by push_cast; rfl, fun j hj => by
          by_cases e : j = k
          · subst e; rw [HV.out]; omega
          · exact HS.out j (by omega), HPr.out⟩, by simp only [intOf]; omega⟩
    · obtain rfl : k = N := by omega
      go_wp2_with fail
      exact bodyPost_ret (v := .bool true) (by simp [results, Tryd.results74, go_sem]) rfl ⟨by rw [HR.out, canJ_true HS.out], hP1.out.trans HPr.out⟩
/-- Nothing is left out. -/
theorem Can_net (w : World) (b : BK) (p : Option Addr) (cap : Nat) (hv : b.Valid) (hb : BookAt w.heap.size w p b) :
    Calls Tryd.prog 74 #[bookV b p cap, .int .i64 (-1)] w fun e w' => e = .returned (.bool (!(noneB b.es))) ∧ Pure w w' := by
  obtain ⟨N, hN⟩ := Int.eq_ofNat_of_zero_le (show 0 ≤ 1 + b.lots + b.total by have := hv.lots1; omega)
  refine (Can_any w b p cap N (-1) hv hb hN.symm).mono ?_
  rintro e w' ⟨rfl, h⟩
  exact ⟨by rw [(joined_b b hv N hN.symm).1], h⟩

/-- The error of Round. -/
def reB (b : BK) : Int := if checkB b ≠ 0 then checkB b else if noneB b.es = false then 5 else 0
set_option maxRecDepth 20000 in
theorem RoundError_any (w : World) (b : BK) (p : Option Addr) (cap : Nat) (hs : b.Small) (hb : BookAt w.heap.size w p b) :
    Calls Tryd.prog 42 #[bookV b p cap] w fun e w' => e = .returned (.int .i64 (reB b)) ∧ Pure w w' := by
  have HHB := Lib.hid hb
  clear hb
  go_enter Tryd.func42, Tryd.ntmps42
  go_wp2_with fail
  obtain ⟨X, hX⟩ : ∃ X, w.alloc (.cells (bookC b p cap) 26) = X := ⟨_, rfl⟩
  have hP : Hid (Pure w X) := by rw [← hX]; exact (Diff.refl w).alloc _
  have hX1 : BoxB w.heap.size b p cap X := by rw [← hX]; exact BoxB.new w b p cap 26
  rw [hX]
  clear hX
  have HB := Lib.hid hX1
  obtain ⟨c0, c1, c2, c3, cl⟩ := hX1
  go_wp2_with fail
  refine (RCheckBook_any X b p cap hs ((HHB.out.diff hP.out (Nat.le_refl _) (fun _ _ => id)).mono hP.out.size)).mono ?_
  rintro e w1 ⟨rfl, hp1⟩
  have hP1 : Hid (Pure w w1) := hP.out.trans hp1
  have HB1 := Lib.hid (HB.out.pure hp1)
  clear c0 c1 c2 c3 cl HB hp1 hP
  obtain ⟨c0, c1, c2, c3, cl⟩ := HB1.out
  by_cases hck : checkB b = 0
  · have hv := checkB_valid hck
    have HCK := Lib.hid hck
    rw [hck]
    clear hck
    go_wp2_with fail
    refine (Can_net w1 b p cap hv ((HHB.out.diff hP1.out (Nat.le_refl _) (fun _ _ => id)).mono hP1.out.size)).mono ?_
    rintro e w2 ⟨rfl, hp2⟩
    have hP2 : Hid (Pure w w2) := hP1.out.trans hp2
    clear c0 c1 c2 c3 cl hp2
    cases hN : noneB b.es with
    | true =>
      go_wp2_with fail
      exact bodyPost_ret (v := .int .i64 0) (by simp [results, Tryd.results42, go_sem]) rfl ⟨by unfold reB; rw [if_neg (by have := HCK.out; omega), if_neg (by rw [hN]; simp)], hP2.out⟩
    | false =>
      go_wp2_with fail
      exact bodyPost_ret (v := .int .i64 5) (by simp [results, Tryd.results42, go_sem]) rfl ⟨by unfold reB; rw [if_neg (by have := HCK.out; omega), if_pos hN], hP2.out⟩
  · go_wp2_with fail
    refine (RCheckBook_any w1 b p cap hs ((HHB.out.diff hP1.out (Nat.le_refl _) (fun _ _ => id)).mono hP1.out.size)).mono ?_
    rintro e w2 ⟨rfl, hp2⟩
    have hP2 : Hid (Pure w w2) := hP1.out.trans hp2
    go_wp2_with fail
    exact bodyPost_ret (v := .int .i64 (checkB b)) (by simp [results, Tryd.results42, go_sem]) rfl ⟨by unfold reB; rw [if_pos hck], hP2.out⟩
end Go.Proofs.YtmedkmbfggphdaaDoor
