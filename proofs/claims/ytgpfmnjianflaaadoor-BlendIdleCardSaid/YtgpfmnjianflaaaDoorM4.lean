/- Walk of CheckBlend of package blend. Walk of AtLeast of package blend. Walk of parts. Walk of Parts of package blend. -/
import Derived.Test.YtgpfmnjianflaaaDoorM3
import Derived.Deep.QuietTactic
set_option linter.unusedSimpArgs false
set_option linter.unusedVariables false
set_option linter.constructorNameAsVariable false
namespace Go.Proofs.YtgpfmnjianflaaaDoor
open Go.RowKit
theorem wAll_true {lo hi : Int} {f : Nat → Int} {n k : Nat} (h : wAll lo hi f n = true) (hk : k < n) : lo ≤ f k ∧ f k ≤ hi := by
  have := List.all_eq_true.1 h k (List.mem_range.2 hk)
  simpa [wIn] using this
theorem sums_small {L : LT} {f : Nat → Int} {m : Nat} (h : L.Ok) (hf : ∀ k, k < m → 0 ≤ f k ∧ f k ≤ 1000) (hm : m ≤ L.n) : ∀ k, k ≤ m → (0 ≤ sumI f k ∧ sumI f k ≤ 1000 * k) ∧ (0 ≤ sumI (fun i => f i * L.s i) k ∧ sumI (fun i => f i * L.s i) k ≤ 100000 * k) ∧ 0 ≤ sumI (fun i => f i * L.p i) k ∧ sumI (fun i => f i * L.p i) k ≤ 1000000 * k
  | 0, _ => by simp [sumI]
  | k + 1, hk => by
    have ih := sums_small h hf hm k (by omega)
    have a := hf k (by omega)
    have s0 := h.s0 k (by omega)
    have s1 := h.s1 k (by omega)
    have p0 := h.p0 k (by omega)
    have p1 := h.p1 k (by omega)
    have m1 := mul_bnd 1000 100 (a := f k) (b := L.s k) (by omega) (by omega) (by omega) (by omega)
    have m2 := mul_bnd 1000 1000 (a := f k) (b := L.p k) (by omega) (by omega) (by omega) (by omega)
    have n1 := Int.mul_nonneg a.1 s0
    have n2 := Int.mul_nonneg a.1 p0
    simp only [sumI]
    omega
/-- The error of parts for lots. -/
def partsB (L : LT) (f : Nat → Int) (m : Nat) : Int := if checkL L ≠ 0 then checkL L else if m ≠ L.n then 15 else if wAll 0 1000 f m = false then 3 else if sumI f m = 0 then 6 else 0
def blendS (L : LT) (f : Nat → Int) (m : Nat) : Int × Int := if partsB L f m = 0 then (redN (sumI (fun i => f i * L.s i) m) (sumI f m), redD (sumI (fun i => f i * L.s i) m) (sumI f m)) else pr0
def blendP (L : LT) (f : Nat → Int) (m : Nat) : Int × Int := if partsB L f m = 0 then (redN (sumI (fun i => f i * L.p i) m) (sumI f m), redD (sumI (fun i => f i * L.p i) m) (sumI f m)) else pr0
set_option maxRecDepth 20000 in
set_option maxHeartbeats 2000000 in
theorem CheckBlend_any (w : World) (L : LT) (p q : Option Addr) (cap m c : Nat) (f : Nat → Int) (hn : L.n ≤ 1000) (hm : m ≤ 1000) (hl : LotsAt w.heap.size w p L) (hq : Row w.heap.size w q m fun k => .int .i64 (f k)) (hg : Gl w) :
    Calls Tryd.prog 20 #[.slice p L.n cap, .slice q m c] w fun e w' => e = .returned (.tuple #[.agg #[.int .i64 (blendS L f m).1, .int .i64 (blendS L f m).2], .agg #[.int .i64 (blendP L f m).1, .int .i64 (blendP L f m).2], .int .i64 (partsB L f m)]) ∧ Pure w w' := by
  have hmx : Tryd.prog.follows .mixedOrders = true := by kernel_rfl
  have HG := Lib.hid hg
  have HL := Lib.hid hl
  have HQ := Lib.hid hq
  clear hl hg hq
  go_enter Tryd.func20, Tryd.ntmps20
  go_wp2_with fail
  obtain ⟨X, hX⟩ : ∃ V : World, (w.alloc (.cells #[.int .i64 0, .int .i64 0] 29)).alloc (.cells #[.int .i64 0, .int .i64 0] 29) = V := ⟨_, rfl⟩
  have k0 : Blk w.heap.size 29 #[.int .i64 0, .int .i64 0] X := by rw [← hX]; exact (Blk.new _ _ _).alloc _
  have k1 : Blk (w.heap.size + 1) 29 #[.int .i64 0, .int .i64 0] X := by
    rw [← hX]
    have := Blk.new (w.alloc (.cells #[.int .i64 0, .int .i64 0] 29)) 29 #[.int .i64 0, .int .i64 0]
    rwa [World.size_alloc] at this
  have hP : Pure w X := by rw [← hX]; exact ((Diff.refl _).alloc _).alloc _
  rw [hX]
  clear hX
  refine (CheckLots_any X L p cap hn (HL.out.to hP) (HG.out.to hP)).mono ?_
  rintro e w1 ⟨rfl, hp1⟩
  obtain ⟨G, hG⟩ : ∃ G, w.heap.size + 1 = G := ⟨_, rfl⟩
  have HGG : Hid (w.heap.size + 1 = G) := hG
  rw [hG] at k1 ⊢
  have HP1 := Lib.hid (hP.trans hp1)
  have K0 := Lib.hid (k0.to hp1)
  have K1 := Lib.hid (k1.to hp1)
  clear hG hP hp1 k0 k1
  obtain ⟨ec, hc⟩ : ∃ c, checkL L = c := ⟨_, rfl⟩
  have HC := Lib.hid hc
  rw [hc]
  clear hc
  by_cases h0 : ec = 0
  · subst h0
    have HE0 : ∀ e : Int, e ≠ 0 → partsB L f m = e → Hid (partsB L f m = e ∧ blendS L f m = pr0 ∧ blendP L f m = pr0) := fun e h0 h => ⟨h, if_neg (by rw [h]; exact h0), if_neg (by rw [h]; exact h0)⟩
    by_cases hmn : m = L.n
    · have HMN := Lib.hid hmn
      have hnb : ((m : Int) != (L.n : Int)) = false := by simp [hmn]
      clear hmn
      have HG1 := Lib.hid (HG.out.to HP1.out)
      have g0 := HG1.out.l0
      have g1 := HG1.out.h0
      have gs : 0 < w1.heap.size := by have := HG1.out.sz; omega
      go_wp2_with fail
      refine (within_any w1 0 1000 q m c f hm (HQ.out.to HP1.out)).mono ?_
      rintro e w2 ⟨rfl, hp2⟩
      have HP2 := Lib.hid (HP1.out.trans hp2)
      have K02 := Lib.hid (K0.out.to hp2)
      have K12 := Lib.hid (K1.out.to hp2)
      clear hp2 g0 g1 gs
      cases hv : wAll 0 1000 f m with
      | false =>
        have HE := HE0 3 (by decide) (by unfold partsB; rw [if_neg (by rw [HC.out]; simp), if_neg (by simp [HMN.out]), if_pos hv])
        clear hv HE0
        have c0 := K02.out.at 0
        have c1 := K02.out.at 1
        have fz := fun o => K02.out.fz o
        have l0 := K02.out.lt
        have kx : Blk G 29 #[.int .i64 0, .int .i64 0] ((w2.setCell { block := w.heap.size, off := 0 } (Value.int IntKind.i64 0)).setCell { block := w.heap.size, off := 1 } (Value.int IntKind.i64 0)) := K12.out.diff ((Diff.refl (O := fun x => x = w.heap.size) w2).set2' rfl _ _) (by have := HGG.out; show ¬ G = w.heap.size; omega)
        have cx0 := kx.at 0
        have cx1 := kx.at 1
        have fx := fun o => kx.fz o
        have lx := K12.out.lt
        clear kx
        go_wp2
        rw [HE.out.1, HE.out.2.1, HE.out.2.2]
        have z1 := (K02.out.set2 (Value.int IntKind.i64 0) (Value.int IntKind.i64 0)).diff ((Diff.refl (O := fun x => x = G) _).set2' rfl (Value.int IntKind.i64 0) (Value.int IntKind.i64 0)) (by have := HGG.out; show ¬ w.heap.size = G; omega)
        have z2 := (K12.out.diff ((Diff.refl (O := fun x => x = w.heap.size) w2).set2' rfl (Value.int IntKind.i64 0) (Value.int IntKind.i64 0)) (by have := HGG.out; show ¬ G = w.heap.size; omega)).set2 (Value.int IntKind.i64 0) (Value.int IntKind.i64 0)
        have HPZ := (HP2.out.set2 (g := w.heap.size) (by have := HGG.out; omega) (Value.int IntKind.i64 0) (Value.int IntKind.i64 0)).set2 (g := G) (by have := HGG.out; omega) (Value.int IntKind.i64 0) (Value.int IntKind.i64 0)
        obtain ⟨Y, hY⟩ : ∃ Y, (((w2.setCell { block := w.heap.size, off := 0 } (Value.int IntKind.i64 0)).setCell { block := w.heap.size, off := 1 } (Value.int IntKind.i64 0)).setCell { block := G, off := 0 } (Value.int IntKind.i64 0)).setCell { block := G, off := 1 } (Value.int IntKind.i64 0) = Y := ⟨_, rfl⟩
        rw [hY] at z1 z2 HPZ ⊢
        clear hY
        exact bodyPost_ret (v := .tuple #[.agg #[.int .i64 0, .int .i64 0], .agg #[.int .i64 0, .int .i64 0], .int .i64 3]) (by simp [results, Tryd.results20, go_sem, z1.at 0, z1.at 1, z2.at 0, z2.at 1]) rfl ⟨rfl, HPZ⟩
      | true =>
        have HV := Lib.hid hv
        have hf : ∀ k, k < m → 0 ≤ f k ∧ f k ≤ 1000 := fun k hk => wAll_true hv hk
        have HF := Lib.hid hf
        clear hv hf
        have hok := checkL_ok.1 HC.out
        have HS0 : Hid (∀ k, k ≤ m → (0 ≤ sumI f k ∧ sumI f k ≤ 1000 * k) ∧ (0 ≤ sumI (fun i => f i * L.s i) k ∧ sumI (fun i => f i * L.s i) k ≤ 100000 * k) ∧ 0 ≤ sumI (fun i => f i * L.p i) k ∧ sumI (fun i => f i * L.p i) k ≤ 1000000 * k) := sums_small hok HF.out (by rw [HMN.out]; exact Nat.le_refl _)
        have HOK := Lib.hid hok
        clear hok
        obtain ⟨A, hA⟩ : ∃ A, A = sumI f := ⟨_, rfl⟩
        obtain ⟨S, hS⟩ : ∃ S, S = sumI fun i => f i * L.s i := ⟨_, rfl⟩
        obtain ⟨R, hR⟩ : ∃ R, R = sumI fun i => f i * L.p i := ⟨_, rfl⟩
        have HA : Hid (A = sumI f) := hA
        have HS : Hid (S = sumI fun i => f i * L.s i) := hS
        have HR : Hid (R = sumI fun i => f i * L.p i) := hR
        rw [← hA, ← hS, ← hR] at HS0
        have HSA : Hid ((A 0 = 0 ∧ S 0 = 0 ∧ R 0 = 0) ∧ ∀ k, A (k + 1) = A k + f k ∧ S (k + 1) = S k + f k * L.s k ∧ R (k + 1) = R k + f k * L.p k) := by
          rw [hA, hS, hR]; exact ⟨⟨rfl, rfl, rfl⟩, fun k => ⟨rfl, rfl, rfl⟩⟩
        clear hA hS hR
        go_wp2
        go_loopw [8, 9, 10, 37] (fun ls lp la i wr => ∃ k : Nat, k ≤ m ∧ ls = .int .i64 (S k) ∧ lp = .int .i64 (R k) ∧ la = .int .i64 (A k) ∧ i = .int .i64 k ∧ Hid (Pure w2 wr)) (fun _ _ _ i _ => m - (intOf i).toNat)
        case atStart => exact ⟨0, Nat.zero_le _, by rw [HSA.out.1.2.1], by rw [HSA.out.1.2.2], by rw [HSA.out.1.1], rfl, Diff.refl _⟩
        case round =>
          obtain ⟨k, hk, rfl, rfl, rfl, rfl, HPR⟩ := hrel
          by_cases hlt : k < m
          · obtain ⟨b, o, hqa, hb, hcq⟩ := (HQ.out.to HP2.out) k hlt
            obtain ⟨b2, o2, hpa, hb2, hc1, hc2⟩ := (HL.out.to HP2.out) k (by rw [← HMN.out]; exact hlt)
            subst hqa hpa
            have d0 := ((pcell HPR.out).1 _ _ hb).trans hcq
            have d1 := ((pcell HPR.out).1 _ _ hb2).trans hc1
            have d2 := ((pcell HPR.out).1 _ _ hb2).trans hc2
            have hki : (k : Int) < (m : Int) := by omega
            have hkl : (k : Int) < (L.n : Int) := by rw [← HMN.out]; omega
            have b0 := HS0.out k (by omega)
            have b1 := HS0.out (k + 1) (by omega)
            rw [(HSA.out.2 k).1, (HSA.out.2 k).2.1, (HSA.out.2 k).2.2] at b1
            have fb := HF.out k hlt
            have m1 := mul_bnd 1000 100 (a := f k) (b := L.s k) (by omega) (by omega) (by have := (HOK.out.s0 k (by rw [← HMN.out]; exact hlt)); omega) (by have := (HOK.out.s1 k (by rw [← HMN.out]; exact hlt)); omega)
            have m2 := mul_bnd 1000 1000 (a := f k) (b := L.p k) (by omega) (by omega) (by have := (HOK.out.p0 k (by rw [← HMN.out]; exact hlt)); omega) (by have := (HOK.out.p1 k (by rw [← HMN.out]; exact hlt)); omega)
            have w1' : IntKind.i64.wrap (f k * L.s k) = f k * L.s k := IntWalk.i64_in _ (by omega)
            have w2' : IntKind.i64.wrap (f k * L.p k) = f k * L.p k := IntWalk.i64_in _ (by omega)
            have w3' : IntKind.i64.wrap (S k + f k * L.s k) = S k + f k * L.s k := IntWalk.i64_in _ (by omega)
            have w4' : IntKind.i64.wrap (R k + f k * L.p k) = R k + f k * L.p k := IntWalk.i64_in _ (by omega)
            have w5' : IntKind.i64.wrap (A k + f k) = A k + f k := IntWalk.i64_in _ (by omega)
            clear hc1 hc2 hcq b0 b1 fb m1 m2
            go_wp2
            go_roundw
            case rel => exact ⟨k + 1, by omega, by rw [(HSA.out.2 k).2.1], by rw [(HSA.out.2 k).2.2], by rw [(HSA.out.2 k).1], by go_num, HPR.out⟩
            case measure => simp [intOf]; omega
          · obtain rfl : k = m := by omega
            have b1 := (HS0.out k (Nat.le_refl _)).1
            have b2 := (HS0.out k (Nat.le_refl _)).2.1
            have b3 := (HS0.out k (Nat.le_refl _)).2.2
            by_cases hz : A k = 0
            · have hzb : (A k == 0) = true := by simpa using hz
              have HE := HE0 6 (by decide) (by unfold partsB; rw [if_neg (by rw [HC.out]; simp), if_neg (by simp [HMN.out]), if_neg (by simp [HV.out]), if_pos (by rw [← HA.out]; exact hz)])
              have K03 := Lib.hid (K02.out.to HPR.out)
              have K13 := Lib.hid (K12.out.to HPR.out)
              have HP3 := Lib.hid (HP2.out.trans HPR.out)
              clear HE0 b1 b2 b3
              have c0 := K03.out.at 0
              have c1 := K03.out.at 1
              have fz := fun o => K03.out.fz o
              have l0 := K03.out.lt
              have kx : Blk G 29 #[.int .i64 0, .int .i64 0] ((wr.setCell { block := w.heap.size, off := 0 } (Value.int IntKind.i64 0)).setCell { block := w.heap.size, off := 1 } (Value.int IntKind.i64 0)) := K13.out.diff ((Diff.refl (O := fun x => x = w.heap.size) wr).set2' rfl _ _) (by have := HGG.out; show ¬ G = w.heap.size; omega)
              have cx0 := kx.at 0
              have cx1 := kx.at 1
              have fx := fun o => kx.fz o
              have lx := K13.out.lt
              clear kx
              go_wp2
              rw [HE.out.1, HE.out.2.1, HE.out.2.2]
              have z1 := (K03.out.set2 (Value.int IntKind.i64 0) (Value.int IntKind.i64 0)).diff ((Diff.refl (O := fun x => x = G) _).set2' rfl (Value.int IntKind.i64 0) (Value.int IntKind.i64 0)) (by have := HGG.out; show ¬ w.heap.size = G; omega)
              have z2 := (K13.out.diff ((Diff.refl (O := fun x => x = w.heap.size) wr).set2' rfl (Value.int IntKind.i64 0) (Value.int IntKind.i64 0)) (by have := HGG.out; show ¬ G = w.heap.size; omega)).set2 (Value.int IntKind.i64 0) (Value.int IntKind.i64 0)
              have HPZ := (HP3.out.set2 (g := w.heap.size) (by have := HGG.out; omega) (Value.int IntKind.i64 0) (Value.int IntKind.i64 0)).set2 (g := G) (by have := HGG.out; omega) (Value.int IntKind.i64 0) (Value.int IntKind.i64 0)
              obtain ⟨Y, hY⟩ : ∃ Y, (((wr.setCell { block := w.heap.size, off := 0 } (Value.int IntKind.i64 0)).setCell { block := w.heap.size, off := 1 } (Value.int IntKind.i64 0)).setCell { block := G, off := 0 } (Value.int IntKind.i64 0)).setCell { block := G, off := 1 } (Value.int IntKind.i64 0) = Y := ⟨_, rfl⟩
              rw [hY] at z1 z2 HPZ ⊢
              clear hY
              exact bodyPost_ret (v := .tuple #[.agg #[.int .i64 0, .int .i64 0], .agg #[.int .i64 0, .int .i64 0], .int .i64 6]) (by simp [results, Tryd.results20, go_sem, z1.at 0, z1.at 1, z2.at 0, z2.at 1]) rfl ⟨rfl, HPZ⟩
            · have hzb : (A k == 0) = false := by simpa using hz
              have hAp : 0 < A k := by omega
              have HE : Hid (partsB L f k = 0 ∧ blendS L f k = (redN (S k) (A k), redD (S k) (A k)) ∧ blendP L f k = (redN (R k) (A k), redD (R k) (A k))) := by
                have h : partsB L f k = 0 := by unfold partsB; rw [if_neg (by rw [HC.out]; simp), if_neg (by simp [HMN.out]), if_neg (by simp [HV.out]), if_neg (by rw [← HA.out]; exact hz)]
                refine ⟨h, ?_, ?_⟩
                · unfold blendS; rw [if_pos h, HA.out, HS.out]
                · unfold blendP; rw [if_pos h, HA.out, HR.out]
              clear HE0 hz
              go_wp2_with fail
              refine (ratio_any wr (S k) (A k) ⟨by omega, by omega⟩ ⟨hAp, by omega⟩).mono ?_
              rintro e w4 ⟨rfl, hp4⟩
              have HP4 := Lib.hid hp4
              clear hp4
              go_wp2_with fail
              refine (ratio_any w4 (R k) (A k) ⟨by omega, by omega⟩ ⟨hAp, by omega⟩).mono ?_
              rintro e w5 ⟨rfl, hp5⟩
              have K03 := Lib.hid (K02.out.to (HPR.out.trans (HP4.out.trans hp5)))
              have K13 := Lib.hid (K12.out.to (HPR.out.trans (HP4.out.trans hp5)))
              have HP3 := Lib.hid (HP2.out.trans (HPR.out.trans (HP4.out.trans hp5)))
              clear b1 b2 b3 hp5 hAp
              obtain ⟨u1, hu1⟩ : ∃ u, redN (S k) (A k) = u := ⟨_, rfl⟩
              obtain ⟨u2, hu2⟩ : ∃ u, redD (S k) (A k) = u := ⟨_, rfl⟩
              obtain ⟨u3, hu3⟩ : ∃ u, redN (R k) (A k) = u := ⟨_, rfl⟩
              obtain ⟨u4, hu4⟩ : ∃ u, redD (R k) (A k) = u := ⟨_, rfl⟩
              rw [hu1, hu2, hu3, hu4] at HE
              rw [hu1, hu2, hu3, hu4]
              clear hu1 hu2 hu3 hu4
              have c0 := K03.out.at 0
              have c1 := K03.out.at 1
              have fz := fun o => K03.out.fz o
              have l0 := K03.out.lt
              have kx : Blk G 29 #[.int .i64 0, .int .i64 0] ((w5.setCell { block := w.heap.size, off := 0 } (Value.int IntKind.i64 u1)).setCell { block := w.heap.size, off := 1 } (Value.int IntKind.i64 u2)) := K13.out.diff ((Diff.refl (O := fun x => x = w.heap.size) w5).set2' rfl _ _) (by have := HGG.out; show ¬ G = w.heap.size; omega)
              have cx0 := kx.at 0
              have cx1 := kx.at 1
              have fx := fun o => kx.fz o
              have lx := K13.out.lt
              clear kx
              go_wp2
              rw [HE.out.1, HE.out.2.1, HE.out.2.2]
              have z1 := (K03.out.set2 (Value.int IntKind.i64 u1) (Value.int IntKind.i64 u2)).diff ((Diff.refl (O := fun x => x = G) _).set2' rfl (Value.int IntKind.i64 u3) (Value.int IntKind.i64 u4)) (by have := HGG.out; show ¬ w.heap.size = G; omega)
              have z2 := (K13.out.diff ((Diff.refl (O := fun x => x = w.heap.size) w5).set2' rfl (Value.int IntKind.i64 u1) (Value.int IntKind.i64 u2)) (by have := HGG.out; show ¬ G = w.heap.size; omega)).set2 (Value.int IntKind.i64 u3) (Value.int IntKind.i64 u4)
              have HPZ := (HP3.out.set2 (g := w.heap.size) (by have := HGG.out; omega) (Value.int IntKind.i64 u1) (Value.int IntKind.i64 u2)).set2 (g := G) (by have := HGG.out; omega) (Value.int IntKind.i64 u3) (Value.int IntKind.i64 u4)
              obtain ⟨Y, hY⟩ : ∃ Y, (((w5.setCell { block := w.heap.size, off := 0 } (Value.int IntKind.i64 u1)).setCell { block := w.heap.size, off := 1 } (Value.int IntKind.i64 u2)).setCell { block := G, off := 0 } (Value.int IntKind.i64 u3)).setCell { block := G, off := 1 } (Value.int IntKind.i64 u4) = Y := ⟨_, rfl⟩
              rw [hY] at z1 z2 HPZ ⊢
              clear hY
              exact bodyPost_ret (v := .tuple #[.agg #[.int .i64 u1, .int .i64 u2], .agg #[.int .i64 u3, .int .i64 u4], .int .i64 0]) (by simp [results, Tryd.results20, go_sem, z1.at 0, z1.at 1, z2.at 0, z2.at 1]) rfl ⟨rfl, HPZ⟩
    · have hnb : ((m : Int) != (L.n : Int)) = true := by simp; omega
      have HE := HE0 15 (by decide) (by unfold partsB; rw [if_neg (by rw [HC.out]; simp), if_pos hmn])
      clear HE0
      have c0 := K0.out.at 0
      have c1 := K0.out.at 1
      have fz := fun o => K0.out.fz o
      have l0 := K0.out.lt
      have kx : Blk G 29 #[.int .i64 0, .int .i64 0] ((w1.setCell { block := w.heap.size, off := 0 } (Value.int IntKind.i64 0)).setCell { block := w.heap.size, off := 1 } (Value.int IntKind.i64 0)) := K1.out.diff ((Diff.refl (O := fun x => x = w.heap.size) w1).set2' rfl _ _) (by have := HGG.out; show ¬ G = w.heap.size; omega)
      have cx0 := kx.at 0
      have cx1 := kx.at 1
      have fx := fun o => kx.fz o
      have lx := K1.out.lt
      clear kx
      go_wp2
      rw [HE.out.1, HE.out.2.1, HE.out.2.2]
      have z1 := (K0.out.set2 (Value.int IntKind.i64 0) (Value.int IntKind.i64 0)).diff ((Diff.refl (O := fun x => x = G) _).set2' rfl (Value.int IntKind.i64 0) (Value.int IntKind.i64 0)) (by have := HGG.out; show ¬ w.heap.size = G; omega)
      have z2 := (K1.out.diff ((Diff.refl (O := fun x => x = w.heap.size) w1).set2' rfl (Value.int IntKind.i64 0) (Value.int IntKind.i64 0)) (by have := HGG.out; show ¬ G = w.heap.size; omega)).set2 (Value.int IntKind.i64 0) (Value.int IntKind.i64 0)
      have HPZ := (HP1.out.set2 (g := w.heap.size) (by have := HGG.out; omega) (Value.int IntKind.i64 0) (Value.int IntKind.i64 0)).set2 (g := G) (by have := HGG.out; omega) (Value.int IntKind.i64 0) (Value.int IntKind.i64 0)
      obtain ⟨Y, hY⟩ : ∃ Y, (((w1.setCell { block := w.heap.size, off := 0 } (Value.int IntKind.i64 0)).setCell { block := w.heap.size, off := 1 } (Value.int IntKind.i64 0)).setCell { block := G, off := 0 } (Value.int IntKind.i64 0)).setCell { block := G, off := 1 } (Value.int IntKind.i64 0) = Y := ⟨_, rfl⟩
      rw [hY] at z1 z2 HPZ ⊢
      clear hY
      exact bodyPost_ret (v := .tuple #[.agg #[.int .i64 0, .int .i64 0], .agg #[.int .i64 0, .int .i64 0], .int .i64 15]) (by simp [results, Tryd.results20, go_sem, z1.at 0, z1.at 1, z2.at 0, z2.at 1]) rfl ⟨rfl, HPZ⟩
  · have hb : (ec != 0) = true := by simpa using h0
    have HE : Hid (partsB L f m = ec ∧ blendS L f m = pr0 ∧ blendP L f m = pr0) := by
      have h : partsB L f m = ec := by unfold partsB; rw [if_pos (by rw [HC.out]; exact h0)]; exact HC.out
      exact ⟨h, if_neg (by rw [h]; exact h0), if_neg (by rw [h]; exact h0)⟩
    have c0 := K0.out.at 0
    have c1 := K0.out.at 1
    have fz := fun o => K0.out.fz o
    have l0 := K0.out.lt
    have kx : Blk G 29 #[.int .i64 0, .int .i64 0] ((w1.setCell { block := w.heap.size, off := 0 } (Value.int IntKind.i64 0)).setCell { block := w.heap.size, off := 1 } (Value.int IntKind.i64 0)) := K1.out.diff ((Diff.refl (O := fun x => x = w.heap.size) w1).set2' rfl _ _) (by have := HGG.out; show ¬ G = w.heap.size; omega)
    have cx0 := kx.at 0
    have cx1 := kx.at 1
    have fx := fun o => kx.fz o
    have lx := K1.out.lt
    clear kx
    go_wp2
    rw [HE.out.1, HE.out.2.1, HE.out.2.2]
    have z1 := (K0.out.set2 (Value.int IntKind.i64 0) (Value.int IntKind.i64 0)).diff ((Diff.refl (O := fun x => x = G) _).set2' rfl (Value.int IntKind.i64 0) (Value.int IntKind.i64 0)) (by have := HGG.out; show ¬ w.heap.size = G; omega)
    have z2 := (K1.out.diff ((Diff.refl (O := fun x => x = w.heap.size) w1).set2' rfl (Value.int IntKind.i64 0) (Value.int IntKind.i64 0)) (by have := HGG.out; show ¬ G = w.heap.size; omega)).set2 (Value.int IntKind.i64 0) (Value.int IntKind.i64 0)
    have HPZ := (HP1.out.set2 (g := w.heap.size) (by have := HGG.out; omega) (Value.int IntKind.i64 0) (Value.int IntKind.i64 0)).set2 (g := G) (by have := HGG.out; omega) (Value.int IntKind.i64 0) (Value.int IntKind.i64 0)
    obtain ⟨Y, hY⟩ : ∃ Y, (((w1.setCell { block := w.heap.size, off := 0 } (Value.int IntKind.i64 0)).setCell { block := w.heap.size, off := 1 } (Value.int IntKind.i64 0)).setCell { block := G, off := 0 } (Value.int IntKind.i64 0)).setCell { block := G, off := 1 } (Value.int IntKind.i64 0) = Y := ⟨_, rfl⟩
    rw [hY] at z1 z2 HPZ ⊢
    clear hY
    exact bodyPost_ret (v := .tuple #[.agg #[.int .i64 0, .int .i64 0], .agg #[.int .i64 0, .int .i64 0], .int .i64 ec]) (by simp [results, Tryd.results20, go_sem, z1.at 0, z1.at 1, z2.at 0, z2.at 1]) rfl ⟨rfl, HPZ⟩
end Go.Proofs.YtgpfmnjianflaaaDoor
namespace Go.Proofs.YtgpfmnjianflaaaDoor
open Go.RowKit

theorem wpQuiet_yield {P : Program} {ops : Array Oper} {C : World → Prop} {Q : Act → Prop} {o : Oper} {rest : List Oper} {a : Act} (hgd : o.guard = none) (v : Value) (hv : ∀ w, C w → (execOp a.eval o).run P w = .ok (.value v) w)
    (h : wpQuiet P ops C Q rest (a.put o.dst v)) : wpQuiet P ops C Q (o :: rest) a := by
  unfold wpQuiet
  rw [if_pos (by simp [Region.wanted, hgd])]
  exact ⟨v, fun w hw => by unfold Oper.quietAt; rw [hv w hw]; exact ⟨rfl, rfl⟩, h⟩
theorem wpQuiet_enter {P : Program} {ops : Array Oper} {C : World → Prop} {Q : Act → Prop} {o : Oper} {rest : List Oper} {a : Act} (hgd : o.guard = none) (f : FuncId) (args : Array Value) (v : Value) (hv : ∀ w, (execOp a.eval o).run P w = .ok (.enter f args) w)
    (hc : ∀ w, C w → Calls P f args w fun e w'' => e = .returned v ∧ C w'')
    (h : wpQuiet P ops C Q rest (a.put o.dst v)) : wpQuiet P ops C Q (o :: rest) a := by
  unfold wpQuiet
  rw [if_pos (by simp [Region.wanted, hgd])]
  exact ⟨v, fun w hw => by unfold Oper.quietAt; rw [hv w]; exact ⟨rfl, hc w hw⟩, h⟩
theorem exec_load_table {o : Oper} {a : Act} {w : World} (x : Operand) (ho : o.op = .load 85 x) (g : Nat) (f : Nat → Int × Int)
    (hx : a.eval x = .pointer (some ⟨g, 0, none⟩)) (hg : TabAt g f w) : (execOp a.eval o).run Tryd.prog w = .ok (.value (.agg (tabV f))) w := by
  unfold execOp
  simp only [ho, hx, Instr.loadAt, Instr.sureAddr, Sem.run_bind, Sem.run_pure, Result.andThen_ok, run_loadVar_row w g 85 85 (tabV f) (0, 0) _ hg Tryd.underlying85 rfl (by rw [tab_size]; exact size_table)]
theorem exec_eql_table {o : Oper} {a : Act} {w : World} (x y : Operand) (t : TypeId) (ho : o.op = .binOp .eql 85 x y t) (f g : Nat → Int × Int)
    (hx : a.eval x = .agg (tabV f)) (hy : a.eval y = .agg (tabV g)) : (execOp a.eval o).run Tryd.prog w = .ok (.value (.bool (tabEq f g))) w := by
  have hgd : (eqGuard .eql 85 x y (.agg (tabV f)) (.agg (tabV g))).run Tryd.prog w = .ok () w := run_eqGuard_agg w .eql 85 x y _ _ (by kernel_rfl)
  unfold execOp
  simp only [ho, hx, hy, Sem.run_bind, hgd, run_eql_table, Result.andThen_ok, Sem.run_pure]
/-- The tariff from a sharpness on, its first price, the others. -/
def LT.rest (L : LT) (t : Int) : Nat → Int × Int := fromF L.tar t.toNat
def atT (L : LT) (t : Int) : LT := ⟨100, fun k => (L.rest t (k + 1)).1, fun k => (L.rest t (k + 1)).2⟩
def atP (L : LT) (t : Int) : Int × Int := if sharpE L t = 0 then (if tabEq (L.rest t) (fun _ => pr0) = true then pr0 else bestTo (L.rest t 0) (fun k => L.rest t (k + 1)) 100) else pr0
def atE (L : LT) (t : Int) : Int := if sharpE L t = 0 then (if tabEq (L.rest t) (fun _ => pr0) = true then 19 else 0) else sharpE L t
theorem fromF_or (f : Nat → Int × Int) (t k : Nat) : fromF f t k = pr0 ∨ fromF f t k = f k := by
  unfold fromF; split <;> simp
theorem tar_small (L : LT) (hok : L.Ok) (k : Nat) : (-1000000000 ≤ (L.tar k).1 ∧ (L.tar k).1 ≤ 1000000000) ∧ -1000000000 ≤ (L.tar k).2 ∧ (L.tar k).2 ≤ 1000000000 := by
  have hn := hok.n0
  by_cases h : CanB L k
  · obtain ⟨a, b, hc, e⟩ := (tar_is L (by omega) k).1 h
    have s := hc.small hok
    rw [e]
    obtain ⟨s1, s2, s3, s4, -⟩ := s
    dsimp only
    omega
  · rw [(tar_is L (by omega) k).2 h]; simp [pr0]
theorem tabLots {G : Nat} {f : Nat → Int × Int} {w : World} (h : TabAt G f w) : LotsAt w.heap.size w (some ⟨G, 2, none⟩) ⟨100, fun k => (f (k + 1)).1, fun k => (f (k + 1)).2⟩ := fun k hk => by
  have hk' : k < 100 := hk
  exact ⟨G, 2, rfl, h.lt, h.cell (k := k + 1) (by omega) (by omega), h.cell1 (k := k + 1) (by omega) (by omega)⟩
theorem rest_small (L : LT) (hok : L.Ok) (t : Int) (k : Nat) : (-1000000000 ≤ (L.rest t k).1 ∧ (L.rest t k).1 ≤ 1000000000) ∧ -1000000000 ≤ (L.rest t k).2 ∧ (L.rest t k).2 ≤ 1000000000 := by
  rcases fromF_or L.tar t.toNat k with h | h
  · unfold LT.rest; rw [h]; simp [pr0]
  · unfold LT.rest; rw [h]; exact tar_small L hok k
set_option maxRecDepth 20000 in
set_option maxHeartbeats 4000000 in
theorem AtLeast_any (w : World) (L : LT) (p : Option Addr) (cap : Nat) (t : Int) (hn : L.n ≤ 1000) (hl : LotsAt w.heap.size w p L) (hg : Gl w) :
    Calls Tryd.prog 28 #[.slice p L.n cap, .int .i64 t] w fun e w' => e = .returned (.tuple #[.agg #[.int .i64 (atP L t).1, .int .i64 (atP L t).2], .int .i64 (atE L t)]) ∧ Pure w w' := by
  have hmx : Tryd.prog.follows .mixedOrders = true := by kernel_rfl
  have HG := Lib.hid hg
  have HL := Lib.hid hl
  clear hl hg
  go_enter Tryd.func28, Tryd.ntmps28
  go_wp2_with fail
  obtain ⟨X, hX⟩ : ∃ V : World, w.alloc (.cells #[.int .i64 0, .int .i64 0] 29) = V := ⟨_, rfl⟩
  have k0 : Blk w.heap.size 29 #[.int .i64 0, .int .i64 0] X := by rw [← hX]; exact Blk.new _ _ _
  have hP : Pure w X := by rw [← hX]; exact (Diff.refl _).alloc _
  rw [hX]
  clear hX
  refine (checkSharp_any X L p cap t hn (HL.out.to hP) (HG.out.to hP)).mono ?_
  rintro e w1 ⟨rfl, hp1⟩
  have HP1 := Lib.hid (hP.trans hp1)
  have K1 := Lib.hid (k0.to hp1)
  have c0 := K1.out.at 0
  have c1 := K1.out.at 1
  have fz := fun o => K1.out.fz o
  have l0 := K1.out.lt
  clear hP hp1 k0
  obtain ⟨c, hc⟩ : ∃ c, sharpE L t = c := ⟨_, rfl⟩
  have HC := Lib.hid hc
  rw [hc]
  clear hc
  by_cases h0 : c = 0
  · subst h0
    obtain ⟨hok, ht0, ht1⟩ := sharpE_ok.1 HC.out
    have HOK := Lib.hid hok
    have hn8 := hok.n8
    clear hok
    go_wp2_with fail
    refine (shelved_any w1 L p cap HOK.out (HL.out.to HP1.out)).mono ?_
    rintro e w2 ⟨⟨q, qc, rfl, hq⟩, hp2⟩
    have HQ := Lib.hid hq
    have HP2 := Lib.hid (HP1.out.trans hp2)
    have K2 := Lib.hid (K1.out.to hp2)
    clear hq hp2 c0 c1 fz l0
    go_wp2_with fail
    refine (tariff_any w2 L p q cap qc HOK.out (HL.out.to HP2.out) HQ.out).mono ?_
    rintro e w3 ⟨rfl, hp3⟩
    have HP3 := Lib.hid (HP2.out.trans hp3)
    have K3 := Lib.hid (K2.out.to hp3)
    clear hp3
    obtain ⟨m, rfl⟩ : ∃ m : Nat, t = m := ⟨t.toNat, by omega⟩
    have hm1 : m ≤ 100 := by omega
    go_wp2_with fail
    refine (from_any w3 (tarTo L L.corners L.corners.length) m hm1).mono ?_
    rintro e w4 ⟨rfl, hp4⟩
    have HP4 := Lib.hid (HP3.out.trans hp4)
    have K4 := Lib.hid (K3.out.to hp4)
    clear hp4
    obtain ⟨f, hf⟩ : ∃ f, fromF (tarTo L L.corners L.corners.length) m = f := ⟨_, rfl⟩
    have HF : Hid (L.rest m = f) := hf
    rw [hf]
    clear hf
    go_wp2_with (first | (refine wpList_alloc_table rfl rfl ?_) | (refine wpList_store_table rfl (.tmp 7) (.tmp 19) rfl w4.heap.size f (fun _ => pr0) rfl rfl (Blk.new _ _ _) ?_))
    simp only [Act.put, List.setIfInBounds_toArray, List.set_cons_zero, List.set_cons_succ]
    obtain ⟨V, hV⟩ : ∃ V : World, (w4.alloc (Obj.cells tab0 85)).setRow w4.heap.size (tabV f) = V := ⟨_, rfl⟩
    have kt : TabAt w4.heap.size f V := by rw [← hV]; exact setRow_heap _ _ _ _ _ _ (Blk.new _ _ _)
    have hPV : Pure w4 V := by rw [← hV]; exact ((Diff.refl _).alloc _).setRow (fun h => absurd h (Nat.lt_irrefl _)) _
    obtain ⟨G, hG⟩ : ∃ G, w4.heap.size = G := ⟨_, rfl⟩
    have HGG : Hid (w4.heap.size = G) := hG
    rw [hV]
    rw [hG] at kt ⊢
    have KT := Lib.hid kt
    have HPV := Lib.hid (HP4.out.trans hPV)
    have K5 := Lib.hid (K4.out.to hPV)
    clear hV hG kt hPV
    refine wp_region_quiet (C := Pure V) hmx (by kernel_rfl) ((Diff.refl _).drew) ?_
    refine wpQuiet_yield rfl _ (fun w' hw' => exec_load_table (.tmp 7) rfl G f rfl (KT.out.to hw')) ?_
    refine wpQuiet_enter rfl 71 #[] (.agg tab0) (fun w' => by first | (unfold execOp; simp [go_sem]; done) | (unfold execOp; simp only [go_sem]; trace_state; sorry)) (fun w' hw' => (none_any w').mono fun e w'' h => ⟨h.1, hw'.trans h.2⟩) ?_
    refine wpQuiet_yield rfl _ (fun w' hw' => exec_eql_table (.tmp 20) (.tmp 21) _ rfl f (fun _ => pr0) rfl rfl) ?_
    refine wpQuiet_nil ?_
    intro w6 hp6
    simp only [Act.put, List.setIfInBounds_toArray, List.set_cons_zero, List.set_cons_succ, Exit.then]
    have K6 := Lib.hid (K5.out.to hp6)
    have KT6 := Lib.hid (KT.out.to hp6)
    have HP6 := Lib.hid (HPV.out.trans hp6)
    clear hp6
    cases hv : tabEq f (fun _ => pr0) with
    | true =>
      have HE : Hid (atE L m = 19 ∧ atP L m = pr0) := by
        unfold atE atP
        rw [if_pos HC.out, if_pos HC.out, HF.out, if_pos hv, if_pos hv]; exact ⟨rfl, rfl⟩
      clear hv
      have c0 := K6.out.at 0
      have c1 := K6.out.at 1
      have fz := fun o => K6.out.fz o
      have l0 := K6.out.lt
      obtain ⟨tv, htv⟩ : ∃ tv, tabV f = tv := ⟨_, rfl⟩
      rw [htv]
      clear htv
      obtain ⟨tv2, htv⟩ : ∃ tv, tab0 = tv := ⟨_, rfl⟩
      rw [htv]
      clear htv
      go_wp2
      rw [HE.out.1, HE.out.2]
      have z := K6.out.set2 (Value.int IntKind.i64 0) (Value.int IntKind.i64 0)
      have HPZ := HP6.out.set2 (g := w.heap.size) (by omega) (Value.int IntKind.i64 0) (Value.int IntKind.i64 0)
      obtain ⟨Y, hY⟩ : ∃ Y, (w6.setCell { block := w.heap.size, off := 0 } (Value.int IntKind.i64 0)).setCell { block := w.heap.size, off := 1 } (Value.int IntKind.i64 0) = Y := ⟨_, rfl⟩
      first | rw [hY] at z HPZ HR9 ⊢ | rw [hY] at z HPZ ⊢
      clear hY
      exact bodyPost_ret (v := .tuple #[.agg #[.int .i64 0, .int .i64 0], .int .i64 19]) (by simp [results, Tryd.results28, go_sem, z.at 0, z.at 1]) rfl ⟨rfl, HPZ⟩
    | false =>
      have HE : Hid (atE L m = 0 ∧ atP L m = bestTo (f 0) (fun k => f (k + 1)) 100) := by
        unfold atE atP
        rw [if_pos HC.out, if_pos HC.out, HF.out, if_neg (by simp [hv]), if_neg (by simp [hv])]; exact ⟨rfl, rfl⟩
      clear hv
      have HB : Hid (∀ k, (-1000000000 ≤ (f k).1 ∧ (f k).1 ≤ 1000000000) ∧ -1000000000 ≤ (f k).2 ∧ (f k).2 ≤ 1000000000) := fun k => by rw [← HF.out]; exact rest_small L HOK.out m k
      have d0 := KT6.out.cell (k := 0) (o := 0) (by omega) rfl
      have d1 := KT6.out.cell1 (k := 0) (o := 1) (by omega) rfl
      have ld := KT6.out.lt
      obtain ⟨tv, htv⟩ : ∃ tv, tabV f = tv := ⟨_, rfl⟩
      rw [htv]
      clear htv
      obtain ⟨tv2, htv⟩ : ∃ tv, tab0 = tv := ⟨_, rfl⟩
      rw [htv]
      clear htv
      obtain ⟨x, hx⟩ : ∃ x, f 0 = x := ⟨_, rfl⟩
      have HX : Hid (f 0 = x) := hx
      rw [hx] at d0 d1
      clear hx
      go_wp2
      have hne : Hid (w.heap.size < G) := by have h1 := K4.out.lt; have h2 := HGG.out; exact (by omega : w.heap.size < G)
      have hp0 : Hid (Diff (fun k => k = w.heap.size) w6 w6.drew) := (Diff.refl w6).drew
      have KEY : Hid (∀ w', Diff (fun k => k = w.heap.size) w6 w' → w'.cell? ⟨G, 0, none⟩ = some (.int .i64 x.1) ∧ w'.cell? ⟨G, 1, none⟩ = some (.int .i64 x.2) ∧ Hid (Diff (fun k => k = w.heap.size) w6 w')) := fun w' hp =>
        ⟨(hp.cell (p := ⟨G, 0, none⟩) ld (by have := hne.out; show ¬ G = w.heap.size; omega)).trans d0, (hp.cell (p := ⟨G, 1, none⟩) ld (by have := hne.out; show ¬ G = w.heap.size; omega)).trans d1, hp⟩
      go_region_held3 (fun w' => w'.cell? ⟨G, 0, none⟩ = some (.int .i64 x.1) ∧ w'.cell? ⟨G, 1, none⟩ = some (.int .i64 x.2) ∧ Hid (Diff (fun k => k = w.heap.size) w6 w'))
        (exact KEY.out _ (by first | exact hp0.out | exact hp0.out.trans (hp7.mono (fun _ _ h => h.elim)) | exact (hp0.out.trans (hp7.mono (fun _ _ h => h.elim))).set2' rfl _ _))
        (first | (go_at_call 72; refine Calls.mono (best_any _ x ⟨100, fun k => (f (k + 1)).1, fun k => (f (k + 1)).2⟩ (some ⟨G, 2, none⟩) 100 (HX.out ▸ HB.out 0) (fun k _ => HB.out (k + 1)) (show (100 : Nat) ≤ 1000 by omega) (by obtain ⟨-, -, h⟩ := ‹_ ∧ _ ∧ Hid (Diff (fun k => k = w.heap.size) w6 _)›; exact tabLots (KT6.out.diff h.out (by have := hne.out; show ¬ G = w.heap.size; omega)))) ?_; rintro e w7 ⟨rfl, hp7⟩; have K7 := Lib.hid (K6.out.drew.to hp7); have HP7 := Lib.hid (HP6.out.drew.trans hp7); have c0 := K7.out.at 0; have c1 := K7.out.at 1; have fz := fun o => K7.out.fz o; have l0 := K7.out.lt))
      rename_i hHeld
      clear hHeld KEY hp0
      go_wp2
      rw [HE.out.1, HE.out.2, HX.out]
      have z := K7.out.set2 (Value.int IntKind.i64 (bestTo x (fun k => ((f (k + 1)).fst, (f (k + 1)).snd)) 100).fst) (Value.int IntKind.i64 (bestTo x (fun k => ((f (k + 1)).fst, (f (k + 1)).snd)) 100).snd)
      have HPZ := HP7.out.set2 (g := w.heap.size) (by omega) (Value.int IntKind.i64 (bestTo x (fun k => ((f (k + 1)).fst, (f (k + 1)).snd)) 100).fst) (Value.int IntKind.i64 (bestTo x (fun k => ((f (k + 1)).fst, (f (k + 1)).snd)) 100).snd)
      obtain ⟨Y, hY⟩ : ∃ Y, (w7.setCell { block := w.heap.size, off := 0 } (Value.int IntKind.i64 (bestTo x (fun k => ((f (k + 1)).fst, (f (k + 1)).snd)) 100).fst)).setCell { block := w.heap.size, off := 1 } (Value.int IntKind.i64 (bestTo x (fun k => ((f (k + 1)).fst, (f (k + 1)).snd)) 100).snd) = Y := ⟨_, rfl⟩
      first | rw [hY] at z HPZ HR9 ⊢ | rw [hY] at z HPZ ⊢
      clear hY
      exact bodyPost_ret (v := .tuple #[.agg #[.int .i64 (bestTo x (fun k => ((f (k + 1)).fst, (f (k + 1)).snd)) 100).fst, .int .i64 (bestTo x (fun k => ((f (k + 1)).fst, (f (k + 1)).snd)) 100).snd], .int .i64 0]) (by simp [results, Tryd.results28, go_sem, z.at 0, z.at 1]) rfl ⟨rfl, HPZ⟩
  · have hb : (c != 0) = true := by simpa using h0
    have HE : Hid (atE L t = c ∧ atP L t = pr0) := by
      unfold atE atP
      rw [if_neg (by rw [HC.out]; exact h0), if_neg (by rw [HC.out]; exact h0), HC.out]; exact ⟨rfl, rfl⟩
    go_wp2
    rw [HE.out.1, HE.out.2]
    have z := K1.out.set2 (Value.int IntKind.i64 0) (Value.int IntKind.i64 0)
    have HPZ := HP1.out.set2 (g := w.heap.size) (by omega) (Value.int IntKind.i64 0) (Value.int IntKind.i64 0)
    obtain ⟨Y, hY⟩ : ∃ Y, (w1.setCell { block := w.heap.size, off := 0 } (Value.int IntKind.i64 0)).setCell { block := w.heap.size, off := 1 } (Value.int IntKind.i64 0) = Y := ⟨_, rfl⟩
    first | rw [hY] at z HPZ HR9 ⊢ | rw [hY] at z HPZ ⊢
    clear hY
    exact bodyPost_ret (v := .tuple #[.agg #[.int .i64 0, .int .i64 0], .int .i64 c]) (by simp [results, Tryd.results28, go_sem, z.at 0, z.at 1]) rfl ⟨rfl, HPZ⟩
end Go.Proofs.YtgpfmnjianflaaaDoor
namespace Go.Proofs.YtgpfmnjianflaaaDoor
open Go.RowKit Go.Shelf
attribute [local go_sem] Oper.semAt_some

/-- A row of numbers. -/
def arrI (f : Nat → Int) (n : Nat) : Array Value := Array.ofFn (n := n) fun k => .int .i64 (f k)
theorem arrI_size (f : Nat → Int) (n : Nat) : (arrI f n).size = n := by simp [arrI]
theorem arrI_get {f : Nat → Int} {n k : Nat} (h : k < n) : (arrI f n)[k]? = some (.int .i64 (f k)) := by simp [arrI, Array.getElem?_ofFn, h]
def setI (f : Nat → Int) (k : Nat) (x : Int) : Nat → Int := fun j => if j = k then x else f j
theorem arrI_set (f : Nat → Int) (n k : Nat) (x : Int) : (arrI f n).setIfInBounds k (.int .i64 x) = arrI (setI f k x) n := by
  apply Array.ext_getElem?
  intro i
  by_cases hi : i < n
  · rw [arrI_get hi]
    by_cases e : i = k
    · subst e; simp [arrI_size, hi, setI]
    · rw [Array.getElem?_setIfInBounds_ne (by omega), arrI_get hi]; simp [setI, e]
  · rw [Array.getElem?_eq_none (by simp [arrI_size]; omega), Array.getElem?_eq_none (by simp [arrI_size]; omega)]
theorem arrI_make (n : Nat) : madeCells #[Value.int .i64 0] n = arrI (fun _ => 0) n := by
  apply Array.ext_getElem?
  intro i
  by_cases hi : i < n
  · rw [arrI_get hi]; simp [madeCells, hi, Nat.mod_one]
  · rw [Array.getElem?_eq_none (by simp [size_madeCells]; omega), Array.getElem?_eq_none (by simp [arrI_size]; omega)]
theorem putAll_arrI (f : Nat → Int) (n : Nat) : putAll (arrI f n) 0 (List.replicate n (.int .i64 0)) = arrI (fun _ => 0) n := by
  apply Array.ext_getElem?
  intro i
  rw [putAll_get, arrI_size]
  by_cases hi : i < n
  · rw [if_pos (by simp; omega), arrI_get hi]; simp [hi]
  · rw [if_neg (by simp; omega), Array.getElem?_eq_none (by simp [arrI_size]; omega), Array.getElem?_eq_none (by simp [arrI_size]; omega)]
theorem zero2 (w : World) : (zeroValue 2).run Tryd.prog w = .ok (.int .i64 0) w := by kernel_rfl
theorem run_clear_ints (w : World) (ty : TypeId) (g n c : Nat) (f : Nat → Int) (hg : Blk g 2 (arrI f n) w) :
    ∃ W, (Builtin.clear_ #[23] ty #[.slice (some ⟨g, 0, none⟩) n c]).run Tryd.prog w = .ok (.tuple #[]) W ∧ Blk g 2 (arrI (fun _ => 0) n) W ∧ Diff (fun x => x = g) w W := by
  by_cases h0 : n = 0
  · subst h0
    exact ⟨w, by simp [Builtin.clear_, run_underlying Tryd.underlying23], by simpa [arrI] using hg, Diff.refl _⟩
  · obtain ⟨m, rfl⟩ : ∃ m, n = m + 1 := ⟨n - 1, by omega⟩
    refine ⟨w.setCells g 0 (List.replicate (m + 1) (.int .i64 0)), ?_, ?_, ?_⟩
    · have hzc : (Builtin.zeroCells #[.int .i64 0] (m + 1)).toList = List.replicate (m + 1) (Value.int .i64 0) := by
        simp only [Builtin.zeroCells]
        apply List.ext_getElem
        · simp
        · intro i h1 h2
          simp [Nat.mod_one]
      have hst := run_storeCells_cells (P := Tryd.prog) g 0 (List.replicate (m + 1) (.int .i64 0)) 0 w
        (fun j hj => by
          have hj' : j < m + 1 := by simpa using hj
          rw [show 0 + 0 + j = j by omega, Blk.at hg]; simp [arrI_size, hj'])
        (fun j hj => Blk.fz hg _)
        (by intro v hv'; rw [List.eq_of_mem_replicate hv']; rfl)
      simp only [Nat.add_zero] at hst
      simp [Builtin.clear_, run_underlying Tryd.underlying23, zero2, Value.cells, hzc, hst]
    · have := Blk.setCells (List.replicate (m + 1) (.int .i64 0)) 0 hg
      rw [putAll_arrI f (m + 1)] at this
      exact this
    · exact Diff.setCells _ 0 (Diff.refl _) (fun _ => rfl)

/-- The shares behind i corners. -/
def partsTo (L : LT) (C : List Nat) (t : Int) : Nat → Nat → Int
  | 0 => fun _ => 0
  | i + 1 => if L.s (nthN C i) ≤ t then setI (fun _ => 0) (nthN C i) 1
    else if L.s (nthN C (i - 1)) ≤ t then setI (setI (partsTo L C t i) (nthN C (i - 1)) (L.s (nthN C i) - t)) (nthN C i) (t - L.s (nthN C (i - 1)))
    else partsTo L C t i
theorem info2 : (Tryd.prog.info? 2).map (fun i => (i.zero, i.size, i.bytes)) = some (some (.int .i64 0), 1, 8) := by kernel_rfl

theorem NI.put {w W W' : World} {K : List (Nat × Obj)} {S : Nat} {X : Prop} {O : Nat → Prop} {g : Nat} (h : NI w K S X O W) (hg : w.heap.size ≤ g) (hd : Diff (fun k => k = g) W W') (hlow : g < S)
    (K' : List (Nat × Obj)) (hK : ∀ x ∈ K', x.1 = g ∧ W'.heap[x.1]? = some x.2 ∨ x ∈ K ∧ x.1 ≠ g) : NI w K' S X O W' := by
  refine ⟨⟨h.kept.pw.trans' (O' := fun k => k = g) hd (fun k hk e => by have e' : k = g := e; omega), fun x hx => ?_⟩, h.own, fun x hx => ?_, Nat.le_trans h.big hd.size, h.ok⟩
  · rcases hK x hx with ⟨-, h1⟩ | ⟨h1, h2⟩
    · exact h1
    · exact (hd.block _ (Array.getElem?_eq_some_iff.1 (h.kept.objs x h1)).1 h2).trans (h.kept.objs x h1)
  · rcases hK x hx with ⟨h1, -⟩ | ⟨h1, -⟩
    · omega
    · exact h.low x h1
theorem put_list {W' : World} {a b g d : Nat} {oa ob o o' od : Obj} (h1 : a ≠ g) (h2 : b ≠ g) (h3 : d ≠ g) (h : W'.heap[g]? = some o') :
    ∀ x ∈ [(a, oa), (b, ob), (g, o'), (d, od)], x.1 = g ∧ W'.heap[x.1]? = some x.2 ∨ x ∈ [(a, oa), (b, ob), (g, o), (d, od)] ∧ x.1 ≠ g := by
  intro x hx
  simp only [List.mem_cons, List.mem_nil_iff, or_false] at hx
  rcases hx with rfl | rfl | rfl | rfl
  · exact .inr ⟨by simp, h1⟩
  · exact .inr ⟨by simp, h2⟩
  · exact .inl ⟨rfl, h⟩
  · exact .inr ⟨by simp, h3⟩
set_option maxRecDepth 20000 in
set_option maxHeartbeats 4000000 in
theorem parts_any (w : World) (L : LT) (p q : Option Addr) (cap c : Nat) (t : Nat) (ht : t ≤ 100) (hok : L.Ok) (hl : LotsAt w.heap.size w p L) (hq : RowN w q L.corners) :
    Calls Tryd.prog 74 #[.agg #[.slice p L.n cap, .slice q L.corners.length c], .int .i64 t] w fun e w' => (∃ g, e = .returned (.slice (some ⟨g, 0, none⟩) L.n L.n) ∧ Blk g 2 (arrI (partsTo L L.corners t L.corners.length) L.n) w' ∧ w.heap.size ≤ g) ∧ Pure w w' := by
  obtain ⟨C, hC⟩ : ∃ C, L.corners = C := ⟨_, rfl⟩
  have hch := corner_chain L (by have := hok.n0; omega)
  have hpos := corners_pos L (by have := hok.n0; omega)
  have hle := corners_length L
  have hn8 := hok.n8
  have hn1 := hok.n0
  rw [hC] at hq hch hpos hle ⊢
  obtain ⟨m, hm⟩ : ∃ m, C.length = m := ⟨_, rfl⟩
  rw [hm] at hch hpos hle ⊢
  obtain ⟨bl, ol, rfl, hbl, -, -⟩ := hl 0 (by omega)
  have HM := Lib.hid hm
  have HL := Lib.hid hl
  have HQ := Lib.hid hq
  have HOK := Lib.hid hok
  have HCH := Lib.hid hch
  have hmk := run_make_row' (P := Tryd.prog) 23 2 (.int .i64 0) 8 Tryd.underlying23 info2 rfl .i64 .i64 L.n (by omega) (by omega)
  clear hC hm hl hq hok hch
  refine (callsIn_wide (n := 0)).1 ?_
  have hro : Fence.wide.round = none := rfl
  refine callsIn_of_wp_marks (n := 0) Tryd.func74 rfl trivial ?_ hro
  simp only [Tryd.ntmps74, List.size_toArray, List.length_cons, List.length_nil, Nat.reduceAdd, Nat.reduceSub, Array.replicate_succ, Array.replicate_zero, List.push_toArray, List.append_toArray, List.nil_append, List.cons_append]
  refine wpIn_seq (wpIn_wide.2 ?_)
  go_wp2_with fail
  obtain ⟨X, hX⟩ : ∃ V : World, (w.alloc (.cells #[.slice (some { block := bl, off := ol }) L.n cap, .slice q m c] 89)).alloc (.cells #[.int .i64 (t : Int)] 2) = V := ⟨_, rfl⟩
  have k0 : Blk w.heap.size 89 #[.slice (some { block := bl, off := ol }) L.n cap, .slice q m c] X := by rw [← hX]; exact (Blk.new _ _ _).alloc _
  have k1 : Blk (w.heap.size + 1) 2 #[.int .i64 (t : Int)] X := by
    rw [← hX]
    have := Blk.new (w.alloc (.cells #[.slice (some { block := bl, off := ol }) L.n cap, .slice q m c] 89)) 2 #[.int .i64 (t : Int)]
    rwa [World.size_alloc] at this
  have hP : Pure w X := by rw [← hX]; exact ((Diff.refl _).alloc _).alloc _
  have hXs : X.heap.size = w.heap.size + 2 := by rw [← hX]; simp
  rw [hX]
  clear hX
  have d0 := k0.at 0
  have ld := k0.lt
  refine wpIn_seq (wpIn_wide.2 ?_)
  go_wp2_with fail
  obtain ⟨Y, hY⟩ : ∃ V : World, (X.alloc (Obj.cells (madeCells #[Value.int IntKind.i64 0] L.n) 2)).alloc (Obj.cells #[Value.slice (some { block := w.heap.size + 2, off := 0 }) L.n L.n] 23) = V := ⟨_, rfl⟩
  have hpY : Pure X Y := by rw [← hY]; exact ((Diff.refl X).alloc _).alloc _
  have kR : Blk (w.heap.size + 2) 2 (arrI (fun _ => 0) L.n) Y := by
    rw [← hY, arrI_make, ← hXs]; exact (Blk.new _ _ _).alloc _
  have kB : Blk (w.heap.size + 2 + 1) 23 #[.slice (some ⟨w.heap.size + 2, 0, none⟩) L.n L.n] Y := by
    rw [← hY]
    have := Blk.new (X.alloc (Obj.cells (madeCells #[Value.int IntKind.i64 0] L.n) 2)) 23 #[Value.slice (some { block := w.heap.size + 2, off := 0 }) L.n L.n]
    rwa [World.size_alloc, hXs] at this
  rw [hY]
  have K0 : Hid (Blk w.heap.size 89 #[.slice (some { block := bl, off := ol }) L.n cap, .slice q m c] Y) := k0.to hpY
  have K1 : Hid (Blk (w.heap.size + 1) 2 #[.int .i64 (t : Int)] Y) := k1.to hpY
  have HP : Hid (Pure w Y) := hP.trans hpY
  clear hY hpY k0 k1 hP hXs d0 ld
  obtain ⟨G1, hG1⟩ : ∃ G, w.heap.size + 1 = G := ⟨_, rfl⟩
  obtain ⟨GR, hGR⟩ : ∃ G, w.heap.size + 2 = G := ⟨_, rfl⟩
  rw [hGR] at kR kB ⊢
  obtain ⟨GB, hGB⟩ : ∃ G, GR + 1 = G := ⟨_, rfl⟩
  rw [hG1] at K1 ⊢
  rw [hGB] at kB ⊢
  have HGG : Hid (w.heap.size + 1 = G1 ∧ w.heap.size + 2 = GR ∧ GR + 1 = GB) := ⟨hG1, hGR, hGB⟩
  have KR := Lib.hid kR
  have KB := Lib.hid kB
  clear hG1 hGR hGB kR kB
  have c0 := K0.out.at 0
  have c1 := K0.out.at 1
  have l0 := K0.out.lt
  gi_wp2_with fail
  rename_i Q9 K9 hK9
  have hRow : Row w.heap.size Y q m fun k => .int .i64 (nthN C k : Int) := by have := HQ.out; unfold RowN at this; rw [HM.out] at this; exact this.diff HP.out (Nat.le_refl _) (fun _ _ => id)
  refine range_law (f := 87) (A := fun y => #[.agg #[.slice (some { block := bl, off := ol }) L.n cap, .slice q m c], y]) (n := m) (es := fun i => #[.int .i64 (nthN C (i - 1) : Int), .int .i64 (nthN C i : Int)]) (R := fun k => k < w.heap.size) (W0 := Y)
    ?call (neighbours_iter Y (.slice (some { block := bl, off := ol }) L.n cap) q C m c w.heap.size HM.out (by omega) (by omega) hRow HP.out.size ⟨_, _, _, rfl⟩) (fun k hk => Nat.lt_of_lt_of_le hk HP.out.size) (Diff.refl _) (fun _ _ => rfl)
    (fun i => NI w [(w.heap.size, .cells #[.slice (some { block := bl, off := ol }) L.n cap, .slice q m c] 89), (G1, .cells #[.int .i64 (t : Int)] 2), (GR, .cells (arrI (partsTo L C t i) L.n) 2), (GB, .cells #[.slice (some ⟨GR, 0, none⟩) L.n L.n] 23)] (GB + 1) True) (fun _ _ => False) (fun i => NI.stable (by have := HGG.out; omega)) (fun _ _ _ _ h _ _ => h) ?start
    (fun i W1 a' W' => a' = { tmps := #[Value.agg #[Value.slice (some { block := bl, off := ol }) L.n cap, Value.slice q m c], Value.int IntKind.i64 (t : Int), Value.pointer (some { block := w.heap.size, off := 0 }), Value.pointer (some { block := G1, off := 0 }), Value.slice none 0 0, Value.pointer (some { block := GB, off := 0 }), Value.int IntKind.i64 (nthN C (i - 1) : Int), Value.int IntKind.i64 (nthN C i : Int), undef, undef, Value.pointer (some { block := w.heap.size, off := 0 }), Value.pointer (some { block := w.heap.size, off := 0 }), Value.slice (some { block := bl, off := ol }) L.n cap, Value.int IntKind.i64 (L.n : Int), Value.slice (some { block := GR, off := 0 }) L.n L.n, Value.agg #[Value.slice (some { block := bl, off := ol }) L.n cap, Value.slice q m c], Value.func (Fn.func 87) #[Value.agg #[Value.slice (some { block := bl, off := ol }) L.n cap, Value.slice q m c]] #[], Value.int IntKind.i64 (nthN C (i - 1) : Int), Value.int IntKind.i64 (nthN C i : Int), undef, undef, undef, undef, undef, undef, undef, undef, undef, undef, undef, undef, undef, undef, undef, undef, undef, undef, undef, undef, undef, undef, undef, undef, undef, undef, undef, undef, undef, undef, undef, undef, undef, undef, undef, undef, undef], defers := [] })
    ?bx ?assign ?body ?done ?stop
  case call =>
    intro l' W'
    exact ⟨{ target := .fn (.func 87) #[], args := #[.agg #[.slice (some { block := bl, off := ol }) L.n cap, .slice q m c], .func (.yield l') #[] #[]] }, by simp only [resolve, rangeCall]; simp [go_sem], by simp [invoke, go_sem, enters_of Tryd.func87 (by kernel_rfl) rfl]⟩
  case start =>
    refine ⟨⟨HP.out, ?_⟩, fun _ h => h.elim, ?_, KB.out.lt, trivial⟩
    · intro x hx
      simp only [List.mem_cons, List.mem_nil_iff, or_false] at hx
      rcases hx with rfl | rfl | rfl | rfl
      · exact K0.out
      · exact K1.out
      · exact KR.out
      · exact KB.out
    · intro x hx
      have := HGG.out
      simp only [List.mem_cons, List.mem_nil_iff, or_false] at hx
      rcases hx with rfl | rfl | rfl | rfl <;> simp only <;> omega
  case bx =>
    rintro i W1 a' W' L o h hL
    exact h
  case assign =>
    intro l' i O W1 hi hI
    gi_wp2
    exact ⟨Diff.refl _, by first | rfl | trivial⟩
  case body =>
    rintro l' i O W1 a' V hi hI hdo hOb hs1' hs2 rfl
    have hN := NI.stable (by have := HGG.out; omega) O O _ _ hI hdo (fun _ h => .inl h)
    have HN := Lib.hid hN
    have HCH1 := HCH.out
    obtain ⟨x0, hx0⟩ : ∃ x, nthN C (i - 1) = x := ⟨_, rfl⟩
    obtain ⟨x1, hx1⟩ : ∃ x, nthN C i = x := ⟨_, rfl⟩
    have hn0 : x0 < L.n := by rw [← hx0]; exact HCH1.mem (i - 1) (by omega)
    have hn1' : x1 < L.n := by rw [← hx1]; exact HCH1.mem i (by omega)
    have HX : Hid (nthN C (i - 1) = x0 ∧ nthN C i = x1) := ⟨hx0, hx1⟩
    rw [hx0, hx1]
    have hpw := hN.kept.pw
    obtain ⟨bl', ol', hpl, -, hs0, -⟩ := HL.out x0 hn0
    cases hpl
    obtain ⟨bl', ol', hpl, -, hs1, -⟩ := HL.out x1 hn1'
    cases hpl
    have e1 := ((pcell hpw).1 _ _ hbl).trans hs0
    have e3 := ((pcell hpw).1 _ _ hbl).trans hs1
    have kV : Blk w.heap.size 89 #[.slice (some { block := bl, off := ol }) L.n cap, .slice q m c] V := hN.kept.objs (w.heap.size, .cells #[.slice (some { block := bl, off := ol }) L.n cap, .slice q m c] 89) (by simp)
    have kT : Blk G1 2 #[.int .i64 (t : Int)] V := hN.kept.objs (G1, .cells #[.int .i64 (t : Int)] 2) (by simp)
    have kR : Blk GR 2 (arrI (partsTo L C t i) L.n) V := hN.kept.objs (GR, .cells (arrI (partsTo L C t i) L.n) 2) (by simp)
    have kB : Blk GB 23 #[.slice (some ⟨GR, 0, none⟩) L.n L.n] V := hN.kept.objs (GB, .cells #[.slice (some ⟨GR, 0, none⟩) L.n L.n] 23) (by simp)
    have e0 : V.cell? ⟨w.heap.size, 0, none⟩ = some (.slice (some { block := bl, off := ol }) L.n cap) := kV.at 0
    have et : V.cell? ⟨G1, 0, none⟩ = some (.int .i64 (t : Int)) := kT.at 0
    have eB : V.cell? ⟨GB, 0, none⟩ = some (.slice (some ⟨GR, 0, none⟩) L.n L.n) := kB.at 0
    have lV := kV.lt
    have lT := kT.lt
    have lR := kR.lt
    have lBB := kB.lt
    have lB : bl < V.heap.size := Nat.lt_of_lt_of_le hbl hpw.size
    have hn0i : (x0 : Int) < (L.n : Int) := by omega
    have hn1i : (x1 : Int) < (L.n : Int) := by omega
    have hmx : Tryd.prog.follows .mixedOrders = true := by kernel_rfl
    have KT := Lib.hid kT
    have KR := Lib.hid kR
    have KB := Lib.hid kB
    clear hx0 hx1 hN hI hdo hs0 hs1 hpw kV kT kR kB HCH1 hRow c0 c1 l0
    gi_wp2
    refine reg_inv (fun d a W => a = { tmps := #[Value.agg #[Value.slice (some { block := bl, off := ol }) L.n cap, Value.slice q m c], Value.int IntKind.i64 (t : Int), Value.pointer (some { block := w.heap.size, off := 0 }), Value.pointer (some { block := G1, off := 0 }), Value.slice none 0 0, Value.pointer (some { block := GB, off := 0 }), Value.int IntKind.i64 (x0 : Int), Value.int IntKind.i64 (x1 : Int), (bif d 14 then Value.int IntKind.i64 (L.s x0) else undef), (bif d 15 then Value.int IntKind.i64 (L.s x1) else undef), Value.pointer (some { block := w.heap.size, off := 0 }), Value.pointer (some { block := w.heap.size, off := 0 }), Value.slice (some { block := bl, off := ol }) L.n cap, Value.int IntKind.i64 (L.n : Int), Value.slice (some { block := GR, off := 0 }) L.n L.n, Value.agg #[Value.slice (some { block := bl, off := ol }) L.n cap, Value.slice q m c], Value.func (Fn.func 87) #[Value.agg #[Value.slice (some { block := bl, off := ol }) L.n cap, Value.slice q m c]] #[], Value.int IntKind.i64 (x0 : Int), Value.int IntKind.i64 (x1 : Int), (bif d 0 then Value.pointer (some { block := w.heap.size, off := 0 }) else undef), (bif d 1 then Value.pointer (some { block := w.heap.size, off := 0 }) else undef), (bif d 2 then Value.slice (some { block := bl, off := ol }) L.n cap else undef), (bif d 3 then Value.int IntKind.i64 (x0 : Int) else undef), (bif d 4 then Value.pointer (some { block := bl, off := ol + x0 * 2 }) else undef), (bif d 5 then Value.pointer (some { block := bl, off := ol + x0 * 2 }) else undef), (bif d 6 then Value.int IntKind.i64 (L.s x0) else undef), (bif d 7 then Value.pointer (some { block := w.heap.size, off := 0 }) else undef), (bif d 8 then Value.pointer (some { block := w.heap.size, off := 0 }) else undef), (bif d 9 then Value.slice (some { block := bl, off := ol }) L.n cap else undef), (bif d 10 then Value.int IntKind.i64 (x1 : Int) else undef), (bif d 11 then Value.pointer (some { block := bl, off := ol + x1 * 2 }) else undef), (bif d 12 then Value.pointer (some { block := bl, off := ol + x1 * 2 }) else undef), (bif d 13 then Value.int IntKind.i64 (L.s x1) else undef), undef, undef, undef, undef, undef, undef, undef, undef, undef, undef, undef, undef, undef, undef, undef, undef, undef, undef, undef, undef, undef, undef, undef], defers := [] } ∧ Hid (Pure V W)) hmx (by kernel_rfl) ?_ ?_ ?_
    · exact ⟨rfl, (Diff.refl V).drew⟩
    · refine ⟨?_, ?_, ?_, ?_, ?_, ?_, ?_, ?_, ?_, ?_, ?_, ?_, ?_, ?_, ?_, ?_, trivial⟩
      · rintro d a W hdi hdep hcl ⟨rfl, hw⟩ K hK
        have E := hcl.facts 0 hdi rfl hdep [] [1, 2, 4, 5, 6, 14, 15] (by kernel_rfl) (by kernel_rfl)
        simp only [AllT, AllF] at E
        clear hdi hdep hcl
        go_simp
        exact hK _ _ ⟨by simp [upd, E], hw⟩
      · rintro d a W hdi hdep hcl ⟨rfl, hw⟩ K hK
        have E := hcl.facts 1 hdi rfl hdep [0] [2, 4, 5, 6, 14, 15] (by kernel_rfl) (by kernel_rfl)
        simp only [AllT, AllF] at E
        clear hdi hdep hcl
        go_simp
        exact hK _ _ ⟨by simp [upd, E], hw⟩
      · rintro d a W hdi hdep hcl ⟨rfl, hw⟩ K hK
        have E := hcl.facts 2 hdi rfl hdep [0, 1] [4, 5, 6, 14, 15] (by kernel_rfl) (by kernel_rfl)
        simp only [AllT, AllF] at E
        clear hdi hdep hcl
        have z0 := ((pcell hw.out).1 _ _ lV).trans e0
        go_simp
        exact hK _ _ ⟨by simp [upd, E], hw⟩
      · rintro d a W hdi hdep hcl ⟨rfl, hw⟩ K hK
        have E := hcl.facts 3 hdi rfl hdep [] [4, 5, 6, 14, 15] (by kernel_rfl) (by kernel_rfl)
        simp only [AllT, AllF] at E
        clear hdi hdep hcl
        go_simp
        exact hK _ _ ⟨by simp [upd, E], hw⟩
      · rintro d a W hdi hdep hcl ⟨rfl, hw⟩ K hK
        have E := hcl.facts 4 hdi rfl hdep [0, 1, 2, 3] [5, 6, 14, 15] (by kernel_rfl) (by kernel_rfl)
        simp only [AllT, AllF] at E
        clear hdi hdep hcl
        go_simp
        exact hK _ _ ⟨by simp [upd, E], hw⟩
      · rintro d a W hdi hdep hcl ⟨rfl, hw⟩ K hK
        have E := hcl.facts 5 hdi rfl hdep [0, 1, 2, 3, 4] [6, 14, 15] (by kernel_rfl) (by kernel_rfl)
        simp only [AllT, AllF] at E
        clear hdi hdep hcl
        go_simp
        exact hK _ _ ⟨by simp [upd, E], hw⟩
      · rintro d a W hdi hdep hcl ⟨rfl, hw⟩ K hK
        have E := hcl.facts 6 hdi rfl hdep [0, 1, 2, 3, 4, 5] [14, 15] (by kernel_rfl) (by kernel_rfl)
        simp only [AllT, AllF] at E
        clear hdi hdep hcl
        have z1 := ((pcell hw.out).1 _ _ lB).trans e1
        go_simp
        exact hK _ _ ⟨by simp [upd, E], hw⟩
      · rintro d a W hdi hdep hcl ⟨rfl, hw⟩ K hK
        have E := hcl.facts 7 hdi rfl hdep [] [8, 9, 11, 12, 13, 15] (by kernel_rfl) (by kernel_rfl)
        simp only [AllT, AllF] at E
        clear hdi hdep hcl
        go_simp
        exact hK _ _ ⟨by simp [upd, E], hw⟩
      · rintro d a W hdi hdep hcl ⟨rfl, hw⟩ K hK
        have E := hcl.facts 8 hdi rfl hdep [7] [9, 11, 12, 13, 15] (by kernel_rfl) (by kernel_rfl)
        simp only [AllT, AllF] at E
        clear hdi hdep hcl
        go_simp
        exact hK _ _ ⟨by simp [upd, E], hw⟩
      · rintro d a W hdi hdep hcl ⟨rfl, hw⟩ K hK
        have E := hcl.facts 9 hdi rfl hdep [7, 8] [11, 12, 13, 15] (by kernel_rfl) (by kernel_rfl)
        simp only [AllT, AllF] at E
        clear hdi hdep hcl
        have z0 := ((pcell hw.out).1 _ _ lV).trans e0
        go_simp
        exact hK _ _ ⟨by simp [upd, E], hw⟩
      · rintro d a W hdi hdep hcl ⟨rfl, hw⟩ K hK
        have E := hcl.facts 10 hdi rfl hdep [] [11, 12, 13, 15] (by kernel_rfl) (by kernel_rfl)
        simp only [AllT, AllF] at E
        clear hdi hdep hcl
        go_simp
        exact hK _ _ ⟨by simp [upd, E], hw⟩
      · rintro d a W hdi hdep hcl ⟨rfl, hw⟩ K hK
        have E := hcl.facts 11 hdi rfl hdep [7, 8, 9, 10] [12, 13, 15] (by kernel_rfl) (by kernel_rfl)
        simp only [AllT, AllF] at E
        clear hdi hdep hcl
        go_simp
        exact hK _ _ ⟨by simp [upd, E], hw⟩
      · rintro d a W hdi hdep hcl ⟨rfl, hw⟩ K hK
        have E := hcl.facts 12 hdi rfl hdep [7, 8, 9, 10, 11] [13, 15] (by kernel_rfl) (by kernel_rfl)
        simp only [AllT, AllF] at E
        clear hdi hdep hcl
        go_simp
        exact hK _ _ ⟨by simp [upd, E], hw⟩
      · rintro d a W hdi hdep hcl ⟨rfl, hw⟩ K hK
        have E := hcl.facts 13 hdi rfl hdep [7, 8, 9, 10, 11, 12] [15] (by kernel_rfl) (by kernel_rfl)
        simp only [AllT, AllF] at E
        clear hdi hdep hcl
        have z1 := ((pcell hw.out).1 _ _ lB).trans e3
        go_simp
        exact hK _ _ ⟨by simp [upd, E], hw⟩
      · rintro d a W hdi hdep hcl ⟨rfl, hw⟩ K hK
        have E := hcl.facts 14 hdi rfl hdep [0, 1, 2, 3, 4, 5, 6] [15] (by kernel_rfl) (by kernel_rfl)
        simp only [AllT, AllF] at E
        clear hdi hdep hcl
        go_simp
        exact hK _ _ ⟨by simp [upd, E], hw⟩
      · rintro d a W hdi hdep hcl ⟨rfl, hw⟩ K hK
        have E := hcl.facts 15 hdi rfl hdep [0, 1, 2, 3, 4, 5, 6, 7, 8, 9, 10, 11, 12, 13, 14] [] (by kernel_rfl) (by kernel_rfl)
        simp only [AllT, AllF] at E
        clear hdi hdep hcl
        go_simp
        exact hK _ _ ⟨by simp [upd, E], hw⟩
    · rintro d a W hall ⟨rfl, hw⟩
      have E := AllT.all hall [0, 1, 2, 3, 4, 5, 6, 7, 8, 9, 10, 11, 12, 13, 14, 15] (by kernel_rfl)
      simp only [AllT] at E
      simp only [E, cond_true] at hw ⊢
      clear E hall
      have hpV := hw.out
      have HPV := Lib.hid hw.out
      have HNV := Lib.hid (HN.out.pure hpV)
      have z0 := ((pcell hpV).1 _ _ lT).trans et
      have zB := ((pcell hpV).1 _ _ lBB).trans eB
      have KRW := Lib.hid (KR.out.to hpV)
      have KTW := Lib.hid (KT.out.to hpV)
      have KBW := Lib.hid (KB.out.to hpV)
      have lTW := KTW.out.lt
      have lBW := KBW.out.lt
      clear hw hpV e0 e1 e3
      by_cases hle1 : L.s x1 ≤ (t : Int)
      · have e : partsTo L C t (i + 1) = setI (fun _ => 0) x1 1 := by rw [partsTo, HX.out.2, if_pos hle1]
        have HE := Lib.hid e
        obtain ⟨W2, hr, hW2, hd2⟩ := run_clear_ints W 0 GR L.n L.n (partsTo L C t i) KRW.out
        have zB2 := (hd2.cell (p := ⟨GB, 0, none⟩) lBW (by have := HGG.out; show ¬ GB = GR; omega)).trans zB
        have zR := (hW2.at x1).trans (arrI_get hn1')
        have zf := fun o => hW2.fz o
        have zl := hW2.lt
        have HW2 := Lib.hid hW2
        have HD2 := Lib.hid hd2
        clear e hW2 hd2
        gi_wp2_with (simp only [hr])
        have hDW : Diff (fun k => k = GR) W (W2.setCell ⟨GR, x1, none⟩ (.int .i64 1)) := HD2.out.setCell (p := ⟨GR, x1, none⟩) (fun _ => rfl) _
        refine ⟨(HPV.out.mono fun _ _ h => h.elim).trans (hDW.mono fun k _ h => by have h' : k = GR := h; subst h'; exact ⟨by have := HGG.out; omega, fun ho => by have := HN.out.own _ ho; have := HGG.out; omega⟩), ?_⟩
        rw [HE.out]
        have h := HW2.out.set x1 (.int .i64 1)
        rw [arrI_set] at h
        exact HNV.out.put (g := GR) (by have := HGG.out; omega) hDW (by have := HGG.out; omega) _ (put_list (by have := HGG.out; omega) (by have := HGG.out; omega) (by have := HGG.out; omega) h)
      · by_cases hle0 : L.s x0 ≤ (t : Int)
        · have e : partsTo L C t (i + 1) = setI (setI (partsTo L C t i) x0 (L.s x1 - (t : Int))) x1 ((t : Int) - L.s x0) := by rw [partsTo, HX.out.1, HX.out.2, if_neg hle1, if_pos hle0]
          have HE := Lib.hid e
          have zt := z0
          have ws1 : IntKind.i64.wrap (L.s x1 - (t : Int)) = L.s x1 - (t : Int) := IntWalk.i64_in _ (by have := HOK.out.s0 x1 hn1'; have := HOK.out.s1 x1 hn1'; omega)
          have ws2 : IntKind.i64.wrap ((t : Int) - L.s x0) = (t : Int) - L.s x0 := IntWalk.i64_in _ (by have := HOK.out.s0 x0 hn0; have := HOK.out.s1 x0 hn0; omega)
          clear e
          gi_wp2
          rename World => Z
          refine reg_inv (fun d a W => a = { tmps := #[Value.agg #[Value.slice (some { block := bl, off := ol }) L.n cap, Value.slice q m c], Value.int IntKind.i64 (t : Int), Value.pointer (some { block := w.heap.size, off := 0 }), Value.pointer (some { block := G1, off := 0 }), Value.slice none 0 0, Value.pointer (some { block := GB, off := 0 }), Value.int IntKind.i64 (x0 : Int), Value.int IntKind.i64 (x1 : Int), Value.int IntKind.i64 (L.s x0), Value.int IntKind.i64 (L.s x1), Value.pointer (some { block := w.heap.size, off := 0 }), Value.pointer (some { block := w.heap.size, off := 0 }), Value.slice (some { block := bl, off := ol }) L.n cap, Value.int IntKind.i64 (L.n : Int), Value.slice (some { block := GR, off := 0 }) L.n L.n, Value.agg #[Value.slice (some { block := bl, off := ol }) L.n cap, Value.slice q m c], Value.func (Fn.func 87) #[Value.agg #[Value.slice (some { block := bl, off := ol }) L.n cap, Value.slice q m c]] #[], Value.int IntKind.i64 (x0 : Int), Value.int IntKind.i64 (x1 : Int), Value.pointer (some { block := w.heap.size, off := 0 }), Value.pointer (some { block := w.heap.size, off := 0 }), Value.slice (some { block := bl, off := ol }) L.n cap, Value.int IntKind.i64 (x0 : Int), Value.pointer (some { block := bl, off := ol + x0 * 2 }), Value.pointer (some { block := bl, off := ol + x0 * 2 }), Value.int IntKind.i64 (L.s x0), Value.pointer (some { block := w.heap.size, off := 0 }), Value.pointer (some { block := w.heap.size, off := 0 }), Value.slice (some { block := bl, off := ol }) L.n cap, Value.int IntKind.i64 (x1 : Int), Value.pointer (some { block := bl, off := ol + x1 * 2 }), Value.pointer (some { block := bl, off := ol + x1 * 2 }), Value.int IntKind.i64 (L.s x1), Value.int IntKind.i64 (L.s x1), Value.int IntKind.i64 (t : Int), Value.bool false, undef, undef, undef, undef, Value.int IntKind.i64 (L.s x0), Value.int IntKind.i64 (t : Int), Value.bool true, (bif d 0 then Value.slice (some { block := GR, off := 0 }) L.n L.n else undef), (bif d 1 then Value.int IntKind.i64 (x0 : Int) else undef), (bif d 2 then Value.slice (some { block := GR, off := 0 }) L.n L.n else undef), (bif d 3 then Value.int IntKind.i64 (x1 : Int) else undef), (bif d 4 then Value.int IntKind.i64 (L.s x1) else undef), (bif d 5 then Value.int IntKind.i64 (t : Int) else undef), (bif d 6 then Value.int IntKind.i64 (L.s x1 - (t : Int)) else undef), (bif d 7 then Value.int IntKind.i64 (t : Int) else undef), (bif d 8 then Value.int IntKind.i64 (L.s x0) else undef), (bif d 9 then Value.int IntKind.i64 ((t : Int) - L.s x0) else undef), (bif d 10 then Value.pointer (some { block := GR, off := x0 }) else undef), (bif d 12 then Value.pointer (some { block := GR, off := x1 }) else undef), undef], defers := [] } ∧ Hid (Diff (fun k => k = GR) Z W ∧ Blk GR 2 (arrI (bif d 13 then setI (setI (partsTo L C t i) x0 (L.s x1 - (t : Int))) x1 ((t : Int) - L.s x0) else bif d 11 then setI (partsTo L C t i) x0 (L.s x1 - (t : Int)) else partsTo L C t i) L.n) W)) hmx (by kernel_rfl) ?_ ?_ ?_
          · exact ⟨rfl, ⟨(Diff.refl Z).drew, KRW.out⟩⟩
          · refine ⟨?_, ?_, ?_, ?_, ?_, ?_, ?_, ?_, ?_, ?_, ?_, ?_, ?_, ?_, trivial⟩
            · rintro d a W hdi hdep hcl ⟨rfl, hw⟩ K hK
              have E := hcl.facts 0 hdi rfl hdep [] [10, 11, 12, 13] (by kernel_rfl) (by kernel_rfl)
              simp only [AllT, AllF] at E
              clear hdi hdep hcl
              have z0 := (hw.out.1.cell (p := ⟨GB, 0, none⟩) lBW (by have := HGG.out; show ¬ GB = GR; omega)).trans zB
              go_simp
              exact hK _ _ ⟨by simp [upd, E], ⟨hw.out.1, by simpa [upd, E] using hw.out.2⟩⟩
            · rintro d a W hdi hdep hcl ⟨rfl, hw⟩ K hK
              have E := hcl.facts 1 hdi rfl hdep [] [10, 11, 12, 13] (by kernel_rfl) (by kernel_rfl)
              simp only [AllT, AllF] at E
              clear hdi hdep hcl
              go_simp
              exact hK _ _ ⟨by simp [upd, E], ⟨hw.out.1, by simpa [upd, E] using hw.out.2⟩⟩
            · rintro d a W hdi hdep hcl ⟨rfl, hw⟩ K hK
              have E := hcl.facts 2 hdi rfl hdep [] [12, 13] (by kernel_rfl) (by kernel_rfl)
              simp only [AllT, AllF] at E
              clear hdi hdep hcl
              have z0 := (hw.out.1.cell (p := ⟨GB, 0, none⟩) lBW (by have := HGG.out; show ¬ GB = GR; omega)).trans zB
              go_simp
              exact hK _ _ ⟨by simp [upd, E], ⟨hw.out.1, by simpa [upd, E] using hw.out.2⟩⟩
            · rintro d a W hdi hdep hcl ⟨rfl, hw⟩ K hK
              have E := hcl.facts 3 hdi rfl hdep [] [12, 13] (by kernel_rfl) (by kernel_rfl)
              simp only [AllT, AllF] at E
              clear hdi hdep hcl
              go_simp
              exact hK _ _ ⟨by simp [upd, E], ⟨hw.out.1, by simpa [upd, E] using hw.out.2⟩⟩
            · rintro d a W hdi hdep hcl ⟨rfl, hw⟩ K hK
              have E := hcl.facts 4 hdi rfl hdep [] [6, 10, 11, 12, 13] (by kernel_rfl) (by kernel_rfl)
              simp only [AllT, AllF] at E
              clear hdi hdep hcl
              go_simp
              exact hK _ _ ⟨by simp [upd, E], ⟨hw.out.1, by simpa [upd, E] using hw.out.2⟩⟩
            · rintro d a W hdi hdep hcl ⟨rfl, hw⟩ K hK
              have E := hcl.facts 5 hdi rfl hdep [] [6, 10, 11, 12, 13] (by kernel_rfl) (by kernel_rfl)
              simp only [AllT, AllF] at E
              clear hdi hdep hcl
              have z0 := (hw.out.1.cell (p := ⟨G1, 0, none⟩) lTW (by have := HGG.out; show ¬ G1 = GR; omega)).trans zt
              go_simp
              exact hK _ _ ⟨by simp [upd, E], ⟨hw.out.1, by simpa [upd, E] using hw.out.2⟩⟩
            · rintro d a W hdi hdep hcl ⟨rfl, hw⟩ K hK
              have E := hcl.facts 6 hdi rfl hdep [4, 5] [10, 11, 12, 13] (by kernel_rfl) (by kernel_rfl)
              simp only [AllT, AllF] at E
              clear hdi hdep hcl
              go_simp
              exact hK _ _ ⟨by simp [upd, E], ⟨hw.out.1, by simpa [upd, E] using hw.out.2⟩⟩
            · rintro d a W hdi hdep hcl ⟨rfl, hw⟩ K hK
              have E := hcl.facts 7 hdi rfl hdep [] [9, 12, 13] (by kernel_rfl) (by kernel_rfl)
              simp only [AllT, AllF] at E
              clear hdi hdep hcl
              have z0 := (hw.out.1.cell (p := ⟨G1, 0, none⟩) lTW (by have := HGG.out; show ¬ G1 = GR; omega)).trans zt
              go_simp
              exact hK _ _ ⟨by simp [upd, E], ⟨hw.out.1, by simpa [upd, E] using hw.out.2⟩⟩
            · rintro d a W hdi hdep hcl ⟨rfl, hw⟩ K hK
              have E := hcl.facts 8 hdi rfl hdep [] [9, 12, 13] (by kernel_rfl) (by kernel_rfl)
              simp only [AllT, AllF] at E
              clear hdi hdep hcl
              go_simp
              exact hK _ _ ⟨by simp [upd, E], ⟨hw.out.1, by simpa [upd, E] using hw.out.2⟩⟩
            · rintro d a W hdi hdep hcl ⟨rfl, hw⟩ K hK
              have E := hcl.facts 9 hdi rfl hdep [7, 8] [12, 13] (by kernel_rfl) (by kernel_rfl)
              simp only [AllT, AllF] at E
              clear hdi hdep hcl
              go_simp
              exact hK _ _ ⟨by simp [upd, E], ⟨hw.out.1, by simpa [upd, E] using hw.out.2⟩⟩
            · rintro d a W hdi hdep hcl ⟨rfl, hw⟩ K hK
              have E := hcl.facts 10 hdi rfl hdep [0, 1, 4, 5, 6] [11, 12, 13] (by kernel_rfl) (by kernel_rfl)
              simp only [AllT, AllF] at E
              clear hdi hdep hcl
              go_simp
              exact hK _ _ ⟨by simp [upd, E], ⟨hw.out.1, by simpa [upd, E] using hw.out.2⟩⟩
            · rintro d a W hdi hdep hcl ⟨rfl, hw⟩ K hK
              have E := hcl.facts 11 hdi rfl hdep [0, 1, 4, 5, 6, 10] [12, 13] (by kernel_rfl) (by kernel_rfl)
              simp only [AllT, AllF] at E
              clear hdi hdep hcl
              have z1 := (hw.out.2.at x0).trans (arrI_get (hn0))
              have zf := fun o => hw.out.2.fz o
              have zl := hw.out.2.lt
              go_simp
              exact hK _ _ ⟨by simp [upd, E], ⟨hw.out.1.setCell (p := ⟨GR, x0, none⟩) (fun _ => rfl) _, by have h := hw.out.2.set x0 (.int .i64 (L.s x1 - (t : Int))); rw [arrI_set] at h; simpa [upd, E] using h⟩⟩
            · rintro d a W hdi hdep hcl ⟨rfl, hw⟩ K hK
              have E := hcl.facts 12 hdi rfl hdep [0, 1, 2, 3, 4, 5, 6, 7, 8, 9, 10, 11] [13] (by kernel_rfl) (by kernel_rfl)
              simp only [AllT, AllF] at E
              clear hdi hdep hcl
              go_simp
              exact hK _ _ ⟨by simp [upd, E], ⟨hw.out.1, by simpa [upd, E] using hw.out.2⟩⟩
            · rintro d a W hdi hdep hcl ⟨rfl, hw⟩ K hK
              have E := hcl.facts 13 hdi rfl hdep [0, 1, 2, 3, 4, 5, 6, 7, 8, 9, 10, 11, 12] [] (by kernel_rfl) (by kernel_rfl)
              simp only [AllT, AllF] at E
              clear hdi hdep hcl
              have z1 := (hw.out.2.at x1).trans (arrI_get (hn1'))
              have zf := fun o => hw.out.2.fz o
              have zl := hw.out.2.lt
              go_simp
              exact hK _ _ ⟨by simp [upd, E], ⟨hw.out.1.setCell (p := ⟨GR, x1, none⟩) (fun _ => rfl) _, by have h := hw.out.2.set x1 (.int .i64 ((t : Int) - L.s x0)); rw [arrI_set] at h; simpa [upd, E] using h⟩⟩
          · rintro d a W hall ⟨rfl, hw⟩
            have E := AllT.all hall [0, 1, 2, 3, 4, 5, 6, 7, 8, 9, 10, 11, 12, 13] (by kernel_rfl)
            simp only [AllT] at E
            simp only [E, cond_true] at hw ⊢
            clear E hall
            gi_wp2
            refine ⟨(HPV.out.mono fun _ _ h => h.elim).trans (hw.out.1.mono fun k _ h => by have h' : k = GR := h; subst h'; exact ⟨by have := HGG.out; omega, fun ho => by have := HN.out.own _ ho; have := HGG.out; omega⟩), ?_⟩
            rw [HE.out]
            exact HNV.out.put (g := GR) (by have := HGG.out; omega) hw.out.1 (by have := HGG.out; omega) _ (put_list (by have := HGG.out; omega) (by have := HGG.out; omega) (by have := HGG.out; omega) hw.out.2)
        · have e : partsTo L C t (i + 1) = partsTo L C t i := by rw [partsTo, HX.out.1, HX.out.2, if_neg hle1, if_neg hle0]
          have HE := Lib.hid e
          clear e
          gi_wp2
          refine ⟨HPV.out.mono fun _ _ h => h.elim, ?_⟩
          rw [HE.out]
          exact HNV.out
  case done =>
    rintro O D W hN hOD hDs hDd
    have hkp := hN.kept
    have kR : Blk GR 2 (arrI (partsTo L C t m) L.n) W := hkp.objs (GR, .cells (arrI (partsTo L C t m) L.n) 2) (by simp)
    have kB : Blk GB 23 #[.slice (some ⟨GR, 0, none⟩) L.n L.n] W := hkp.objs (GB, .cells #[.slice (some ⟨GR, 0, none⟩) L.n L.n] 23) (by simp)
    have hDO : GB + 1 ≤ D := hN.own _ hOD
    have hpw := hkp.pw
    have zB := kB.at 0
    have lB := kB.lt
    refine hK9 _ _ (wpIn_seq (wpIn_wide.2 ?_))
    go_wp2_with fail
    refine wpIn_ret ?_
    refine ⟨by simp [Act.put], .inl ⟨_, _, rfl, run_takeDeferred hDd, ?_⟩⟩
    have z1 : Blk GR 2 (arrI (partsTo L C t m) L.n) (W.putObj D (.deferred none)) :=
      (World.putObj_heap_other (by have := HGG.out; omega)).trans kR
    exact ⟨.slice (some ⟨GR, 0, none⟩) L.n L.n, by simp [results, Tryd.results74, go_sem], ⟨GR, rfl, z1, by have := HGG.out; omega⟩, hpw.putObj (fun h => by have := HGG.out; omega) _⟩
  case stop =>
    rintro O D W hN hOD hDs hDd
    exact hN.elim
end Go.Proofs.YtgpfmnjianflaaaDoor
namespace Go.Proofs.YtgpfmnjianflaaaDoor
open Go.RowKit

/-- What Parts answers: error and shares. -/
def LT.parts (L : LT) (t : Int) : Nat → Int := partsTo L L.corners t L.corners.length
def PartsAns (L : LT) (t : Int) (e : Ending) (w0 w' : World) : Prop :=
  if cheapE L t = 0 then ∃ g, e = .returned (.tuple #[.slice (some ⟨g, 0, none⟩) L.n L.n, .int .i64 0]) ∧ Blk g 2 (arrI (L.parts t) L.n) w' ∧ w0.heap.size ≤ g
  else e = .returned (.tuple #[.slice none 0 0, .int .i64 (cheapE L t)])
theorem cheapE_ok {L : LT} {t : Int} (h : cheapE L t = 0) : L.Ok ∧ 0 ≤ t ∧ t ≤ 100 := by
  by_cases h0 : sharpE L t = 0
  · exact sharpE_ok.1 h0
  · unfold cheapE at h; rw [if_neg h0] at h; exact absurd h h0
set_option maxRecDepth 20000 in
set_option maxHeartbeats 4000000 in
theorem Parts_any (w : World) (L : LT) (p : Option Addr) (cap : Nat) (t : Int) (hn : L.n ≤ 1000) (hl : LotsAt w.heap.size w p L) (hg : Gl w) :
    Calls Tryd.prog 30 #[.slice p L.n cap, .int .i64 t] w fun e w' => PartsAns L t e w w' ∧ Pure w w' := by
  have HG := Lib.hid hg
  have HL := Lib.hid hl
  clear hl hg
  go_enter Tryd.func30, Tryd.ntmps30
  go_wp2_with fail
  refine (Cheapest_any w L p cap t hn HL.out HG.out).mono ?_
  rintro e w1 ⟨rfl, hp1⟩
  obtain ⟨c, hc⟩ : ∃ c, cheapE L t = c := ⟨_, rfl⟩
  obtain ⟨x, hx⟩ : ∃ c, (cheapP L t).1 = c := ⟨_, rfl⟩
  obtain ⟨y, hy⟩ : ∃ c, (cheapP L t).2 = c := ⟨_, rfl⟩
  have HC := Lib.hid hc
  rw [hc, hx, hy]
  clear hc hx hy
  have HP1 := Lib.hid hp1
  clear hp1
  by_cases h0 : c = 0
  · subst h0
    obtain ⟨hok, ht0, ht1⟩ := cheapE_ok HC.out
    have HOK := Lib.hid hok
    clear hok
    obtain ⟨m, rfl⟩ : ∃ m : Nat, t = m := ⟨t.toNat, by omega⟩
    have hm1 : m ≤ 100 := by omega
    go_wp2_with fail
    obtain ⟨X, hX⟩ : ∃ V : World, w1.alloc (.cells #[.int .i64 x, .int .i64 y] 29) = V := ⟨_, rfl⟩
    have hX1 : Pure w1 X := by rw [← hX]; exact (Diff.refl _).alloc _
    rw [hX]
    clear hX
    have HPX := Lib.hid (HP1.out.trans hX1)
    clear hX1
    refine (shelved_any X L p cap HOK.out (HL.out.to HPX.out)).mono ?_
    rintro e w2 ⟨⟨q, qc, rfl, hq⟩, hp2⟩
    have HQ := Lib.hid hq
    have HP2 := Lib.hid (HPX.out.trans hp2)
    clear hq hp2
    go_wp2_with fail
    refine (parts_any w2 L p q cap qc m hm1 HOK.out (HL.out.to HP2.out) HQ.out).mono ?_
    rintro e w3 ⟨⟨g, rfl, hb, hg⟩, hp3⟩
    have HB := Lib.hid hb
    have HGE : Hid (w.heap.size ≤ g) := Nat.le_trans HP2.out.size hg
    have HP3 := Lib.hid (HP2.out.trans hp3)
    clear hb hg hp3
    go_wp2
    refine bodyPost_ret (v := .tuple #[.slice (some ⟨g, 0, none⟩) L.n L.n, .int .i64 0]) (by simp [results, Tryd.results30, go_sem]) rfl ⟨?_, HP3.out⟩
    unfold PartsAns
    rw [if_pos HC.out]
    exact ⟨g, rfl, HB.out, HGE.out⟩
  · have hb : (c != 0) = true := by simpa using h0
    have HN := Lib.hid h0
    go_wp2
    refine bodyPost_ret (v := .tuple #[.slice none 0 0, .int .i64 c]) (by simp [results, Tryd.results30, go_sem]) rfl ⟨?_, HP1.out.alloc _⟩
    unfold PartsAns
    rw [HC.out, if_neg HN.out]
end Go.Proofs.YtgpfmnjianflaaaDoor
