/- Walks of the reference: By, CheckLots, sharped. Walks of the reference: IsLine, CheckLine. Walk of the reference's CheckBlend. Walks of the law's helpers: by, Ints, of, longs. Walks of the law's line and the reference's Less. -/
import Derived.Test.YtgpfmnjianflaaaDoorM3
import Derived.Test.YtgpfmnjianflaaaDoorM5
set_option linter.unusedSimpArgs false
set_option linter.unusedVariables false
set_option linter.constructorNameAsVariable false
namespace Go.Proofs.YtgpfmnjianflaaaDoor
open Go.RowKit

theorem gcd_step' (c r : Int) (hc : 0 ≤ c) (_hr : 0 < r) : Int.gcd r (c % r) = Int.gcd c r := by
  have h : Int.gcd (c % r) r = Int.gcd c r := by
    obtain ⟨n, rfl⟩ := Int.eq_ofNat_of_zero_le hc
    obtain ⟨m, rfl⟩ := Int.eq_ofNat_of_zero_le (Int.le_of_lt _hr)
    show Nat.gcd (((n : Int) % (m : Int)).natAbs) m = Nat.gcd n m
    have : ((n : Int) % (m : Int)).natAbs = n % m := by omega
    rw [this, Nat.gcd_comm n m, Nat.gcd_rec m n]
  rw [Int.gcd_comm]; exact h
theorem RBy_any (w : World) (a b : Int) (ha : -1000000000000 ≤ a ∧ a ≤ 1000000000000) (hb : 0 < b ∧ b ≤ 1000000000000) :
    Calls Tryd.prog 51 #[.int .i64 a, .int .i64 b] w fun e w' => e = .returned (.agg #[.int .i64 (redN a b), .int .i64 (redD a b)]) ∧ Pure w w' := by
  have hmx : Tryd.prog.follows .mixedOrders = true := by kernel_rfl
  have hw : IntKind.i64.wrap (-a) = -a := IntWalk.i64_in _ (by omega)
  have hrl := red_le a hb.1
  have hrp := redD_pos (a := a) hb.1
  by_cases hs : -a ≤ a
  · go_enter Tryd.func51, Tryd.ntmps51
    go_wp2
    go_loopw [5, 6, 12, 13, 14, 15, 16, 17] (fun c r _ _ _ _ _ _ wr => ∃ x y : Int, c = .int .i64 x ∧ r = .int .i64 y ∧ (0 ≤ x ∧ 0 < x + y) ∧ 0 ≤ y ∧ x ≤ 1000000000000 ∧ y ≤ 1000000000000 ∧ Hid (Int.gcd x y = Int.gcd a b) ∧ Hid (wr.heap[w.heap.size]? = some (.cells #[.int .i64 0, .int .i64 0] 29 (0, 0))) ∧ Hid (Pure w wr)) (fun _ r _ _ _ _ _ _ _ => (intOf r).toNat)
    case atStart => exact ⟨a, b, rfl, rfl, by omega, by omega, by omega, by omega, rfl, World.alloc_heap_new _ _, (Diff.refl _).alloc _⟩
    case round =>
      obtain ⟨x, y, rfl, rfl, hx, hy, hx1, hy1, HX, HBL, HP⟩ := hrel
      by_cases hy0 : y = 0
      · subst hy0
        have hg : x = (Int.gcd a b : Int) := by have := HX.out; rw [Int.gcd_zero_right] at this; omega
        obtain ⟨r1, r2⟩ := red_tdiv a b
        rw [← hg] at r1 r2
        have hxn : ¬ x = 0 := by omega
        have hN : IntKind.i64.wrap (a.tdiv x) = redN a b := by rw [r1]; exact IntWalk.i64_in _ (by omega)
        have hD : IntKind.i64.wrap (b.tdiv x) = redD a b := by rw [r2]; exact IntWalk.i64_in _ (by omega)
        have HE : Hid (a / x = redN a b ∧ b / x = redD a b) := by unfold redN redD; rw [← hg]; exact ⟨rfl, rfl⟩
        have hfz : ∀ o, wr.frozen? ⟨w.heap.size, o, none⟩ = false := fun o => frozen_of_row wr _ _ _ _ HBL.out
        have hc0 : wr.cell? ⟨w.heap.size, 0, none⟩ = some (.int .i64 0) := by rw [cell_of_row wr _ _ _ _ _ HBL.out]; rfl
        have hc1 : wr.cell? ⟨w.heap.size, 1, none⟩ = some (.int .i64 0) := by rw [cell_of_row wr _ _ _ _ _ HBL.out]; rfl
        have HPF : Hid (w.heap.size < w.heap.size → False) := fun h => by omega
        clear hg r1 r2 hrl hrp
        go_wp2
        go_region
        obtain ⟨W, hW⟩ : ∃ W, (wr.setCell { block := w.heap.size, off := 0 } (Value.int IntKind.i64 (redN a b))).setCell { block := w.heap.size, off := 1 } (Value.int IntKind.i64 (redD a b)) = W := ⟨_, rfl⟩
        have hbl : Blk w.heap.size 29 #[.int .i64 (redN a b), .int .i64 (redD a b)] W := by rw [← hW]; exact Blk.set2 HBL.out _ _
        have HPW : Hid (Pure w W) := by rw [← hW]; exact HP.out.set2 (Nat.le_refl _) _ _
        rw [hW]
        clear hW hfz hc0 hc1
        have hc0 := hbl.at 0
        have hc1 := hbl.at 1
        clear hbl
        go_wp2
        exact bodyPost_ret (v := .agg #[.int .i64 (redN a b), .int .i64 (redD a b)]) (by simp [results, Tryd.results51, go_sem, hc0, hc1]) rfl ⟨rfl, HPW.out.drew⟩
      · have hyn : ¬ y = 0 := hy0
        have hb1 : (y == 0) = false := by simpa using hy0
        have hlt := Int.emod_lt_of_pos x (show 0 < y by omega)
        have hge := Int.emod_nonneg x hyn
        have hte : x.tmod y = x % y := Int.tmod_eq_emod_of_nonneg (by omega)
        have hwr : IntKind.i64.wrap (x.tmod y) = x % y := by rw [hte]; exact IntWalk.i64_in _ (by omega)
        go_wp2
        go_region
        go_wp2
        go_roundw
        case rel => exact ⟨y, x % y, rfl, rfl, by omega, hge, hy1, by omega, (gcd_step' x y hx.1 (by omega)).trans HX.out, HBL.out, HP.out.drew⟩
        case measure => simp [intOf]; omega
  · go_enter Tryd.func51, Tryd.ntmps51
    go_wp2
    go_loopw [5, 6, 12, 13, 14, 15, 16, 17] (fun c r _ _ _ _ _ _ wr => ∃ x y : Int, c = .int .i64 x ∧ r = .int .i64 y ∧ (0 ≤ x ∧ 0 < x + y) ∧ 0 ≤ y ∧ x ≤ 1000000000000 ∧ y ≤ 1000000000000 ∧ Hid (Int.gcd x y = Int.gcd a b) ∧ Hid (wr.heap[w.heap.size]? = some (.cells #[.int .i64 0, .int .i64 0] 29 (0, 0))) ∧ Hid (Pure w wr)) (fun _ r _ _ _ _ _ _ _ => (intOf r).toNat)
    case atStart => exact ⟨-a, b, rfl, rfl, by omega, by omega, by omega, by omega, Int.neg_gcd, World.alloc_heap_new _ _, (Diff.refl _).alloc _⟩
    case round =>
      obtain ⟨x, y, rfl, rfl, hx, hy, hx1, hy1, HX, HBL, HP⟩ := hrel
      by_cases hy0 : y = 0
      · subst hy0
        have hg : x = (Int.gcd a b : Int) := by have := HX.out; rw [Int.gcd_zero_right] at this; omega
        obtain ⟨r1, r2⟩ := red_tdiv a b
        rw [← hg] at r1 r2
        have hxn : ¬ x = 0 := by omega
        have hN : IntKind.i64.wrap (a.tdiv x) = redN a b := by rw [r1]; exact IntWalk.i64_in _ (by omega)
        have hD : IntKind.i64.wrap (b.tdiv x) = redD a b := by rw [r2]; exact IntWalk.i64_in _ (by omega)
        have HE : Hid (a / x = redN a b ∧ b / x = redD a b) := by unfold redN redD; rw [← hg]; exact ⟨rfl, rfl⟩
        have hfz : ∀ o, wr.frozen? ⟨w.heap.size, o, none⟩ = false := fun o => frozen_of_row wr _ _ _ _ HBL.out
        have hc0 : wr.cell? ⟨w.heap.size, 0, none⟩ = some (.int .i64 0) := by rw [cell_of_row wr _ _ _ _ _ HBL.out]; rfl
        have hc1 : wr.cell? ⟨w.heap.size, 1, none⟩ = some (.int .i64 0) := by rw [cell_of_row wr _ _ _ _ _ HBL.out]; rfl
        have HPF : Hid (w.heap.size < w.heap.size → False) := fun h => by omega
        clear hg r1 r2 hrl hrp
        go_wp2
        go_region
        obtain ⟨W, hW⟩ : ∃ W, (wr.setCell { block := w.heap.size, off := 0 } (Value.int IntKind.i64 (redN a b))).setCell { block := w.heap.size, off := 1 } (Value.int IntKind.i64 (redD a b)) = W := ⟨_, rfl⟩
        have hbl : Blk w.heap.size 29 #[.int .i64 (redN a b), .int .i64 (redD a b)] W := by rw [← hW]; exact Blk.set2 HBL.out _ _
        have HPW : Hid (Pure w W) := by rw [← hW]; exact HP.out.set2 (Nat.le_refl _) _ _
        rw [hW]
        clear hW hfz hc0 hc1
        have hc0 := hbl.at 0
        have hc1 := hbl.at 1
        clear hbl
        go_wp2
        exact bodyPost_ret (v := .agg #[.int .i64 (redN a b), .int .i64 (redD a b)]) (by simp [results, Tryd.results51, go_sem, hc0, hc1]) rfl ⟨rfl, HPW.out.drew⟩
      · have hyn : ¬ y = 0 := hy0
        have hb1 : (y == 0) = false := by simpa using hy0
        have hlt := Int.emod_lt_of_pos x (show 0 < y by omega)
        have hge := Int.emod_nonneg x hyn
        have hte : x.tmod y = x % y := Int.tmod_eq_emod_of_nonneg (by omega)
        have hwr : IntKind.i64.wrap (x.tmod y) = x % y := by rw [hte]; exact IntWalk.i64_in _ (by omega)
        go_wp2
        go_region
        go_wp2
        go_roundw
        case rel => exact ⟨y, x % y, rfl, rfl, by omega, hge, hy1, by omega, (gcd_step' x y hx.1 (by omega)).trans HX.out, HBL.out, HP.out.drew⟩
        case measure => simp [intOf]; omega
theorem RCheckLots_any (w : World) (L : LT) (p : Option Addr) (cap : Nat) (hn : L.n ≤ 1000) (hl : LotsAt w.heap.size w p L) :
    Calls Tryd.prog 23 #[.slice p L.n cap] w fun e w' => e = .returned (.int .i64 (checkL L)) ∧ Pure w w' := by
  by_cases h1 : (L.n : Int) < 1
  · have HE : Hid (checkL L = 6) := by show _ = _; unfold checkL; rw [if_pos (by simp [wIn]; omega)]
    go_enter Tryd.func23, Tryd.ntmps23
    go_wp2
    exact bodyPost_ret (v := .int .i64 6) (by simp [results, Tryd.results23, go_sem]) rfl ⟨by rw [HE.out], Diff.refl _⟩
  by_cases h8 : (8 : Int) < (L.n : Int)
  · have HE : Hid (checkL L = 6) := by show _ = _; unfold checkL; rw [if_pos (by simp [wIn]; omega)]
    go_enter Tryd.func23, Tryd.ntmps23
    go_wp2
    exact bodyPost_ret (v := .int .i64 6) (by simp [results, Tryd.results23, go_sem]) rfl ⟨by rw [HE.out], Diff.refl _⟩
  have HW : Hid (wIn 1 8 L.n = true) := by show _ = true; simp [wIn]; omega
  have HL := Lib.hid hl
  clear hl
  go_enter Tryd.func23, Tryd.ntmps23
  go_wp2
  go_loopw [3] (fun i wr => ∃ k : Nat, k ≤ L.n ∧ i = .int .i64 k ∧ Hid (lotsTo L k = true) ∧ Hid (Pure w wr)) (fun i _ => L.n - (intOf i).toNat)
  case atStart => exact ⟨0, Nat.zero_le _, rfl, rfl, Diff.refl _⟩
  case round =>
    obtain ⟨k, hk, rfl, HA, HP⟩ := hrel
    by_cases hlt : k < L.n
    · obtain ⟨b, o, rfl, hb, hc1, hc2⟩ := HL.out k hlt
      have d1 := ((pcell HP.out).1 _ _ hb).trans hc1
      have d2 := ((pcell HP.out).1 _ _ hb).trans hc2
      have hki : (k : Int) < (L.n : Int) := by omega
      clear hc1 hc2
      have HF : lotB L k = false → Hid (checkL L = 3) := fun hv => by show _ = _; unfold checkL; rw [if_neg (by simp [HW.out]), if_pos (lotsTo_false hlt hv)]
      by_cases hs0 : L.s k < 0
      · have HE := HF (by simp [lotB, wIn]; omega)
        clear HF
        go_wp2
        exact bodyPost_ret (v := .int .i64 3) (by simp [results, Tryd.results23, go_sem]) rfl ⟨by rw [HE.out], HP.out.alloc _⟩
      by_cases hs1 : 100 < L.s k
      · have HE := HF (by simp [lotB, wIn]; omega)
        clear HF
        go_wp2
        exact bodyPost_ret (v := .int .i64 3) (by simp [results, Tryd.results23, go_sem]) rfl ⟨by rw [HE.out], HP.out.alloc _⟩
      by_cases hp0 : L.p k < 0
      · have HE := HF (by simp [lotB, wIn]; omega)
        clear HF
        go_wp2
        exact bodyPost_ret (v := .int .i64 3) (by simp [results, Tryd.results23, go_sem]) rfl ⟨by rw [HE.out], HP.out.alloc _⟩
      by_cases hp1 : 1000 < L.p k
      · have HE := HF (by simp [lotB, wIn]; omega)
        clear HF
        go_wp2
        exact bodyPost_ret (v := .int .i64 3) (by simp [results, Tryd.results23, go_sem]) rfl ⟨by rw [HE.out], HP.out.alloc _⟩
      have HS : Hid (lotsTo L (k + 1) = true) := by show _ = true; rw [lotsTo_succ, HA.out, lotB]; simp [wIn]; omega
      clear HF
      go_wp2
      go_roundw
      case rel => exact ⟨k + 1, by omega, by go_num, HS.out, HP.out.alloc _⟩
      case measure => simp [intOf]; omega
    · obtain rfl : k = L.n := by omega
      have HE : Hid (checkL L = 0) := by show _ = _; unfold checkL; rw [if_neg (by simp [HW.out]), if_neg (by simp [HA.out])]
      go_wp2
      exact bodyPost_ret (v := .int .i64 0) (by simp [results, Tryd.results23, go_sem]) rfl ⟨by rw [HE.out], HP.out⟩
theorem Rsharped_any (w : World) (L : LT) (p : Option Addr) (cap : Nat) (t : Int) (hn : L.n ≤ 1000) (hl : LotsAt w.heap.size w p L) :
    Calls Tryd.prog 68 #[.slice p L.n cap, .int .i64 t] w fun e w' => e = .returned (.int .i64 (sharpE L t)) ∧ Pure w w' := by
  have HL := Lib.hid hl
  clear hl
  go_enter Tryd.func68, Tryd.ntmps68
  go_wp2_with fail
  refine (RCheckLots_any w L p cap hn HL.out).mono ?_
  rintro e w1 ⟨rfl, hp1⟩
  have HP1 := Lib.hid hp1
  clear hp1
  obtain ⟨c, hc⟩ : ∃ c, checkL L = c := ⟨_, rfl⟩
  have HC := Lib.hid hc
  rw [hc]
  clear hc
  by_cases h0 : c = 0
  · subst h0
    by_cases h1 : t < 0
    · have HE : Hid (sharpE L t = 3) := by show _ = _; unfold sharpE; rw [if_neg (by rw [HC.out]; simp), if_pos (by simp [wIn]; omega)]
      go_wp2
      exact bodyPost_ret (v := .int .i64 3) (by simp [results, Tryd.results68, go_sem]) rfl ⟨by rw [HE.out], HP1.out⟩
    by_cases h2 : 100 < t
    · have HE : Hid (sharpE L t = 3) := by show _ = _; unfold sharpE; rw [if_neg (by rw [HC.out]; simp), if_pos (by simp [wIn]; omega)]
      go_wp2
      exact bodyPost_ret (v := .int .i64 3) (by simp [results, Tryd.results68, go_sem]) rfl ⟨by rw [HE.out], HP1.out⟩
    have HE : Hid (sharpE L t = 0) := by show _ = _; unfold sharpE; rw [if_neg (by rw [HC.out]; simp), if_neg (by simp [wIn]; omega)]
    go_wp2
    exact bodyPost_ret (v := .int .i64 0) (by simp [results, Tryd.results68, go_sem]) rfl ⟨by rw [HE.out], HP1.out⟩
  · have hb : (c != 0) = true := by simpa using h0
    have HE : Hid (sharpE L t = c) := by show _ = _; unfold sharpE; rw [if_pos (by rw [HC.out]; exact h0), HC.out]
    go_wp2_with fail
    refine (RCheckLots_any w1 L p cap hn (HL.out.to HP1.out)).mono ?_
    rintro e w2 ⟨rfl, hp2⟩
    have HP2 := Lib.hid (HP1.out.trans hp2)
    clear hp2
    rw [HC.out]
    go_wp2
    exact bodyPost_ret (v := .int .i64 c) (by simp [results, Tryd.results68, go_sem]) rfl ⟨by rw [HE.out], HP2.out⟩
end Go.Proofs.YtgpfmnjianflaaaDoor
namespace Go.Proofs.YtgpfmnjianflaaaDoor
open Go.RowKit

set_option maxHeartbeats 2000000 in
theorem RIsLine_any (w : World) (d x y : Int) :
    Calls Tryd.prog 50 #[.agg #[.int .i64 d, .int .i64 x, .int .i64 y]] w fun e w' => e = .returned (.bool (lineB d x y)) ∧ Pure w w' := by
  have hp0 : Hid (Pure w (w.alloc (.cells #[.int .i64 d, .int .i64 x, .int .i64 y] 45))) := (Diff.refl _).alloc _
  have hneg : IntKind.i64.wrap (-1048576) = -1048576 := IntWalk.i64_in _ (by omega)
  by_cases h1 : 1 ≤ d
  · by_cases h2 : d ≤ 100
    · by_cases h3 : -1048576 ≤ x
      · by_cases h4 : x ≤ 1048576
        · by_cases h5 : -1048576 ≤ y
          · by_cases h6 : y ≤ 1048576
            · have HE : Hid (lineB d x y = true) := by show _ = _; simp [lineB, wIn]; omega
              go_enter Tryd.func50, Tryd.ntmps50
              go_wp2
              exact bodyPost_ret (v := .bool true) (by simp [results, Tryd.results50, go_sem]) rfl ⟨by rw [HE.out], hp0.out⟩
            · have HE : Hid (lineB d x y = false) := by show _ = _; simp [lineB, wIn]; omega
              go_enter Tryd.func50, Tryd.ntmps50
              go_wp2
              exact bodyPost_ret (v := .bool false) (by simp [results, Tryd.results50, go_sem]) rfl ⟨by rw [HE.out], hp0.out⟩
          · have HE : Hid (lineB d x y = false) := by show _ = _; simp [lineB, wIn]; omega
            go_enter Tryd.func50, Tryd.ntmps50
            go_wp2
            exact bodyPost_ret (v := .bool false) (by simp [results, Tryd.results50, go_sem]) rfl ⟨by rw [HE.out], hp0.out⟩
        · have HE : Hid (lineB d x y = false) := by show _ = _; simp [lineB, wIn]; omega
          go_enter Tryd.func50, Tryd.ntmps50
          go_wp2
          exact bodyPost_ret (v := .bool false) (by simp [results, Tryd.results50, go_sem]) rfl ⟨by rw [HE.out], hp0.out⟩
      · have HE : Hid (lineB d x y = false) := by show _ = _; simp [lineB, wIn]; omega
        go_enter Tryd.func50, Tryd.ntmps50
        go_wp2
        exact bodyPost_ret (v := .bool false) (by simp [results, Tryd.results50, go_sem]) rfl ⟨by rw [HE.out], hp0.out⟩
    · have HE : Hid (lineB d x y = false) := by show _ = _; simp [lineB, wIn]; omega
      go_enter Tryd.func50, Tryd.ntmps50
      go_wp2
      exact bodyPost_ret (v := .bool false) (by simp [results, Tryd.results50, go_sem]) rfl ⟨by rw [HE.out], hp0.out⟩
  · have HE : Hid (lineB d x y = false) := by show _ = _; simp [lineB, wIn]; omega
    go_enter Tryd.func50, Tryd.ntmps50
    go_wp2
    exact bodyPost_ret (v := .bool false) (by simp [results, Tryd.results50, go_sem]) rfl ⟨by rw [HE.out], hp0.out⟩
set_option maxRecDepth 20000 in
set_option maxHeartbeats 4000000 in
theorem RCheckLine_any (w : World) (L : LT) (p : Option Addr) (cap : Nat) (d x y t : Int) (hn : L.n ≤ 1000) (hl : LotsAt w.heap.size w p L) :
    Calls Tryd.prog 34 #[.slice p L.n cap, .agg #[.int .i64 d, .int .i64 x, .int .i64 y], .int .i64 t] w fun e w' => e = .returned (.tuple #[.agg #[.int .i64 (lineP L (d, x, y) t).1, .int .i64 (lineP L (d, x, y) t).2], .int .i64 (lineE L (d, x, y) t)]) ∧ Pure w w' := by
  have hmx : Tryd.prog.follows .mixedOrders = true := by kernel_rfl
  have HL := Lib.hid hl
  clear hl
  have HE0 : ∀ e : Int, e ≠ 0 → lineE L (d, x, y) t = e → Hid (lineE L (d, x, y) t = e ∧ lineP L (d, x, y) t = pr0) := fun e h0 h => ⟨h, if_neg (by rw [h]; exact h0)⟩
  go_enter Tryd.func34, Tryd.ntmps34
  go_wp2_with fail
  obtain ⟨X, hX⟩ : ∃ V : World, (w.alloc (.cells #[.int .i64 d, .int .i64 x, .int .i64 y] 45)).alloc (.cells #[.int .i64 0, .int .i64 0] 29) = V := ⟨_, rfl⟩
  have k1 : Blk w.heap.size 45 #[.int .i64 d, .int .i64 x, .int .i64 y] X := by rw [← hX]; exact (Blk.new _ _ _).alloc _
  have k0 : Blk (w.heap.size + 1) 29 #[.int .i64 0, .int .i64 0] X := by
    rw [← hX]
    have := Blk.new (w.alloc (.cells #[.int .i64 d, .int .i64 x, .int .i64 y] 45)) 29 #[.int .i64 0, .int .i64 0]
    rwa [World.size_alloc] at this
  have hP : Pure w X := by rw [← hX]; exact ((Diff.refl _).alloc _).alloc _
  rw [hX]
  clear hX
  obtain ⟨G, hG⟩ : ∃ G, w.heap.size + 1 = G := ⟨_, rfl⟩
  have HGG : Hid (w.heap.size + 1 = G) := hG
  rw [hG] at k0 ⊢
  clear hG
  refine (Rsharped_any X L p cap t hn (HL.out.to hP)).mono ?_
  rintro e w1 ⟨rfl, hp1⟩
  have HP1 := Lib.hid (hP.trans hp1)
  have K1 := Lib.hid (k0.to hp1)
  have B1 := Lib.hid (k1.to hp1)
  clear hP hp1 k0 k1
  obtain ⟨c, hc⟩ : ∃ c, sharpE L t = c := ⟨_, rfl⟩
  have HC := Lib.hid hc
  rw [hc]
  clear hc
  by_cases h0 : c = 0
  · subst h0
    obtain ⟨hok, ht0, ht1⟩ := sharpE_ok.1 HC.out
    have HOK := Lib.hid hok
    have hn8 := hok.n8
    have hn1 := hok.n0
    clear hok
    have b0 := B1.out.at 0
    have b1 := B1.out.at 1
    have b2 := B1.out.at 2
    have bl := B1.out.lt
    go_wp2_with fail
    refine (RIsLine_any w1 d x y).mono ?_
    rintro e w2 ⟨rfl, hp2⟩
    have HP2 := Lib.hid (HP1.out.trans hp2)
    have K2 := Lib.hid (K1.out.to hp2)
    have B2 := Lib.hid (B1.out.to hp2)
    clear hp2 b0 b1 b2 bl
    cases hv : lineB d x y with
    | false =>
      have HE := HE0 3 (by decide) (by unfold lineE; rw [if_neg (by rw [HC.out]; simp), if_pos hv])
      clear hv HE0
      have c0 := K2.out.at 0
      have c1 := K2.out.at 1
      have fz := fun o => K2.out.fz o
      have l0 := K2.out.lt
      go_wp2
      rw [HE.out.1, HE.out.2]
      have hgl : w.heap.size ≤ G := by have := HGG.out; omega
      have z := K2.out.set2 (Value.int IntKind.i64 0) (Value.int IntKind.i64 0)
      have HPZ := HP2.out.set2 (g := G) (by omega) (Value.int IntKind.i64 0) (Value.int IntKind.i64 0)
      obtain ⟨Y, hY⟩ : ∃ Y, (w2.setCell { block := G, off := 0 } (Value.int IntKind.i64 0)).setCell { block := G, off := 1 } (Value.int IntKind.i64 0) = Y := ⟨_, rfl⟩
      first | rw [hY] at z HPZ HR9 ⊢ | rw [hY] at z HPZ ⊢
      clear hY
      exact bodyPost_ret (v := .tuple #[.agg #[.int .i64 0, .int .i64 0], .int .i64 3]) (by simp [results, Tryd.results34, go_sem, z.at 0, z.at 1]) rfl ⟨rfl, HPZ⟩
    | true =>
      have HOB : Hid (OkB (d, x, y)) := lineB_ok.1 hv
      have HV := Lib.hid hv
      clear hv
      obtain ⟨bp, op, rfl, hbp, -, -⟩ := HL.out 0 (by omega)
      go_wp2
      go_loopw [8] (fun i wr => ∃ k : Nat, k ≤ L.n ∧ i = .int .i64 k ∧ Hid (lowTo L (d, x, y) k = true) ∧ Hid (Pure w2 wr)) (fun i _ => L.n - (intOf i).toNat)
      case atStart => exact ⟨0, Nat.zero_le _, rfl, rfl, Diff.refl _⟩
      case round =>
        obtain ⟨k, hk, rfl, HA, HPR⟩ := hrel
        have bb := B2.out.to HPR.out
        have b0 := bb.at 0
        have b1 := bb.at 1
        have b2 := bb.at 2
        have bl := bb.lt
        obtain ⟨⟨o1, o2⟩, ⟨o3, o4⟩, o5, o6⟩ := HOB.out
        dsimp only at o1 o2 o3 o4 o5 o6
        by_cases hlt : k < L.n
        · obtain ⟨b', o', hpl, -, hs1, hs2⟩ := HL.out k hlt
          cases hpl
          have d1 := ((pcell (HP2.out.trans HPR.out)).1 _ _ hbp).trans hs1
          have d2 := ((pcell (HP2.out.trans HPR.out)).1 _ _ hbp).trans hs2
          have lb : bp < wr.heap.size := Nat.lt_of_lt_of_le hbp (HP2.out.trans HPR.out).size
          have hki : (k : Int) < (L.n : Int) := by omega
          have s0 := HOK.out.s0 k hlt
          have s1 := HOK.out.s1 k hlt
          have p0 := HOK.out.p0 k hlt
          have p1 := HOK.out.p1 k hlt
          have m1 := mul_bnd (a := y) (b := L.s k) 1048576 100 (by omega) (by omega) (by omega) (by omega)
          have m2 := mul_bnd (a := L.p k) (b := d) 1000 100 (by omega) (by omega) (by omega) (by omega)
          have w1' : IntKind.i64.wrap (y * L.s k) = y * L.s k := IntWalk.i64_in _ (by omega)
          have w2' : IntKind.i64.wrap (x + y * L.s k) = x + y * L.s k := IntWalk.i64_in _ (by omega)
          have w3' : IntKind.i64.wrap (L.p k * d) = L.p k * d := IntWalk.i64_in _ (by omega)
          have HHI : Hid (hiB L (d, x, y) k = true ↔ L.p k * d < x + y * L.s k) := hiB_iff (L := L) (b := (d, x, y)) (k := k) (by show 0 < d; omega)
          clear hs1 hs2 s0 s1 p0 p1 m1 m2 o1 o2 o3 o4 o5 o6 bb
          by_cases hgt : L.p k * d < x + y * L.s k
          · have HE := HE0 16 (by decide) (by unfold lineE; rw [if_neg (by rw [HC.out]; simp), if_neg (by simp [HV.out]), if_pos (lowTo_false hlt (HHI.out.2 hgt))])
            have K3 := Lib.hid (K2.out.to HPR.out).drew
            have HP3 := Lib.hid (HP2.out.trans HPR.out).drew
            clear HE0
            go_wp2
            go_region
            obtain ⟨Wd, hWd⟩ : ∃ W, wr.drew = W := ⟨_, rfl⟩
            rw [hWd] at K3 HP3 ⊢
            clear b0 b1 b2 bl d1 d2 hWd
            have c0 := K3.out.at 0
            have c1 := K3.out.at 1
            have fz := fun o => K3.out.fz o
            have l0 := K3.out.lt
            go_wp2
            rw [HE.out.1, HE.out.2]
            have hgl : w.heap.size ≤ G := by have := HGG.out; omega
            have z := K3.out.set2 (Value.int IntKind.i64 0) (Value.int IntKind.i64 0)
            have HPZ := HP3.out.set2 (g := G) (by omega) (Value.int IntKind.i64 0) (Value.int IntKind.i64 0)
            obtain ⟨Y, hY⟩ : ∃ Y, (Wd.setCell { block := G, off := 0 } (Value.int IntKind.i64 0)).setCell { block := G, off := 1 } (Value.int IntKind.i64 0) = Y := ⟨_, rfl⟩
            first | rw [hY] at z HPZ HR9 ⊢ | rw [hY] at z HPZ ⊢
            clear hY
            exact bodyPost_ret (v := .tuple #[.agg #[.int .i64 0, .int .i64 0], .int .i64 16]) (by simp [results, Tryd.results34, go_sem, z.at 0, z.at 1]) rfl ⟨rfl, HPZ⟩
          · have HS : Hid (lowTo L (d, x, y) (k + 1) = true) := by
              show _ = true
              rw [lowTo_succ, HA.out]
              cases hh : hiB L (d, x, y) k with
              | false => rfl
              | true => exact absurd (HHI.out.1 hh) hgt
            go_wp2
            go_region
            go_wp2
            go_roundw
            case rel => exact ⟨k + 1, by omega, by go_num, HS.out, HPR.out.drew⟩
            case measure => simp [intOf]; omega
        · obtain rfl : k = L.n := by omega
          have HE : Hid (lineE L (d, x, y) t = 0 ∧ lineP L (d, x, y) t = (redN (x + y * t) d, redD (x + y * t) d)) := by
            have h : lineE L (d, x, y) t = 0 := by unfold lineE; rw [if_neg (by rw [HC.out]; simp), if_neg (by simp [HV.out]), if_neg (by simp [HA.out])]
            exact ⟨h, if_pos h⟩
          have m1 := mul_bnd (a := y) (b := t) 1048576 100 (by omega) (by omega) (by omega) (by omega)
          have w1' : IntKind.i64.wrap (y * t) = y * t := IntWalk.i64_in _ (by omega)
          have w2' : IntKind.i64.wrap (x + y * t) = x + y * t := IntWalk.i64_in _ (by omega)
          go_wp2_with fail
          refine (RBy_any wr (x + y * t) d ⟨by omega, by omega⟩ ⟨by omega, by omega⟩).mono ?_
          rintro e w4 ⟨rfl, hp4⟩
          have HP4 := Lib.hid ((HP2.out.trans HPR.out).trans hp4)
          have K4 := Lib.hid ((K2.out.to HPR.out).to hp4)
          obtain ⟨u1, hu1⟩ : ∃ u, redN (x + y * t) d = u := ⟨_, rfl⟩
          obtain ⟨u2, hu2⟩ : ∃ u, redD (x + y * t) d = u := ⟨_, rfl⟩
          rw [hu1, hu2] at HE ⊢
          clear hu1 hu2 hp4 b0 b1 b2 bl m1 w1' w2'
          have c0 := K4.out.at 0
          have c1 := K4.out.at 1
          have fz := fun o => K4.out.fz o
          have l0 := K4.out.lt
          go_wp2
          rw [HE.out.1, HE.out.2]
          have hgl : w.heap.size ≤ G := by have := HGG.out; omega
          have z := K4.out.set2 (Value.int IntKind.i64 u1) (Value.int IntKind.i64 u2)
          have HPZ := HP4.out.set2 (g := G) (by omega) (Value.int IntKind.i64 u1) (Value.int IntKind.i64 u2)
          obtain ⟨Y, hY⟩ : ∃ Y, (w4.setCell { block := G, off := 0 } (Value.int IntKind.i64 u1)).setCell { block := G, off := 1 } (Value.int IntKind.i64 u2) = Y := ⟨_, rfl⟩
          first | rw [hY] at z HPZ HR9 ⊢ | rw [hY] at z HPZ ⊢
          clear hY
          exact bodyPost_ret (v := .tuple #[.agg #[.int .i64 u1, .int .i64 u2], .int .i64 0]) (by simp [results, Tryd.results34, go_sem, z.at 0, z.at 1]) rfl ⟨rfl, HPZ⟩
  · have hb : (c != 0) = true := by simpa using h0
    have HE := HE0 c h0 (by unfold lineE; rw [if_pos (by rw [HC.out]; exact h0)]; exact HC.out)
    clear HE0
    go_wp2_with fail
    refine (Rsharped_any w1 L p cap t hn (HL.out.to HP1.out)).mono ?_
    rintro e w2 ⟨rfl, hp2⟩
    have HP2 := Lib.hid (HP1.out.trans hp2)
    have K2 := Lib.hid (K1.out.to hp2)
    clear hp2
    rw [HC.out]
    have c0 := K2.out.at 0
    have c1 := K2.out.at 1
    have fz := fun o => K2.out.fz o
    have l0 := K2.out.lt
    go_wp2
    rw [HE.out.1, HE.out.2]
    have hgl : w.heap.size ≤ G := by have := HGG.out; omega
    have z := K2.out.set2 (Value.int IntKind.i64 0) (Value.int IntKind.i64 0)
    have HPZ := HP2.out.set2 (g := G) (by omega) (Value.int IntKind.i64 0) (Value.int IntKind.i64 0)
    obtain ⟨Y, hY⟩ : ∃ Y, (w2.setCell { block := G, off := 0 } (Value.int IntKind.i64 0)).setCell { block := G, off := 1 } (Value.int IntKind.i64 0) = Y := ⟨_, rfl⟩
    first | rw [hY] at z HPZ HR9 ⊢ | rw [hY] at z HPZ ⊢
    clear hY
    exact bodyPost_ret (v := .tuple #[.agg #[.int .i64 0, .int .i64 0], .int .i64 c]) (by simp [results, Tryd.results34, go_sem, z.at 0, z.at 1]) rfl ⟨rfl, HPZ⟩
end Go.Proofs.YtgpfmnjianflaaaDoor
namespace Go.Proofs.YtgpfmnjianflaaaDoor
open Go.RowKit

set_option maxRecDepth 20000 in
set_option maxHeartbeats 4000000 in
theorem RCheckBlend_any (w : World) (L : LT) (p q : Option Addr) (cap m c : Nat) (f : Nat → Int) (hn : L.n ≤ 1000) (hm : m ≤ 1000) (hl : LotsAt w.heap.size w p L) (hq : Row w.heap.size w q m fun k => .int .i64 (f k)) :
    Calls Tryd.prog 21 #[.slice p L.n cap, .slice q m c] w fun e w' => e = .returned (.tuple #[.agg #[.int .i64 (blendS L f m).1, .int .i64 (blendS L f m).2], .agg #[.int .i64 (blendP L f m).1, .int .i64 (blendP L f m).2], .int .i64 (partsB L f m)]) ∧ Pure w w' := by
  have hmx : Tryd.prog.follows .mixedOrders = true := by kernel_rfl
  have HL := Lib.hid hl
  have HQ := Lib.hid hq
  clear hl hq
  go_enter Tryd.func21, Tryd.ntmps21
  go_wp2_with fail
  obtain ⟨X, hX⟩ : ∃ V : World, (w.alloc (.cells #[.int .i64 0, .int .i64 0] 29)).alloc (.cells #[.int .i64 0, .int .i64 0] 29) = V := ⟨_, rfl⟩
  have k0 : Blk w.heap.size 29 #[.int .i64 0, .int .i64 0] X := by rw [← hX]; exact (Blk.new _ _ _).alloc _
  have k1 : Blk (w.heap.size + 1) 29 #[.int .i64 0, .int .i64 0] X := by
    rw [← hX]
    have := Blk.new (w.alloc (.cells #[.int .i64 0, .int .i64 0] 29)) 29 #[.int .i64 0, .int .i64 0]
    rwa [World.size_alloc] at this
  have hP : Pure w X := by rw [← hX]; exact ((Diff.refl _).alloc _).alloc _
  rw [hX]
  clear hX
  refine (RCheckLots_any X L p cap hn (HL.out.to hP)).mono ?_
  rintro e w1 ⟨rfl, hp1⟩
  obtain ⟨G, hG⟩ : ∃ G, w.heap.size + 1 = G := ⟨_, rfl⟩
  have HGG : Hid (w.heap.size + 1 = G) := hG
  rw [hG] at k1 ⊢
  have HP1 := Lib.hid (hP.trans hp1)
  have K0 := Lib.hid (k0.to hp1)
  have K1 := Lib.hid (k1.to hp1)
  clear hG hP hp1 k0 k1
  obtain ⟨ec, hc⟩ : ∃ c, checkL L = c := ⟨_, rfl⟩
  have HC := Lib.hid hc
  rw [hc]
  clear hc
  have HE0 : ∀ e : Int, e ≠ 0 → partsB L f m = e → Hid (partsB L f m = e ∧ blendS L f m = pr0 ∧ blendP L f m = pr0) := fun e h0 h => ⟨h, if_neg (by rw [h]; exact h0), if_neg (by rw [h]; exact h0)⟩
  by_cases h0 : ec = 0
  · subst h0
    by_cases hmn : m = L.n
    · have HMN := Lib.hid hmn
      have hnb : ((m : Int) != (L.n : Int)) = false := by simp [hmn]
      clear hmn
      go_wp2
      go_loopw [7] (fun i wr => ∃ k : Nat, k ≤ m ∧ i = .int .i64 k ∧ Hid (wAll 0 1000 f k = true) ∧ Hid (Pure w1 wr)) (fun i _ => m - (intOf i).toNat)
      case atStart => exact ⟨0, Nat.zero_le _, rfl, rfl, Diff.refl _⟩
      case round =>
        obtain ⟨k, hk, rfl, HA, HPR⟩ := hrel
        by_cases hlt : k < m
        · obtain ⟨b, o, rfl, hb, hcq⟩ := (HQ.out.to HP1.out) k hlt
          have d0 := ((pcell HPR.out).1 _ _ hb).trans hcq
          have hki : (k : Int) < (m : Int) := by omega
          have HF : wIn 0 1000 (f k) = false → Hid (partsB L f m = 3 ∧ blendS L f m = pr0 ∧ blendP L f m = pr0) := fun hv => HE0 3 (by decide) (by unfold partsB; rw [if_neg (by rw [HC.out]; simp), if_neg (by simp [HMN.out]), if_pos (wAll_false hlt hv)])
          have KA := Lib.hid (K0.out.to HPR.out)
          have KB := Lib.hid (K1.out.to HPR.out)
          have HPA := Lib.hid (HP1.out.trans HPR.out)
          clear hcq HE0
          by_cases hs0 : f k < 0
          · have HE := HF (by simp [wIn]; omega)
            clear HF
            have c0 := KA.out.at 0
            have c1 := KA.out.at 1
            have fz := fun o => KA.out.fz o
            have l0 := KA.out.lt
            have kx : Blk G 29 #[.int .i64 0, .int .i64 0] ((wr.setCell { block := w.heap.size, off := 0 } (Value.int IntKind.i64 0)).setCell { block := w.heap.size, off := 1 } (Value.int IntKind.i64 0)) := KB.out.diff ((Diff.refl (O := fun x => x = w.heap.size) wr).set2' rfl _ _) (by have := HGG.out; show ¬ G = w.heap.size; omega)
            have cx0 := kx.at 0
            have cx1 := kx.at 1
            have fx := fun o => kx.fz o
            have lx := KB.out.lt
            clear kx
            go_wp2
            rw [HE.out.1, HE.out.2.1, HE.out.2.2]
            have z1 := (KA.out.set2 (Value.int IntKind.i64 0) (Value.int IntKind.i64 0)).diff ((Diff.refl (O := fun x => x = G) _).set2' rfl (Value.int IntKind.i64 0) (Value.int IntKind.i64 0)) (by have := HGG.out; show ¬ w.heap.size = G; omega)
            have z2 := (KB.out.diff ((Diff.refl (O := fun x => x = w.heap.size) wr).set2' rfl (Value.int IntKind.i64 0) (Value.int IntKind.i64 0)) (by have := HGG.out; show ¬ G = w.heap.size; omega)).set2 (Value.int IntKind.i64 0) (Value.int IntKind.i64 0)
            have HPZ := (HPA.out.set2 (g := w.heap.size) (by have := HGG.out; omega) (Value.int IntKind.i64 0) (Value.int IntKind.i64 0)).set2 (g := G) (by have := HGG.out; omega) (Value.int IntKind.i64 0) (Value.int IntKind.i64 0)
            obtain ⟨Y, hY⟩ : ∃ Y, (((wr.setCell { block := w.heap.size, off := 0 } (Value.int IntKind.i64 0)).setCell { block := w.heap.size, off := 1 } (Value.int IntKind.i64 0)).setCell { block := G, off := 0 } (Value.int IntKind.i64 0)).setCell { block := G, off := 1 } (Value.int IntKind.i64 0) = Y := ⟨_, rfl⟩
            rw [hY] at z1 z2 HPZ ⊢
            clear hY
            exact bodyPost_ret (v := .tuple #[.agg #[.int .i64 0, .int .i64 0], .agg #[.int .i64 0, .int .i64 0], .int .i64 3]) (by simp [results, Tryd.results21, go_sem, z1.at 0, z1.at 1, z2.at 0, z2.at 1]) rfl ⟨rfl, HPZ⟩
          by_cases hs1 : 1000 < f k
          · have HE := HF (by simp [wIn]; omega)
            clear HF
            have c0 := KA.out.at 0
            have c1 := KA.out.at 1
            have fz := fun o => KA.out.fz o
            have l0 := KA.out.lt
            have kx : Blk G 29 #[.int .i64 0, .int .i64 0] ((wr.setCell { block := w.heap.size, off := 0 } (Value.int IntKind.i64 0)).setCell { block := w.heap.size, off := 1 } (Value.int IntKind.i64 0)) := KB.out.diff ((Diff.refl (O := fun x => x = w.heap.size) wr).set2' rfl _ _) (by have := HGG.out; show ¬ G = w.heap.size; omega)
            have cx0 := kx.at 0
            have cx1 := kx.at 1
            have fx := fun o => kx.fz o
            have lx := KB.out.lt
            clear kx
            go_wp2
            rw [HE.out.1, HE.out.2.1, HE.out.2.2]
            have z1 := (KA.out.set2 (Value.int IntKind.i64 0) (Value.int IntKind.i64 0)).diff ((Diff.refl (O := fun x => x = G) _).set2' rfl (Value.int IntKind.i64 0) (Value.int IntKind.i64 0)) (by have := HGG.out; show ¬ w.heap.size = G; omega)
            have z2 := (KB.out.diff ((Diff.refl (O := fun x => x = w.heap.size) wr).set2' rfl (Value.int IntKind.i64 0) (Value.int IntKind.i64 0)) (by have := HGG.out; show ¬ G = w.heap.size; omega)).set2 (Value.int IntKind.i64 0) (Value.int IntKind.i64 0)
            have HPZ := (HPA.out.set2 (g := w.heap.size) (by have := HGG.out; omega) (Value.int IntKind.i64 0) (Value.int IntKind.i64 0)).set2 (g := G) (by have := HGG.out; omega) (Value.int IntKind.i64 0) (Value.int IntKind.i64 0)
            obtain ⟨Y, hY⟩ : ∃ Y, (((wr.setCell { block := w.heap.size, off := 0 } (Value.int IntKind.i64 0)).setCell { block := w.heap.size, off := 1 } (Value.int IntKind.i64 0)).setCell { block := G, off := 0 } (Value.int IntKind.i64 0)).setCell { block := G, off := 1 } (Value.int IntKind.i64 0) = Y := ⟨_, rfl⟩
            rw [hY] at z1 z2 HPZ ⊢
            clear hY
            exact bodyPost_ret (v := .tuple #[.agg #[.int .i64 0, .int .i64 0], .agg #[.int .i64 0, .int .i64 0], .int .i64 3]) (by simp [results, Tryd.results21, go_sem, z1.at 0, z1.at 1, z2.at 0, z2.at 1]) rfl ⟨rfl, HPZ⟩
          have HS : Hid (wAll 0 1000 f (k + 1) = true) := by show _ = true; rw [wAll_succ, HA.out]; simp [wIn]; omega
          clear HF
          go_wp2
          go_roundw
          case rel => exact ⟨k + 1, by omega, by go_num, HS.out, HPR.out⟩
          case measure => simp [intOf]; omega
        · obtain rfl : k = m := by omega
          have HV : Hid (wAll 0 1000 f k = true) := HA.out
          have HFF : Hid (∀ j, j < k → 0 ≤ f j ∧ f j ≤ 1000) := fun j hj => wAll_true HV.out hj
          have hok := checkL_ok.1 HC.out
          have HS0 : Hid (∀ j, j ≤ k → (0 ≤ sumI f j ∧ sumI f j ≤ 1000 * j) ∧ (0 ≤ sumI (fun i => f i * L.s i) j ∧ sumI (fun i => f i * L.s i) j ≤ 100000 * j) ∧ 0 ≤ sumI (fun i => f i * L.p i) j ∧ sumI (fun i => f i * L.p i) j ≤ 1000000 * j) := sums_small hok HFF.out (by rw [HMN.out]; exact Nat.le_refl _)
          have HOK := Lib.hid hok
          clear hok
          obtain ⟨A, hA⟩ : ∃ A, A = sumI f := ⟨_, rfl⟩
          obtain ⟨S, hS⟩ : ∃ S, S = sumI fun i => f i * L.s i := ⟨_, rfl⟩
          obtain ⟨R, hR⟩ : ∃ R, R = sumI fun i => f i * L.p i := ⟨_, rfl⟩
          have HSUM : Hid (A = sumI f ∧ (S = sumI fun i => f i * L.s i) ∧ R = sumI fun i => f i * L.p i) := ⟨hA, hS, hR⟩
          rw [← hA, ← hS, ← hR] at HS0
          have HSA : Hid ((A 0 = 0 ∧ S 0 = 0 ∧ R 0 = 0) ∧ ∀ k, A (k + 1) = A k + f k ∧ S (k + 1) = S k + f k * L.s k ∧ R (k + 1) = R k + f k * L.p k) := by
            rw [hA, hS, hR]; exact ⟨⟨rfl, rfl, rfl⟩, fun k => ⟨rfl, rfl, rfl⟩⟩
          have HPW := Lib.hid (HP1.out.trans HPR.out)
          have KA := Lib.hid (K0.out.to HPR.out)
          have KB := Lib.hid (K1.out.to HPR.out)
          clear hA hS hR
          rename World => w2
          go_wp2
          go_loopw [8, 9, 10, 11] (fun la ls lp i wr => ∃ j : Nat, j ≤ k ∧ ls = .int .i64 (S j) ∧ lp = .int .i64 (R j) ∧ la = .int .i64 (A j) ∧ i = .int .i64 j ∧ Hid (Pure w2 wr)) (fun _ _ _ i _ => k - (intOf i).toNat)
          case atStart => exact ⟨0, Nat.zero_le _, by rw [HSA.out.1.2.1], by rw [HSA.out.1.2.2], by rw [HSA.out.1.1], rfl, Diff.refl _⟩
          case round =>
            obtain ⟨j, hj, rfl, rfl, rfl, rfl, HPJ⟩ := hrel
            rename World => wj
            by_cases hjl : j < k
            · obtain ⟨b, o, hqa, hb, hcq⟩ := (HQ.out.to HPW.out) j hjl
              obtain ⟨b2, o2, hpa, hb2, hc1, hc2⟩ := (HL.out.to HPW.out) j (by rw [← HMN.out]; exact hjl)
              subst hqa hpa
              have d0 := ((pcell HPJ.out).1 _ _ hb).trans hcq
              have d1 := ((pcell HPJ.out).1 _ _ hb2).trans hc1
              have d2 := ((pcell HPJ.out).1 _ _ hb2).trans hc2
              have lb := Nat.lt_of_lt_of_le hb HPJ.out.size
              have lb2 := Nat.lt_of_lt_of_le hb2 HPJ.out.size
              have hki : (j : Int) < (k : Int) := by omega
              have hkl : (j : Int) < (L.n : Int) := by rw [← HMN.out]; omega
              have b0 := HS0.out j (by omega)
              have b1 := HS0.out (j + 1) (by omega)
              rw [(HSA.out.2 j).1, (HSA.out.2 j).2.1, (HSA.out.2 j).2.2] at b1
              have fb := HFF.out j hjl
              have m1 := mul_bnd 1000 100 (a := f j) (b := L.s j) (by omega) (by omega) (by have := (HOK.out.s0 j (by rw [← HMN.out]; exact hjl)); omega) (by have := (HOK.out.s1 j (by rw [← HMN.out]; exact hjl)); omega)
              have m2 := mul_bnd 1000 1000 (a := f j) (b := L.p j) (by omega) (by omega) (by have := (HOK.out.p0 j (by rw [← HMN.out]; exact hjl)); omega) (by have := (HOK.out.p1 j (by rw [← HMN.out]; exact hjl)); omega)
              have w1' : IntKind.i64.wrap (f j * L.s j) = f j * L.s j := IntWalk.i64_in _ (by omega)
              have w2' : IntKind.i64.wrap (f j * L.p j) = f j * L.p j := IntWalk.i64_in _ (by omega)
              have w3' : IntKind.i64.wrap (S j + f j * L.s j) = S j + f j * L.s j := IntWalk.i64_in _ (by omega)
              have w4' : IntKind.i64.wrap (R j + f j * L.p j) = R j + f j * L.p j := IntWalk.i64_in _ (by omega)
              have w5' : IntKind.i64.wrap (A j + f j) = A j + f j := IntWalk.i64_in _ (by omega)
              clear hc1 hc2 hcq b0 b1 fb m1 m2
              go_wp2
              go_region
              go_wp2
              go_region
              go_wp2
              go_roundw
              case rel => exact ⟨j + 1, by omega, by rw [(HSA.out.2 j).2.1], by rw [(HSA.out.2 j).2.2], by rw [(HSA.out.2 j).1], by go_num, HPJ.out.drew.drew⟩
              case measure => simp [intOf]; omega
            · obtain rfl : j = k := by omega
              have b1 := (HS0.out j (Nat.le_refl _)).1
              have b2 := (HS0.out j (Nat.le_refl _)).2.1
              have b3 := (HS0.out j (Nat.le_refl _)).2.2
              by_cases hz : A j = 0
              · have hzb : (A j == 0) = true := by simpa using hz
                have HE := HE0 6 (by decide) (by unfold partsB; rw [if_neg (by rw [HC.out]; simp), if_neg (by simp [HMN.out]), if_neg (by simp [HV.out]), if_pos (by rw [← HSUM.out.1]; exact hz)])
                have K03 := Lib.hid (KA.out.to HPJ.out)
                have K13 := Lib.hid (KB.out.to HPJ.out)
                have HP3 := Lib.hid (HPW.out.trans HPJ.out)
                clear HE0 b1 b2 b3
                have c0 := K03.out.at 0
                have c1 := K03.out.at 1
                have fz := fun o => K03.out.fz o
                have l0 := K03.out.lt
                have kx : Blk G 29 #[.int .i64 0, .int .i64 0] ((wj.setCell { block := w.heap.size, off := 0 } (Value.int IntKind.i64 0)).setCell { block := w.heap.size, off := 1 } (Value.int IntKind.i64 0)) := K13.out.diff ((Diff.refl (O := fun x => x = w.heap.size) wj).set2' rfl _ _) (by have := HGG.out; show ¬ G = w.heap.size; omega)
                have cx0 := kx.at 0
                have cx1 := kx.at 1
                have fx := fun o => kx.fz o
                have lx := K13.out.lt
                clear kx
                go_wp2
                rw [HE.out.1, HE.out.2.1, HE.out.2.2]
                have z1 := (K03.out.set2 (Value.int IntKind.i64 0) (Value.int IntKind.i64 0)).diff ((Diff.refl (O := fun x => x = G) _).set2' rfl (Value.int IntKind.i64 0) (Value.int IntKind.i64 0)) (by have := HGG.out; show ¬ w.heap.size = G; omega)
                have z2 := (K13.out.diff ((Diff.refl (O := fun x => x = w.heap.size) wj).set2' rfl (Value.int IntKind.i64 0) (Value.int IntKind.i64 0)) (by have := HGG.out; show ¬ G = w.heap.size; omega)).set2 (Value.int IntKind.i64 0) (Value.int IntKind.i64 0)
                have HPZ := (HP3.out.set2 (g := w.heap.size) (by have := HGG.out; omega) (Value.int IntKind.i64 0) (Value.int IntKind.i64 0)).set2 (g := G) (by have := HGG.out; omega) (Value.int IntKind.i64 0) (Value.int IntKind.i64 0)
                obtain ⟨Y, hY⟩ : ∃ Y, (((wj.setCell { block := w.heap.size, off := 0 } (Value.int IntKind.i64 0)).setCell { block := w.heap.size, off := 1 } (Value.int IntKind.i64 0)).setCell { block := G, off := 0 } (Value.int IntKind.i64 0)).setCell { block := G, off := 1 } (Value.int IntKind.i64 0) = Y := ⟨_, rfl⟩
                rw [hY] at z1 z2 HPZ ⊢
                clear hY
                exact bodyPost_ret (v := .tuple #[.agg #[.int .i64 0, .int .i64 0], .agg #[.int .i64 0, .int .i64 0], .int .i64 6]) (by simp [results, Tryd.results21, go_sem, z1.at 0, z1.at 1, z2.at 0, z2.at 1]) rfl ⟨rfl, HPZ⟩
              · have hzb : (A j == 0) = false := by simpa using hz
                have hAp : 0 < A j := by omega
                have HE : Hid (partsB L f j = 0 ∧ blendS L f j = (redN (S j) (A j), redD (S j) (A j)) ∧ blendP L f j = (redN (R j) (A j), redD (R j) (A j))) := by
                  have h : partsB L f j = 0 := by unfold partsB; rw [if_neg (by rw [HC.out]; simp), if_neg (by simp [HMN.out]), if_neg (by simp [HV.out]), if_neg (by rw [← HSUM.out.1]; exact hz)]
                  refine ⟨h, ?_, ?_⟩
                  · unfold blendS; rw [if_pos h, HSUM.out.1, HSUM.out.2.1]
                  · unfold blendP; rw [if_pos h, HSUM.out.1, HSUM.out.2.2]
                clear HE0 hz
                go_wp2_with fail
                refine (RBy_any wj (S j) (A j) ⟨by omega, by omega⟩ ⟨hAp, by omega⟩).mono ?_
                rintro e w4 ⟨rfl, hp4⟩
                have HP4 := Lib.hid hp4
                clear hp4
                go_wp2_with fail
                refine (RBy_any w4 (R j) (A j) ⟨by omega, by omega⟩ ⟨hAp, by omega⟩).mono ?_
                rintro e w5 ⟨rfl, hp5⟩
                have K03 := Lib.hid (KA.out.to (HPJ.out.trans (HP4.out.trans hp5)))
                have K13 := Lib.hid (KB.out.to (HPJ.out.trans (HP4.out.trans hp5)))
                have HP3 := Lib.hid (HPW.out.trans (HPJ.out.trans (HP4.out.trans hp5)))
                clear b1 b2 b3 hp5 hAp
                obtain ⟨u1, hu1⟩ : ∃ u, redN (S j) (A j) = u := ⟨_, rfl⟩
                obtain ⟨u2, hu2⟩ : ∃ u, redD (S j) (A j) = u := ⟨_, rfl⟩
                obtain ⟨u3, hu3⟩ : ∃ u, redN (R j) (A j) = u := ⟨_, rfl⟩
                obtain ⟨u4, hu4⟩ : ∃ u, redD (R j) (A j) = u := ⟨_, rfl⟩
                rw [hu1, hu2, hu3, hu4] at HE
                rw [hu1, hu2, hu3, hu4]
                clear hu1 hu2 hu3 hu4
                have c0 := K03.out.at 0
                have c1 := K03.out.at 1
                have fz := fun o => K03.out.fz o
                have l0 := K03.out.lt
                have kx : Blk G 29 #[.int .i64 0, .int .i64 0] ((w5.setCell { block := w.heap.size, off := 0 } (Value.int IntKind.i64 u1)).setCell { block := w.heap.size, off := 1 } (Value.int IntKind.i64 u2)) := K13.out.diff ((Diff.refl (O := fun x => x = w.heap.size) w5).set2' rfl _ _) (by have := HGG.out; show ¬ G = w.heap.size; omega)
                have cx0 := kx.at 0
                have cx1 := kx.at 1
                have fx := fun o => kx.fz o
                have lx := K13.out.lt
                clear kx
                go_wp2
                rw [HE.out.1, HE.out.2.1, HE.out.2.2]
                have z1 := (K03.out.set2 (Value.int IntKind.i64 u1) (Value.int IntKind.i64 u2)).diff ((Diff.refl (O := fun x => x = G) _).set2' rfl (Value.int IntKind.i64 u3) (Value.int IntKind.i64 u4)) (by have := HGG.out; show ¬ w.heap.size = G; omega)
                have z2 := (K13.out.diff ((Diff.refl (O := fun x => x = w.heap.size) w5).set2' rfl (Value.int IntKind.i64 u1) (Value.int IntKind.i64 u2)) (by have := HGG.out; show ¬ G = w.heap.size; omega)).set2 (Value.int IntKind.i64 u3) (Value.int IntKind.i64 u4)
                have HPZ := (HP3.out.set2 (g := w.heap.size) (by have := HGG.out; omega) (Value.int IntKind.i64 u1) (Value.int IntKind.i64 u2)).set2 (g := G) (by have := HGG.out; omega) (Value.int IntKind.i64 u3) (Value.int IntKind.i64 u4)
                obtain ⟨Y, hY⟩ : ∃ Y, (((w5.setCell { block := w.heap.size, off := 0 } (Value.int IntKind.i64 u1)).setCell { block := w.heap.size, off := 1 } (Value.int IntKind.i64 u2)).setCell { block := G, off := 0 } (Value.int IntKind.i64 u3)).setCell { block := G, off := 1 } (Value.int IntKind.i64 u4) = Y := ⟨_, rfl⟩
                rw [hY] at z1 z2 HPZ ⊢
                clear hY
                exact bodyPost_ret (v := .tuple #[.agg #[.int .i64 u1, .int .i64 u2], .agg #[.int .i64 u3, .int .i64 u4], .int .i64 0]) (by simp [results, Tryd.results21, go_sem, z1.at 0, z1.at 1, z2.at 0, z2.at 1]) rfl ⟨rfl, HPZ⟩
    · have hnb : ((m : Int) != (L.n : Int)) = true := by simp; omega
      have HE := HE0 15 (by decide) (by unfold partsB; rw [if_neg (by rw [HC.out]; simp), if_pos hmn])
      clear HE0
      have c0 := K0.out.at 0
      have c1 := K0.out.at 1
      have fz := fun o => K0.out.fz o
      have l0 := K0.out.lt
      have kx : Blk G 29 #[.int .i64 0, .int .i64 0] ((w1.setCell { block := w.heap.size, off := 0 } (Value.int IntKind.i64 0)).setCell { block := w.heap.size, off := 1 } (Value.int IntKind.i64 0)) := K1.out.diff ((Diff.refl (O := fun x => x = w.heap.size) w1).set2' rfl _ _) (by have := HGG.out; show ¬ G = w.heap.size; omega)
      have cx0 := kx.at 0
      have cx1 := kx.at 1
      have fx := fun o => kx.fz o
      have lx := K1.out.lt
      clear kx
      go_wp2
      rw [HE.out.1, HE.out.2.1, HE.out.2.2]
      have z1 := (K0.out.set2 (Value.int IntKind.i64 0) (Value.int IntKind.i64 0)).diff ((Diff.refl (O := fun x => x = G) _).set2' rfl (Value.int IntKind.i64 0) (Value.int IntKind.i64 0)) (by have := HGG.out; show ¬ w.heap.size = G; omega)
      have z2 := (K1.out.diff ((Diff.refl (O := fun x => x = w.heap.size) w1).set2' rfl (Value.int IntKind.i64 0) (Value.int IntKind.i64 0)) (by have := HGG.out; show ¬ G = w.heap.size; omega)).set2 (Value.int IntKind.i64 0) (Value.int IntKind.i64 0)
      have HPZ := (HP1.out.set2 (g := w.heap.size) (by have := HGG.out; omega) (Value.int IntKind.i64 0) (Value.int IntKind.i64 0)).set2 (g := G) (by have := HGG.out; omega) (Value.int IntKind.i64 0) (Value.int IntKind.i64 0)
      obtain ⟨Y, hY⟩ : ∃ Y, (((w1.setCell { block := w.heap.size, off := 0 } (Value.int IntKind.i64 0)).setCell { block := w.heap.size, off := 1 } (Value.int IntKind.i64 0)).setCell { block := G, off := 0 } (Value.int IntKind.i64 0)).setCell { block := G, off := 1 } (Value.int IntKind.i64 0) = Y := ⟨_, rfl⟩
      rw [hY] at z1 z2 HPZ ⊢
      clear hY
      exact bodyPost_ret (v := .tuple #[.agg #[.int .i64 0, .int .i64 0], .agg #[.int .i64 0, .int .i64 0], .int .i64 15]) (by simp [results, Tryd.results21, go_sem, z1.at 0, z1.at 1, z2.at 0, z2.at 1]) rfl ⟨rfl, HPZ⟩
  · have hb : (ec != 0) = true := by simpa using h0
    have HE := HE0 ec h0 (by unfold partsB; rw [if_pos (by rw [HC.out]; exact h0)]; exact HC.out)
    clear HE0
    go_wp2_with fail
    refine (RCheckLots_any w1 L p cap hn (HL.out.to HP1.out)).mono ?_
    rintro e w2 ⟨rfl, hp2⟩
    have HP2 := Lib.hid (HP1.out.trans hp2)
    have K02 := Lib.hid (K0.out.to hp2)
    have K12 := Lib.hid (K1.out.to hp2)
    clear hp2
    rw [HC.out]
    have c0 := K02.out.at 0
    have c1 := K02.out.at 1
    have fz := fun o => K02.out.fz o
    have l0 := K02.out.lt
    have kx : Blk G 29 #[.int .i64 0, .int .i64 0] ((w2.setCell { block := w.heap.size, off := 0 } (Value.int IntKind.i64 0)).setCell { block := w.heap.size, off := 1 } (Value.int IntKind.i64 0)) := K12.out.diff ((Diff.refl (O := fun x => x = w.heap.size) w2).set2' rfl _ _) (by have := HGG.out; show ¬ G = w.heap.size; omega)
    have cx0 := kx.at 0
    have cx1 := kx.at 1
    have fx := fun o => kx.fz o
    have lx := K12.out.lt
    clear kx
    go_wp2
    rw [HE.out.1, HE.out.2.1, HE.out.2.2]
    have z1 := (K02.out.set2 (Value.int IntKind.i64 0) (Value.int IntKind.i64 0)).diff ((Diff.refl (O := fun x => x = G) _).set2' rfl (Value.int IntKind.i64 0) (Value.int IntKind.i64 0)) (by have := HGG.out; show ¬ w.heap.size = G; omega)
    have z2 := (K12.out.diff ((Diff.refl (O := fun x => x = w.heap.size) w2).set2' rfl (Value.int IntKind.i64 0) (Value.int IntKind.i64 0)) (by have := HGG.out; show ¬ G = w.heap.size; omega)).set2 (Value.int IntKind.i64 0) (Value.int IntKind.i64 0)
    have HPZ := (HP2.out.set2 (g := w.heap.size) (by have := HGG.out; omega) (Value.int IntKind.i64 0) (Value.int IntKind.i64 0)).set2 (g := G) (by have := HGG.out; omega) (Value.int IntKind.i64 0) (Value.int IntKind.i64 0)
    obtain ⟨Y, hY⟩ : ∃ Y, (((w2.setCell { block := w.heap.size, off := 0 } (Value.int IntKind.i64 0)).setCell { block := w.heap.size, off := 1 } (Value.int IntKind.i64 0)).setCell { block := G, off := 0 } (Value.int IntKind.i64 0)).setCell { block := G, off := 1 } (Value.int IntKind.i64 0) = Y := ⟨_, rfl⟩
    rw [hY] at z1 z2 HPZ ⊢
    clear hY
    exact bodyPost_ret (v := .tuple #[.agg #[.int .i64 0, .int .i64 0], .agg #[.int .i64 0, .int .i64 0], .int .i64 ec]) (by simp [results, Tryd.results21, go_sem, z1.at 0, z1.at 1, z2.at 0, z2.at 1]) rfl ⟨rfl, HPZ⟩
end Go.Proofs.YtgpfmnjianflaaaDoor
namespace Go.Proofs.YtgpfmnjianflaaaDoor
open Go.RowKit

theorem lby_any (w : World) (a b : Int) :
    Calls Tryd.prog 31 #[.int .i64 a, .int .i64 b] w fun e w' => e = .returned (.agg #[.int .i64 a, .int .i64 b]) ∧ Pure w w' := by
  have hP : Hid (Pure w (w.alloc (.cells #[.int .i64 0, .int .i64 0] 29))) := (Diff.refl _).alloc _
  go_enter Tryd.func31, Tryd.ntmps31
  go_wp2_with fail
  refine bodyPost_ret (v := .agg #[.int .i64 a, .int .i64 b]) ?_ rfl ⟨rfl, ?_⟩
  · simp [results, Tryd.results31, go_sem]
  · exact (Diff.refl w).alloc _
theorem lof_any (w : World) (v : Value) (q : Option Addr) (n c : Nat) (hv : v = .slice q n c) : Calls Tryd.prog 60 #[v] w fun e w' => e = .returned v ∧ Pure w w' := by
  subst hv
  go_enter Tryd.func60, Tryd.ntmps60
  go_wp2
  exact bodyPost_ret (v := .slice q n c) (by simp [results, Tryd.results60, go_sem]) rfl ⟨rfl, Diff.refl _⟩
theorem llongs_any (w : World) (v : Value) (q : Option Addr) (n c : Nat) (hv : v = .slice q n c) : Calls Tryd.prog 59 #[v] w fun e w' => e = .returned v ∧ Pure w w' := by
  subst hv
  go_enter Tryd.func59, Tryd.ntmps59
  go_wp2
  exact bodyPost_ret (v := .slice q n c) (by simp [results, Tryd.results59, go_sem]) rfl ⟨rfl, Diff.refl _⟩
def eqTo (f g : Nat → Int) (n : Nat) : Bool := (List.range n).all fun k => f k == g k
theorem eqTo_succ (f g : Nat → Int) (n : Nat) : eqTo f g (n + 1) = (eqTo f g n && (f n == g n)) := by simp [eqTo, List.range_succ]
theorem eqTo_false {f g : Nat → Int} {n k : Nat} (hk : k < n) (h : ¬ f k = g k) : eqTo f g n = false := by
  rw [eqTo, List.all_eq_false]
  exact ⟨k, List.mem_range.2 hk, by simpa using h⟩
/-- Two lists of numbers are the same. -/
def intsB (f g : Nat → Int) (n m : Nat) : Bool := decide (n = m) && eqTo f g n
theorem Ints_any (w : World) (p q : Option Addr) (n m c d : Nat) (f g : Nat → Int) (hn : n ≤ 1000) (hm : m ≤ 1000) (hp : Row w.heap.size w p n fun k => .int .i64 (f k)) (hq : Row w.heap.size w q m fun k => .int .i64 (g k)) :
    Calls Tryd.prog 44 #[.slice p n c, .slice q m d] w fun e w' => e = .returned (.bool (intsB f g n m)) ∧ Pure w w' := by
  by_cases hnm : n = m
  · have HNM := Lib.hid hnm
    have hnb : ((n : Int) != (m : Int)) = false := by simp [hnm]
    have HA := Lib.hid hp
    have HB := Lib.hid hq
    clear hnm hp hq
    go_enter Tryd.func44, Tryd.ntmps44
    go_wp2
    go_loopw [5] (fun i wr => ∃ k : Nat, k ≤ n ∧ i = .int .i64 k ∧ Hid (eqTo f g k = true) ∧ Hid (Pure w wr)) (fun i _ => n - (intOf i).toNat)
    case atStart => exact ⟨0, Nat.zero_le _, rfl, rfl, Diff.refl _⟩
    case round =>
      obtain ⟨k, hk, rfl, HE, HP⟩ := hrel
      by_cases hlt : k < n
      · obtain ⟨b, o, rfl, hb, hc⟩ := HA.out k hlt
        obtain ⟨b', o', rfl, hb', hc'⟩ := HB.out k (by rw [← HNM.out]; exact hlt)
        have d0 := ((pcell HP.out).1 _ _ hb).trans hc
        have d1 := ((pcell HP.out).1 _ _ hb').trans hc'
        have l0 := Nat.lt_of_lt_of_le hb HP.out.size
        have l1 := Nat.lt_of_lt_of_le hb' HP.out.size
        have hki : (k : Int) < (n : Int) := by omega
        have hkm : (k : Int) < (m : Int) := by rw [← HNM.out]; omega
        clear hc hc'
        by_cases hfg : f k = g k
        · have hb1 : (f k != g k) = false := by simpa using hfg
          have HS : Hid (eqTo f g (k + 1) = true) := by show _ = true; rw [eqTo_succ, HE.out]; simpa using hfg
          clear hfg
          go_wp2
          go_region
          go_wp2
          go_roundw
          case rel => exact ⟨k + 1, by omega, by go_num, HS.out, HP.out.drew⟩
          case measure => simp [intOf]; omega
        · have hb1 : (f k != g k) = true := by simpa using hfg
          have HF : Hid (intsB f g n m = false) := by show _ = false; unfold intsB; rw [eqTo_false hlt hfg]; simp
          go_wp2
          go_region
          go_wp2
          exact bodyPost_ret (v := .bool false) (by simp [results, Tryd.results44, go_sem]) rfl ⟨by rw [HF.out], HP.out.drew⟩
      · obtain rfl : k = n := by omega
        have HF : Hid (intsB f g k m = true) := by show _ = true; unfold intsB; rw [HE.out]; simp [HNM.out]
        go_wp2
        exact bodyPost_ret (v := .bool true) (by simp [results, Tryd.results44, go_sem]) rfl ⟨by rw [HF.out], HP.out⟩
  · have hnb : ((n : Int) != (m : Int)) = true := by simp; omega
    have HF : Hid (intsB f g n m = false) := by show _ = false; unfold intsB; simp [hnm]
    go_enter Tryd.func44, Tryd.ntmps44
    go_wp2
    exact bodyPost_ret (v := .bool false) (by simp [results, Tryd.results44, go_sem]) rfl ⟨by rw [HF.out], Diff.refl _⟩
end Go.Proofs.YtgpfmnjianflaaaDoor
namespace Go.Proofs.YtgpfmnjianflaaaDoor
open Go.RowKit

theorem lline_any (w : World) (a b d : Int) :
    Calls Tryd.prog 37 #[.int .i64 a, .int .i64 b, .int .i64 d] w fun e w' => e = .returned (.agg #[.int .i64 a, .int .i64 b, .int .i64 d]) ∧ Pure w w' := by
  go_enter Tryd.func37, Tryd.ntmps37
  go_wp2_with fail
  refine bodyPost_ret (v := .agg #[.int .i64 a, .int .i64 b, .int .i64 d]) ?_ rfl ⟨rfl, ?_⟩
  · simp [results, Tryd.results37, go_sem]
  · exact (Diff.refl w).alloc _
theorem RLess_any (w : World) (a b c d : Int) (ha : -1000000000 ≤ a ∧ a ≤ 1000000000) (hb : -1000000000 ≤ b ∧ b ≤ 1000000000) (hc : -1000000000 ≤ c ∧ c ≤ 1000000000) (hd : -1000000000 ≤ d ∧ d ≤ 1000000000) :
    Calls Tryd.prog 52 #[.agg #[.int .i64 a, .int .i64 b], .agg #[.int .i64 c, .int .i64 d]] w fun e w' => e = .returned (.bool (decide (a * d < c * b))) ∧ Pure w w' := by
  have m1 := mul_bnd (a := a) (b := d) 1000000000 1000000000 ha.1 ha.2 hd.1 hd.2
  have m2 := mul_bnd (a := c) (b := b) 1000000000 1000000000 hc.1 hc.2 hb.1 hb.2
  have w1' : IntKind.i64.wrap (a * d) = a * d := IntWalk.i64_in _ (by omega)
  have w2' : IntKind.i64.wrap (c * b) = c * b := IntWalk.i64_in _ (by omega)
  have hP : Hid (Pure w ((w.alloc (.cells #[.int .i64 a, .int .i64 b] 29)).alloc (.cells #[.int .i64 c, .int .i64 d] 29))) := ((Diff.refl _).alloc _).alloc _
  clear m1 m2 ha hb hc hd
  go_enter Tryd.func52, Tryd.ntmps52
  go_wp2
  refine bodyPost_ret (v := .bool (decide (a * d < c * b))) ?_ rfl ⟨rfl, hP.out⟩
  simp [results, Tryd.results52, go_sem]
end Go.Proofs.YtgpfmnjianflaaaDoor
