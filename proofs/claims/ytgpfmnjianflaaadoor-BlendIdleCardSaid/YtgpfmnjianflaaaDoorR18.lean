/- Walks of the law's helpers: fine, sharpness, small. -/
import Derived.Test.YtgpfmnjianflaaaDoorH1
set_option linter.unusedSimpArgs false
set_option linter.unusedVariables false
set_option linter.constructorNameAsVariable false
namespace Go.Proofs.YtgpfmnjianflaaaDoor
open Go.RowKit

/-- Lots are valid. -/
def fineB (L : LT) : Bool := !decide (14 < L.n) && (checkL L == 0)
theorem fineB_iff {L : LT} : fineB L = true ↔ L.Ok := by
  unfold fineB
  constructor
  · intro h
    rw [Bool.and_eq_true] at h
    exact checkL_ok.1 (by simpa using h.2)
  · intro h
    have h8 := h.n8
    have h1 : decide (14 < L.n) = false := by simp; omega
    rw [h1, checkL_ok.2 h]; rfl
theorem fine_any (w : World) (L : LT) (p : Option Addr) (cap : Nat) (hl : LotsAt w.heap.size w p L) :
    Calls Tryd.prog 45 #[.slice p L.n cap] w fun e w' => e = .returned (.bool (fineB L)) ∧ Pure w w' := by
  have HL := Lib.hid hl
  clear hl
  go_enter Tryd.func45, Tryd.ntmps45
  go_wp2_with fail
  refine (great_any w L p cap).mono ?_
  rintro e w1 ⟨rfl, hp1⟩
  have HP1 := Lib.hid hp1
  have HL1 := Lib.hid (HL.out.to hp1)
  clear hp1
  by_cases h14 : 14 < L.n
  · have hb : decide (14 < L.n) = true := by simpa using h14
    have HF : Hid (fineB L = false) := by show _ = _; unfold fineB; rw [hb]; rfl
    rw [hb]
    go_wp2
    exact bodyPost_ret (v := .bool false) (by simp [results, Tryd.results45, go_sem]) rfl ⟨by rw [HF.out], HP1.out⟩
  · have hb : decide (14 < L.n) = false := by simpa using h14
    have hLn : L.n ≤ 1000 := by omega
    have HF : Hid (fineB L = (checkL L == 0)) := by show _ = _; unfold fineB; rw [hb]; rfl
    rw [hb]
    go_wp2_with fail
    refine (RCheckLots_any w1 L p cap hLn HL1.out).mono ?_
    rintro e w2 ⟨rfl, hp2⟩
    have HP2 := Lib.hid (HP1.out.trans hp2)
    clear hp2
    obtain ⟨z, hz⟩ : ∃ z, checkL L = z := ⟨_, rfl⟩
    rw [hz] at HF ⊢
    clear hz
    by_cases hz0 : z = 0
    · subst hz0
      go_wp2
      exact bodyPost_ret (v := .bool true) (by simp [results, Tryd.results45, go_sem]) rfl ⟨by rw [HF.out]; rfl, HP2.out⟩
    · have hzb : (z == 0) = false := by simpa using hz0
      go_wp2
      exact bodyPost_ret (v := .bool false) (by simp [results, Tryd.results45, go_sem]) rfl ⟨by rw [HF.out, hzb], HP2.out⟩
/-- A sharpness, by a number. -/
def shp (n : Int) : Int := n % 101
theorem shp_in (n : Int) : 0 ≤ shp n ∧ shp n ≤ 100 := by unfold shp; omega
theorem sharpness_any (w : World) (n : Int) (hn : 0 ≤ n ∧ n ≤ 255) : Calls Tryd.prog 46 #[.int .u8 n] w fun e w' => e = .returned (.int .i64 (shp n)) ∧ Pure w w' := by
  have hw : IntKind.i64.wrap n = n := IntWalk.i64_in _ (by omega)
  have ht : n.tmod 101 = n % 101 := Int.tmod_eq_emod_of_nonneg hn.1
  have hw2 : IntKind.i64.wrap (n.tmod 101) = n % 101 := by rw [ht]; exact IntWalk.i64_in _ (by omega)
  go_enter Tryd.func46, Tryd.ntmps46
  go_wp2
  exact bodyPost_ret (v := .int .i64 (shp n)) (by simp [results, Tryd.results46, go_sem, shp]) rfl ⟨rfl, Diff.refl _⟩
set_option maxRecDepth 20000 in
set_option maxHeartbeats 4000000 in
theorem small_any (w : World) (u y : Int) (hb : 1 ≤ y ∧ y ≤ 10000) (ha : 0 ≤ u ∧ u ≤ 1000 * y) (hr : redN u y = u ∧ redD u y = y) :
    Calls Tryd.prog 49 #[.agg #[.int .i64 u, .int .i64 y]] w fun e w' => e = .returned (.bool true) ∧ Pure w w' := by
  have hmx : Tryd.prog.follows .mixedOrders = true := by kernel_rfl
  have HR := Lib.hid hr
  obtain ⟨b1, b2⟩ := hb
  obtain ⟨a1, a2⟩ := ha
  have HAB : Hid ((1 ≤ y ∧ y ≤ 10000) ∧ 0 ≤ u ∧ u ≤ 1000 * y) := ⟨⟨b1, b2⟩, a1, a2⟩
  have hwb : IntKind.i64.wrap (1000 * y) = 1000 * y := IntWalk.i64_in _ (by omega)
  clear hr
  go_enter Tryd.func49, Tryd.ntmps49
  go_wp2_with fail
  obtain ⟨X, hX⟩ : ∃ V : World, w.alloc (.cells #[.int .i64 u, .int .i64 y] 29) = V := ⟨_, rfl⟩
  have k0 : Blk w.heap.size 29 #[.int .i64 u, .int .i64 y] X := by rw [← hX]; exact Blk.new _ _ _
  have hP : Pure w X := by rw [← hX]; exact (Diff.refl _).alloc _
  rw [hX]
  have HK := Lib.hid k0
  have HPX := Lib.hid hP
  clear hX k0 hP
  obtain ⟨g, hg⟩ : ∃ g, w.heap.size = g := ⟨_, rfl⟩
  rw [hg] at HK ⊢
  clear hg
  refine reg_invW (fun d a W => a = { tmps := #[Value.agg #[Value.int IntKind.i64 u, Value.int IntKind.i64 y], Value.pointer (some { block := g, off := 0 }), (bif d 30 then Value.bool true else Value.bool false), (bif d 0 then Value.pointer (some { block := g, off := 1 }) else undef), (bif d 1 then Value.int IntKind.i64 (y) else undef), (bif d 2 then Value.bool true else undef), (bif d 3 then Value.bool true else undef), (bif d 4 then Value.pointer (some { block := g, off := 1 }) else undef), (bif d 5 then Value.int IntKind.i64 (y) else undef), (bif d 6 then Value.bool true else undef), (bif d 7 then Value.bool true else undef), (bif d 8 then Value.bool true else undef), (bif d 9 then Value.pointer (some { block := g, off := 0 }) else undef), (bif d 10 then Value.int IntKind.i64 (u) else undef), (bif d 11 then Value.bool true else undef), (bif d 12 then Value.bool true else undef), (bif d 13 then Value.bool true else undef), (bif d 14 then Value.pointer (some { block := g, off := 0 }) else undef), (bif d 15 then Value.int IntKind.i64 (u) else undef), (bif d 16 then Value.pointer (some { block := g, off := 1 }) else undef), (bif d 17 then Value.int IntKind.i64 (y) else undef), (bif d 18 then Value.int IntKind.i64 (1000 * y) else undef), (bif d 19 then Value.bool true else undef), (bif d 20 then Value.bool true else undef), (bif d 21 then Value.bool true else undef), (bif d 22 then Value.pointer (some { block := g, off := 0 }) else undef), (bif d 23 then Value.int IntKind.i64 (u) else undef), (bif d 24 then Value.pointer (some { block := g, off := 1 }) else undef), (bif d 25 then Value.int IntKind.i64 (y) else undef), (bif d 26 then Value.agg #[Value.int IntKind.i64 u, Value.int IntKind.i64 y] else undef), (bif d 27 then Value.agg #[Value.int IntKind.i64 u, Value.int IntKind.i64 y] else undef), (bif d 28 then Value.bool true else undef), (bif d 29 then Value.bool true else undef)], defers := [] } ∧ Pure X W) hmx (by kernel_rfl) ?_ ?_ ?_
  · exact ⟨rfl, (Diff.refl _).drew⟩
  · refine ⟨?_, ?_, ?_, ?_, ?_, ?_, ?_, ?_, ?_, ?_, ?_, ?_, ?_, ?_, ?_, ?_, ?_, ?_, ?_, ?_, ?_, ?_, ?_, ?_, ?_, ?_, ?_, ?_, ?_, ?_, ?_, trivial⟩
    · rintro d a W hdi hdep hcl ⟨rfl, hw⟩ K hK
      have E := hcl.facts 0 hdi rfl hdep [] [1, 2, 3, 4, 5, 6, 7, 8, 9, 10, 11, 12, 13, 14, 15, 16, 17, 18, 19, 20, 21, 22, 23, 24, 25, 26, 27, 28, 29, 30] (by kernel_rfl) (by kernel_rfl)
      simp only [AllT, AllF] at E
      clear hdi hdep hcl
      go_simp
      exact hK _ _ ⟨by simp [upd, E], hw⟩
    · rintro d a W hdi hdep hcl ⟨rfl, hw⟩ K hK
      have E := hcl.facts 1 hdi rfl hdep [0] [2, 3, 4, 5, 6, 7, 8, 9, 10, 11, 12, 13, 14, 15, 16, 17, 18, 19, 20, 21, 22, 23, 24, 25, 26, 27, 28, 29, 30] (by kernel_rfl) (by kernel_rfl)
      simp only [AllT, AllF] at E
      clear hdi hdep hcl
      have z := HK.out.to hw
      have z0 := z.at 0
      have z1 := z.at 1
      have zl := z.lt
      clear z
      go_simp
      exact hK _ _ ⟨by simp [upd, E], hw⟩
    · rintro d a W hdi hdep hcl ⟨rfl, hw⟩ K hK
      have E := hcl.facts 2 hdi rfl hdep [0, 1] [3, 4, 5, 6, 7, 8, 9, 10, 11, 12, 13, 14, 15, 16, 17, 18, 19, 20, 21, 22, 23, 24, 25, 26, 27, 28, 29, 30] (by kernel_rfl) (by kernel_rfl)
      simp only [AllT, AllF] at E
      clear hdi hdep hcl
      go_simp
      exact hK _ _ ⟨by simp [upd, E], hw⟩
    · rintro d a W hdi hdep hcl ⟨rfl, hw⟩ K hK
      have E := hcl.facts 3 hdi rfl hdep [0, 1, 2] [4, 5, 6, 7, 8, 9, 10, 11, 12, 13, 14, 15, 16, 17, 18, 19, 20, 21, 22, 23, 24, 25, 26, 27, 28, 29, 30] (by kernel_rfl) (by kernel_rfl)
      simp only [AllT, AllF] at E
      clear hdi hdep hcl
      go_simp
      exact hK _ _ ⟨by simp [upd, E], hw⟩
    · rintro d a W hdi hdep hcl ⟨rfl, hw⟩ K hK
      have E := hcl.facts 4 hdi rfl hdep [0, 1, 2, 3] [5, 6, 7, 8, 9, 10, 11, 12, 13, 14, 15, 16, 17, 18, 19, 20, 21, 22, 23, 24, 25, 26, 27, 28, 29, 30] (by kernel_rfl) (by kernel_rfl)
      simp only [AllT, AllF] at E
      clear hdi hdep hcl
      go_simp
      exact hK _ _ ⟨by simp [upd, E], hw⟩
    · rintro d a W hdi hdep hcl ⟨rfl, hw⟩ K hK
      have E := hcl.facts 5 hdi rfl hdep [0, 1, 2, 3, 4] [6, 7, 8, 9, 10, 11, 12, 13, 14, 15, 16, 17, 18, 19, 20, 21, 22, 23, 24, 25, 26, 27, 28, 29, 30] (by kernel_rfl) (by kernel_rfl)
      simp only [AllT, AllF] at E
      clear hdi hdep hcl
      have z := HK.out.to hw
      have z0 := z.at 0
      have z1 := z.at 1
      have zl := z.lt
      clear z
      go_simp
      exact hK _ _ ⟨by simp [upd, E], hw⟩
    · rintro d a W hdi hdep hcl ⟨rfl, hw⟩ K hK
      have E := hcl.facts 6 hdi rfl hdep [0, 1, 2, 3, 4, 5] [7, 8, 9, 10, 11, 12, 13, 14, 15, 16, 17, 18, 19, 20, 21, 22, 23, 24, 25, 26, 27, 28, 29, 30] (by kernel_rfl) (by kernel_rfl)
      simp only [AllT, AllF] at E
      clear hdi hdep hcl
      go_simp
      exact hK _ _ ⟨by simp [upd, E], hw⟩
    · rintro d a W hdi hdep hcl ⟨rfl, hw⟩ K hK
      have E := hcl.facts 7 hdi rfl hdep [0, 1, 2, 3, 4, 5, 6] [8, 9, 10, 11, 12, 13, 14, 15, 16, 17, 18, 19, 20, 21, 22, 23, 24, 25, 26, 27, 28, 29, 30] (by kernel_rfl) (by kernel_rfl)
      simp only [AllT, AllF] at E
      clear hdi hdep hcl
      go_simp
      exact hK _ _ ⟨by simp [upd, E], hw⟩
    · rintro d a W hdi hdep hcl ⟨rfl, hw⟩ K hK
      have E := hcl.facts 8 hdi rfl hdep [0, 1, 2, 3, 4, 5, 6, 7] [9, 10, 11, 12, 13, 14, 15, 16, 17, 18, 19, 20, 21, 22, 23, 24, 25, 26, 27, 28, 29, 30] (by kernel_rfl) (by kernel_rfl)
      simp only [AllT, AllF] at E
      clear hdi hdep hcl
      go_simp
      exact hK _ _ ⟨by simp [upd, E], hw⟩
    · rintro d a W hdi hdep hcl ⟨rfl, hw⟩ K hK
      have E := hcl.facts 9 hdi rfl hdep [0, 1, 2, 3, 4, 5, 6, 7, 8] [10, 11, 12, 13, 14, 15, 16, 17, 18, 19, 20, 21, 22, 23, 24, 25, 26, 27, 28, 29, 30] (by kernel_rfl) (by kernel_rfl)
      simp only [AllT, AllF] at E
      clear hdi hdep hcl
      go_simp
      exact hK _ _ ⟨by simp [upd, E], hw⟩
    · rintro d a W hdi hdep hcl ⟨rfl, hw⟩ K hK
      have E := hcl.facts 10 hdi rfl hdep [0, 1, 2, 3, 4, 5, 6, 7, 8, 9] [11, 12, 13, 14, 15, 16, 17, 18, 19, 20, 21, 22, 23, 24, 25, 26, 27, 28, 29, 30] (by kernel_rfl) (by kernel_rfl)
      simp only [AllT, AllF] at E
      clear hdi hdep hcl
      have z := HK.out.to hw
      have z0 := z.at 0
      have z1 := z.at 1
      have zl := z.lt
      clear z
      go_simp
      exact hK _ _ ⟨by simp [upd, E], hw⟩
    · rintro d a W hdi hdep hcl ⟨rfl, hw⟩ K hK
      have E := hcl.facts 11 hdi rfl hdep [0, 1, 2, 3, 4, 5, 6, 7, 8, 9, 10] [12, 13, 14, 15, 16, 17, 18, 19, 20, 21, 22, 23, 24, 25, 26, 27, 28, 29, 30] (by kernel_rfl) (by kernel_rfl)
      simp only [AllT, AllF] at E
      clear hdi hdep hcl
      go_simp
      exact hK _ _ ⟨by simp [upd, E], hw⟩
    · rintro d a W hdi hdep hcl ⟨rfl, hw⟩ K hK
      have E := hcl.facts 12 hdi rfl hdep [0, 1, 2, 3, 4, 5, 6, 7, 8, 9, 10, 11] [13, 14, 15, 16, 17, 18, 19, 20, 21, 22, 23, 24, 25, 26, 27, 28, 29, 30] (by kernel_rfl) (by kernel_rfl)
      simp only [AllT, AllF] at E
      clear hdi hdep hcl
      go_simp
      exact hK _ _ ⟨by simp [upd, E], hw⟩
    · rintro d a W hdi hdep hcl ⟨rfl, hw⟩ K hK
      have E := hcl.facts 13 hdi rfl hdep [0, 1, 2, 3, 4, 5, 6, 7, 8, 9, 10, 11, 12] [14, 15, 16, 17, 18, 19, 20, 21, 22, 23, 24, 25, 26, 27, 28, 29, 30] (by kernel_rfl) (by kernel_rfl)
      simp only [AllT, AllF] at E
      clear hdi hdep hcl
      go_simp
      exact hK _ _ ⟨by simp [upd, E], hw⟩
    · rintro d a W hdi hdep hcl ⟨rfl, hw⟩ K hK
      have E := hcl.facts 14 hdi rfl hdep [0, 1, 2, 3, 4, 5, 6, 7, 8, 9, 10, 11, 12, 13] [15, 19, 20, 21, 22, 23, 24, 25, 26, 27, 28, 29, 30] (by kernel_rfl) (by kernel_rfl)
      simp only [AllT, AllF] at E
      clear hdi hdep hcl
      go_simp
      exact hK _ _ ⟨by simp [upd, E], hw⟩
    · rintro d a W hdi hdep hcl ⟨rfl, hw⟩ K hK
      have E := hcl.facts 15 hdi rfl hdep [0, 1, 2, 3, 4, 5, 6, 7, 8, 9, 10, 11, 12, 13, 14] [19, 20, 21, 22, 23, 24, 25, 26, 27, 28, 29, 30] (by kernel_rfl) (by kernel_rfl)
      simp only [AllT, AllF] at E
      clear hdi hdep hcl
      have z := HK.out.to hw
      have z0 := z.at 0
      have z1 := z.at 1
      have zl := z.lt
      clear z
      go_simp
      exact hK _ _ ⟨by simp [upd, E], hw⟩
    · rintro d a W hdi hdep hcl ⟨rfl, hw⟩ K hK
      have E := hcl.facts 16 hdi rfl hdep [0, 1, 2, 3, 4, 5, 6, 7, 8, 9, 10, 11, 12, 13] [17, 18, 19, 20, 21, 22, 23, 24, 25, 26, 27, 28, 29, 30] (by kernel_rfl) (by kernel_rfl)
      simp only [AllT, AllF] at E
      clear hdi hdep hcl
      go_simp
      exact hK _ _ ⟨by simp [upd, E], hw⟩
    · rintro d a W hdi hdep hcl ⟨rfl, hw⟩ K hK
      have E := hcl.facts 17 hdi rfl hdep [0, 1, 2, 3, 4, 5, 6, 7, 8, 9, 10, 11, 12, 13, 16] [18, 19, 20, 21, 22, 23, 24, 25, 26, 27, 28, 29, 30] (by kernel_rfl) (by kernel_rfl)
      simp only [AllT, AllF] at E
      clear hdi hdep hcl
      have z := HK.out.to hw
      have z0 := z.at 0
      have z1 := z.at 1
      have zl := z.lt
      clear z
      go_simp
      exact hK _ _ ⟨by simp [upd, E], hw⟩
    · rintro d a W hdi hdep hcl ⟨rfl, hw⟩ K hK
      have E := hcl.facts 18 hdi rfl hdep [0, 1, 2, 3, 4, 5, 6, 7, 8, 9, 10, 11, 12, 13, 16, 17] [19, 20, 21, 22, 23, 24, 25, 26, 27, 28, 29, 30] (by kernel_rfl) (by kernel_rfl)
      simp only [AllT, AllF] at E
      clear hdi hdep hcl
      go_simp
      exact hK _ _ ⟨by simp [upd, E], hw⟩
    · rintro d a W hdi hdep hcl ⟨rfl, hw⟩ K hK
      have E := hcl.facts 19 hdi rfl hdep [0, 1, 2, 3, 4, 5, 6, 7, 8, 9, 10, 11, 12, 13, 14, 15, 16, 17, 18] [20, 21, 22, 23, 24, 25, 26, 27, 28, 29, 30] (by kernel_rfl) (by kernel_rfl)
      simp only [AllT, AllF] at E
      clear hdi hdep hcl
      go_simp
      exact hK _ _ ⟨by simp [upd, E], hw⟩
    · rintro d a W hdi hdep hcl ⟨rfl, hw⟩ K hK
      have E := hcl.facts 20 hdi rfl hdep [0, 1, 2, 3, 4, 5, 6, 7, 8, 9, 10, 11, 12, 13, 14, 15, 16, 17, 18, 19] [21, 22, 23, 24, 25, 26, 27, 28, 29, 30] (by kernel_rfl) (by kernel_rfl)
      simp only [AllT, AllF] at E
      clear hdi hdep hcl
      go_simp
      exact hK _ _ ⟨by simp [upd, E], hw⟩
    · rintro d a W hdi hdep hcl ⟨rfl, hw⟩ K hK
      have E := hcl.facts 21 hdi rfl hdep [0, 1, 2, 3, 4, 5, 6, 7, 8, 9, 10, 11, 12, 13, 14, 15, 16, 17, 18, 19, 20] [22, 23, 24, 25, 26, 27, 28, 29, 30] (by kernel_rfl) (by kernel_rfl)
      simp only [AllT, AllF] at E
      clear hdi hdep hcl
      go_simp
      exact hK _ _ ⟨by simp [upd, E], hw⟩
    · rintro d a W hdi hdep hcl ⟨rfl, hw⟩ K hK
      have E := hcl.facts 22 hdi rfl hdep [0, 1, 2, 3, 4, 5, 6, 7, 8, 9, 10, 11, 12, 13, 14, 15, 16, 17, 18, 19, 20, 21] [23, 26, 28, 29, 30] (by kernel_rfl) (by kernel_rfl)
      simp only [AllT, AllF] at E
      clear hdi hdep hcl
      go_simp
      exact hK _ _ ⟨by simp [upd, E], hw⟩
    · rintro d a W hdi hdep hcl ⟨rfl, hw⟩ K hK
      have E := hcl.facts 23 hdi rfl hdep [0, 1, 2, 3, 4, 5, 6, 7, 8, 9, 10, 11, 12, 13, 14, 15, 16, 17, 18, 19, 20, 21, 22] [26, 28, 29, 30] (by kernel_rfl) (by kernel_rfl)
      simp only [AllT, AllF] at E
      clear hdi hdep hcl
      have z := HK.out.to hw
      have z0 := z.at 0
      have z1 := z.at 1
      have zl := z.lt
      clear z
      go_simp
      exact hK _ _ ⟨by simp [upd, E], hw⟩
    · rintro d a W hdi hdep hcl ⟨rfl, hw⟩ K hK
      have E := hcl.facts 24 hdi rfl hdep [0, 1, 2, 3, 4, 5, 6, 7, 8, 9, 10, 11, 12, 13, 14, 15, 16, 17, 18, 19, 20, 21] [25, 26, 28, 29, 30] (by kernel_rfl) (by kernel_rfl)
      simp only [AllT, AllF] at E
      clear hdi hdep hcl
      go_simp
      exact hK _ _ ⟨by simp [upd, E], hw⟩
    · rintro d a W hdi hdep hcl ⟨rfl, hw⟩ K hK
      have E := hcl.facts 25 hdi rfl hdep [0, 1, 2, 3, 4, 5, 6, 7, 8, 9, 10, 11, 12, 13, 14, 15, 16, 17, 18, 19, 20, 21, 24] [26, 28, 29, 30] (by kernel_rfl) (by kernel_rfl)
      simp only [AllT, AllF] at E
      clear hdi hdep hcl
      have z := HK.out.to hw
      have z0 := z.at 0
      have z1 := z.at 1
      have zl := z.lt
      clear z
      go_simp
      exact hK _ _ ⟨by simp [upd, E], hw⟩
    · rintro d a W hdi hdep hcl ⟨rfl, hw⟩ K hK
      have E := hcl.facts 26 hdi rfl hdep [0, 1, 2, 3, 4, 5, 6, 7, 8, 9, 10, 11, 12, 13, 14, 15, 16, 17, 18, 19, 20, 21, 22, 23, 24, 25] [28, 29, 30] (by kernel_rfl) (by kernel_rfl)
      simp only [AllT, AllF] at E
      clear hdi hdep hcl
      go_simp
      refine Calls.mono (RBy_any W u y ⟨by have := HAB.out; omega, by have := HAB.out; omega⟩ ⟨by have := HAB.out; omega, by have := HAB.out; omega⟩) ?_
      rw [HR.out.1, HR.out.2]
      rintro e w9 ⟨rfl, hp9⟩
      exact hK _ _ ⟨by simp [upd, E], hw.trans hp9⟩
    · rintro d a W hdi hdep hcl ⟨rfl, hw⟩ K hK
      have E := hcl.facts 27 hdi rfl hdep [0, 1, 2, 3, 4, 5, 6, 7, 8, 9, 10, 11, 12, 13, 14, 15, 16, 17, 18, 19, 20, 21] [28, 29, 30] (by kernel_rfl) (by kernel_rfl)
      simp only [AllT, AllF] at E
      clear hdi hdep hcl
      have z := HK.out.to hw
      have z0 := z.at 0
      have z1 := z.at 1
      have zl := z.lt
      clear z
      go_simp
      exact hK _ _ ⟨by simp [upd, E], hw⟩
    · rintro d a W hdi hdep hcl ⟨rfl, hw⟩ K hK
      have E := hcl.facts 28 hdi rfl hdep [0, 1, 2, 3, 4, 5, 6, 7, 8, 9, 10, 11, 12, 13, 14, 15, 16, 17, 18, 19, 20, 21, 22, 23, 24, 25, 26, 27] [29, 30] (by kernel_rfl) (by kernel_rfl)
      simp only [AllT, AllF] at E
      clear hdi hdep hcl
      go_simp
      exact hK _ _ ⟨by simp [upd, E], hw⟩
    · rintro d a W hdi hdep hcl ⟨rfl, hw⟩ K hK
      have E := hcl.facts 29 hdi rfl hdep [0, 1, 2, 3, 4, 5, 6, 7, 8, 9, 10, 11, 12, 13, 14, 15, 16, 17, 18, 19, 20, 21, 22, 23, 24, 25, 26, 27, 28] [30] (by kernel_rfl) (by kernel_rfl)
      simp only [AllT, AllF] at E
      clear hdi hdep hcl
      go_simp
      exact hK _ _ ⟨by simp [upd, E], hw⟩
    · rintro d a W hdi hdep hcl ⟨rfl, hw⟩ K hK
      have E := hcl.facts 30 hdi rfl hdep [0, 1, 2, 3, 4, 5, 6, 7, 8, 9, 10, 11, 12, 13, 14, 15, 16, 17, 18, 19, 20, 21, 22, 23, 24, 25, 26, 27, 28, 29] [] (by kernel_rfl) (by kernel_rfl)
      simp only [AllT, AllF] at E
      clear hdi hdep hcl
      go_simp
      exact hK _ _ ⟨by simp [upd, E], hw⟩
  · rintro d a W hall ⟨rfl, hw⟩
    have E := AllT.all hall [0, 1, 2, 3, 4, 5, 6, 7, 8, 9, 10, 11, 12, 13, 14, 15, 16, 17, 18, 19, 20, 21, 22, 23, 24, 25, 26, 27, 28, 29, 30] (by kernel_rfl)
    simp only [AllT] at E
    simp only [E, cond_true] at hw ⊢
    clear E hall
    have HPW := Lib.hid (HPX.out.trans hw)
    clear hw
    go_wp2
    exact bodyPost_ret (v := .bool true) (by simp [results, Tryd.results49, go_sem]) rfl ⟨rfl, HPW.out⟩
end Go.Proofs.YtgpfmnjianflaaaDoor
