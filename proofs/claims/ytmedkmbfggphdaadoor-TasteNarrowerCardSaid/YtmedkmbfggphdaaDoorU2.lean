/- The law's helpers: within, where it says yes. No condition. -/
import Derived.Test.YtmedkmbfggphdaaDoorT11a
set_option linter.unusedSimpArgs false
set_option linter.unusedVariables false
set_option linter.constructorNameAsVariable false
namespace Go.Proofs.YtmedkmbfggphdaaDoor
open Go.RowKit

/-- A row of ranges f i to g i lies in memory. -/
def Rg2 (N : Nat) (q : Option Addr) (f g : Nat → Int) (w : World) : Prop :=
  ∀ i, i < N → ∃ x, q = some ⟨x, 0, none⟩ ∧ x < w.heap.size ∧ w.cell? ⟨x, i * 2, none⟩ = some (.int .i64 (f i)) ∧ w.cell? ⟨x, i * 2 + 1, none⟩ = some (.int .i64 (g i))
theorem SpAt.rg {b : BK} {N : Nat} {q : Option Addr} {w : World} (h : SpAt b N q w) : Rg2 N q (fun i => endV b false (1 + i)) (fun i => endV b true (1 + i)) w := h

set_option maxRecDepth 20000 in
set_option maxHeartbeats 4000000 in
theorem within_true (w : World) (N : Nat) (q r : Option Addr) (c d' : Nat) (f g f' g' : Nat → Int) (hN : N ≤ 1000) (h1 : Rg2 N q f g w) (h2 : Rg2 N r f' g' w) (hle : ∀ i, i < N → f' i ≤ f i ∧ g i ≤ g' i) :
    Calls Tryd.prog 54 #[.slice q N c, .slice r N d'] w fun e w' => e = .returned (.bool true) ∧ Pure w w' := by
  have hmx : Tryd.prog.follows .mixedOrders = true := by kernel_rfl
  have H1 := Lib.hid h1
  have H2 := Lib.hid h2
  have HLE := Lib.hid hle
  clear h1 h2 hle
  go_enter Tryd.func54, Tryd.ntmps54
  go_wp2_with fail
  go_loopw [5] (fun i wr => ∃ (j : Nat), j ≤ N ∧ i = .int .i64 j ∧ Hid (Pure w wr)) (fun i _ => N - (intOf i).toNat)
  case atStart => exact ⟨0, Nat.zero_le _, rfl, Diff.refl _⟩
  case round =>
    obtain ⟨j, hj, rfl, HZ⟩ := hrel
    have hj0 : 0 ≤ (j : Int) := by omega
    by_cases hjn : j < N
    · have hji : (j : Int) < (N : Int) := by omega
      obtain ⟨gax, hqa, hga, ya, yb⟩ := H1.out j hjn
      obtain ⟨gcx, hqc, hgc, yc, yd⟩ := H2.out j hjn
      subst hqa hqc
      have hb := HLE.out j hjn
      obtain ⟨x, hx⟩ : ∃ x, f j = x := ⟨_, rfl⟩
      obtain ⟨y, hy⟩ : ∃ x, g j = x := ⟨_, rfl⟩
      obtain ⟨x', hx'⟩ : ∃ x, f' j = x := ⟨_, rfl⟩
      obtain ⟨y', hy'⟩ : ∃ x, g' j = x := ⟨_, rfl⟩
      rw [hx, hx', hy, hy'] at hb
      rw [hx] at ya
      rw [hy] at yb
      rw [hx'] at yc
      rw [hy'] at yd
      have b1 := hb.1
      have b2 := hb.2
      have b1n : ¬ x < x' := by omega
      have b2n : ¬ y' < y := by omega
      have HYA := Lib.hid ya
      have HYB := Lib.hid yb
      have HYC := Lib.hid yc
      have HYD := Lib.hid yd
      have HGA := Lib.hid hga
      have HGC := Lib.hid hgc
      clear hx hy hx' hy' hb ya yb yc yd hga hgc
      go_wp2_with fail
      obtain ⟨V, hV⟩ : ∃ V, wr = V := ⟨_, rfl⟩
      rw [hV] at HZ ⊢
      clear hV
      refine reg_invW (fun d a W => a = { tmps := #[Value.slice (some { block := gax, off := 0 }) N c, Value.slice (some { block := gcx, off := 0 }) N d', undef, undef, u4, Value.int IntKind.i64 (j : Int), Value.slice (some { block := gax, off := 0 }) N c, Value.int IntKind.i64 (N : Int), Value.slice (some { block := gcx, off := 0 }) N d', Value.int IntKind.i64 (N : Int), Value.bool false, Value.int IntKind.i64 (j : Int), Value.slice (some { block := gax, off := 0 }) N c, Value.int IntKind.i64 (N : Int), Value.bool true, u15, u16, (bif d 0 then Value.slice (some { block := gax, off := 0 }) N c else u17), (bif d 1 then Value.int IntKind.i64 ((j : Int)) else u18), (bif d 2 then Value.pointer (some { block := gax, off := j * 2 }) else u19), (bif d 3 then Value.pointer (some { block := gax, off := j * 2 }) else u20), (bif d 4 then Value.int IntKind.i64 (x) else u21), (bif d 5 then Value.slice (some { block := gcx, off := 0 }) N d' else u22), (bif d 6 then Value.int IntKind.i64 ((j : Int)) else u23), (bif d 7 then Value.pointer (some { block := gcx, off := j * 2 }) else u24), (bif d 8 then Value.pointer (some { block := gcx, off := j * 2 }) else u25), (bif d 9 then Value.int IntKind.i64 (x') else u26), (bif d 10 then Value.bool false else u27), (bif d 11 then Value.bool false else u28), (bif d 12 then Value.slice (some { block := gax, off := 0 }) N c else u29), (bif d 13 then Value.int IntKind.i64 ((j : Int)) else u30), (bif d 14 then Value.pointer (some { block := gax, off := j * 2 }) else u31), (bif d 15 then Value.pointer (some { block := gax, off := j * 2 + 1 }) else u32), (bif d 16 then Value.int IntKind.i64 (y) else u33), (bif d 17 then Value.slice (some { block := gcx, off := 0 }) N d' else u34), (bif d 18 then Value.int IntKind.i64 ((j : Int)) else u35), (bif d 19 then Value.pointer (some { block := gcx, off := j * 2 }) else u36), (bif d 20 then Value.pointer (some { block := gcx, off := j * 2 + 1 }) else u37), (bif d 21 then Value.int IntKind.i64 (y') else u38), (bif d 22 then Value.bool false else u39), (bif d 23 then Value.bool false else u40)], defers := [] } ∧ Hid (Pure V W)) hmx (by kernel_rfl) ?_ ?_ ?_
      · exact ⟨rfl, (Diff.refl V).drew⟩
      · refine ⟨?_, ?_, ?_, ?_, ?_, ?_, ?_, ?_, ?_, ?_, ?_, ?_, ?_, ?_, ?_, ?_, ?_, ?_, ?_, ?_, ?_, ?_, ?_, ?_, trivial⟩
        · rintro d a W hdi hdep hcl ⟨rfl, hw⟩ K hK
          have E := hcl.facts 0 hdi rfl hdep [] [2, 3, 4, 10, 11, 12, 13, 14, 15, 16, 17, 18, 19, 20, 21, 22, 23] (by kernel_rfl) (by kernel_rfl)
          simp only [AllT, AllF] at E
          clear hdi hdep hcl
          go_simp
          exact hK _ _ ⟨by simp [upd, E, b1, b2], hw⟩
        · rintro d a W hdi hdep hcl ⟨rfl, hw⟩ K hK
          have E := hcl.facts 1 hdi rfl hdep [] [2, 3, 4, 10, 11, 12, 13, 14, 15, 16, 17, 18, 19, 20, 21, 22, 23] (by kernel_rfl) (by kernel_rfl)
          simp only [AllT, AllF] at E
          clear hdi hdep hcl
          go_simp
          exact hK _ _ ⟨by simp [upd, E, b1, b2], hw⟩
        · rintro d a W hdi hdep hcl ⟨rfl, hw⟩ K hK
          have E := hcl.facts 2 hdi rfl hdep [0, 1] [3, 4, 10, 11, 12, 13, 14, 15, 16, 17, 18, 19, 20, 21, 22, 23] (by kernel_rfl) (by kernel_rfl)
          simp only [AllT, AllF] at E
          clear hdi hdep hcl
          go_simp
          exact hK _ _ ⟨by simp [upd, E, b1, b2], hw⟩
        · rintro d a W hdi hdep hcl ⟨rfl, hw⟩ K hK
          have E := hcl.facts 3 hdi rfl hdep [0, 1, 2] [4, 10, 11, 12, 13, 14, 15, 16, 17, 18, 19, 20, 21, 22, 23] (by kernel_rfl) (by kernel_rfl)
          simp only [AllT, AllF] at E
          clear hdi hdep hcl
          go_simp
          exact hK _ _ ⟨by simp [upd, E, b1, b2], hw⟩
        · rintro d a W hdi hdep hcl ⟨rfl, hw⟩ K hK
          have E := hcl.facts 4 hdi rfl hdep [0, 1, 2, 3] [10, 11, 12, 13, 14, 15, 16, 17, 18, 19, 20, 21, 22, 23] (by kernel_rfl) (by kernel_rfl)
          simp only [AllT, AllF] at E
          clear hdi hdep hcl
          have z := ((pcell (HZ.out.trans hw.out)).1 _ _ HGA.out).trans HYA.out
          go_simp
          exact hK _ _ ⟨by simp [upd, E, b1, b2], hw⟩
        · rintro d a W hdi hdep hcl ⟨rfl, hw⟩ K hK
          have E := hcl.facts 5 hdi rfl hdep [] [7, 8, 9, 10, 11, 12, 13, 14, 15, 16, 17, 18, 19, 20, 21, 22, 23] (by kernel_rfl) (by kernel_rfl)
          simp only [AllT, AllF] at E
          clear hdi hdep hcl
          go_simp
          exact hK _ _ ⟨by simp [upd, E, b1, b2], hw⟩
        · rintro d a W hdi hdep hcl ⟨rfl, hw⟩ K hK
          have E := hcl.facts 6 hdi rfl hdep [] [7, 8, 9, 10, 11, 12, 13, 14, 15, 16, 17, 18, 19, 20, 21, 22, 23] (by kernel_rfl) (by kernel_rfl)
          simp only [AllT, AllF] at E
          clear hdi hdep hcl
          go_simp
          exact hK _ _ ⟨by simp [upd, E, b1, b2], hw⟩
        · rintro d a W hdi hdep hcl ⟨rfl, hw⟩ K hK
          have E := hcl.facts 7 hdi rfl hdep [5, 6] [8, 9, 10, 11, 12, 13, 14, 15, 16, 17, 18, 19, 20, 21, 22, 23] (by kernel_rfl) (by kernel_rfl)
          simp only [AllT, AllF] at E
          clear hdi hdep hcl
          go_simp
          exact hK _ _ ⟨by simp [upd, E, b1, b2], hw⟩
        · rintro d a W hdi hdep hcl ⟨rfl, hw⟩ K hK
          have E := hcl.facts 8 hdi rfl hdep [5, 6, 7] [9, 10, 11, 12, 13, 14, 15, 16, 17, 18, 19, 20, 21, 22, 23] (by kernel_rfl) (by kernel_rfl)
          simp only [AllT, AllF] at E
          clear hdi hdep hcl
          go_simp
          exact hK _ _ ⟨by simp [upd, E, b1, b2], hw⟩
        · rintro d a W hdi hdep hcl ⟨rfl, hw⟩ K hK
          have E := hcl.facts 9 hdi rfl hdep [5, 6, 7, 8] [10, 11, 12, 13, 14, 15, 16, 17, 18, 19, 20, 21, 22, 23] (by kernel_rfl) (by kernel_rfl)
          simp only [AllT, AllF] at E
          clear hdi hdep hcl
          have z := ((pcell (HZ.out.trans hw.out)).1 _ _ HGC.out).trans HYC.out
          go_simp
          exact hK _ _ ⟨by simp [upd, E, b1, b2], hw⟩
        · rintro d a W hdi hdep hcl ⟨rfl, hw⟩ K hK
          have E := hcl.facts 10 hdi rfl hdep [0, 1, 2, 3, 4, 5, 6, 7, 8, 9] [11, 12, 13, 14, 15, 16, 17, 18, 19, 20, 21, 22, 23] (by kernel_rfl) (by kernel_rfl)
          simp only [AllT, AllF] at E
          clear hdi hdep hcl
          go_simp
          exact hK _ _ ⟨by simp [upd, E, b1, b2], hw⟩
        · rintro d a W hdi hdep hcl ⟨rfl, hw⟩ K hK
          have E := hcl.facts 11 hdi rfl hdep [0, 1, 2, 3, 4, 5, 6, 7, 8, 9, 10] [12, 13, 14, 15, 16, 17, 18, 19, 20, 21, 22, 23] (by kernel_rfl) (by kernel_rfl)
          simp only [AllT, AllF] at E
          clear hdi hdep hcl
          go_simp
          exact hK _ _ ⟨by simp [upd, E, b1, b2], hw⟩
        · rintro d a W hdi hdep hcl ⟨rfl, hw⟩ K hK
          have E := hcl.facts 12 hdi rfl hdep [0, 1, 2, 3, 4, 5, 6, 7, 8, 9, 10, 11] [14, 15, 16, 22, 23] (by kernel_rfl) (by kernel_rfl)
          simp only [AllT, AllF] at E
          clear hdi hdep hcl
          go_simp
          exact hK _ _ ⟨by simp [upd, E, b1, b2], hw⟩
        · rintro d a W hdi hdep hcl ⟨rfl, hw⟩ K hK
          have E := hcl.facts 13 hdi rfl hdep [0, 1, 2, 3, 4, 5, 6, 7, 8, 9, 10, 11] [14, 15, 16, 22, 23] (by kernel_rfl) (by kernel_rfl)
          simp only [AllT, AllF] at E
          clear hdi hdep hcl
          go_simp
          exact hK _ _ ⟨by simp [upd, E, b1, b2], hw⟩
        · rintro d a W hdi hdep hcl ⟨rfl, hw⟩ K hK
          have E := hcl.facts 14 hdi rfl hdep [0, 1, 2, 3, 4, 5, 6, 7, 8, 9, 10, 11, 12, 13] [15, 16, 22, 23] (by kernel_rfl) (by kernel_rfl)
          simp only [AllT, AllF] at E
          clear hdi hdep hcl
          go_simp
          exact hK _ _ ⟨by simp [upd, E, b1, b2], hw⟩
        · rintro d a W hdi hdep hcl ⟨rfl, hw⟩ K hK
          have E := hcl.facts 15 hdi rfl hdep [0, 1, 2, 3, 4, 5, 6, 7, 8, 9, 10, 11, 12, 13, 14] [16, 22, 23] (by kernel_rfl) (by kernel_rfl)
          simp only [AllT, AllF] at E
          clear hdi hdep hcl
          go_simp
          exact hK _ _ ⟨by simp [upd, E, b1, b2], hw⟩
        · rintro d a W hdi hdep hcl ⟨rfl, hw⟩ K hK
          have E := hcl.facts 16 hdi rfl hdep [0, 1, 2, 3, 4, 5, 6, 7, 8, 9, 10, 11, 12, 13, 14, 15] [22, 23] (by kernel_rfl) (by kernel_rfl)
          simp only [AllT, AllF] at E
          clear hdi hdep hcl
          have z := ((pcell (HZ.out.trans hw.out)).1 _ _ HGA.out).trans HYB.out
          go_simp
          exact hK _ _ ⟨by simp [upd, E, b1, b2], hw⟩
        · rintro d a W hdi hdep hcl ⟨rfl, hw⟩ K hK
          have E := hcl.facts 17 hdi rfl hdep [0, 1, 2, 3, 4, 5, 6, 7, 8, 9, 10, 11] [19, 20, 21, 22, 23] (by kernel_rfl) (by kernel_rfl)
          simp only [AllT, AllF] at E
          clear hdi hdep hcl
          go_simp
          exact hK _ _ ⟨by simp [upd, E, b1, b2], hw⟩
        · rintro d a W hdi hdep hcl ⟨rfl, hw⟩ K hK
          have E := hcl.facts 18 hdi rfl hdep [0, 1, 2, 3, 4, 5, 6, 7, 8, 9, 10, 11] [19, 20, 21, 22, 23] (by kernel_rfl) (by kernel_rfl)
          simp only [AllT, AllF] at E
          clear hdi hdep hcl
          go_simp
          exact hK _ _ ⟨by simp [upd, E, b1, b2], hw⟩
        · rintro d a W hdi hdep hcl ⟨rfl, hw⟩ K hK
          have E := hcl.facts 19 hdi rfl hdep [0, 1, 2, 3, 4, 5, 6, 7, 8, 9, 10, 11, 17, 18] [20, 21, 22, 23] (by kernel_rfl) (by kernel_rfl)
          simp only [AllT, AllF] at E
          clear hdi hdep hcl
          go_simp
          exact hK _ _ ⟨by simp [upd, E, b1, b2], hw⟩
        · rintro d a W hdi hdep hcl ⟨rfl, hw⟩ K hK
          have E := hcl.facts 20 hdi rfl hdep [0, 1, 2, 3, 4, 5, 6, 7, 8, 9, 10, 11, 17, 18, 19] [21, 22, 23] (by kernel_rfl) (by kernel_rfl)
          simp only [AllT, AllF] at E
          clear hdi hdep hcl
          go_simp
          exact hK _ _ ⟨by simp [upd, E, b1, b2], hw⟩
        · rintro d a W hdi hdep hcl ⟨rfl, hw⟩ K hK
          have E := hcl.facts 21 hdi rfl hdep [0, 1, 2, 3, 4, 5, 6, 7, 8, 9, 10, 11, 17, 18, 19, 20] [22, 23] (by kernel_rfl) (by kernel_rfl)
          simp only [AllT, AllF] at E
          clear hdi hdep hcl
          have z := ((pcell (HZ.out.trans hw.out)).1 _ _ HGC.out).trans HYD.out
          go_simp
          exact hK _ _ ⟨by simp [upd, E, b1, b2], hw⟩
        · rintro d a W hdi hdep hcl ⟨rfl, hw⟩ K hK
          have E := hcl.facts 22 hdi rfl hdep [0, 1, 2, 3, 4, 5, 6, 7, 8, 9, 10, 11, 12, 13, 14, 15, 16, 17, 18, 19, 20, 21] [23] (by kernel_rfl) (by kernel_rfl)
          simp only [AllT, AllF] at E
          clear hdi hdep hcl
          go_simp
          exact hK _ _ ⟨by simp [upd, E, b1, b2], hw⟩
        · rintro d a W hdi hdep hcl ⟨rfl, hw⟩ K hK
          have E := hcl.facts 23 hdi rfl hdep [0, 1, 2, 3, 4, 5, 6, 7, 8, 9, 10, 11, 12, 13, 14, 15, 16, 17, 18, 19, 20, 21, 22] [] (by kernel_rfl) (by kernel_rfl)
          simp only [AllT, AllF] at E
          clear hdi hdep hcl
          go_simp
          exact hK _ _ ⟨by simp [upd, E, b1, b2], hw⟩
      · rintro d a W hall ⟨rfl, hw⟩
        have E := AllT.all hall [0, 1, 2, 3, 4, 5, 6, 7, 8, 9, 10, 11, 12, 13, 14, 15, 16, 17, 18, 19, 20, 21, 22, 23] (by kernel_rfl)
        simp only [AllT] at E
        simp only [E, cond_true] at hw ⊢
        clear E hall
        have HZ2 : Hid (Pure w W) := HZ.out.trans hw.out
        go_wp2_with fail
        exact ⟨⟨j + 1, by omega, by push_cast; rfl, HZ2.out⟩, by simp only [intOf]; omega⟩
    · have hji : ¬ (j : Int) < (N : Int) := by omega
      go_wp2_with fail
      exact bodyPost_ret (v := .bool true) (by simp [results, Tryd.results54, go_sem]) rfl ⟨rfl, HZ.out⟩
end Go.Proofs.YtmedkmbfggphdaaDoor
