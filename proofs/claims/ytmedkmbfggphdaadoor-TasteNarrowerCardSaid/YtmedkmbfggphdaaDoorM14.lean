/- The law's helpers: lists, ranges, books. The law's helpers: Sitting, and the two books of the examples. -/
import Derived.Test.YtmedkmbfggphdaaDoorR5
import Derived.Test.YtmedkmbfggphdaaDoorK4
set_option linter.unusedSimpArgs false
set_option linter.unusedVariables false
set_option linter.constructorNameAsVariable false
namespace Go.Proofs.YtmedkmbfggphdaaDoor
open Go.RowKit

theorem longs_any (w : World) (v : Value) (q : Option Addr) (n c : Nat) (hv : v = .slice q n c) : Calls Tryd.prog 58 #[v] w fun e w' => e = .returned v ∧ Pure w w' := by
  subst hv
  go_enter Tryd.func58, Tryd.ntmps58
  go_wp2
  go_ret
  exact ⟨rfl, Diff.refl _⟩
theorem of_any (w : World) (v : Value) (q : Option Addr) (n c : Nat) (hv : v = .slice q n c) : Calls Tryd.prog 59 #[v] w fun e w' => e = .returned v ∧ Pure w w' := by
  subst hv
  go_enter Tryd.func59, Tryd.ntmps59
  go_wp2
  go_ret
  exact ⟨rfl, Diff.refl _⟩
theorem to_any (w : World) (x y : Int) : Calls Tryd.prog 49 #[.int .i64 x, .int .i64 y] w fun e w' => e = .returned (.agg #[.int .i64 x, .int .i64 y]) ∧ Pure w w' := by
  go_enter Tryd.func49, Tryd.ntmps49
  go_wp2_with fail
  exact bodyPost_ret (v := .agg #[.int .i64 x, .int .i64 y]) (by simp [results, Tryd.results49, go_sem]) rfl ⟨rfl, by repeat (first | exact Diff.refl _ | apply Diff.alloc | refine Diff.setCell ?_ (fun h => absurd h (by simp)) _)⟩
theorem Book_any (w : World) (lo hi lots : Int) (q : Option Addr) (n c : Nat) : Calls Tryd.prog 89 #[.int .i64 lo, .int .i64 hi, .int .i64 lots, .slice q n c] w fun e w' => e = .returned (.agg #[.int .i64 lo, .int .i64 hi, .int .i64 lots, .slice q n c]) ∧ Pure w w' := by
  go_enter Tryd.func89, Tryd.ntmps89
  go_wp2_with fail
  obtain ⟨X, hX⟩ : ∃ X, w.alloc (.cells #[.int .i64 0, .int .i64 0, .int .i64 0, .slice none 0 0] 26) = X := ⟨_, rfl⟩
  have hP : Hid (Pure w X) := by rw [← hX]; exact (Diff.refl w).alloc _
  have hX1 : X.heap[w.heap.size]? = some (.cells #[.int .i64 0, .int .i64 0, .int .i64 0, .slice none 0 0] 26 (0, 0)) := by rw [← hX]; exact World.alloc_heap_new _ _
  rw [hX]
  clear hX
  refine (to_any X lo hi).mono ?_
  rintro e w1 ⟨rfl, hp1⟩
  have hP1 : Hid (Pure w w1) := hP.out.trans hp1
  have hw1 := (hp1.block _ (Array.getElem?_eq_some_iff.1 hX1).1 id).trans hX1
  have c0 : w1.cell? ⟨w.heap.size, 0, none⟩ = some (.int .i64 0) := by rw [cell_of_row w1 _ _ _ _ _ hw1]; rfl
  have c1 : w1.cell? ⟨w.heap.size, 1, none⟩ = some (.int .i64 0) := by rw [cell_of_row w1 _ _ _ _ _ hw1]; rfl
  have c2 : w1.cell? ⟨w.heap.size, 2, none⟩ = some (.int .i64 0) := by rw [cell_of_row w1 _ _ _ _ _ hw1]; rfl
  have c3 : w1.cell? ⟨w.heap.size, 3, none⟩ = some (.slice none 0 0) := by rw [cell_of_row w1 _ _ _ _ _ hw1]; rfl
  have f0 : ∀ o, w1.frozen? ⟨w.heap.size, o, none⟩ = false := fun o => frozen_of_row w1 _ o _ _ hw1
  have cl : w.heap.size < w1.heap.size := (Array.getElem?_eq_some_iff.1 hw1).1
  clear hw1 hp1 hP hX1
  go_wp2_with fail
  exact bodyPost_ret (v := .agg #[.int .i64 lo, .int .i64 hi, .int .i64 lots, .slice q n c]) (by simp [results, Tryd.results89, go_sem, c0, c1, c2, c3]) rfl ⟨rfl, by repeat (first | exact hP1.out | refine Diff.setCell ?_ (fun h => absurd h (by simp)) _)⟩

/-- Two lists of numbers are compared. -/
def eqTo (f g : Nat → Int) (n : Nat) : Bool := (List.range n).all fun k => f k == g k
theorem eqTo_succ (f g : Nat → Int) (n : Nat) : eqTo f g (n + 1) = (eqTo f g n && f n == g n) := by simp [eqTo, List.range_succ]
theorem eqTo_false {f g : Nat → Int} {n k : Nat} (hk : k < n) (h : (f k == g k) = false) : eqTo f g n = false := by
  simp only [eqTo, List.all_eq_false, List.mem_range]
  exact ⟨k, hk, by simp [h]⟩
set_option maxHeartbeats 2000000 in
theorem Longs_any (w : World) (q r : Option Addr) (n m c d : Nat) (f g : Nat → Int) (hn : n ≤ 1000) (hm : m ≤ 1000) (hq : Row w.heap.size w q n fun k => .int .i64 (f k)) (hr : Row w.heap.size w r m fun k => .int .i64 (g k)) :
    Calls Tryd.prog 33 #[.slice q n c, .slice r m d] w fun e w' => e = .returned (.bool (decide (n = m) && eqTo f g n)) ∧ Pure w w' := by
  go_enter Tryd.func33, Tryd.ntmps33
  by_cases hnm : n = m
  · subst hnm
    simp only [decide_true, Bool.true_and]
    go_wp2_with fail
    go_loopw [5] (fun i wr => ∃ k : Nat, k ≤ n ∧ i = .int .i64 k ∧ Hid (eqTo f g k = true) ∧ Hid (Pure w wr)) (fun i _ => n - (intOf i).toNat)
    case atStart => exact ⟨0, Nat.zero_le _, rfl, rfl, Diff.refl _⟩
    case round =>
      obtain ⟨k, hk, rfl, HE, HP⟩ := hrel
      by_cases hkn : k < n
      · obtain ⟨b1, o1, rfl, hb1, z1⟩ := hq k hkn
        obtain ⟨b2, o2, rfl, hb2, z2⟩ := hr k hkn
        have k1 := ((pcell HP.out).1 _ _ hb1).trans z1
        have k2 := ((pcell HP.out).1 _ _ hb2).trans z2
        have hki : (k : Int) < n := by omega
        have hk0 : (0 : Int) ≤ k := by omega
        clear z1 z2
        have HPD : Hid (Pure w wr.drew) := HP.out.trans (Diff.refl wr).drew
        cases hfg : f k == g k with
        | true =>
          have HS : Hid (eqTo f g (k + 1) = true) := by show _ = _; rw [eqTo_succ, HE.out, hfg]; rfl
          go_wp2_with fail
          go_region
          go_wp2_with fail
          go_roundw
          case rel => exact ⟨k + 1, by omega, by go_num, HS.out, HPD.out⟩
          case measure => simp [intOf]; omega
        | false =>
          have HF : Hid (eqTo f g n = false) := eqTo_false hkn hfg
          have hne : (f k != g k) = true := by simp [bne, hfg]
          go_wp2_with fail
          go_region
          go_wp2_with fail
          exact bodyPost_ret (v := .bool false) (by simp [results, Tryd.results33, go_sem]) rfl ⟨by rw [HF.out], HPD.out⟩
      · obtain rfl : n = k := by omega
        go_wp2_with fail
        exact bodyPost_ret (v := .bool true) (by simp [results, Tryd.results33, go_sem]) rfl ⟨by rw [HE.out], HP.out⟩
  · have hb : (decide (n = m) && eqTo f g n) = false := by simp [hnm]
    rw [hb]
    have hnmi : ((n : Int) == m) = false := by simp; omega
    have hnmi2 : ((n : Int) != m) = true := by simp [bne, hnmi]
    go_wp2_with fail
    exact bodyPost_ret (v := .bool false) (by simp [results, Tryd.results33, go_sem]) rfl ⟨rfl, Diff.refl _⟩
end Go.Proofs.YtmedkmbfggphdaaDoor

namespace Go.Proofs.YtmedkmbfggphdaaDoor
open Go.RowKit

/-- The cells of a sitting of n tastes, out of its numbers. -/
def sitC (f : Nat → Int) : Nat → List Value
  | 0 => []
  | n + 1 => sitC f n ++ [.int .i64 (f (3 * n)), .int .i64 (f (3 * n + 1)), .int .i64 (f (3 * n + 2))]
theorem sitC_length (f : Nat → Int) : ∀ n, (sitC f n).length = n * 3
  | 0 => rfl
  | n + 1 => by simp only [sitC, List.length_append, sitC_length f n, List.length_cons, List.length_nil]; omega

theorem operW_append {P : Program} {o : Oper} {a : Act} {w : World} {K : Act → World → Prop} {Q : Exit → Act → World → Prop} (s x : Operand) (t : TypeId)
    (hop : o.op = Op.call { callee := Callee.builtin Builtin.append, args := #[s, x], argTypes := #[t, t] }) (vs vx : Value) (hs : a.eval s = vs) (hx : a.eval x = vx) (v' : Value) (w' : World)
    (hrun : (Builtin.append_ #[t, t] o.type #[vs, vx]).run P w = .ok v' w') (h : K (a.put o.dst v') w') : Oper.wp P o a w K Q := by
  unfold Oper.wp
  simp [execOp, hop, resolve, invoke, builtin, hs, hx, hrun, Result.andThen]
  exact h

set_option maxRecDepth 20000 in
set_option maxHeartbeats 4000000 in
theorem Sitting_any (w : World) (q : Option Addr) (n c : Nat) (f : Nat → Int) (hn : n ≤ 100) (hq : Row w.heap.size w q (3 * n) fun k => .int .i64 (f k)) :
    Calls Tryd.prog 53 #[.slice q (3 * n) c] w fun e w' => ∃ u, e = .returned u ∧ w'.ownsRow w.heap.size 70 3 u n (sitC f n) ∧ Pure w w' := by
  obtain ⟨i7, hi7, hz7, hsz7, hby7⟩ := info70'
  have hmx : Tryd.prog.follows .mixedOrders = true := by kernel_rfl
  go_enter Tryd.func53, Tryd.ntmps53
  go_wp2_with fail
  go_loopw [3, 4] (fun u i wr => ∃ k : Nat, k ≤ n ∧ i = .int .i64 ((3 * k : Nat) : Int) ∧ wr.ownsRow w.heap.size 70 3 u k (sitC f k) ∧ Hid (Pure w wr)) (fun _ i _ => 3 * n - (intOf i).toNat)
  case atStart => exact ⟨0, Nat.zero_le _, rfl, World.ownsRow_nil _ _ _ _, Diff.refl _⟩
  case round =>
    obtain ⟨k, hk, rfl, hown, HP⟩ := hrel
    by_cases hkn : k < n
    · obtain ⟨b0, o0, rfl, hb0, z0⟩ := hq (3 * k) (by omega)
      have hz : ∀ j, j < 3 * n → w.cell? ⟨b0, o0 + j, none⟩ = some (.int .i64 (f j)) := fun j hj => by
        obtain ⟨b1, o1, he, _, z⟩ := hq j hj
        cases he
        exact z
      have z1 := hz (3 * k + 1) (by omega)
      have z2 := hz (3 * k + 2) (by omega)
      clear hz
      have hki : (((3 * k : Nat) : Int) + 2) < ((3 * n : Nat) : Int) := by omega
      have hk0 : (0 : Int) ≤ ((3 * k : Nat) : Int) := by omega
      obtain ⟨j, hj⟩ : ∃ j, 3 * k = j := ⟨_, rfl⟩
      obtain ⟨m, hm⟩ : ∃ m, 3 * n = m := ⟨_, rfl⟩
      rw [hj] at hki hk0 z0 z1 z2 ⊢
      rw [hm] at hki ⊢
      go_wp2_with fail
      have hkj : (j : Int) < m := by omega
      have hkj1 : (j : Int) + 1 < m := by omega
      have hj1 : (0 : Int) ≤ (j : Int) + 1 := by omega
      have hj2 : (0 : Int) ≤ (j : Int) + 2 := by omega
      have hn1 : ((j : Int) + 1).toNat = j + 1 := by omega
      have hn2 : ((j : Int) + 2).toNat = j + 2 := by omega
      have hwr1 : IntKind.i64.wrap ((j : Int) + 1) = (j : Int) + 1 := IntWalk.i64_in _ (by omega)
      have hwr2 : IntKind.i64.wrap ((j : Int) + 2) = (j : Int) + 2 := IntWalk.i64_in _ (by omega)
      have HO := Lib.hid hown
      have hkn' : k ≤ 100 := by omega
      clear hown
      refine reg_invW (fun d a W => ∃ (sb : Nat) (v2 : Value), a = { tmps := #[Value.slice (some { block := b0, off := o0 }) m c, undef, Value.slice none 0 0, (bif d 19 then v2 else u3), Value.int IntKind.i64 (j : Int), Value.int IntKind.i64 (j : Int), Value.int IntKind.i64 ((j : Int) + 2), Value.slice (some { block := b0, off := o0 }) m c, Value.int IntKind.i64 (m : Int), Value.bool true, u10, u11, (bif d 0 then u3 else u12), (bif d 1 then Value.slice (some { block := b0, off := o0 }) m c else u13), (bif d 2 then Value.int IntKind.i64 (j : Int) else u14), (bif d 3 then Value.pointer (some { block := b0, off := o0 + j }) else u15), (bif d 4 then Value.int IntKind.i64 (f j) else u16), (bif d 5 then Value.slice (some { block := b0, off := o0 }) m c else u17), (bif d 6 then Value.int IntKind.i64 (j : Int) else u18), (bif d 7 then Value.int IntKind.i64 ((j : Int) + 1) else u19), (bif d 8 then Value.pointer (some { block := b0, off := o0 + (j + 1) }) else u20), (bif d 9 then Value.int IntKind.i64 (f (j + 1)) else u21), (bif d 10 then Value.slice (some { block := b0, off := o0 }) m c else u22), (bif d 11 then Value.int IntKind.i64 (j : Int) else u23), (bif d 12 then Value.int IntKind.i64 ((j : Int) + 2) else u24), (bif d 13 then Value.pointer (some { block := b0, off := o0 + (j + 2) }) else u25), (bif d 14 then Value.int IntKind.i64 (f (j + 2)) else u26), (bif d 15 then Value.agg #[Value.int IntKind.i64 (f (j + 1)), Value.int IntKind.i64 (f (j + 2))] else u27), (bif d 16 then Value.agg #[Value.int IntKind.i64 (f j), Value.int IntKind.i64 (f (j + 1)), Value.int IntKind.i64 (f (j + 2))] else u28), (bif d 17 then Value.slice (some { block := sb, off := 0 }) 1 1 else u29), (bif d 18 then v2 else u30), undef], defers := [] } ∧ (d 18 = false → Pure wr W) ∧ (d 17 = true → d 18 = false → W.heap[sb]? = some (.cells #[.int .i64 (f j), .int .i64 (f (j + 1)), .int .i64 (f (j + 2))] 70 (0, 0))) ∧ (d 18 = true → Pure w W ∧ W.ownsRow w.heap.size 70 3 v2 (k + 1) (sitC f k ++ [.int .i64 (f j), .int .i64 (f (j + 1)), .int .i64 (f (j + 2))]))) hmx (by kernel_rfl) ?_ ?_ ?_
      · exact ⟨0, undef, rfl, (fun _ => (Diff.refl wr).drew), (fun h => by cases h), (fun h => by cases h)⟩
      · refine ⟨?_, ?_, ?_, ?_, ?_, ?_, ?_, ?_, ?_, ?_, ?_, ?_, ?_, ?_, ?_, ?_, ?_, ?_, ?_, ?_, trivial⟩
        · rintro d a W hdi hdep hcl ⟨sb, v2, rfl, hw⟩ K hK
          replace hdi : d 0 = false := hdi
          obtain ⟨-, -, f18, f19, -⟩ := hcl.facts 0 hdi rfl hdep [] [18, 19] (by kernel_rfl) (by kernel_rfl)
          clear hdep hcl
          go_simp
          exact hK _ _ ⟨sb, v2, by simp [upd, hdi, f18, f19], by simpa [upd, hdi, f18, f19] using hw⟩
        · rintro d a W hdi hdep hcl ⟨sb, v2, rfl, hw⟩ K hK
          replace hdi : d 1 = false := hdi
          obtain ⟨-, -, f3, f4, f16, f17, f18, f19, -⟩ := hcl.facts 1 hdi rfl hdep [] [3, 4, 16, 17, 18, 19] (by kernel_rfl) (by kernel_rfl)
          clear hdep hcl
          go_simp
          exact hK _ _ ⟨sb, v2, by simp [upd, hdi, f3, f4, f16, f17, f18, f19], by simpa [upd, hdi, f3, f4, f16, f17, f18, f19] using hw⟩
        · rintro d a W hdi hdep hcl ⟨sb, v2, rfl, hw⟩ K hK
          replace hdi : d 2 = false := hdi
          obtain ⟨-, -, f3, f4, f16, f17, f18, f19, -⟩ := hcl.facts 2 hdi rfl hdep [] [3, 4, 16, 17, 18, 19] (by kernel_rfl) (by kernel_rfl)
          clear hdep hcl
          go_simp
          exact hK _ _ ⟨sb, v2, by simp [upd, hdi, f3, f4, f16, f17, f18, f19], by simpa [upd, hdi, f3, f4, f16, f17, f18, f19] using hw⟩
        · rintro d a W hdi hdep hcl ⟨sb, v2, rfl, hw⟩ K hK
          replace hdi : d 3 = false := hdi
          obtain ⟨-, ⟨e1, e2, -⟩, f4, f16, f17, f18, f19, -⟩ := hcl.facts 3 hdi rfl hdep [1, 2] [4, 16, 17, 18, 19] (by kernel_rfl) (by kernel_rfl)
          clear hdep hcl
          go_simp
          exact hK _ _ ⟨sb, v2, by simp [upd, hdi, e1, e2, f4, f16, f17, f18, f19], by simpa [upd, hdi, e1, e2, f4, f16, f17, f18, f19] using hw⟩
        · rintro d a W hdi hdep hcl ⟨sb, v2, rfl, hw⟩ K hK
          replace hdi : d 4 = false := hdi
          obtain ⟨-, ⟨e1, e2, e3, -⟩, f16, f17, f18, f19, -⟩ := hcl.facts 4 hdi rfl hdep [1, 2, 3] [16, 17, 18, 19] (by kernel_rfl) (by kernel_rfl)
          clear hdep hcl
          have z := ((pcell (HP.out.trans (hw.1 f18))).1 _ _ hb0).trans z0
          go_simp
          exact hK _ _ ⟨sb, v2, by simp [upd, hdi, e1, e2, e3, f16, f17, f18, f19], by simpa [upd, hdi, e1, e2, e3, f16, f17, f18, f19] using hw⟩
        · rintro d a W hdi hdep hcl ⟨sb, v2, rfl, hw⟩ K hK
          replace hdi : d 5 = false := hdi
          obtain ⟨-, -, f8, f9, f15, f16, f17, f18, f19, -⟩ := hcl.facts 5 hdi rfl hdep [] [8, 9, 15, 16, 17, 18, 19] (by kernel_rfl) (by kernel_rfl)
          clear hdep hcl
          go_simp
          exact hK _ _ ⟨sb, v2, by simp [upd, hdi, f8, f9, f15, f16, f17, f18, f19], by simpa [upd, hdi, f8, f9, f15, f16, f17, f18, f19] using hw⟩
        · rintro d a W hdi hdep hcl ⟨sb, v2, rfl, hw⟩ K hK
          replace hdi : d 6 = false := hdi
          obtain ⟨-, -, f7, f8, f9, f15, f16, f17, f18, f19, -⟩ := hcl.facts 6 hdi rfl hdep [] [7, 8, 9, 15, 16, 17, 18, 19] (by kernel_rfl) (by kernel_rfl)
          clear hdep hcl
          go_simp
          exact hK _ _ ⟨sb, v2, by simp [upd, hdi, f7, f8, f9, f15, f16, f17, f18, f19], by simpa [upd, hdi, f7, f8, f9, f15, f16, f17, f18, f19] using hw⟩
        · rintro d a W hdi hdep hcl ⟨sb, v2, rfl, hw⟩ K hK
          replace hdi : d 7 = false := hdi
          obtain ⟨-, ⟨e6, -⟩, f8, f9, f15, f16, f17, f18, f19, -⟩ := hcl.facts 7 hdi rfl hdep [6] [8, 9, 15, 16, 17, 18, 19] (by kernel_rfl) (by kernel_rfl)
          clear hdep hcl
          go_simp
          exact hK _ _ ⟨sb, v2, by simp [upd, hdi, e6, f8, f9, f15, f16, f17, f18, f19], by simpa [upd, hdi, e6, f8, f9, f15, f16, f17, f18, f19] using hw⟩
        · rintro d a W hdi hdep hcl ⟨sb, v2, rfl, hw⟩ K hK
          replace hdi : d 8 = false := hdi
          obtain ⟨-, ⟨e5, e6, e7, -⟩, f9, f15, f16, f17, f18, f19, -⟩ := hcl.facts 8 hdi rfl hdep [5, 6, 7] [9, 15, 16, 17, 18, 19] (by kernel_rfl) (by kernel_rfl)
          clear hdep hcl
          go_simp
          exact hK _ _ ⟨sb, v2, by simp [upd, hdi, e5, e6, e7, f9, f15, f16, f17, f18, f19], by simpa [upd, hdi, e5, e6, e7, f9, f15, f16, f17, f18, f19] using hw⟩
        · rintro d a W hdi hdep hcl ⟨sb, v2, rfl, hw⟩ K hK
          replace hdi : d 9 = false := hdi
          obtain ⟨-, ⟨e5, e6, e7, e8, -⟩, f15, f16, f17, f18, f19, -⟩ := hcl.facts 9 hdi rfl hdep [5, 6, 7, 8] [15, 16, 17, 18, 19] (by kernel_rfl) (by kernel_rfl)
          clear hdep hcl
          have z := ((pcell (HP.out.trans (hw.1 f18))).1 _ _ hb0).trans z1
          go_simp
          exact hK _ _ ⟨sb, v2, by simp [upd, hdi, e5, e6, e7, e8, f15, f16, f17, f18, f19], by simpa [upd, hdi, e5, e6, e7, e8, f15, f16, f17, f18, f19] using hw⟩
        · rintro d a W hdi hdep hcl ⟨sb, v2, rfl, hw⟩ K hK
          replace hdi : d 10 = false := hdi
          obtain ⟨-, -, f13, f14, f15, f16, f17, f18, f19, -⟩ := hcl.facts 10 hdi rfl hdep [] [13, 14, 15, 16, 17, 18, 19] (by kernel_rfl) (by kernel_rfl)
          clear hdep hcl
          go_simp
          exact hK _ _ ⟨sb, v2, by simp [upd, hdi, f13, f14, f15, f16, f17, f18, f19], by simpa [upd, hdi, f13, f14, f15, f16, f17, f18, f19] using hw⟩
        · rintro d a W hdi hdep hcl ⟨sb, v2, rfl, hw⟩ K hK
          replace hdi : d 11 = false := hdi
          obtain ⟨-, -, f12, f13, f14, f15, f16, f17, f18, f19, -⟩ := hcl.facts 11 hdi rfl hdep [] [12, 13, 14, 15, 16, 17, 18, 19] (by kernel_rfl) (by kernel_rfl)
          clear hdep hcl
          go_simp
          exact hK _ _ ⟨sb, v2, by simp [upd, hdi, f12, f13, f14, f15, f16, f17, f18, f19], by simpa [upd, hdi, f12, f13, f14, f15, f16, f17, f18, f19] using hw⟩
        · rintro d a W hdi hdep hcl ⟨sb, v2, rfl, hw⟩ K hK
          replace hdi : d 12 = false := hdi
          obtain ⟨-, ⟨e11, -⟩, f13, f14, f15, f16, f17, f18, f19, -⟩ := hcl.facts 12 hdi rfl hdep [11] [13, 14, 15, 16, 17, 18, 19] (by kernel_rfl) (by kernel_rfl)
          clear hdep hcl
          go_simp
          exact hK _ _ ⟨sb, v2, by simp [upd, hdi, e11, f13, f14, f15, f16, f17, f18, f19], by simpa [upd, hdi, e11, f13, f14, f15, f16, f17, f18, f19] using hw⟩
        · rintro d a W hdi hdep hcl ⟨sb, v2, rfl, hw⟩ K hK
          replace hdi : d 13 = false := hdi
          obtain ⟨-, ⟨e10, e11, e12, -⟩, f14, f15, f16, f17, f18, f19, -⟩ := hcl.facts 13 hdi rfl hdep [10, 11, 12] [14, 15, 16, 17, 18, 19] (by kernel_rfl) (by kernel_rfl)
          clear hdep hcl
          go_simp
          exact hK _ _ ⟨sb, v2, by simp [upd, hdi, e10, e11, e12, f14, f15, f16, f17, f18, f19], by simpa [upd, hdi, e10, e11, e12, f14, f15, f16, f17, f18, f19] using hw⟩
        · rintro d a W hdi hdep hcl ⟨sb, v2, rfl, hw⟩ K hK
          replace hdi : d 14 = false := hdi
          obtain ⟨-, ⟨e10, e11, e12, e13, -⟩, f15, f16, f17, f18, f19, -⟩ := hcl.facts 14 hdi rfl hdep [10, 11, 12, 13] [15, 16, 17, 18, 19] (by kernel_rfl) (by kernel_rfl)
          clear hdep hcl
          have z := ((pcell (HP.out.trans (hw.1 f18))).1 _ _ hb0).trans z2
          go_simp
          exact hK _ _ ⟨sb, v2, by simp [upd, hdi, e10, e11, e12, e13, f15, f16, f17, f18, f19], by simpa [upd, hdi, e10, e11, e12, e13, f15, f16, f17, f18, f19] using hw⟩
        · rintro d a W hdi hdep hcl ⟨sb, v2, rfl, hw⟩ K hK
          replace hdi : d 15 = false := hdi
          obtain ⟨-, ⟨e5, e6, e7, e8, e9, e10, e11, e12, e13, e14, -⟩, f16, f17, f18, f19, -⟩ := hcl.facts 15 hdi rfl hdep [5, 6, 7, 8, 9, 10, 11, 12, 13, 14] [16, 17, 18, 19] (by kernel_rfl) (by kernel_rfl)
          clear hdep hcl
          go_simp
          refine (to_any _ _ _).mono ?_
          rintro e wt ⟨rfl, hpt⟩
          refine hK _ _ ⟨sb, v2, by simp [upd, hdi, e5, e6, e7, e8, e9, e10, e11, e12, e13, e14, f16, f17, f18, f19], fun _ => (hw.1 f18).trans hpt, fun h => absurd h (by simp [upd, hdi, e5, e6, e7, e8, e9, e10, e11, e12, e13, e14, f16, f17, f18, f19]), fun h => absurd h (by simp [upd, hdi, e5, e6, e7, e8, e9, e10, e11, e12, e13, e14, f16, f17, f18, f19])⟩
        · rintro d a W hdi hdep hcl ⟨sb, v2, rfl, hw⟩ K hK
          replace hdi : d 16 = false := hdi
          obtain ⟨-, ⟨e1, e2, e3, e4, e5, e6, e7, e8, e9, e10, e11, e12, e13, e14, e15, -⟩, f17, f18, f19, -⟩ := hcl.facts 16 hdi rfl hdep [1, 2, 3, 4, 5, 6, 7, 8, 9, 10, 11, 12, 13, 14, 15] [17, 18, 19] (by kernel_rfl) (by kernel_rfl)
          clear hdep hcl
          go_simp
          exact hK _ _ ⟨sb, v2, by simp [upd, hdi, e1, e2, e3, e4, e5, e6, e7, e8, e9, e10, e11, e12, e13, e14, e15, f17, f18, f19], by simpa [upd, hdi, e1, e2, e3, e4, e5, e6, e7, e8, e9, e10, e11, e12, e13, e14, e15, f17, f18, f19] using hw⟩
        · rintro d a W hdi hdep hcl ⟨sb, v2, rfl, hw⟩ K hK
          replace hdi : d 17 = false := hdi
          obtain ⟨-, ⟨e1, e2, e3, e4, e5, e6, e7, e8, e9, e10, e11, e12, e13, e14, e15, e16, -⟩, f18, f19, -⟩ := hcl.facts 17 hdi rfl hdep [1, 2, 3, 4, 5, 6, 7, 8, 9, 10, 11, 12, 13, 14, 15, 16] [18, 19] (by kernel_rfl) (by kernel_rfl)
          clear hdep hcl
          go_simp
          refine hK _ _ ⟨W.heap.size, v2, by simp [upd, hdi, e1, e2, e3, e4, e5, e6, e7, e8, e9, e10, e11, e12, e13, e14, e15, e16, f18, f19], fun _ => (hw.1 f18).trans ((Diff.refl W).alloc _), fun _ _ => World.alloc_heap_new _ _, fun h => absurd h (by simp [upd, hdi, e1, e2, e3, e4, e5, e6, e7, e8, e9, e10, e11, e12, e13, e14, e15, e16, f18, f19])⟩
        · rintro d a W hdi hdep hcl ⟨sb, v2, rfl, hw⟩ K hK
          replace hdi : d 18 = false := hdi
          obtain ⟨-, ⟨e0, e1, e2, e3, e4, e5, e6, e7, e8, e9, e10, e11, e12, e13, e14, e15, e16, e17, -⟩, f19, -⟩ := hcl.facts 18 hdi rfl hdep [0, 1, 2, 3, 4, 5, 6, 7, 8, 9, 10, 11, 12, 13, 14, 15, 16, 17] [19] (by kernel_rfl) (by kernel_rfl)
          clear hdep hcl
          have h5 := hw.2.1 e17 hdi
          have hp := hw.1 hdi
          have hbs := HP.out.size
          have hbp := hp.size
          obtain ⟨v', w', hr, q2, q3, -⟩ := run_append_own (P := Tryd.prog) W w.heap.size 59 59 70 i7 (.agg #[.int .i64 0, .int .i64 0, .int .i64 0]) 3 24 Tryd.underlying59 hi7 hz7 hsz7 hby7 rfl (by omega) u3 k (sitC f k) (own_pure HO.out hp) ⟨sb, 0, none⟩ 1 1 [.int .i64 (f j), .int .i64 (f (j + 1)), .int .i64 (f (j + 2))] rfl (fun q x hq => by
                  have hadd : (⟨sb, 0, none⟩ : Addr).add q = ⟨sb, q, none⟩ := by unfold Addr.add; split <;> simp_all
                  rw [hadd, cell_of_row W _ _ _ _ _ h5]
                  match q with
                  | 0 => simpa using hq
                  | 1 => simpa using hq
                  | 2 => simpa using hq
                  | q + 3 => simp at hq) (by simp [Value.oneCell']) (by simp only [maxLen]; omega) (by omega) (by omega)
          have hpw : Pure w w' := grown_pure (HP.out.trans hp) q3 (fun x hx => (HO.out.lt x hx).1)
          refine Eq.mpr (if_pos rfl) ?_
          refine operW_append (.tmp 12) (.tmp 29) 59 rfl u3 (.slice (some ⟨sb, 0, none⟩) 1 1) (by simp [Act.eval, upd, hdi, e0, e1, e2, e3, e4, e5, e6, e7, e8, e9, e10, e11, e12, e13, e14, e15, e16, e17, f19]) (by simp [Act.eval, upd, hdi, e0, e1, e2, e3, e4, e5, e6, e7, e8, e9, e10, e11, e12, e13, e14, e15, e16, e17, f19]) v' w' hr ?_
          refine hK _ _ ⟨sb, v', by simp [Act.put, upd, hdi, e0, e1, e2, e3, e4, e5, e6, e7, e8, e9, e10, e11, e12, e13, e14, e15, e16, e17, f19], fun h => absurd h (by simp [upd, hdi, e0, e1, e2, e3, e4, e5, e6, e7, e8, e9, e10, e11, e12, e13, e14, e15, e16, e17, f19]), fun _ h => absurd h (by simp [upd, hdi, e0, e1, e2, e3, e4, e5, e6, e7, e8, e9, e10, e11, e12, e13, e14, e15, e16, e17, f19]), fun _ => ⟨hpw, q2⟩⟩
        · rintro d a W hdi hdep hcl ⟨sb, v2, rfl, hw⟩ K hK
          replace hdi : d 19 = false := hdi
          obtain ⟨-, ⟨e0, e1, e2, e3, e4, e5, e6, e7, e8, e9, e10, e11, e12, e13, e14, e15, e16, e17, e18, -⟩, -⟩ := hcl.facts 19 hdi rfl hdep [0, 1, 2, 3, 4, 5, 6, 7, 8, 9, 10, 11, 12, 13, 14, 15, 16, 17, 18] [] (by kernel_rfl) (by kernel_rfl)
          clear hdep hcl
          go_simp
          exact hK _ _ ⟨sb, v2, by simp [upd, hdi, e0, e1, e2, e3, e4, e5, e6, e7, e8, e9, e10, e11, e12, e13, e14, e15, e16, e17, e18], by simpa [upd, hdi, e0, e1, e2, e3, e4, e5, e6, e7, e8, e9, e10, e11, e12, e13, e14, e15, e16, e17, e18] using hw⟩
      · rintro d a W hall ⟨sb, v2, rfl, hw⟩
        simp [List.range_succ] at hall
        obtain ⟨e0, e1, e2, e3, e4, e5, e6, e7, e8, e9, e10, e11, e12, e13, e14, e15, e16, e17, e18, e19⟩ := hall
        simp only [e0, e1, e2, e3, e4, e5, e6, e7, e8, e9, e10, e11, e12, e13, e14, e15, e16, e17, e18, e19, cond_true] at hw ⊢
        clear e0 e1 e2 e3 e4 e5 e6 e7 e8 e9 e10 e11 e12 e13 e14 e15 e16 e17 e18 e19
        obtain ⟨hpw, hown2⟩ := hw.2.2 trivial
        clear hw
        have HS : Hid (W.ownsRow w.heap.size 70 3 v2 (k + 1) (sitC f (k + 1))) := by show World.ownsRow _ _ _ _ _ _ _; rw [sitC, hj]; exact hown2
        have HPW := Lib.hid hpw
        clear hown2 hpw
        go_wp2_with fail
        exact ⟨⟨k + 1, by omega, by rw [← hj]; go_num, HS.out, HPW.out⟩, by simp [intOf]; omega⟩
    · obtain rfl : n = k := by omega
      have HO := Lib.hid hown
      obtain ⟨m, hm⟩ : ∃ m, 3 * n = m := ⟨_, rfl⟩
      rw [hm]
      have hmm : m ≤ 300 := by omega
      have hnl : ¬ ((m : Int) + 2 < m) := by omega
      have hnl2 : (m : Int) ≤ (m : Int) + 2 := by omega
      clear hown hm
      go_wp2_with fail
      exact bodyPost_ret (v := u3) (by simp [results, Tryd.results53, go_sem]) rfl ⟨u3, rfl, HO.out, HP.out⟩

/-- The book of the examples: one sitting of m tastes, by its numbers. -/
def bk1 (lo hi lots : Int) (m : Nat) (f : Nat → Int) : BK := ⟨lo, hi, lots, 1, fun _ => m, fun _ j => ⟨f (3 * j), f (3 * j + 1), f (3 * j + 2)⟩⟩
def numsA : Nat → Int := fun k => [0, 50, 52, 1, 40, 41, 0, 45, 47].getD k 0
def numsB : Nat → Int := fun k => [0, 50, 50, 0, 44, 45].getD k 0
def bkA : BK := bk1 1 3 2 3 numsA
def bkB : BK := bk1 1 3 1 2 numsB
theorem sitC_at (f : Nat → Int) : ∀ n j, j < n → (sitC f n)[j * 3]? = some (.int .i64 (f (3 * j))) ∧ (sitC f n)[j * 3 + 1]? = some (.int .i64 (f (3 * j + 1))) ∧ (sitC f n)[j * 3 + 2]? = some (.int .i64 (f (3 * j + 2)))
  | 0, j, h => by omega
  | n + 1, j, h => by
    have hl := sitC_length f n
    by_cases e : j = n
    · subst e
      simp only [sitC]
      rw [List.getElem?_append_right (by omega), List.getElem?_append_right (by omega), List.getElem?_append_right (by omega), hl]
      rw [show j * 3 - j * 3 = 0 by omega, show j * 3 + 1 - j * 3 = 1 by omega, show j * 3 + 2 - j * 3 = 2 by omega]
      exact ⟨rfl, rfl, rfl⟩
    · have ih := sitC_at f n j (by omega)
      simp only [sitC]
      rw [List.getElem?_append_left (by omega), List.getElem?_append_left (by omega), List.getElem?_append_left (by omega)]
      exact ih
theorem SitAt.of_own {w : World} {B m : Nat} {u : Value} {f : Nat → Int} (h : w.ownsRow B 70 3 u m (sitC f m)) : ∃ p c, u = .slice p m c ∧ SitAt w.heap.size w p m (fun j => ⟨f (3 * j), f (3 * j + 1), f (3 * j + 2)⟩) := by
  rcases h.2 with ⟨rfl, h0⟩ | ⟨g, c, cur, rfl, h1, h2, h3⟩
  · exact ⟨none, 0, by rw [h0], fun j hj => by omega⟩
  · refine ⟨_, c, rfl, fun j hj => ⟨g, 0, rfl, (Array.getElem?_eq_some_iff.1 h2).1, ?_⟩⟩
    have hc := World.ownsRow.cells h (g := g) rfl
    have hadd : ∀ j, (⟨g, 0, none⟩ : Addr).add j = ⟨g, j, none⟩ := fun j => by unfold Addr.add; split <;> simp_all
    obtain ⟨a1, a2, a3⟩ := sitC_at f m j hj
    have b1 := hc _ _ a1
    have b2 := hc _ _ a2
    have b3 := hc _ _ a3
    rw [hadd] at b1 b2 b3
    rw [Nat.zero_add]
    exact ⟨b1, b2, b3⟩
/-- What two and one answer. -/
def isBook (b : BK) (w : World) (e : Ending) (w' : World) : Prop := ∃ p cap, e = .returned (bookV b p cap) ∧ BookAt w'.heap.size w' p b

set_option maxRecDepth 20000 in
set_option maxHeartbeats 4000000 in
theorem two_any (w : World) : Calls Tryd.prog 56 #[] w fun e w' => isBook bkA w e w' ∧ Pure w w' := by
  go_enter Tryd.func56, Tryd.ntmps56
  go_wp2_with fail
  obtain ⟨X, hX⟩ : ∃ X, (w.alloc (Obj.cells #[Value.int IntKind.i64 0, Value.int IntKind.i64 0, Value.int IntKind.i64 0, Value.slice none 0 0] 26)).alloc (Obj.cells #[Value.int IntKind.i64 0, Value.int IntKind.i64 50, Value.int IntKind.i64 52, Value.int IntKind.i64 1, Value.int IntKind.i64 40, Value.int IntKind.i64 41, Value.int IntKind.i64 0, Value.int IntKind.i64 45, Value.int IntKind.i64 47] 3) = X := ⟨_, rfl⟩
  have hP : Hid (Pure w X) := by rw [← hX]; exact ((Diff.refl w).alloc _).alloc _
  have hXs : X.heap.size = w.heap.size + 2 := by rw [← hX]; simp
  have hX0 : X.heap[w.heap.size]? = some (.cells #[.int .i64 0, .int .i64 0, .int .i64 0, .slice none 0 0] 26 (0, 0)) := by rw [← hX]; exact (Below.heap_alloc _ _ _ (by simp)).trans (World.alloc_heap_new _ _)
  have hX1 : X.heap[w.heap.size + 1]? = some (.cells #[Value.int IntKind.i64 0, Value.int IntKind.i64 50, Value.int IntKind.i64 52, Value.int IntKind.i64 1, Value.int IntKind.i64 40, Value.int IntKind.i64 41, Value.int IntKind.i64 0, Value.int IntKind.i64 45, Value.int IntKind.i64 47] 3 (0, 0)) := by
    rw [← hX]
    have := World.alloc_heap_new (w.alloc (Obj.cells #[Value.int IntKind.i64 0, Value.int IntKind.i64 0, Value.int IntKind.i64 0, Value.slice none 0 0] 26)) (Obj.cells #[Value.int IntKind.i64 0, Value.int IntKind.i64 50, Value.int IntKind.i64 52, Value.int IntKind.i64 1, Value.int IntKind.i64 40, Value.int IntKind.i64 41, Value.int IntKind.i64 0, Value.int IntKind.i64 45, Value.int IntKind.i64 47] 3)
    rwa [World.size_alloc] at this
  rw [hX]
  clear hX
  refine (Sitting_any X (some ⟨w.heap.size + 1, 0, none⟩) 3 9 numsA (by omega) ?_).mono ?_
  · intro k hk
    refine ⟨w.heap.size + 1, 0, rfl, by omega, ?_⟩
    rw [cell_of_row X _ _ _ _ _ hX1, Nat.zero_add]
    have : k < 9 := hk
    match k, this with
    | 0, _ => rfl
    | 1, _ => rfl
    | 2, _ => rfl
    | 3, _ => rfl
    | 4, _ => rfl
    | 5, _ => rfl
    | 6, _ => rfl
    | 7, _ => rfl
    | 8, _ => rfl
    | n + 9, h => omega
  · rintro e w1 ⟨u, rfl, hown, hp1⟩
    have hP1 : Hid (Pure w w1) := hP.out.trans hp1
    have hbx := (hp1.block _ (Array.getElem?_eq_some_iff.1 hX0).1 id).trans hX0
    have HO := Lib.hid hown
    obtain ⟨p1, c1, rfl, -⟩ := SitAt.of_own hown
    have hs1 : X.heap.size ≤ w1.heap.size := hp1.size
    clear hown hp1 hX0 hX1
    go_wp2_with fail
    obtain ⟨X2, hX2⟩ : ∃ X2, w1.alloc (.cells #[.slice p1 3 c1] 59) = X2 := ⟨_, rfl⟩
    have hP2 : Hid (Pure w1 X2) := by rw [← hX2]; exact (Diff.refl w1).alloc _
    have hX21 : X2.heap[w1.heap.size]? = some (.cells #[.slice p1 3 c1] 59 (0, 0)) := by rw [← hX2]; exact World.alloc_heap_new _ _
    rw [hX2]
    clear hX2
    refine (Book_any X2 1 3 2 (some ⟨w1.heap.size, 0, none⟩) 1 1).mono ?_
    rintro e w2 ⟨rfl, hp2⟩
    have hP3 : Hid (Pure w1 w2) := hP2.out.trans hp2
    have hw1l : w.heap.size < w1.heap.size := by omega
    have hb2 := (hP3.out.block _ hw1l id).trans hbx
    have hr2 := (hp2.block _ (Array.getElem?_eq_some_iff.1 hX21).1 id).trans hX21
    have z0 : w2.cell? ⟨w.heap.size, 0, none⟩ = some (.int .i64 0) := by rw [cell_of_row w2 _ _ _ _ _ hb2]; rfl
    have z1 : w2.cell? ⟨w.heap.size, 1, none⟩ = some (.int .i64 0) := by rw [cell_of_row w2 _ _ _ _ _ hb2]; rfl
    have z2 : w2.cell? ⟨w.heap.size, 2, none⟩ = some (.int .i64 0) := by rw [cell_of_row w2 _ _ _ _ _ hb2]; rfl
    have z3 : w2.cell? ⟨w.heap.size, 3, none⟩ = some (.slice none 0 0) := by rw [cell_of_row w2 _ _ _ _ _ hb2]; rfl
    have f0 : ∀ o, w2.frozen? ⟨w.heap.size, o, none⟩ = false := fun o => frozen_of_row w2 _ o _ _ hb2
    have HR2 := Lib.hid hr2
    have hl2 : w.heap.size < w2.heap.size := (Array.getElem?_eq_some_iff.1 hb2).1
    have hne : w1.heap.size ≠ w.heap.size := by omega
    have hq2 : w1.heap.size < w2.heap.size := (Array.getElem?_eq_some_iff.1 hr2).1
    clear hb2 hr2 hX21 hp2 hbx hP hP2
    obtain ⟨g1, hg1⟩ : ∃ g1, w1.heap.size = g1 := ⟨_, rfl⟩
    rw [hg1] at HR2 hne hq2 ⊢
    go_wp2_with fail
    have hd : Diff (fun k => k = w.heap.size) w2 ((((w2.setCell ⟨w.heap.size, 0, none⟩ (.int .i64 1)).setCell ⟨w.heap.size, 1, none⟩ (.int .i64 3)).setCell ⟨w.heap.size, 2, none⟩ (.int .i64 2)).setCell ⟨w.heap.size, 3, none⟩ (.slice (some ⟨g1, 0, none⟩) 1 1)) :=
      ((((Diff.refl w2).setCell (O := fun k => k = w.heap.size) (p := ⟨w.heap.size, 0, none⟩) (fun _ => rfl) _).setCell (p := ⟨w.heap.size, 1, none⟩) (fun _ => rfl) _).setCell (p := ⟨w.heap.size, 2, none⟩) (fun _ => rfl) _).setCell (p := ⟨w.heap.size, 3, none⟩) (fun _ => rfl) _
    refine bodyPost_ret (v := .agg #[.int .i64 1, .int .i64 3, .int .i64 2, .slice (some ⟨g1, 0, none⟩) 1 1]) (by simp [results, Tryd.results56, go_sem, z0, z1, z2, z3]) rfl ⟨⟨some ⟨g1, 0, none⟩, 1, rfl, ?_⟩, ?_⟩
    · intro k hk
      have hk0 : k = 0 := by have : k < 1 := hk
                             omega
      subst hk0
      have hw2o := own_pure HO.out hP3.out
      have hown' := own_block hw2o (fun k hk => hd.block k (hw2o.lt k hk).2 (by have := (hw2o.lt k hk).1; omega))
      obtain ⟨p', c', he, hsit⟩ := SitAt.of_own hown'
      cases he
      refine ⟨g1, 0, p1, c1, rfl, Nat.lt_of_lt_of_le hq2 hd.size, ?_, hsit⟩
      rw [cell_of_row _ _ _ _ _ _ ((hd.block g1 hq2 hne).trans HR2.out)]; rfl
    · exact (hP1.out.trans hP3.out).trans' hd (fun k hk e => by omega)

set_option maxRecDepth 20000 in
set_option maxHeartbeats 4000000 in
theorem one_any (w : World) : Calls Tryd.prog 57 #[] w fun e w' => isBook bkB w e w' ∧ Pure w w' := by
  go_enter Tryd.func57, Tryd.ntmps57
  go_wp2_with fail
  obtain ⟨X, hX⟩ : ∃ X, (w.alloc (Obj.cells #[Value.int IntKind.i64 0, Value.int IntKind.i64 0, Value.int IntKind.i64 0, Value.slice none 0 0] 26)).alloc (Obj.cells #[Value.int IntKind.i64 0, Value.int IntKind.i64 50, Value.int IntKind.i64 50, Value.int IntKind.i64 0, Value.int IntKind.i64 44, Value.int IntKind.i64 45] 3) = X := ⟨_, rfl⟩
  have hP : Hid (Pure w X) := by rw [← hX]; exact ((Diff.refl w).alloc _).alloc _
  have hXs : X.heap.size = w.heap.size + 2 := by rw [← hX]; simp
  have hX0 : X.heap[w.heap.size]? = some (.cells #[.int .i64 0, .int .i64 0, .int .i64 0, .slice none 0 0] 26 (0, 0)) := by rw [← hX]; exact (Below.heap_alloc _ _ _ (by simp)).trans (World.alloc_heap_new _ _)
  have hX1 : X.heap[w.heap.size + 1]? = some (.cells #[Value.int IntKind.i64 0, Value.int IntKind.i64 50, Value.int IntKind.i64 50, Value.int IntKind.i64 0, Value.int IntKind.i64 44, Value.int IntKind.i64 45] 3 (0, 0)) := by
    rw [← hX]
    have := World.alloc_heap_new (w.alloc (Obj.cells #[Value.int IntKind.i64 0, Value.int IntKind.i64 0, Value.int IntKind.i64 0, Value.slice none 0 0] 26)) (Obj.cells #[Value.int IntKind.i64 0, Value.int IntKind.i64 50, Value.int IntKind.i64 50, Value.int IntKind.i64 0, Value.int IntKind.i64 44, Value.int IntKind.i64 45] 3)
    rwa [World.size_alloc] at this
  rw [hX]
  clear hX
  refine (Sitting_any X (some ⟨w.heap.size + 1, 0, none⟩) 2 6 numsB (by omega) ?_).mono ?_
  · intro k hk
    refine ⟨w.heap.size + 1, 0, rfl, by omega, ?_⟩
    rw [cell_of_row X _ _ _ _ _ hX1, Nat.zero_add]
    have : k < 6 := hk
    match k, this with
    | 0, _ => rfl
    | 1, _ => rfl
    | 2, _ => rfl
    | 3, _ => rfl
    | 4, _ => rfl
    | 5, _ => rfl
    | n + 6, h => omega
  · rintro e w1 ⟨u, rfl, hown, hp1⟩
    have hP1 : Hid (Pure w w1) := hP.out.trans hp1
    have hbx := (hp1.block _ (Array.getElem?_eq_some_iff.1 hX0).1 id).trans hX0
    have HO := Lib.hid hown
    obtain ⟨p1, c1, rfl, -⟩ := SitAt.of_own hown
    have hs1 : X.heap.size ≤ w1.heap.size := hp1.size
    clear hown hp1 hX0 hX1
    go_wp2_with fail
    obtain ⟨X2, hX2⟩ : ∃ X2, w1.alloc (.cells #[.slice p1 2 c1] 59) = X2 := ⟨_, rfl⟩
    have hP2 : Hid (Pure w1 X2) := by rw [← hX2]; exact (Diff.refl w1).alloc _
    have hX21 : X2.heap[w1.heap.size]? = some (.cells #[.slice p1 2 c1] 59 (0, 0)) := by rw [← hX2]; exact World.alloc_heap_new _ _
    rw [hX2]
    clear hX2
    refine (Book_any X2 1 3 1 (some ⟨w1.heap.size, 0, none⟩) 1 1).mono ?_
    rintro e w2 ⟨rfl, hp2⟩
    have hP3 : Hid (Pure w1 w2) := hP2.out.trans hp2
    have hw1l : w.heap.size < w1.heap.size := by omega
    have hb2 := (hP3.out.block _ hw1l id).trans hbx
    have hr2 := (hp2.block _ (Array.getElem?_eq_some_iff.1 hX21).1 id).trans hX21
    have z0 : w2.cell? ⟨w.heap.size, 0, none⟩ = some (.int .i64 0) := by rw [cell_of_row w2 _ _ _ _ _ hb2]; rfl
    have z1 : w2.cell? ⟨w.heap.size, 1, none⟩ = some (.int .i64 0) := by rw [cell_of_row w2 _ _ _ _ _ hb2]; rfl
    have z2 : w2.cell? ⟨w.heap.size, 2, none⟩ = some (.int .i64 0) := by rw [cell_of_row w2 _ _ _ _ _ hb2]; rfl
    have z3 : w2.cell? ⟨w.heap.size, 3, none⟩ = some (.slice none 0 0) := by rw [cell_of_row w2 _ _ _ _ _ hb2]; rfl
    have f0 : ∀ o, w2.frozen? ⟨w.heap.size, o, none⟩ = false := fun o => frozen_of_row w2 _ o _ _ hb2
    have HR2 := Lib.hid hr2
    have hl2 : w.heap.size < w2.heap.size := (Array.getElem?_eq_some_iff.1 hb2).1
    have hne : w1.heap.size ≠ w.heap.size := by omega
    have hq2 : w1.heap.size < w2.heap.size := (Array.getElem?_eq_some_iff.1 hr2).1
    clear hb2 hr2 hX21 hp2 hbx hP hP2
    obtain ⟨g1, hg1⟩ : ∃ g1, w1.heap.size = g1 := ⟨_, rfl⟩
    rw [hg1] at HR2 hne hq2 ⊢
    go_wp2_with fail
    have hd : Diff (fun k => k = w.heap.size) w2 ((((w2.setCell ⟨w.heap.size, 0, none⟩ (.int .i64 1)).setCell ⟨w.heap.size, 1, none⟩ (.int .i64 3)).setCell ⟨w.heap.size, 2, none⟩ (.int .i64 1)).setCell ⟨w.heap.size, 3, none⟩ (.slice (some ⟨g1, 0, none⟩) 1 1)) :=
      ((((Diff.refl w2).setCell (O := fun k => k = w.heap.size) (p := ⟨w.heap.size, 0, none⟩) (fun _ => rfl) _).setCell (p := ⟨w.heap.size, 1, none⟩) (fun _ => rfl) _).setCell (p := ⟨w.heap.size, 2, none⟩) (fun _ => rfl) _).setCell (p := ⟨w.heap.size, 3, none⟩) (fun _ => rfl) _
    refine bodyPost_ret (v := .agg #[.int .i64 1, .int .i64 3, .int .i64 1, .slice (some ⟨g1, 0, none⟩) 1 1]) (by simp [results, Tryd.results57, go_sem, z0, z1, z2, z3]) rfl ⟨⟨some ⟨g1, 0, none⟩, 1, rfl, ?_⟩, ?_⟩
    · intro k hk
      have hk0 : k = 0 := by have : k < 1 := hk
                             omega
      subst hk0
      have hw2o := own_pure HO.out hP3.out
      have hown' := own_block hw2o (fun k hk => hd.block k (hw2o.lt k hk).2 (by have := (hw2o.lt k hk).1; omega))
      obtain ⟨p', c', he, hsit⟩ := SitAt.of_own hown'
      cases he
      refine ⟨g1, 0, p1, c1, rfl, Nat.lt_of_lt_of_le hq2 hd.size, ?_, hsit⟩
      rw [cell_of_row _ _ _ _ _ _ ((hd.block g1 hq2 hne).trans HR2.out)]; rfl
    · exact (hP1.out.trans hP3.out).trans' hd (fun k hk e => by omega)


set_option maxHeartbeats 2000000 in
theorem Ints_any (w : World) (q r : Option Addr) (n m c d : Nat) (f g : Nat → Int) (hn : n ≤ 1000) (hm : m ≤ 1000) (hq : Row w.heap.size w q n fun k => .int .i64 (f k)) (hr : Row w.heap.size w r m fun k => .int .i64 (g k)) :
    Calls Tryd.prog 46 #[.slice q n c, .slice r m d] w fun e w' => e = .returned (.bool (decide (n = m) && eqTo f g n)) ∧ Pure w w' := by
  go_enter Tryd.func46, Tryd.ntmps46
  by_cases hnm : n = m
  · subst hnm
    simp only [decide_true, Bool.true_and]
    go_wp2_with fail
    go_loopw [5] (fun i wr => ∃ k : Nat, k ≤ n ∧ i = .int .i64 k ∧ Hid (eqTo f g k = true) ∧ Hid (Pure w wr)) (fun i _ => n - (intOf i).toNat)
    case atStart => exact ⟨0, Nat.zero_le _, rfl, rfl, Diff.refl _⟩
    case round =>
      obtain ⟨k, hk, rfl, HE, HP⟩ := hrel
      by_cases hkn : k < n
      · obtain ⟨b1, o1, rfl, hb1, z1⟩ := hq k hkn
        obtain ⟨b2, o2, rfl, hb2, z2⟩ := hr k hkn
        have k1 := ((pcell HP.out).1 _ _ hb1).trans z1
        have k2 := ((pcell HP.out).1 _ _ hb2).trans z2
        have hki : (k : Int) < n := by omega
        have hk0 : (0 : Int) ≤ k := by omega
        clear z1 z2
        have HPD : Hid (Pure w wr.drew) := HP.out.trans (Diff.refl wr).drew
        cases hfg : f k == g k with
        | true =>
          have HS : Hid (eqTo f g (k + 1) = true) := by show _ = _; rw [eqTo_succ, HE.out, hfg]; rfl
          go_wp2_with fail
          go_region
          go_wp2_with fail
          go_roundw
          case rel => exact ⟨k + 1, by omega, by go_num, HS.out, HPD.out⟩
          case measure => simp [intOf]; omega
        | false =>
          have HF : Hid (eqTo f g n = false) := eqTo_false hkn hfg
          have hne : (f k != g k) = true := by simp [bne, hfg]
          go_wp2_with fail
          go_region
          go_wp2_with fail
          exact bodyPost_ret (v := .bool false) (by simp [results, Tryd.results46, go_sem]) rfl ⟨by rw [HF.out], HPD.out⟩
      · obtain rfl : n = k := by omega
        go_wp2_with fail
        exact bodyPost_ret (v := .bool true) (by simp [results, Tryd.results46, go_sem]) rfl ⟨by rw [HE.out], HP.out⟩
  · have hb : (decide (n = m) && eqTo f g n) = false := by simp [hnm]
    rw [hb]
    have hnmi : ((n : Int) == m) = false := by simp; omega
    have hnmi2 : ((n : Int) != m) = true := by simp [bne, hnmi]
    go_wp2_with fail
    exact bodyPost_ret (v := .bool false) (by simp [results, Tryd.results46, go_sem]) rfl ⟨rfl, Diff.refl _⟩
end Go.Proofs.YtmedkmbfggphdaaDoor
