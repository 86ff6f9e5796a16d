/- Walk of the law's Lots. Walks of the law's five and two. The values that Works asks for, at its two fixed lists: by the kernel's evaluation. What the program answers at the examples: one line a call. -/
import Derived.Test.YtgpfmnjianflaaaDoorM7
import Derived.StillTailTactics
import Derived.Lib.AppendZeros
import Derived.Test.YtgpfmnjianflaaaDoorM6
set_option linter.unusedSimpArgs false
set_option linter.unusedVariables false
set_option linter.constructorNameAsVariable false
namespace Go.Proofs.YtgpfmnjianflaaaDoor
open Go.RowKit

def vals2 (f : Nat → Int) : Nat → List Value
  | 0 => []
  | j + 1 => vals2 f j ++ [.int .i64 (f (2 * j)), .int .i64 (f (2 * j + 1))]
theorem vals2_length (f : Nat → Int) : ∀ j, (vals2 f j).length = j * 2
  | 0 => rfl
  | j + 1 => by simp only [vals2, List.length_append, List.length_cons, List.length_nil, vals2_length f j]; omega
theorem vals2_get (f : Nat → Int) : ∀ (j k : Nat), k < j → (vals2 f j)[k * 2]? = some (.int .i64 (f (2 * k))) ∧ (vals2 f j)[k * 2 + 1]? = some (.int .i64 (f (2 * k + 1)))
  | j + 1, k, h => by
    have hl := vals2_length f j
    by_cases e : k = j
    · subst e
      unfold vals2
      constructor
      · rw [List.getElem?_append_right (by omega), hl, Nat.sub_self]; rfl
      · rw [List.getElem?_append_right (by omega), hl, show k * 2 + 1 - k * 2 = 1 by omega]; rfl
    · unfold vals2
      rw [List.getElem?_append_left (by omega), List.getElem?_append_left (by omega)]
      exact vals2_get f j k (by omega)
theorem info71 : (Tryd.prog.info? 71).map (fun i => (i.zero.map fun z => z.cells.size, i.size, i.bytes)) = some (some 2, 2, 16) := by kernel_rfl
theorem push_lot {W : World} {B n : Nat} {u : Value} {xs : List Value} (h : W.ownsRow B 71 2 u n xs) (hn : n ≤ 1000) (hB : B ≤ W.heap.size) (a b : Int) :
    ∃ v' w', (Builtin.append_ #[22, 22] 22 #[u, .slice (some ⟨W.heap.size, 0, none⟩) 1 1]).run Tryd.prog (W.alloc (.cells #[.int .i64 a, .int .i64 b] 71)) = .ok v' w' ∧ w'.ownsRow B 71 2 v' (n + 1) (xs ++ [.int .i64 a, .int .i64 b]) ∧
      Diff (fun k => some k = u.ownBlock) W w' ∧ (v'.ownBlock = u.ownBlock ∨ v'.ownBlock = some (W.heap.size + 1)) := by
  obtain ⟨i9, hi9, hzz⟩ := Option.map_eq_some_iff.1 info71
  simp only [Prod.mk.injEq] at hzz
  obtain ⟨hz9, hsz9, hby9⟩ := hzz
  obtain ⟨z, hz, hzc⟩ := Option.map_eq_some_iff.1 hz9
  obtain ⟨X, hX⟩ : ∃ X : Array Value, #[Value.int .i64 a, .int .i64 b] = X := ⟨_, rfl⟩
  have hown2 : (W.alloc (.cells X 71)).ownsRow B 71 2 u n xs := h.alloc _
  have hW3 : (W.alloc (.cells X 71)).heap[W.heap.size]? = some (.cells X 71 (0, 0)) := World.alloc_heap_new _ _
  rw [hX]
  obtain ⟨v', w', hr2, o2, g2, -, own2⟩ := run_append_own_at (P := Tryd.prog) (W.alloc (.cells X 71)) B 22 22 71 i9 z 2 16 Tryd.underlying22 hi9 hz hsz9 hby9 hzc (by omega) u n xs hown2
    ⟨W.heap.size, 0, none⟩ 1 1 [.int .i64 a, .int .i64 b] rfl (fun j y hj => by
      have hadd : (⟨W.heap.size, 0, none⟩ : Addr).add j = ⟨W.heap.size, j, none⟩ := by unfold Addr.add; split <;> simp_all
      rw [hadd, cell_of_row _ _ _ _ _ _ hW3, ← hX]
      simpa using hj) (by simp [Value.oneCell']) (by simp only [maxLen]; omega) (by omega) (by simp; omega)
  refine ⟨v', w', hr2, o2, ?_, by simpa using own2⟩
  have hsz := g2.size
  rw [World.size_alloc] at hsz
  exact ⟨g2.os, g2.tape, g2.output, by omega, fun k hk ho => (g2.block k (by simp; omega) ho).trans (Below.heap_alloc _ _ _ hk)⟩
/-- Lots of numbers. -/
def LT.of (f : Nat → Int) (n : Nat) : LT := ⟨n / 2, fun k => f (2 * k), fun k => f (2 * k + 1)⟩
theorem lots_own {W : World} {B j : Nat} {u : Value} {f : Nat → Int} (h : W.ownsRow B 71 2 u j (vals2 f j)) (n : Nat) (hn : n / 2 = j) : ∃ q c, u = .slice q j c ∧ LotsAt W.heap.size W q (LT.of f n) := by
  rcases h.2 with ⟨rfl, h0⟩ | ⟨g, c, cur, rfl, hb, hg, h1, h2, h3, h4⟩
  · exact ⟨none, 0, by rw [h0], fun k hk => by have hk' : k < n / 2 := hk; omega⟩
  · refine ⟨_, c, rfl, fun k hk => ⟨g, 0, rfl, (Array.getElem?_eq_some_iff.1 hg).1, ?_⟩⟩
    have hk' : k < j := by rw [← hn]; exact hk
    have hv := vals2_get f j k hk'
    have hcell : ∀ i, i < j * 2 → W.cell? ⟨g, i, none⟩ = (vals2 f j)[i]? := fun i hi => by
      rw [cell_of_row W _ _ _ _ _ hg, ← h4, List.getElem?_take_of_lt hi]; simp
    refine ⟨?_, ?_⟩
    · rw [show 0 + k * 2 = k * 2 by omega, hcell _ (by omega)]; exact hv.1
    · rw [show 0 + k * 2 + 1 = k * 2 + 1 by omega, hcell _ (by omega)]; exact hv.2
theorem wp_append_run {P : Program} {o : Oper} {a : Act} {w : World} {K : Act → World → Prop} {Q : Exit → Act → World → Prop} (s x : Operand) (t : TypeId)
    (hop : o.op = Op.call { callee := Callee.builtin Builtin.append, args := #[s, x], argTypes := #[t, t] }) (u y v' : Value) (w' : World) (hs : a.eval s = u) (hx : a.eval x = y)
    (hr : (Builtin.append_ #[t, t] o.type #[u, y]).run P w = .ok v' w') (h : K (a.put o.dst v') w') : o.wp P a w K Q := by
  unfold Oper.wp
  simp [execOp, hop, resolve, invoke, builtin, hs, hx, hr, Result.andThen]
  exact h
set_option maxRecDepth 20000 in
set_option maxHeartbeats 4000000 in
theorem Lots_any (w : World) (q : Option Addr) (n c : Nat) (f : Nat → Int) (hn : n ≤ 1000) (hq : Row w.heap.size w q n fun k => .int .i64 (f k)) :
    Calls Tryd.prog 84 #[.slice q n c] w fun e w' => (∃ p c', e = .returned (.slice p (n / 2) c') ∧ LotsAt w'.heap.size w' p (LT.of f n)) ∧ Pure w w' := by
  have hmx : Tryd.prog.follows .mixedOrders = true := by kernel_rfl
  have HQ := Lib.hid hq
  clear hq
  go_enter Tryd.func84, Tryd.ntmps84
  go_wp2
  go_loopw [3, 4] (fun v i wr => ∃ k : Nat, 2 * k ≤ n ∧ i = .int .i64 ((2 * k : Nat) : Int) ∧ Hid (wr.ownsRow w.heap.size 71 2 v k (vals2 f k)) ∧ Hid (Pure w wr)) (fun _ i _ => n - (intOf i).toNat)
  case atStart => exact ⟨0, by omega, rfl, World.ownsRow_nil _ _ _ _, Diff.refl _⟩
  case round =>
    obtain ⟨k, hk, rfl, HO, HP⟩ := hrel
    obtain ⟨m, hm⟩ : ∃ m, 2 * k = m := ⟨_, rfl⟩
    have HM := Lib.hid hm
    rw [hm] at hk ⊢
    by_cases hlt : m + 1 < n
    · obtain ⟨b, o, rfl, hb, hc⟩ := HQ.out m (by omega)
      obtain ⟨b', o', he, -, hc'⟩ := HQ.out (m + 1) hlt
      cases he
      obtain ⟨m1, hm1⟩ : ∃ j, m + 1 = j := ⟨_, rfl⟩
      have HM1 := Lib.hid hm1
      rw [hm1] at hc'
      have e0 := hc
      have e1 := hc'
      have l0 := Nat.lt_of_lt_of_le hb HP.out.size
      have hmi : (m : Int) < (n : Int) := by omega
      have hm1i : (m1 : Int) < (n : Int) := by omega
      have hw1 : IntKind.i64.wrap ((m : Int) + 1) = (m1 : Int) := by rw [show (m : Int) + 1 = (m1 : Int) by omega]; exact IntWalk.i64_in _ (by omega)
      have hw2 : IntKind.i64.wrap ((m : Int) + 2) = (m : Int) + 2 := IntWalk.i64_in _ (by omega)
      obtain ⟨v', w', hr, ho', hd', hob⟩ := push_lot (own_pure HO.out (Diff.refl wr).drew) (by omega) (by have := HP.out.size; exact this) (f m) (f m1)
      clear hc hc' hm1
      have HO' := Lib.hid ho'
      have HD' := Lib.hid hd'
      clear ho' hd' hob hm
      have hwd : wr.drew.heap.size = wr.heap.size := rfl
      rw [hwd] at hr
      go_wp2
      have hp0 : Hid (Pure w wr.drew) := HP.out.drew
      have HPF : Hid (Pure w w') := HP.out.drew.trans' HD'.out (fun x hx hh => by have := (HO.out.lt x hh.symm).1; omega)
      have KEY : Hid (∀ W, Pure w W → W.cell? ⟨b, o + m, none⟩ = some (.int .i64 (f m)) ∧ W.cell? ⟨b, o + m1, none⟩ = some (.int .i64 (f m1)) ∧ Hid (Pure w W)) := fun W hp => ⟨((pcell hp).1 _ _ hb).trans e0, ((pcell hp).1 _ _ hb).trans e1, hp⟩
      go_region_held3 (fun W => W.cell? ⟨b, o + m, none⟩ = some (.int .i64 (f m)) ∧ W.cell? ⟨b, o + m1, none⟩ = some (.int .i64 (f m1)) ∧ Hid (Pure w W))
        (exact KEY.out _ (by first | exact hp0.out | exact hp0.out.alloc _ | exact HPF.out))
        (first | (refine wp_append_run _ _ _ rfl _ _ _ _ rfl rfl hr ?_))
      rename_i hHeld
      clear hHeld KEY hp0
      go_wp2
      go_roundw
      case rel =>
        refine ⟨k + 1, by have := HM.out; omega, ?_, ?_, ?_⟩
        · have := HM.out; congr 1; omega
        · show World.ownsRow _ _ _ _ _ _ _
          unfold vals2
          rw [HM.out, HM1.out]; exact HO'.out
        · exact HP.out.drew.trans' HD'.out (fun x hx hh => by have := (HO.out.lt x hh.symm).1; omega)
      case measure => simp [intOf]; omega
    · have hw1 : IntKind.i64.wrap ((m : Int) + 1) = (m : Int) + 1 := IntWalk.i64_in _ (by omega)
      have hge : ¬ (m : Int) + 1 < (n : Int) := by omega
      have hk2 : n / 2 = k := by omega
      have HK2 := Lib.hid hk2
      obtain ⟨q', c', rfl, hl⟩ := lots_own HO.out n hk2
      have HLL := Lib.hid hl
      clear hk2 hl hm
      go_wp2
      exact bodyPost_ret (v := .slice q' k c') (by simp [results, Tryd.results84, go_sem]) rfl ⟨⟨q', ⟨c', by rw [HK2.out]⟩, HLL.out⟩, HP.out⟩
end Go.Proofs.YtgpfmnjianflaaaDoor
namespace Go.Proofs.YtgpfmnjianflaaaDoor
open Go.RowKit

def f5 (k : Nat) : Int := ([10, 30, 20, 35, 40, 90, 30, 50, 20, 60] : List Int).getD k 0
def f2 (k : Nat) : Int := ([10, 50, 30, 20] : List Int).getD k 0
theorem lotsOf5 {B : Nat} {w : World} {p : Option Addr} (h : LotsAt B w p (LT.of f5 10)) : LotsAt B w p L5 := fun k hk => by
  have hk' : k < 5 := hk
  have h1 := h k (show k < 10 / 2 by omega)
  match k, hk' with
  | 0, _ => exact h1
  | 1, _ => exact h1
  | 2, _ => exact h1
  | 3, _ => exact h1
  | 4, _ => exact h1
theorem lotsOf2 {B : Nat} {w : World} {p : Option Addr} (h : LotsAt B w p (LT.of f2 4)) : LotsAt B w p L2 := fun k hk => by
  have hk' : k < 2 := hk
  have h1 := h k (show k < 4 / 2 by omega)
  match k, hk' with
  | 0, _ => exact h1
  | 1, _ => exact h1
theorem five_any (w : World) : Calls Tryd.prog 57 #[] w fun e w' => (∃ p c', e = .returned (.slice p 5 c') ∧ LotsAt w'.heap.size w' p L5) ∧ Pure w w' := by
  have hrow : ∀ X : World, X = w.alloc (.cells #[.int .i64 10, .int .i64 30, .int .i64 20, .int .i64 35, .int .i64 40, .int .i64 90, .int .i64 30, .int .i64 50, .int .i64 20, .int .i64 60] 2) → Row X.heap.size X (some ⟨w.heap.size, 0, none⟩) 10 fun k => .int .i64 (f5 k) := fun X hX => by
    subst hX
    exact row_new w _ 2 10 _ _ rfl fun k hk => by
      match k, hk with
      | 0, _ | 1, _ | 2, _ | 3, _ | 4, _ | 5, _ | 6, _ | 7, _ | 8, _ | 9, _ => rfl
  go_enter Tryd.func57, Tryd.ntmps57
  go_wp2_with fail
  obtain ⟨X, hX⟩ : ∃ V : World, w.alloc (.cells #[.int .i64 10, .int .i64 30, .int .i64 20, .int .i64 35, .int .i64 40, .int .i64 90, .int .i64 30, .int .i64 50, .int .i64 20, .int .i64 60] 2) = V := ⟨_, rfl⟩
  have HR := Lib.hid (hrow X hX.symm)
  have HP : Hid (Pure w X) := by rw [← hX]; exact (Diff.refl _).alloc _
  rw [hX]
  clear hX hrow
  refine (Lots_any X _ 10 10 f5 (by omega) HR.out).mono ?_
  rintro e w1 ⟨⟨p, c', rfl, hl⟩, hp1⟩
  have HL := Lib.hid (lotsOf5 hl)
  have HP1 := Lib.hid (HP.out.trans hp1)
  clear hl hp1
  simp only [Nat.reduceDiv]
  go_wp2
  exact bodyPost_ret (v := .slice p 5 c') (by simp [results, Tryd.results57, go_sem]) rfl ⟨⟨p, c', rfl, HL.out⟩, HP1.out⟩
theorem two_any (w : World) : Calls Tryd.prog 58 #[] w fun e w' => (∃ p c', e = .returned (.slice p 2 c') ∧ LotsAt w'.heap.size w' p L2) ∧ Pure w w' := by
  have hrow : ∀ X : World, X = w.alloc (.cells #[.int .i64 10, .int .i64 50, .int .i64 30, .int .i64 20] 2) → Row X.heap.size X (some ⟨w.heap.size, 0, none⟩) 4 fun k => .int .i64 (f2 k) := fun X hX => by
    subst hX
    exact row_new w _ 2 4 _ _ rfl fun k hk => by
      match k, hk with
      | 0, _ | 1, _ | 2, _ | 3, _ => rfl
  go_enter Tryd.func58, Tryd.ntmps58
  go_wp2_with fail
  obtain ⟨X, hX⟩ : ∃ V : World, w.alloc (.cells #[.int .i64 10, .int .i64 50, .int .i64 30, .int .i64 20] 2) = V := ⟨_, rfl⟩
  have HR := Lib.hid (hrow X hX.symm)
  have HP : Hid (Pure w X) := by rw [← hX]; exact (Diff.refl _).alloc _
  rw [hX]
  clear hX hrow
  refine (Lots_any X _ 4 4 f2 (by omega) HR.out).mono ?_
  rintro e w1 ⟨⟨p, c', rfl, hl⟩, hp1⟩
  have HL := Lib.hid (lotsOf2 hl)
  have HP1 := Lib.hid (HP.out.trans hp1)
  clear hl hp1
  simp only [Nat.reduceDiv]
  go_wp2
  exact bodyPost_ret (v := .slice p 2 c') (by simp [results, Tryd.results58, go_sem]) rfl ⟨⟨p, c', rfl, HL.out⟩, HP1.out⟩
end Go.Proofs.YtgpfmnjianflaaaDoor
namespace Go.Proofs.YtgpfmnjianflaaaDoor
open Go.RowKit

def g1 (k : Nat) : Int := ([0, 1, 0, 1, 0] : List Int).getD k 0
def g0 (_ : Nat) : Int := 0
def g11 (_ : Nat) : Int := 1
theorem v_blend1 : partsB L5 g1 5 = 0 ∧ blendS L5 g1 5 = (25, 1) ∧ blendP L5 g1 5 = (85, 2) := by decide +kernel
theorem v_blend2 : partsB L5 g0 5 = 6 := by decide +kernel
theorem v_blend3 : partsB L5 g11 2 = 15 := by decide +kernel
theorem v_cheap1 : cheapE L5 25 = 0 ∧ cheapP L5 25 = (85, 2) := by decide +kernel
theorem v_cheap2 : cheapE L5 45 = 19 := by decide +kernel
theorem v_cheap3 : cheapE L5 101 = 3 := by decide +kernel
theorem v_least1 : atE L2 15 = 0 ∧ atP L2 15 = (20, 1) := by decide +kernel
theorem v_least2 : atE L5 41 = 19 := by decide +kernel
theorem v_parts : (List.range 5).map (L5.parts 25) = [0, 5, 0, 5, 0] := by decide +kernel
theorem v_line1 : lineE L5 (2, 10, 3) 25 = 0 ∧ lineP L5 (2, 10, 3) 25 = (85, 2) := by decide +kernel
theorem v_line2 : lineE L5 (1, 0, 2) 25 = 16 := by decide +kernel
theorem v_line3 : lineE L5 (0, 0, 0) 25 = 3 := by decide +kernel
theorem v_lineOf : lineE L5 (lineOf L5 25) 25 = 0 ∧ lineP L5 (lineOf L5 25) 25 = (85, 2) := by decide +kernel
theorem v_floorOf : lineE L2 (floorOf L2 15) 15 = 0 ∧ lineP L2 (floorOf L2 15) 15 = (20, 1) ∧ 0 ≤ (floorOf L2 15).2.2 := by decide +kernel
theorem v_blendR : partsB L5 (L5.parts 25) 5 = 0 ∧ blendS L5 (L5.parts 25) 5 = (25, 1) ∧ blendP L5 (L5.parts 25) 5 = (85, 2) := by decide +kernel
theorem v_last1 : lastE L5 25 4 = 0 ∧ lastV L5 25 4 = 3 := by decide +kernel
theorem v_last2 : lastE L5 41 1 = 19 := by decide +kernel
theorem v_last3 : lastE L5 25 0 = 3 := by decide +kernel
theorem v_corners : checkL L5 = 0 ∧ L5.cornersE = [0, 1, 3, 2] := by decide +kernel
theorem v_lineOf5 : lineOf L5 25 = (10, 50, 15) ∧ floorOf L2 15 = (1, 20, 0) := by decide +kernel
end Go.Proofs.YtgpfmnjianflaaaDoor
namespace Go.Proofs.YtgpfmnjianflaaaDoor
open Go.RowKit

/-- Both examples' lots lie, and the seven ranges. -/
structure WI (pA pB : Option Addr) (w : World) : Prop where
  a : LotsAt w.heap.size w pA L5
  b : LotsAt w.heap.size w pB L2
  g : Gl w
theorem WI.to {pA pB : Option Addr} {w w' : World} (h : WI pA pB w) (hp : Pure w w') : WI pA pB w' := ⟨h.a.to hp, h.b.to hp, h.g.to hp⟩
theorem blend_bad {L : LT} {f : Nat → Int} {m : Nat} {e : Int} (h : partsB L f m = e) (h0 : e ≠ 0) : blendS L f m = pr0 ∧ blendP L f m = pr0 := by
  unfold blendS blendP
  rw [if_neg (by rw [h]; exact h0), if_neg (by rw [h]; exact h0)]; exact ⟨rfl, rfl⟩
theorem cheap_bad {L : LT} {t e : Int} (h : cheapE L t = e) (h0 : e ≠ 0) : cheapP L t = pr0 := by
  unfold cheapE at h
  unfold cheapP
  split
  · rename_i hs
    rw [if_pos hs] at h
    split at h
    · exact absurd h.symm h0
    · rename_i hh
      exact hasB_pr (by simpa using hh)
  · rfl
theorem least_bad {L : LT} {t e : Int} (h : atE L t = e) (h0 : e ≠ 0) : atP L t = pr0 := by
  unfold atE at h
  unfold atP
  split
  · rename_i hs
    rw [if_pos hs] at h
    split at h
    · rename_i hh; rw [if_pos hh]
    · exact absurd h.symm h0
  · rfl
theorem line_bad {L : LT} {b : Bd} {t e : Int} (h : lineE L b t = e) (h0 : e ≠ 0) : lineP L b t = pr0 := by unfold lineP; rw [if_neg (by rw [h]; exact h0)]
theorem v_idle : L5.idleE = [4] := by decide +kernel
theorem last_bad {L : LT} {t l e : Int} (h : lastE L t l = e) (h0 : e ≠ 0) : lastV L t l = 0 := by unfold lastV; rw [if_neg (by rw [h]; exact h0)]
section
variable {pA pB : Option Addr} {w : World} (h : WI pA pB w)
include h
theorem k1 {q : Option Addr} (cA c : Nat) (hq : Row w.heap.size w q 5 fun k => .int .i64 (g1 k)) : Calls Tryd.prog 20 #[.slice pA 5 cA, .slice q 5 c] w fun e w' => e = .returned (.tuple #[.agg #[.int .i64 25, .int .i64 1], .agg #[.int .i64 85, .int .i64 2], .int .i64 0]) ∧ Pure w w' := by
  have := CheckBlend_any w L5 pA q cA 5 c g1 (by decide) (by decide) h.a hq h.g
  rw [v_blend1.1, v_blend1.2.1, v_blend1.2.2] at this; exact this
theorem k2 {q : Option Addr} (cA c : Nat) (hq : Row w.heap.size w q 5 fun k => .int .i64 (g0 k)) : Calls Tryd.prog 20 #[.slice pA 5 cA, .slice q 5 c] w fun e w' => e = .returned (.tuple #[.agg #[.int .i64 0, .int .i64 0], .agg #[.int .i64 0, .int .i64 0], .int .i64 6]) ∧ Pure w w' := by
  have := CheckBlend_any w L5 pA q cA 5 c g0 (by decide) (by decide) h.a hq h.g
  have hb := blend_bad v_blend2 (by decide)
  rw [hb.1, hb.2, v_blend2] at this; exact this
theorem k3 {q : Option Addr} (cA c : Nat) (hq : Row w.heap.size w q 2 fun k => .int .i64 (g11 k)) : Calls Tryd.prog 20 #[.slice pA 5 cA, .slice q 2 c] w fun e w' => e = .returned (.tuple #[.agg #[.int .i64 0, .int .i64 0], .agg #[.int .i64 0, .int .i64 0], .int .i64 15]) ∧ Pure w w' := by
  have := CheckBlend_any w L5 pA q cA 2 c g11 (by decide) (by decide) h.a hq h.g
  have hb := blend_bad v_blend3 (by decide)
  rw [hb.1, hb.2, v_blend3] at this; exact this
theorem k4 (cA : Nat) : Calls Tryd.prog 26 #[.slice pA 5 cA, .int .i64 25] w fun e w' => e = .returned (.tuple #[.agg #[.int .i64 85, .int .i64 2], .int .i64 0]) ∧ Pure w w' := by
  have := Cheapest_any w L5 pA cA 25 (by decide) h.a h.g
  rw [v_cheap1.1, v_cheap1.2] at this; exact this
theorem k5 (cA : Nat) : Calls Tryd.prog 26 #[.slice pA 5 cA, .int .i64 45] w fun e w' => e = .returned (.tuple #[.agg #[.int .i64 0, .int .i64 0], .int .i64 19]) ∧ Pure w w' := by
  have := Cheapest_any w L5 pA cA 45 (by decide) h.a h.g
  rw [cheap_bad v_cheap2 (by decide), v_cheap2] at this; exact this
theorem k6 (cA : Nat) : Calls Tryd.prog 26 #[.slice pA 5 cA, .int .i64 101] w fun e w' => e = .returned (.tuple #[.agg #[.int .i64 0, .int .i64 0], .int .i64 3]) ∧ Pure w w' := by
  have := Cheapest_any w L5 pA cA 101 (by decide) h.a h.g
  rw [cheap_bad v_cheap3 (by decide), v_cheap3] at this; exact this
theorem k7 (cB : Nat) : Calls Tryd.prog 28 #[.slice pB 2 cB, .int .i64 15] w fun e w' => e = .returned (.tuple #[.agg #[.int .i64 20, .int .i64 1], .int .i64 0]) ∧ Pure w w' := by
  have := AtLeast_any w L2 pB cB 15 (by decide) h.b h.g
  rw [v_least1.1, v_least1.2] at this; exact this
theorem k8 (cA : Nat) : Calls Tryd.prog 28 #[.slice pA 5 cA, .int .i64 41] w fun e w' => e = .returned (.tuple #[.agg #[.int .i64 0, .int .i64 0], .int .i64 19]) ∧ Pure w w' := by
  have := AtLeast_any w L5 pA cA 41 (by decide) h.a h.g
  rw [least_bad v_least2 (by decide), v_least2] at this; exact this
theorem k9 (cA : Nat) : Calls Tryd.prog 30 #[.slice pA 5 cA, .int .i64 25] w fun e w' => (∃ g, e = .returned (.tuple #[.slice (some ⟨g, 0, none⟩) 5 5, .int .i64 0]) ∧ Row w'.heap.size w' (some ⟨g, 0, none⟩) 5 fun k => .int .i64 (L5.parts 25 k)) ∧ Pure w w' := by
  refine (Parts_any w L5 pA cA 25 (by decide) h.a h.g).mono ?_
  rintro e w' ⟨h1, h2⟩
  unfold PartsAns at h1
  rw [if_pos v_cheap1.1] at h1
  obtain ⟨g, rfl, hb, _⟩ := h1
  exact ⟨⟨g, rfl, fun k hk => ⟨g, 0, rfl, hb.lt, by rw [Nat.zero_add, hb.at]; exact arrI_get hk⟩⟩, h2⟩
theorem k10 (cA : Nat) : Calls Tryd.prog 33 #[.slice pA 5 cA, .agg #[.int .i64 2, .int .i64 10, .int .i64 3], .int .i64 25] w fun e w' => e = .returned (.tuple #[.agg #[.int .i64 85, .int .i64 2], .int .i64 0]) ∧ Pure w w' := by
  have := CheckLine_any w L5 pA cA 2 10 3 25 (by decide) h.a h.g
  rw [v_line1.1, v_line1.2] at this; exact this
theorem k11 (cA : Nat) : Calls Tryd.prog 33 #[.slice pA 5 cA, .agg #[.int .i64 1, .int .i64 0, .int .i64 2], .int .i64 25] w fun e w' => e = .returned (.tuple #[.agg #[.int .i64 0, .int .i64 0], .int .i64 16]) ∧ Pure w w' := by
  have := CheckLine_any w L5 pA cA 1 0 2 25 (by decide) h.a h.g
  rw [line_bad v_line2 (by decide), v_line2] at this; exact this
theorem k12 (cA : Nat) : Calls Tryd.prog 33 #[.slice pA 5 cA, .agg #[.int .i64 0, .int .i64 0, .int .i64 0], .int .i64 25] w fun e w' => e = .returned (.tuple #[.agg #[.int .i64 0, .int .i64 0], .int .i64 3]) ∧ Pure w w' := by
  have := CheckLine_any w L5 pA cA 0 0 0 25 (by decide) h.a h.g
  rw [line_bad v_line3 (by decide), v_line3] at this; exact this
theorem k13 (cA : Nat) : Calls Tryd.prog 35 #[.slice pA 5 cA, .int .i64 25] w fun e w' => e = .returned (.tuple #[.agg #[.int .i64 10, .int .i64 50, .int .i64 15], .int .i64 0]) ∧ Pure w w' := by
  have := Line_any w L5 pA cA 25 (by decide) h.a h.g
  rw [v_lineOf5.1, v_cheap1.1] at this; exact this
theorem k14 (cB : Nat) : Calls Tryd.prog 36 #[.slice pB 2 cB, .int .i64 15] w fun e w' => e = .returned (.tuple #[.agg #[.int .i64 1, .int .i64 20, .int .i64 0], .int .i64 0]) ∧ Pure w w' := by
  have := Floor_any w L2 pB cB 15 (by decide) h.b h.g
  rw [v_lineOf5.2, v_least1.1] at this; exact this
theorem k15 (cA : Nat) : Calls Tryd.prog 38 #[.slice pA 5 cA] w fun e w' => (∃ q c, e = .returned (.tuple #[.slice q 4 c, .int .i64 0]) ∧ RowN w' q [0, 1, 3, 2]) ∧ Pure w w' := by
  have := Corners_any w L5 pA cA (by decide) h.a h.g
  rw [v_corners.1, v_corners.2] at this; exact this
theorem k16 (cA : Nat) : Calls Tryd.prog 40 #[.slice pA 5 cA] w fun e w' => (∃ q c, e = .returned (.tuple #[.slice q 1 c, .int .i64 0]) ∧ RowN w' q [4]) ∧ Pure w w' := by
  have := Idle_any w L5 pA cA (by decide) h.a h.g
  rw [v_corners.1, v_idle] at this; exact this
theorem k17 (cA : Nat) : Calls Tryd.prog 42 #[.slice pA 5 cA, .int .i64 25, .int .i64 4] w fun e w' => e = .returned (.tuple #[.int .i64 3, .int .i64 0]) ∧ Pure w w' := by
  have := Last_any w L5 pA cA 25 4 (by decide) h.a h.g
  rw [v_last1.1, v_last1.2] at this; exact this
theorem k18 (cA : Nat) : Calls Tryd.prog 42 #[.slice pA 5 cA, .int .i64 41, .int .i64 1] w fun e w' => e = .returned (.tuple #[.int .i64 0, .int .i64 19]) ∧ Pure w w' := by
  have := Last_any w L5 pA cA 41 1 (by decide) h.a h.g
  rw [last_bad v_last2 (by decide), v_last2] at this; exact this
theorem k19 (cA : Nat) : Calls Tryd.prog 42 #[.slice pA 5 cA, .int .i64 25, .int .i64 0] w fun e w' => e = .returned (.tuple #[.int .i64 0, .int .i64 3]) ∧ Pure w w' := by
  have := Last_any w L5 pA cA 25 0 (by decide) h.a h.g
  rw [last_bad v_last3 (by decide), v_last3] at this; exact this
theorem k20 {q : Option Addr} (cA c : Nat) (hq : Row w.heap.size w q 5 fun k => .int .i64 (L5.parts 25 k)) : Calls Tryd.prog 21 #[.slice pA 5 cA, .slice q 5 c] w fun e w' => e = .returned (.tuple #[.agg #[.int .i64 25, .int .i64 1], .agg #[.int .i64 85, .int .i64 2], .int .i64 0]) ∧ Pure w w' := by
  have := RCheckBlend_any w L5 pA q cA 5 c (L5.parts 25) (by decide) (by decide) h.a hq
  rw [v_blendR.1, v_blendR.2.1, v_blendR.2.2] at this; exact this
theorem k21 (cA : Nat) : Calls Tryd.prog 34 #[.slice pA 5 cA, .agg #[.int .i64 10, .int .i64 50, .int .i64 15], .int .i64 25] w fun e w' => e = .returned (.tuple #[.agg #[.int .i64 85, .int .i64 2], .int .i64 0]) ∧ Pure w w' := by
  have := RCheckLine_any w L5 pA cA 10 50 15 25 (by decide) h.a
  have e := v_lineOf5.1
  have e1 := v_lineOf
  rw [e] at e1
  rw [e1.1, e1.2] at this; exact this
theorem k22 (cB : Nat) : Calls Tryd.prog 34 #[.slice pB 2 cB, .agg #[.int .i64 1, .int .i64 20, .int .i64 0], .int .i64 15] w fun e w' => e = .returned (.tuple #[.agg #[.int .i64 20, .int .i64 1], .int .i64 0]) ∧ Pure w w' := by
  have := RCheckLine_any w L2 pB cB 1 20 0 15 (by decide) h.b
  have e1 := v_floorOf
  rw [v_lineOf5.2] at e1
  rw [e1.1, e1.2.1] at this; exact this
end
end Go.Proofs.YtgpfmnjianflaaaDoor
