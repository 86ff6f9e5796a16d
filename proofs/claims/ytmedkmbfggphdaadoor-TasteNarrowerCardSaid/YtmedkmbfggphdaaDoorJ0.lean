/- A table of rows of numbers in memory, as Joined makes it. No condition. -/
import Derived.Test.YtmedkmbfggphdaaDoorM15
import Derived.Test.YtmedkmbfggphdaaDoorR5
import Derived.Maps.AppendAt
set_option linter.unusedSimpArgs false
set_option linter.unusedVariables false
set_option linter.constructorNameAsVariable false
namespace Go.Proofs.YtmedkmbfggphdaaDoor
open Go.RowKit

theorem info27 : (Tryd.prog.info? 27).map (fun i => (i.zero, i.size, i.bytes)) = some (some (.slice none 0 0), 1, 24) := by kernel_rfl
theorem info27' : ∃ i, Tryd.prog.info? 27 = some i ∧ i.zero = some (.slice none 0 0) ∧ i.size = 1 ∧ i.bytes = 24 := by
  have h := info27
  obtain ⟨i, hi, hzz⟩ := Option.map_eq_some_iff.1 h
  simp only [Prod.mk.injEq] at hzz
  exact ⟨i, hi, hzz.1, hzz.2.1, hzz.2.2⟩

abbrev rowV (n g : Nat) : Value := .slice (some ⟨g, 0, none⟩) n n
def rowVs (n k : Nat) (G : Nat → Nat) : List Value := (List.range k).map fun j => rowV n (G j)
structure JP (w : World) (B1 n k : Nat) (F : Nat → Nat → Int) (u : Value) (G : Nat → Nat) (W : World) : Prop where
  pw : Pure w W
  own : W.ownsRow B1 27 1 u k (rowVs n k G)
  rows : ∀ j, j < k → W.rowIs (G j) 2 n (fun c => .int .i64 (F j c))
  lo : ∀ j, j < k → B1 ≤ G j
  inj : ∀ i j, i < k → j < k → G i = G j → i = j
  base : w.heap.size ≤ B1

variable {w W W' : World} {B1 n k : Nat} {F : Nat → Nat → Int} {u : Value} {G : Nat → Nat}

theorem JP.pure (h : JP w B1 n k F u G W) (hp : Pure W W') : JP w B1 n k F u G W' :=
  ⟨h.pw.trans hp, own_pure h.own hp, fun j hj => rowPure (h.rows j hj) hp, h.lo, h.inj, h.base⟩
theorem JP.apart (h : JP w B1 n k F u G W) (j : Nat) (hj : j < k) : u.ownBlock ≠ some (G j) := by
  intro he
  obtain ⟨c, hc, _, _⟩ := h.rows j hj
  rcases h.own.2 with ⟨rfl, _⟩ | ⟨g, cap, cur, rfl, _, hg, _⟩
  · simp [Value.ownBlock] at he
  · simp only [Value.ownBlock, Option.some.injEq] at he
    rw [he, hc] at hg
    simp at hg
set_option maxRecDepth 20000 in
theorem JP.push (h : JP w B1 n k F u G W) (hk : k ≤ 100) {W1 : World} (hp : Pure W W1) {g : Nat} (hg : W.heap.size ≤ g) (hB : B1 ≤ g) (hr : W1.rowIs g 2 n (fun c => .int .i64 (F k c))) :
    ∃ v' w', (Builtin.append_ #[91, 91] 91 #[u, .slice (some ⟨W1.heap.size, 0, none⟩) 1 1]).run Tryd.prog (W1.alloc (.cells #[rowV n g] 27)) = .ok v' w' ∧ JP w B1 n (k + 1) F v' (fun j => if j = k then g else G j) w' := by
  obtain ⟨i9, hi9, hz9, hsz9, hby9⟩ := info27'
  have hown2 : (W1.alloc (.cells #[rowV n g] 27)).ownsRow B1 27 1 u k (rowVs n k G) := own_pure h.own (hp.alloc _)
  have hW3 : (W1.alloc (.cells #[rowV n g] 27)).heap[W1.heap.size]? = some (.cells #[rowV n g] 27 (0, 0)) := World.alloc_heap_new _ _
  have hWW := hp.size
  have hBW : B1 ≤ W1.heap.size := by
    have := hr.lt
    omega
  obtain ⟨v', w', hr2, o2, g2, -, own2⟩ := run_append_own_at (P := Tryd.prog) (W1.alloc (.cells #[rowV n g] 27)) B1 91 91 27 i9 (.slice none 0 0) 1 24 Tryd.underlying91 hi9 hz9 hsz9 hby9 rfl (by omega) u k (rowVs n k G) hown2
    ⟨W1.heap.size, 0, none⟩ 1 1 [rowV n g] rfl (fun j x hj => by
      have hadd : (⟨W1.heap.size, 0, none⟩ : Addr).add j = ⟨W1.heap.size, j, none⟩ := by unfold Addr.add; split <;> simp_all
      rw [hadd, cell_of_row _ _ _ _ _ _ hW3]
      match j with
      | 0 => simpa using hj
      | j + 1 => simp at hj) (by simp [Value.oneCell']) (by simp only [maxLen]; omega) (by omega) (by simp; omega)
  refine ⟨v', w', hr2, ?_⟩
  have hpw := h.pw.size
  have hbase := h.base
  have hp3 : Pure w w' := grown_pure (h.pw.trans (hp.alloc _)) g2 (fun x hx => by have := (h.own.lt x hx).1; omega)
  have hkeep : ∀ x, x < W1.heap.size → some x ≠ u.ownBlock → w'.heap[x]? = W1.heap[x]? := fun x hx hne => (g2.block x (by simp; omega) hne).trans (Below.heap_alloc _ _ _ hx)
  have hgG : ∀ j, j < k → G j ≠ g := fun j hj => by have := (h.rows j hj).lt; omega
  refine ⟨hp3, ?_, fun j hj => ?_, fun j hj => ?_, fun i j hi hj hij => ?_, h.base⟩
  · have : rowVs n (k + 1) (fun j => if j = k then g else G j) = rowVs n k G ++ [rowV n g] := by
      simp only [rowVs, List.range_succ, List.map_append, List.map_cons, List.map_nil, if_true]
      congr 1
      exact List.map_congr_left (fun j hj => by have : j < k := by simpa using hj
                                                rw [if_neg (by omega)])
    rw [this]; exact o2
  · show World.rowIs w' (if j = k then g else G j) 2 n _
    by_cases e : j = k
    · subst e
      rw [if_pos rfl]
      refine hr.of_block (hkeep g hr.lt (fun he => ?_))
      have := (h.own.lt g he.symm).2
      omega
    · rw [if_neg e]
      have hj' : j < k := by omega
      exact (rowPure (h.rows j hj') hp).of_block (hkeep _ (by have := (h.rows j hj').lt; omega) (fun he => h.apart j hj' he.symm))
  · show B1 ≤ (if j = k then g else G j)
    by_cases e : j = k
    · rw [if_pos e]; exact hB
    · rw [if_neg e]; exact h.lo j (by omega)
  · have hij' : (if i = k then g else G i) = (if j = k then g else G j) := hij
    by_cases e1 : i = k <;> by_cases e2 : j = k
    · omega
    · rw [if_pos e1, if_neg e2] at hij'; exact absurd hij'.symm (hgG j (by omega))
    · rw [if_neg e1, if_pos e2] at hij'; exact absurd hij' (hgG i (by omega))
    · rw [if_neg e1, if_neg e2] at hij'; exact h.inj i j (by omega) (by omega) hij'
theorem JP.set (h : JP w B1 n k F u G W) {i : Nat} (c : Nat) (hi : i < k) (x : Int) : JP w B1 n k (jset F i c x) u G (W.setCell ⟨G i, c, none⟩ (.int .i64 x)) := by
  have hlo := h.lo i hi
  have hb := h.base
  refine ⟨h.pw.setCell (fun hlt => by simp only at hlt; omega) _, own_block h.own (fun j hj => ?_), fun j hj => ?_, h.lo, h.inj, h.base⟩
  · exact Below.heap_setCell _ _ _ _ (fun he => h.apart i hi (by rw [hj, he]))
  · by_cases e : j = i
    · subst e
      refine ((h.rows j hj).set c _).congr (fun d _ => ?_)
      unfold jset
      by_cases e2 : d = c
      · subst e2; simp
      · simp [e2]
    · refine ((h.rows j hj).setOther (fun he => e (h.inj j i hj hi he)) _).congr (fun d _ => ?_)
      unfold jset; rw [if_neg (fun hh => e hh.1)]
theorem JP.congr (h : JP w B1 n k F u G W) {F' : Nat → Nat → Int} (e : ∀ j c, j < k → F j c = F' j c) : JP w B1 n k F' u G W :=
  ⟨h.pw, h.own, fun j hj => (h.rows j hj).congr (fun c _ => by rw [e j c hj]), h.lo, h.inj, h.base⟩
theorem JP.form (h : JP w B1 n k F u G W) (hk : 1 ≤ k) : ∃ ub cap, u = .slice (some ⟨ub, 0, none⟩) k cap ∧ B1 ≤ ub := by
  rcases h.own.2 with ⟨_, h0⟩ | ⟨g, cap, cur, rfl, hg, _⟩
  · omega
  · exact ⟨g, cap, rfl, hg⟩
theorem JP.outer {ub cap : Nat} (h : JP w B1 n k F (.slice (some ⟨ub, 0, none⟩) k cap) G W) {i : Nat} (hi : i < k) : W.cell? ⟨ub, i, none⟩ = some (rowV n (G i)) := by
  rw [World.ownsRow.cellAt h.own i (by omega)]
  simp [rowVs, hi]
theorem JP.inner (h : JP w B1 n k F u G W) {i c : Nat} (hi : i < k) (hc : c < n) : W.cell? ⟨G i, c, none⟩ = some (.int .i64 (F i c)) := (h.rows i hi).cell hc

/-- u is a table of n rows of n numbers R. -/
def MatAt (w : World) (u : Value) (n : Nat) (R : Nat → Nat → Int) : Prop :=
  ∃ ub cap, ∃ G : Nat → Nat, u = .slice (some ⟨ub, 0, none⟩) n cap ∧ ub < w.heap.size ∧ ∀ i, i < n → w.cell? ⟨ub, i, none⟩ = some (rowV n (G i)) ∧ G i < w.heap.size ∧ ∀ c, c < n → w.cell? ⟨G i, c, none⟩ = some (.int .i64 (R i c))
theorem MatAt.of (h : JP w B1 n n F u G W) (hn : 1 ≤ n) : MatAt W u n F := by
  obtain ⟨ub, cap, rfl, _⟩ := h.form hn
  refine ⟨ub, cap, G, rfl, (h.own.lt ub rfl).2, fun i hi => ⟨h.outer hi, (h.rows i hi).lt, fun c hc => h.inner hi hc⟩⟩
theorem MatAt.pure {R : Nat → Nat → Int} (h : MatAt W u n R) (hp : Pure W W') : MatAt W' u n R := by
  obtain ⟨ub, cap, G, rfl, hub, hall⟩ := h
  refine ⟨ub, cap, G, rfl, Nat.lt_of_lt_of_le hub hp.size, fun i hi => ?_⟩
  obtain ⟨h1, h2, h3⟩ := hall i hi
  exact ⟨((pcell hp).1 _ _ hub).trans h1, Nat.lt_of_lt_of_le h2 hp.size, fun c hc => ((pcell hp).1 _ _ h2).trans (h3 c hc)⟩

/-- Bounds are small. -/
theorem BK.bd_small (b : BK) (hv : b.Valid) {but a c v : Int} (h : b.bd but a c = some v) : -1000 ≤ v ∧ v ≤ 1000 := by
  have h0 := hv.lo0
  have h1 := hv.lohi
  have h2 := hv.hi50
  have ok := fun q => b.at_ok hv q
  have o1 := ok (a - b.lots - 1).toNat
  have o2 := ok (c - b.lots - 1).toNat
  have e1 := o1.lo
  have e2 := o1.le
  have e3 := o1.hi
  have e4 := o2.lo
  have e5 := o2.le
  have e6 := o2.hi
  unfold BK.bd at h
  split at h
  · cases h; omega
  split at h
  · cases h; omega
  split at h
  · split at h
    · cases h; omega
    · cases h
  split at h
  · cases h; omega
  split at h
  · cases h; omega
  split at h
  · cases h; omega
  split at h
  · cases h; omega
  · cases h
theorem j0_in (b : BK) (hv : b.Valid) (but : Int) : JIn (j0 fun a c => b.bd but a c) := by
  intro a c
  unfold j0
  split
  · simp [farI]
  · cases h : b.bd but a c with
    | none => dsimp only; rw [h]; simp [farI]
    | some v => have := b.bd_small hv h; dsimp only; rw [h]; simp only [Option.getD_some, farI]; omega
end Go.Proofs.YtmedkmbfggphdaaDoor
