/- Lists of lots that grow side by side, each lot first laid in memory of its own. -/
import Derived.Test.YtgpfmnjianflaaaDoorE1
set_option linter.unusedSimpArgs false
set_option linter.unusedVariables false
set_option linter.constructorNameAsVariable false
namespace Go.Proofs.YtgpfmnjianflaaaDoor
open Go.RowKit

theorem push_lot2 {W : World} {B n : Nat} {u : Value} {xs : List Value} (h : W.ownsRow B 71 2 u n xs) (hn : n ≤ 1000) (hB : B ≤ W.heap.size) (s t a b : Int) :
    ∃ v' w', (Builtin.append_ #[22, 22] 22 #[u, .slice (some ⟨W.heap.size + 1, 0, none⟩) 1 1]).run Tryd.prog ((W.alloc (.cells #[.int .i64 s, .int .i64 t] 71)).alloc (.cells #[.int .i64 a, .int .i64 b] 71)) = .ok v' w' ∧ w'.ownsRow B 71 2 v' (n + 1) (xs ++ [.int .i64 a, .int .i64 b]) ∧
      Diff (fun k => some k = u.ownBlock) W w' ∧ (v'.ownBlock = u.ownBlock ∨ ∃ g, v'.ownBlock = some g ∧ W.heap.size < g) ∧ Blk W.heap.size 71 #[.int .i64 s, .int .i64 t] w' := by
  have hX : Pure W (W.alloc (.cells #[.int .i64 s, .int .i64 t] 71)) := (Diff.refl W).alloc _
  obtain ⟨v', w', h1, h2, h3, h4⟩ := push_lot (own_pure h hX) hn (Nat.le_trans hB hX.size) a b
  have hs : (W.alloc (.cells #[.int .i64 s, .int .i64 t] 71)).heap.size = W.heap.size + 1 := World.size_alloc _ _
  rw [hs] at h1 h4
  have hb : Blk W.heap.size 71 #[.int .i64 s, .int .i64 t] (W.alloc (.cells #[.int .i64 s, .int .i64 t] 71)) := Blk.new _ _ _
  refine ⟨v', w', h1, h2, (hX.mono (fun _ _ h => h.elim)).trans h3, h4.imp id (fun e => ⟨_, e, by omega⟩), hb.diff h3 fun e => ?_⟩
  have := (h.lt _ e.symm).2
  omega
/-- Of two lists, each in memory of its own, one grows. -/
theorem own_apart2 {W w' : World} {B m : Nat} {u u' v : Value} {ys : List Value} (hv : W.ownsRow B 71 2 v m ys) (hd : Diff (fun k => some k = u.ownBlock) W w') (hne : ∀ g, u.ownBlock = some g → v.ownBlock = some g → False) (hob : u'.ownBlock = u.ownBlock ∨ ∃ g, u'.ownBlock = some g ∧ W.heap.size < g) :
    w'.ownsRow B 71 2 v m ys ∧ ∀ g, u'.ownBlock = some g → v.ownBlock = some g → False := by
  refine ⟨own_block hv fun k hk => hd.block _ (hv.lt k hk).2 fun e => hne k e.symm hk, fun g h1 h2 => ?_⟩
  rcases hob with e | ⟨g', e, hg⟩
  · exact hne g (e ▸ h1) h2
  · rw [e] at h1
    have := (hv.lt g h2).2
    injection h1 with h1
    omega
theorem push_far {W : World} {u v' : Value} (h : v'.ownBlock = u.ownBlock ∨ v'.ownBlock = some (W.heap.size + 1)) : v'.ownBlock = u.ownBlock ∨ ∃ g, v'.ownBlock = some g ∧ W.heap.size < g := h.imp id fun e => ⟨_, e, by omega⟩
/-- A block below a list's memory stays when the list grows. -/
theorem Blk.grow {g : Nat} {T : TypeId} {c : Array Value} {W w' : World} {u : Value} (h : Blk g T c W) (hd : Diff (fun k => some k = u.ownBlock) W w') (hne : u.ownBlock ≠ some g) : Blk g T c w' := h.diff hd fun e => hne e.symm
end Go.Proofs.YtgpfmnjianflaaaDoor
