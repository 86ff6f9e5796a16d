/- Plain helpers for walks: a frame relation between worlds, the contract of an iterator function, and the law for a statement that ranges over a function. No condition: nothing here speaks of a program. Plain helpers: what a slice of numbers, a sitting and a book are in memory. No condition. What the rows' laid variables give: the four ranges of the program stand in their cells. No further condition. Walks of the small functions of package taste. Plain facts about books: the list of all tastes, the pairs that ranges yields. Walks of CheckBook of package taste and of what it calls. Walks of the small methods of tongue, pair and bound. The reference: isRange and IsFirst. -/
import Derived.RangeFuncNested
import Derived.RangeFuncBound
import Derived.RangeFuncCalls
import Derived.RangeFuncLeaves
import Derived.WalkKit
import Derived.Lib.Hide
import Derived.Test.YtmedkmbfggphdaaDoorRows
import Derived.ProofKit
import Derived.OpenShut
import Derived.LaidMore
import Derived.Lay
import Derived.Stop.Joined
import Derived.Test.YtmedkmbfggphdaaDoorProg
import Derived.BigQuiet
import Derived.Deep.QuietTactic
import Derived.Deep.RegionHeld3
set_option linter.unusedSimpArgs false
set_option linter.unusedVariables false
set_option linter.constructorNameAsVariable false
namespace Go.Proofs.YtmedkmbfggphdaaDoor
open Go.RowKit

/-- Of the blocks that lay in w only those of O may have turned. -/
structure Diff (O : Nat → Prop) (w w' : World) : Prop where
  os : w'.os = w.os
  tape : w'.tape = w.tape
  output : w'.output = w.output
  size : w.heap.size ≤ w'.heap.size
  block : ∀ k, k < w.heap.size → ¬ O k → w'.heap[k]? = w.heap[k]?

/-- Nothing that lay has turned. -/
abbrev Pure (w w' : World) : Prop := Diff (fun _ => False) w w'

theorem Diff.refl {O : Nat → Prop} (w : World) : Diff O w w := ⟨rfl, rfl, rfl, Nat.le_refl _, fun _ _ _ => rfl⟩
theorem Diff.trans {O : Nat → Prop} {a b c : World} (h : Diff O a b) (k : Diff O b c) : Diff O a c :=
  ⟨k.os.trans h.os, k.tape.trans h.tape, k.output.trans h.output, Nat.le_trans h.size k.size,
    fun i hi ho => (k.block i (Nat.lt_of_lt_of_le hi h.size) ho).trans (h.block i hi ho)⟩
theorem Diff.mono {O O' : Nat → Prop} {a b : World} (h : Diff O a b) (hO : ∀ k, k < a.heap.size → O k → O' k) : Diff O' a b :=
  ⟨h.os, h.tape, h.output, h.size, fun k hk ho => h.block k hk (fun h' => ho (hO k hk h'))⟩
/-- What lay only behind a's end may turn freely. -/
theorem Diff.trans' {O O' : Nat → Prop} {a b c : World} (h : Diff O a b) (k : Diff O' b c) (hO : ∀ k, k < a.heap.size → O' k → O k) : Diff O a c :=
  ⟨k.os.trans h.os, k.tape.trans h.tape, k.output.trans h.output, Nat.le_trans h.size k.size,
    fun i hi ho => (k.block i (Nat.lt_of_lt_of_le hi h.size) (fun h' => ho (hO i hi h'))).trans (h.block i hi ho)⟩
theorem Diff.alloc {O : Nat → Prop} {a w : World} (h : Diff O a w) (o : Obj) : Diff O a (w.alloc o) :=
  h.trans ⟨rfl, rfl, rfl, by simp, fun k hk _ => Below.heap_alloc _ _ _ hk⟩
theorem Diff.setCell {O : Nat → Prop} {a w : World} (h : Diff O a w) {p : Addr} (hp : p.block < a.heap.size → O p.block) (u : Value) : Diff O a (w.setCell p u) :=
  h.trans' (O' := fun k => k = p.block) ⟨rfl, rfl, rfl, by simp [World.setCell], fun k _ ho => Below.heap_setCell _ _ _ _ ho⟩ (fun _ hk e => by subst e; exact hp hk)
theorem Diff.drew {O : Nat → Prop} {a w : World} (h : Diff O a w) : Diff O a w.drew := ⟨h.os, h.tape, h.output, h.size, h.block⟩
theorem Diff.putObj {O : Nat → Prop} {a w : World} (h : Diff O a w) {r : Nat} (hr : r < a.heap.size → O r) (o : Obj) : Diff O a (w.putObj r o) :=
  h.trans' (O' := fun k => k = r) ⟨rfl, rfl, rfl, by simp, fun _ _ ho => World.putObj_heap_other ho⟩ (fun _ hk e => by subst e; exact hr hk)
theorem Diff.cell {O : Nat → Prop} {w w' : World} (h : Diff O w w') {p : Addr} (hp : p.block < w.heap.size) (ho : ¬ O p.block) : w'.cell? p = w.cell? p :=
  World.cell?_of_block (w := w) (h.block p.block hp ho)
theorem Diff.below {O : Nat → Prop} {w w' : World} {B : Nat} (h : Diff O w w') (hB : B ≤ w.heap.size) (ho : ∀ k, k < B → ¬ O k) : Below B w w' :=
  ⟨h.os, h.tape, h.output, h.size, fun k hk => h.block k (Nat.lt_of_lt_of_le hk hB) (ho k hk)⟩
theorem Below.diff {B : Nat} {w w' : World} (h : Below B w w') : Diff (fun k => B ≤ k) w w' :=
  ⟨h.os, h.tape, h.output, h.size, fun k _ ho => h.block k (by omega)⟩
theorem Diff.pure_below {w w' : World} (h : Pure w w') {B : Nat} (hB : B ≤ w.heap.size) : Below B w w' := h.below hB (fun _ _ => id)

/-- Two rules for the walk behind a call that turns nothing old. -/
theorem pcell {W w' : World} (h : Pure W w') : (∀ b o, b < W.heap.size → w'.cell? ⟨b, o, none⟩ = W.cell? ⟨b, o, none⟩) ∧ (∀ b o, b < W.heap.size → w'.frozen? ⟨b, o, none⟩ = W.frozen? ⟨b, o, none⟩) :=
  ⟨fun b o hb => h.cell (p := ⟨b, o, none⟩) hb id, fun b _ hb => World.frozen?_of_block (w := W) (h.block b hb id)⟩
/-- The same where the blocks of O may have turned. -/
theorem dcell {O : Nat → Prop} {W w' : World} (h : Diff O W w') : (∀ b o, b < W.heap.size → ¬ O b → w'.cell? ⟨b, o, none⟩ = W.cell? ⟨b, o, none⟩) ∧ (∀ b o, b < W.heap.size → ¬ O b → w'.frozen? ⟨b, o, none⟩ = W.frozen? ⟨b, o, none⟩) :=
  ⟨fun b o hb ho => h.cell (p := ⟨b, o, none⟩) hb ho, fun b _ hb ho => World.frozen?_of_block (w := W) (h.block b hb ho)⟩

/-- A predicate on (owned blocks, world) that minds neither new blocks nor turns of the blocks that the other party owns. -/
def Stable (J : (Nat → Prop) → World → Prop) : Prop :=
  ∀ O O' w w', J O w → Diff O w w' → (∀ k, O' k → O k ∨ w.heap.size ≤ k) → J O' w'

/-- The contract of an iterator: called with yield in its argument's place, it yields es 0, .., es (n - 1), until a round says no. It reads the blocks of R alone, and those of its own (O), which the rounds leave alone. -/
def Iter (P : Program) (f : FuncId) (A : Value → Array Value) (n : Nat) (es : Nat → Array Value) (R : Nat → Prop) (W0 : World) : Prop :=
  ∀ (l : Nat) (J : Nat → (Nat → Prop) → World → Prop) (Jx : (Nat → Prop) → World → Prop) (W : World),
    (∀ k, R k → k < W0.heap.size) → Diff (fun k => ¬ R k) W0 W →
    (∀ i, Stable (J i)) → Stable Jx →
    (∀ i O W1, i < n → J i O W1 → (∀ k, O k → W.heap.size ≤ k ∧ k < W1.heap.size) → W.heap.size ≤ W1.heap.size →
      YieldAt Fence.wide 0 P l (es i) W1 fun e W' => Diff (fun k => ¬ R k ∧ ¬ O k) W1 W' ∧
        ((e = .returned (.bool true) ∧ J (i + 1) O W') ∨ (e = .returned (.bool false) ∧ Jx O W'))) →
    J 0 (fun _ => False) W →
    CallsIn Fence.wide 0 P f (A (.func (.yield l) #[] #[])) W fun e W' => (∃ v, e = .returned v) ∧ ∃ O, (∀ k, O k → W.heap.size ≤ k) ∧ (J n O W' ∨ Jx O W')

/-- How the body of a round may be left. -/
def roundEnd (M : Nat → Prop) (I Ix : (Nat → Prop) → World → Prop) (O : Nat → Prop) (W : World) : Exit → Act → World → Prop
  | .normal, _, W' => Diff M W W' ∧ I O W'
  | .ret, _, W' => Diff M W W' ∧ Ix O W'
  | _, _, _ => False

theorem pend_wide {n : Nat} : Fence.wide.depth.isSome = true → 1 ≤ n := by simp [Fence.wide]

/-- The statement 'for .. := range g { body }' in a function's own frame. -/
theorem range_law {P : Program} {g : Operand} {ps : Array Tmp} {assign body : Code} {Q : Exit → Act → World → Prop} {a : Act} {w W0 : World}
    {f : FuncId} {A : Value → Array Value} {n : Nat} {es : Nat → Array Value} {R : Nat → Prop}
    (hcall : ∀ l W, ∃ d, (resolve a.eval (rangeCall g l) 0).run P W = .ok d W ∧ (invoke d.target d.args).run P W = .ok (.enter f (A (.func (.yield l) #[] #[]))) W)
    (hit : Iter P f A n es R W0) (hR : ∀ k, R k → k < W0.heap.size) (hRw : Diff (fun k => ¬ R k) W0 w) (hps : ∀ i, i < n → (es i).size = ps.size)
    (I : Nat → (Nat → Prop) → World → Prop) (Ix : (Nat → Prop) → World → Prop) (hI : ∀ i, Stable (I i)) (hIx : Stable Ix) (h0 : I 0 (fun _ => False) w)
    (Bx : Nat → World → Act → World → Prop) (hBx : ∀ i W1 a' W' L o, Bx i W1 a' W' → L < W1.heap.size → Bx i W1 a' (W'.putObj L o))
    (hassign : ∀ l i O W1, i < n → I i O W1 → assign.wpIn (Fence.wide.inRound l) 0 P (Exit.then (fun a' W' => Diff (fun _ => False) W1 W' ∧ Bx i W1 a' W') (fun _ _ _ => False))
      { tmps := (ps.zip (es i)).foldl (fun t (p, v) => t.setIfInBounds p v) a.tmps, defers := [] } W1)
    (hbody : ∀ l i O W1 a' W', i < n → I i O W1 → Diff O W1 W' → (∀ k, O k → w.heap.size ≤ k ∧ k < W1.heap.size) → w.heap.size ≤ W1.heap.size → W1.heap.size ≤ W'.heap.size → Bx i W1 a' W' →
      body.wpIn (Fence.wide.inRound l) 0 P (roundEnd (fun k => ¬ R k ∧ ¬ O k) (I (i + 1)) Ix O W') a' W')
    (hdone : ∀ O D W, I n O W → O D → w.heap.size ≤ D → W.heap[D]? = some (.deferred (some [])) → Q .normal { a with defers := { target := .collected D, args := #[] } :: a.defers } W)
    (hstop : ∀ O D W, Ix O W → O D → w.heap.size ≤ D → W.heap[D]? = some (.deferred (some [])) → Q .ret { a with defers := { target := .collected D, args := #[] } :: a.defers } W) :
    (Code.rangeFunc g ps assign body).wpIn Fence.wide 0 P Q a w := by
  refine wpIn_rangeFunc ?_
  intro fn hfn
  have hro : Fence.wide.round = none := rfl
  rw [hro]
  obtain ⟨rec, hrec⟩ : ∃ rec : LoopState → Option Code → Loop, rec = fun st pe => { state := st, pending := pe, fn, tmps := a.tmps, params := ps, assign, body, defers := w.heap.size } := ⟨_, rfl⟩
  obtain ⟨W1, hW1⟩ : ∃ W1, (w.alloc (.deferred (some []))).alloc (.loop (rec .ready none)) = W1 := ⟨_, rfl⟩
  have hd01 : Diff (fun _ => False) w W1 := by rw [← hW1]; exact ((Diff.refl w).alloc _).alloc _
  have hsz1 : W1.heap.size = w.heap.size + 2 := by rw [← hW1]; simp
  have hL1 : W1.heap[w.heap.size + 1]? = some (.loop (rec .ready none)) := by
    rw [← hW1]; have := World.alloc_heap_new (w.alloc (.deferred (some []))) (.loop (rec .ready none)); rwa [World.size_alloc] at this
  have hK1 : W1.heap[w.heap.size]? = some (.deferred (some [])) := by
    rw [← hW1]; exact (Below.heap_alloc _ _ _ (by simp)).trans (World.alloc_heap_new w _)
  obtain ⟨d, hd1, hd2⟩ := hcall (w.heap.size + 1) W1
  let J : Nat → (Nat → Prop) → World → Prop := fun i O W => I i (fun k => O k ∨ k = w.heap.size ∨ k = w.heap.size + 1) W ∧ ¬ O w.heap.size ∧ ¬ O (w.heap.size + 1) ∧ w.heap.size + 2 ≤ W.heap.size ∧
    W.heap[w.heap.size + 1]? = some (.loop (rec .ready none)) ∧ W.heap[w.heap.size]? = some (.deferred (some []))
  let Jx : (Nat → Prop) → World → Prop := fun O W => Ix (fun k => O k ∨ k = w.heap.size ∨ k = w.heap.size + 1) W ∧ ¬ O w.heap.size ∧ ¬ O (w.heap.size + 1) ∧ w.heap.size + 2 ≤ W.heap.size ∧
    W.heap[w.heap.size + 1]? = some (.loop (rec .done (some .ret))) ∧ W.heap[w.heap.size]? = some (.deferred (some []))
  have hst : ∀ (X : (Nat → Prop) → World → Prop), Stable X → ∀ st : Obj, Stable (fun O W => X (fun k => O k ∨ k = w.heap.size ∨ k = w.heap.size + 1) W ∧ ¬ O w.heap.size ∧ ¬ O (w.heap.size + 1) ∧ w.heap.size + 2 ≤ W.heap.size ∧
      W.heap[w.heap.size + 1]? = some st ∧ W.heap[w.heap.size]? = some (.deferred (some []))) := by
    intro X hX st O O' x y ⟨h1, h2, h3, h4, h5, h6⟩ hdf hO
    refine ⟨hX _ _ _ _ h1 (hdf.mono (fun k _ h => .inl h)) ?_, ?_, ?_, Nat.le_trans h4 hdf.size, (hdf.block _ (by omega) h3).trans h5, (hdf.block _ (by omega) h2).trans h6⟩
    · rintro k (h | h | h)
      · rcases hO k h with h | h
        · exact .inl (.inl h)
        · exact .inr h
      · exact .inl (.inr (.inl h))
      · exact .inl (.inr (.inr h))
    · intro h; rcases hO _ h with h | h
      · exact h2 h
      · omega
    · intro h; rcases hO _ h with h | h
      · exact h3 h
      · omega
  have hlead : ∀ f', Target.leads P W1 d.target d.args = some f' → Fence.wide.fn f' := fun _ _ => trivial
  refine ⟨w.heap.size + 1, [{ target := .collected w.heap.size, args := #[] }], W1, d, W1, f, A (.func (.yield (w.heap.size + 1)) #[] #[]), W1, ?_, hd1, hlead, hd2, pend_wide, ?_⟩
  · rw [← hW1, hrec]; exact run_enterLoop_outer _ _ _ _ _
  have hcalls := hit (w.heap.size + 1) J Jx W1 hR (hRw.trans (hd01.mono (fun _ _ h => h.elim))) (fun i => hst (I i) (hI i) _) (hst Ix hIx _) ?_ ?_
  · refine CallsIn.mono hcalls ?_
    rintro e W2 ⟨⟨v, rfl⟩, O, hOb, hh⟩
    rcases hh with ⟨h1, h2, h3, h4, h5, h6⟩ | ⟨h1, h2, h3, h4, h5, h6⟩
    · refine ⟨none, W2.putObj (w.heap.size + 1) (.loop { rec .ready none with state := .exhausted }), ?_, ?_⟩
      · have := run_endLoop (P := P) h5 (by rw [hrec]; simp); rw [hrec] at this ⊢; exact this
      · refine hdone (fun k => O k ∨ k = w.heap.size ∨ k = w.heap.size + 1) w.heap.size _ (hI n _ _ _ _ h1 ((Diff.refl W2).putObj (fun _ => .inr (.inr rfl)) _) (fun k h => .inl h)) (.inr (.inl rfl)) (Nat.le_refl _) ?_
        exact (World.putObj_heap_other (by omega)).trans h6
    · refine ⟨some .ret, W2.putObj (w.heap.size + 1) (.loop { rec .done (some .ret) with state := .exhausted }), ?_, ?_⟩
      · have := run_endLoop (P := P) h5 (by rw [hrec]; simp); rw [hrec] at this ⊢; exact this
      · refine wpIn_ret ?_
        refine hstop (fun k => O k ∨ k = w.heap.size ∨ k = w.heap.size + 1) w.heap.size _ (hIx _ _ _ _ h1 ((Diff.refl W2).putObj (fun _ => .inr (.inr rfl)) _) (fun k h => .inl h)) (.inr (.inl rfl)) (Nat.le_refl _) ?_
        exact (World.putObj_heap_other (by omega)).trans h6
  · -- a round
    rintro i O Wa hin ⟨h1, h2, h3, h4, h5, h6⟩ hO hsa
    refine ⟨fn, _, assign, body, (by have := run_yield (P := P) (args := es i) h5 (by rw [hrec]; exact hps i hin); rw [hrec] at this; exact this), ?_⟩
    refine roundIn_of_wpIn hfn ?_
    refine wpIn_mono (hassign _ i _ Wa hin h1) ?_
    rintro e a' Wb hb
    cases e with
    | normal =>
      obtain ⟨hdab, hbx⟩ := hb
      have hlb : Wb.heap[w.heap.size + 1]? = some (.loop (rec .ready none)) := (hdab.block _ (by omega) id).trans h5
      have hkb : Wb.heap[w.heap.size]? = some (.deferred (some [])) := (hdab.block _ (by omega) id).trans h6
      have hsb := hdab.size
      refine ⟨_, run_beginRound hlb (by rw [hrec]), ?_⟩
      have hdo : Diff (fun k => O k ∨ k = w.heap.size ∨ k = w.heap.size + 1) Wa (Wb.putObj (w.heap.size + 1) (.loop { rec .ready none with state := .busy })) :=
        (hdab.mono (fun _ _ h => h.elim)).putObj (fun _ => .inr (.inr rfl)) _
      have hl2 : (Wb.putObj (w.heap.size + 1) (.loop { rec .ready none with state := .busy })).heap[w.heap.size + 1]? = some (.loop { rec .ready none with state := .busy }) := World.putObj_heap_same (by omega)
      have hk2 : (Wb.putObj (w.heap.size + 1) (.loop { rec .ready none with state := .busy })).heap[w.heap.size]? = some (.deferred (some [])) := (World.putObj_heap_other (by omega)).trans hkb
      have hOO : ∀ k, (O k ∨ k = w.heap.size ∨ k = w.heap.size + 1) → w.heap.size ≤ k ∧ k < Wa.heap.size := by
        rintro k (h | h | h)
        · have := hO k h; omega
        · omega
        · omega
      refine wpIn_mono (hbody _ i _ Wa a' _ hin h1 hdo hOO (by omega) (by simp; omega) (hBx i Wa a' Wb _ _ hbx (by omega))) ?_
      have fin : ∀ (jump : Option Code) (W3 : World), Diff (fun k => ¬ R k ∧ ¬ (O k ∨ k = w.heap.size ∨ k = w.heap.size + 1)) (Wb.putObj (w.heap.size + 1) (.loop { rec .ready none with state := .busy })) W3 →
          (Instr.endRound (w.heap.size + 1) jump).run P W3 = .ok (.bool jump.isNone) (W3.putObj (w.heap.size + 1) (.loop (rec (if jump.isNone then .ready else .done) jump))) ∧
          (W3.putObj (w.heap.size + 1) (.loop (rec (if jump.isNone then .ready else .done) jump))).heap[w.heap.size + 1]? = some (.loop (rec (if jump.isNone then .ready else .done) jump)) ∧
          (W3.putObj (w.heap.size + 1) (.loop (rec (if jump.isNone then .ready else .done) jump))).heap[w.heap.size]? = some (.deferred (some [])) ∧
          w.heap.size + 2 ≤ W3.heap.size ∧
          Diff (fun k => ¬ R k ∧ ¬ O k) Wa (W3.putObj (w.heap.size + 1) (.loop (rec (if jump.isNone then .ready else .done) jump))) := fun jump W3 hk3 => by
        have hs3 := hk3.size
        simp only [World.putObj_size] at hs3
        have hl3 := (hk3.block (w.heap.size + 1) (by simp; omega) (fun h => h.2 (.inr (.inr rfl)))).trans hl2
        have hk3' := (hk3.block (w.heap.size) (by simp; omega) (fun h => h.2 (.inr (.inl rfl)))).trans hk2
        have := run_endRound (P := P) jump hl3
        rw [hrec] at this ⊢
        have hRs := hRw.size
        refine ⟨this, World.putObj_heap_same (by omega), (World.putObj_heap_other (by omega)).trans hk3', by omega, ?_⟩
        refine Diff.putObj ?_ (fun _ => ⟨fun h => by have := hR _ h; omega, h3⟩) _
        refine Diff.trans' (O' := fun k => ¬ R k ∧ ¬ (O k ∨ k = w.heap.size ∨ k = w.heap.size + 1)) ?_ hk3 (fun k hk h => ⟨h.1, fun h' => h.2 (.inl h')⟩)
        exact Diff.putObj (hdab.mono (fun _ _ h => h.elim)) (fun _ => ⟨fun h => by have := hR _ h; omega, h3⟩) _
      rintro e a3 W3 hp
      cases e with
      | normal =>
        obtain ⟨hk3, hi3⟩ := hp
        obtain ⟨hr, hl4, hk4, hs4, hdf⟩ := fin none W3 hk3
        exact ⟨_, _, hr, hdf, .inl ⟨rfl, hI _ _ _ _ _ hi3 ((Diff.refl W3).putObj (fun _ => .inr (.inr rfl)) _) (fun k h => .inl h), h2, h3, by simp; omega, hl4, hk4⟩⟩
      | ret =>
        obtain ⟨hk3, hi3⟩ := hp
        obtain ⟨hr, hl4, hk4, hs4, hdf⟩ := fin (some .ret) W3 hk3
        exact ⟨_, _, hr, hdf, .inr ⟨rfl, hIx _ _ _ _ hi3 ((Diff.refl W3).putObj (fun _ => .inr (.inr rfl)) _) (fun k h => .inl h), h2, h3, by simp; omega, hl4, hk4⟩⟩
      | exit id => exact hp.elim
      | goto t => exact hp.elim
      | panic ch => exact hp.elim
      | outgrown => exact hp.elim
    | exit id => exact hb.elim
    | goto t => exact hb.elim
    | ret => exact hb.elim
    | panic ch => exact hb.elim
    | outgrown => exact hb.elim
  · exact ⟨hI 0 _ _ _ _ h0 hd01 (fun k h => by rcases h with h | h | h
                                               · exact h.elim
                                               · exact .inr (by omega)
                                               · exact .inr (by omega)), id, id, by omega, hL1, hK1⟩
end Go.Proofs.YtmedkmbfggphdaaDoor

namespace Go.Proofs.YtmedkmbfggphdaaDoor
open Go.RowKit

structure TS where
  lot : Int
  lo : Int
  hi : Int

structure BK where
  lo : Int
  hi : Int
  lots : Int
  n : Nat
  m : Nat → Nat
  t : Nat → Nat → TS

/-- p is the start of n cells, of blocks below B, that hold f. -/
def Row (B : Nat) (w : World) (p : Option Addr) (n : Nat) (f : Nat → Value) : Prop :=
  ∀ k, k < n → ∃ b o, p = some ⟨b, o, none⟩ ∧ b < B ∧ w.cell? ⟨b, o + k, none⟩ = some (f k)

def SitAt (B : Nat) (w : World) (q : Option Addr) (m : Nat) (t : Nat → TS) : Prop :=
  ∀ j, j < m → ∃ b o, q = some ⟨b, o, none⟩ ∧ b < B ∧ w.cell? ⟨b, o + j * 3, none⟩ = some (.int .i64 (t j).lot) ∧
    w.cell? ⟨b, o + j * 3 + 1, none⟩ = some (.int .i64 (t j).lo) ∧ w.cell? ⟨b, o + j * 3 + 2, none⟩ = some (.int .i64 (t j).hi)

def BookAt (B : Nat) (w : World) (p : Option Addr) (b : BK) : Prop :=
  ∀ k, k < b.n → ∃ blk o q c, p = some ⟨blk, o, none⟩ ∧ blk < B ∧ w.cell? ⟨blk, o + k, none⟩ = some (.slice q (b.m k) c) ∧ SitAt B w q (b.m k) (b.t k)

theorem Row.diff {O : Nat → Prop} {B n : Nat} {w w' : World} {p : Option Addr} {f : Nat → Value} (h : Row B w p n f) (hd : Diff O w w') (hB : B ≤ w.heap.size) (hO : ∀ k, k < B → ¬ O k) : Row B w' p n f := by
  intro k hk
  obtain ⟨b, o, hp, hb, hc⟩ := h k hk
  exact ⟨b, o, hp, hb, (hd.cell (p := ⟨b, o + k, none⟩) (by show b < _; omega) (hO b hb)).trans hc⟩
theorem SitAt.diff {O : Nat → Prop} {B n : Nat} {w w' : World} {p : Option Addr} {f : Nat → TS} (h : SitAt B w p n f) (hd : Diff O w w') (hB : B ≤ w.heap.size) (hO : ∀ k, k < B → ¬ O k) : SitAt B w' p n f := by
  intro k hk
  obtain ⟨b, o, hp, hb, h1, h2, h3⟩ := h k hk
  exact ⟨b, o, hp, hb, (hd.cell (p := ⟨b, _, none⟩) (by show b < _; omega) (hO b hb)).trans h1, (hd.cell (p := ⟨b, _, none⟩) (by show b < _; omega) (hO b hb)).trans h2, (hd.cell (p := ⟨b, _, none⟩) (by show b < _; omega) (hO b hb)).trans h3⟩
theorem BookAt.diff {O : Nat → Prop} {B : Nat} {w w' : World} {p : Option Addr} {b : BK} (h : BookAt B w p b) (hd : Diff O w w') (hB : B ≤ w.heap.size) (hO : ∀ k, k < B → ¬ O k) : BookAt B w' p b := by
  intro k hk
  obtain ⟨b, o, q, c, hp, hb, hc, hs⟩ := h k hk
  exact ⟨b, o, q, c, hp, hb, (hd.cell (p := ⟨b, _, none⟩) (by show b < _; omega) (hO b hb)).trans hc, hs.diff hd hB hO⟩
theorem Row.mono {B B' n : Nat} {w : World} {p : Option Addr} {f : Nat → Value} (h : Row B w p n f) (hB : B ≤ B') : Row B' w p n f := by
  intro k hk
  obtain ⟨b, o, hp, hb, hc⟩ := h k hk
  exact ⟨b, o, hp, by omega, hc⟩
theorem SitAt.mono {B B' n : Nat} {w : World} {p : Option Addr} {f : Nat → TS} (h : SitAt B w p n f) (hB : B ≤ B') : SitAt B' w p n f := by
  intro k hk
  obtain ⟨b, o, hp, hb, hc⟩ := h k hk
  exact ⟨b, o, hp, by omega, hc⟩
theorem BookAt.mono {B B' : Nat} {w : World} {p : Option Addr} {b : BK} (h : BookAt B w p b) (hB : B ≤ B') : BookAt B' w p b := by
  intro k hk
  obtain ⟨b, o, q, c, hp, hb, hc, hs⟩ := h k hk
  exact ⟨b, o, q, c, hp, by omega, hc, hs.mono hB⟩

/-- The four package-level ranges. -/
structure Gl (w : World) : Prop where
  r0 : w.cell? ⟨0, 0, none⟩ = some (.int .i64 0)
  r1 : w.cell? ⟨0, 1, none⟩ = some (.int .i64 50)
  l0 : w.cell? ⟨1, 0, none⟩ = some (.int .i64 1)
  l1 : w.cell? ⟨1, 1, none⟩ = some (.int .i64 6)
  s0 : w.cell? ⟨2, 0, none⟩ = some (.int .i64 (-1000))
  s1 : w.cell? ⟨2, 1, none⟩ = some (.int .i64 1000)
  h0 : w.cell? ⟨3, 0, none⟩ = some (.int .i64 0)
  h1 : w.cell? ⟨3, 1, none⟩ = some (.int .i64 1000)
  sz : 4 ≤ w.heap.size

theorem Gl.diff {O : Nat → Prop} {w w' : World} (h : Gl w) (hd : Diff O w w') (hO : ∀ k, k < 4 → ¬ O k) : Gl w' := by
  have hs := h.sz
  have c : ∀ b o, b < 4 → w'.cell? ⟨b, o, none⟩ = w.cell? ⟨b, o, none⟩ := fun b o hb => hd.cell (p := ⟨b, o, none⟩) (by show b < _; omega) (hO b hb)
  exact ⟨(c _ _ (by omega)).trans h.r0, (c _ _ (by omega)).trans h.r1, (c _ _ (by omega)).trans h.l0, (c _ _ (by omega)).trans h.l1, (c _ _ (by omega)).trans h.s0, (c _ _ (by omega)).trans h.s1,
    (c _ _ (by omega)).trans h.h0, (c _ _ (by omega)).trans h.h1, Nat.le_trans hs hd.size⟩
end Go.Proofs.YtmedkmbfggphdaaDoor

namespace Go.Proofs.YtmedkmbfggphdaaDoor
open Go.ChangeShapes Go.WideShapes Go.ChangeAt Go.RowKit

theorem own : ownKnob Tryd.prog.godebug = none := by kernel_rfl
theorem two_of {α : Type} {l : List α} (h : l.length = 2) : ∃ x y, l = [x, y] := by
  rcases l with _ | ⟨x, _ | ⟨y, _ | ⟨z, l⟩⟩⟩ <;> simp at h ⊢
/-- A range that is read as lo and hi lies as lo and hi. -/
theorem open_rg {H : Type} {enc : TypeId × Value → H} {W : World} {base : Nat} {spare : Nat → Bool} {held : Bool} {fuel : Nat} {cs : List Value} {lo hi : Int} {p : List MemPlace}
    (h : DataW.trod enc Tryd.prog W base spare held fuel 23 cs = some (.agg [.lit (.int .i64 lo), .lit (.int .i64 hi)], p)) : cs = [.int .i64 lo, .int .i64 hi] := by
  obtain ⟨y0, y1, n, hx, hl, h0, h1⟩ := trod_struct2 Tryd.underlying23 h
  have c2 : Tryd.prog.cellsOf 2 = 1 := by kernel_rfl
  have c23 : Tryd.prog.cellsOf 23 = 2 := by kernel_rfl
  rw [c23] at hl
  obtain ⟨x, y, rfl⟩ := two_of hl
  simp only [c2] at h0 h1
  obtain ⟨a, e1, e2, _⟩ := DataW.trod_int Tryd.underlying2 h0
  obtain ⟨b, e3, e4, _⟩ := DataW.trod_int Tryd.underlying2 h1
  subst e2 e4
  simp at hx e1 e3
  obtain ⟨⟨rfl, rfl⟩, -⟩ := hx
  rw [e1, e3]
def laidL : List (String × DataW Unit) := [("senvy/taste.rates", Rows.laid_senvy_taste_rates), ("senvy/taste.lots", Rows.laid_senvy_taste_lots), ("senvy/taste.saids", Rows.laid_senvy_taste_saids), ("senvy/taste.sharps", Rows.laid_senvy_taste_sharps)]
theorem cell_heap {w : World} {b o : Nat} {v : Value} (h : w.cell? ⟨b, o, none⟩ = some v) : b < w.heap.size := by
  by_cases hb : b < w.heap.size
  · exact hb
  · have : w.heap[b]? = none := Array.getElem?_eq_none (by omega)
    simp [World.cell?, this] at h
theorem gl_of {W : World} (h : laidMetH Tryd.prog laidL W) : Gl W := by
  rw [MakeChecks.laidMetH_plain _ _ _ (by kernel_rfl)] at h
  obtain ⟨ps, ⟨g0, t0, cs0, f0, p0, q0, hg0, ht0, hv0, hd0, ⟨g1, t1, cs1, f1, p1, q1, hg1, ht1, hv1, hd1, ⟨g2, t2, cs2, f2, p2, q2, hg2, ht2, hv2, hd2, ⟨g3, t3, cs3, f3, p3, q3, hg3, ht3, hv3, hd3, _⟩, _⟩, _⟩, _⟩, _, _⟩ := h
  obtain rfl := Option.some.inj ((show Tryd.prog.globalNamed "senvy/taste.rates" = some 0 by kernel_rfl).symm.trans hg0)
  obtain rfl := Option.some.inj ((show Tryd.prog.globalNamed "senvy/taste.lots" = some 1 by kernel_rfl).symm.trans hg1)
  obtain rfl := Option.some.inj ((show Tryd.prog.globalNamed "senvy/taste.saids" = some 2 by kernel_rfl).symm.trans hg2)
  obtain rfl := Option.some.inj ((show Tryd.prog.globalNamed "senvy/taste.sharps" = some 3 by kernel_rfl).symm.trans hg3)
  obtain rfl := Option.some.inj ((show (Tryd.prog.globals[0]?).map (·.type) = some 23 by kernel_rfl).symm.trans ht0)
  obtain rfl := Option.some.inj ((show (Tryd.prog.globals[1]?).map (·.type) = some 23 by kernel_rfl).symm.trans ht1)
  obtain rfl := Option.some.inj ((show (Tryd.prog.globals[2]?).map (·.type) = some 23 by kernel_rfl).symm.trans ht2)
  obtain rfl := Option.some.inj ((show (Tryd.prog.globals[3]?).map (·.type) = some 23 by kernel_rfl).symm.trans ht3)
  have e0 := open_rg hd0
  have e1 := open_rg hd1
  have e2 := open_rg hd2
  have e3 := open_rg hd3
  have k0 := World.var?_cell hg0 hv0
  have k1 := World.var?_cell hg1 hv1
  have k2 := World.var?_cell hg2 hv2
  have k3 := World.var?_cell hg3 hv3
  obtain ⟨l0⟩ := cs0
  obtain ⟨l1⟩ := cs1
  obtain ⟨l2⟩ := cs2
  obtain ⟨l3⟩ := cs3
  subst e0 e1 e2 e3
  have hs : 3 < W.heap.size := cell_heap (o := 0) (k3 0)
  exact ⟨k0 0, k0 1, k1 0, k1 1, k2 0, k2 1, k3 0, k3 1, hs⟩
theorem laid_met (os : Os) (args : Array Value) : laidMetH Tryd.prog laidL ((World.laidAll Tryd.prog os laidL).forCall (fun _ _ => 0) ⟨#[], args, []⟩).memory := by
  rw [MakeChecks.laidMetH_plain _ _ _ (by kernel_rfl)]
  exact laidMet_laidAll args (by kernel_rfl) (by kernel_rfl)
end Go.Proofs.YtmedkmbfggphdaaDoor

namespace Go.Proofs.YtmedkmbfggphdaaDoor
open Go.RowKit

def wIn (lo hi x : Int) : Bool := decide (lo ≤ x) && decide (x ≤ hi)
def wAll (lo hi : Int) (f : Nat → Int) (n : Nat) : Bool := (List.range n).all fun k => wIn lo hi (f k)

theorem wAll_succ (lo hi : Int) (f : Nat → Int) (n : Nat) : wAll lo hi f (n + 1) = (wAll lo hi f n && wIn lo hi (f n)) := by
  simp [wAll, List.range_succ]
theorem wAll_false {lo hi : Int} {f : Nat → Int} {n k : Nat} (hk : k < n) (h : wIn lo hi (f k) = false) : wAll lo hi f n = false := by
  simp only [wAll, List.all_eq_false, List.mem_range]
  exact ⟨k, hk, by simp [h]⟩

theorem within_any (w : World) (lo hi : Int) (p : Option Addr) (n cap : Nat) (f : Nat → Int) (hn : n ≤ 1000) (hr : Row w.heap.size w p n fun k => .int .i64 (f k)) :
    Calls Tryd.prog 90 #[.agg #[.int .i64 lo, .int .i64 hi], .slice p n cap] w fun e w' => e = .returned (.bool (wAll lo hi f n)) ∧ Pure w w' := by
  go_enter Tryd.func90, Tryd.ntmps90
  go_wp2
  go_loop [6, 9] (fun _ i => ∃ k : Nat, k ≤ n ∧ i = .int .i64 k ∧ wAll lo hi f k = true) (fun _ i => n - (intOf i).toNat)
  case atStart => exact ⟨0, Nat.zero_le _, rfl, rfl⟩
  case round =>
    obtain ⟨k, hk, rfl, hall⟩ := hrel
    have HA := Lib.hid hall
    clear hall
    by_cases hlt : k < n
    · obtain ⟨b, o, rfl, hb, hc⟩ := hr k hlt
      by_cases h1 : f k < lo
      · have HF : Hid (wAll lo hi f n = false) := wAll_false hlt (by simp [wIn]; omega)
        go_wp2
        go_ret
        exact ⟨by rw [HF.out]; rfl, by repeat (first | exact Diff.refl _ | apply Diff.alloc)⟩
      · by_cases h2 : hi < f k
        · have HF : Hid (wAll lo hi f n = false) := wAll_false hlt (by simp [wIn]; omega)
          go_wp2
          go_ret
          exact ⟨by rw [HF.out]; rfl, by repeat (first | exact Diff.refl _ | apply Diff.alloc)⟩
        · have HS : Hid (wAll lo hi f (k + 1) = true) := by show _ = true; rw [wAll_succ, HA.out]; simp [wIn]; omega
          go_wp2
          go_round
          case rel => exact ⟨k + 1, by omega, by go_num, HS.out⟩
          case measure => simp [intOf]; omega
    · obtain rfl : k = n := by omega
      go_wp2
      go_ret
      exact ⟨by rw [HA.out]; rfl, by repeat (first | exact Diff.refl _ | apply Diff.alloc)⟩

theorem row_new (w : World) (xs : Array Value) (E : TypeId) (n b : Nat) (f : Nat → Value) (hb : b = w.heap.size) (h : ∀ k, k < n → xs[k]? = some (f k)) :
    Row (w.alloc (.cells xs E)).heap.size (w.alloc (.cells xs E)) (some ⟨b, 0, none⟩) n f := by
  subst hb
  intro k hk
  refine ⟨w.heap.size, 0, rfl, by simp, ?_⟩
  rw [← h k hk]
  have := World.alloc_heap_new w (.cells xs E)
  simp only [World.cell?, this]
  simp

theorem valid_any (w : World) (lo hi l h : Int) :
    Calls Tryd.prog 60 #[.agg #[.int .i64 lo, .int .i64 hi], .agg #[.int .i64 l, .int .i64 h]] w fun e w' => e = .returned (.bool (decide (lo ≤ hi) && (wIn l h lo && wIn l h hi))) ∧ Pure w w' := by
  by_cases h1 : lo ≤ hi
  · have HW : Hid (wAll l h (fun k => if k = 0 then lo else hi) 2 = (wIn l h lo && wIn l h hi)) := by simp [wAll, Hid, List.range_succ]
    have hrow : ∀ k, k < 2 → #[Value.int .i64 lo, Value.int .i64 hi][k]? = some (.int .i64 (if k = 0 then lo else hi)) := by
      intro k hk
      have : k = 0 ∨ k = 1 := by omega
      rcases this with rfl | rfl <;> rfl
    have H := Lib.hid hrow
    clear hrow
    go_enter Tryd.func60, Tryd.ntmps60
    go_wp2_with fail
    refine (within_any _ l h _ _ _ (fun k => if k = 0 then lo else hi) (by omega) ?_).mono ?_
    · exact row_new _ _ _ _ _ _ (by simp) H.out
    rintro e w' ⟨rfl, hp⟩
    rw [HW.out]
    go_wp2
    go_ret
    exact ⟨by simp [h1], Diff.trans (by repeat (first | exact Diff.refl _ | apply Diff.alloc)) hp⟩
  · have hd : decide (lo ≤ hi) = false := by simp; omega
    go_enter Tryd.func60, Tryd.ntmps60
    go_wp2
    go_ret
    exact ⟨by simp, by repeat (first | exact Diff.refl _ | apply Diff.alloc)⟩
end Go.Proofs.YtmedkmbfggphdaaDoor

namespace Go.Proofs.YtmedkmbfggphdaaDoor

def BK.upto (b : BK) : Nat → Nat
  | 0 => 0
  | k + 1 => BK.upto b k + b.m k
def BK.total (b : BK) : Nat := b.upto b.n
theorem BK.upto_mono (b : BK) : ∀ {i j : Nat}, i ≤ j → b.upto i ≤ b.upto j
  | i, 0, h => by obtain rfl : i = 0 := by omega
                  exact Nat.le_refl _
  | i, j + 1, h => by
    by_cases e : i = j + 1
    · subst e; exact Nat.le_refl _
    · have := BK.upto_mono b (i := i) (j := j) (by omega)
      simp only [BK.upto]; omega

structure BK.Valid (b : BK) : Prop where
  lo0 : 0 ≤ b.lo
  lohi : b.lo ≤ b.hi
  hi50 : b.hi ≤ 50
  lots1 : 1 ≤ b.lots
  lots6 : b.lots ≤ 6
  n4 : b.n ≤ 4
  pos : ∀ k, k < b.n → 0 < b.m k
  tot : b.total ≤ 12
  lot0 : ∀ k j, k < b.n → j < b.m k → 0 ≤ (b.t k j).lot
  lot1 : ∀ k j, k < b.n → j < b.m k → (b.t k j).lot < b.lots
  said0 : ∀ k j, k < b.n → j < b.m k → -1000 ≤ (b.t k j).lo
  said1 : ∀ k j, k < b.n → j < b.m k → (b.t k j).lo ≤ (b.t k j).hi
  said2 : ∀ k j, k < b.n → j < b.m k → (b.t k j).hi ≤ 1000

def BK.row (b : BK) (k : Nat) : List (Bool × TS) := (List.range (b.m k)).map fun j => (j == 0, b.t k j)
def BK.flatTo (b : BK) : Nat → List (Bool × TS)
  | 0 => []
  | k + 1 => BK.flatTo b k ++ b.row k
/-- All tastes, with whether each is the first one of its sitting. -/
def BK.flat (b : BK) : List (Bool × TS) := b.flatTo b.n
def BK.at' (b : BK) (q : Nat) : Bool × TS := b.flat.getD q (false, ⟨0, 0, 0⟩)

theorem BK.flatTo_length (b : BK) : ∀ k, (b.flatTo k).length = b.upto k
  | 0 => rfl
  | k + 1 => by simp [BK.flatTo, BK.row, BK.upto, BK.flatTo_length b k]
theorem BK.flatTo_get (b : BK) (s j : Nat) (hj : j < b.m s) : ∀ n, s < n → (b.flatTo n)[b.upto s + j]? = some (j == 0, b.t s j)
  | 0, h => by omega
  | n + 1, h => by
    by_cases e : s = n
    · subst e
      rw [BK.flatTo, List.getElem?_append_right (by rw [b.flatTo_length]; omega), b.flatTo_length, Nat.add_sub_cancel_left]
      simp [BK.row, hj]
    · have hu := b.upto_mono (i := s + 1) (j := n) (by omega)
      simp only [BK.upto] at hu
      rw [BK.flatTo, List.getElem?_append_left (by rw [b.flatTo_length]; omega)]
      exact BK.flatTo_get b s j hj n (by omega)
theorem BK.at_eq (b : BK) (s j : Nat) (hs : s < b.n) (hj : j < b.m s) : b.at' (b.upto s + j) = (j == 0, b.t s j) := by
  unfold BK.at' BK.flat
  rw [List.getD_eq_getElem?_getD, b.flatTo_get s j hj _ hs]
  rfl
theorem BK.upto_lt (b : BK) (s j : Nat) (hs : s < b.n) (hj : j < b.m s) : b.upto s + j < b.total := by
  have := b.upto_mono (i := s + 1) (j := b.n) (by omega)
  simp only [BK.upto] at this
  unfold BK.total; omega

structure TS.Ok (lots : Int) (x : TS) : Prop where
  lot0 : 0 ≤ x.lot
  lot1 : x.lot < lots
  lo : -1000 ≤ x.lo
  le : x.lo ≤ x.hi
  hi : x.hi ≤ 1000
theorem BK.flatTo_ok (b : BK) (hv : b.Valid) : ∀ n, n ≤ b.n → ∀ x ∈ b.flatTo n, x.2.Ok b.lots
  | 0, _, x, hx => by cases hx
  | n + 1, hn, x, hx => by
    rcases List.mem_append.1 hx with hx | hx
    · exact BK.flatTo_ok b hv n (by omega) x hx
    · simp only [BK.row, List.mem_map, List.mem_range] at hx
      obtain ⟨j, hj, rfl⟩ := hx
      exact ⟨hv.lot0 n j (by omega) hj, hv.lot1 n j (by omega) hj, hv.said0 n j (by omega) hj, hv.said1 n j (by omega) hj, hv.said2 n j (by omega) hj⟩
theorem BK.at_ok (b : BK) (hv : b.Valid) (q : Nat) : (b.at' q).2.Ok b.lots := by
  unfold BK.at' BK.flat
  rw [List.getD_eq_getElem?_getD]
  cases h : (b.flatTo b.n)[q]? with
  | none => have := hv.lots1; exact ⟨by simp, by simp; omega, by simp, by simp, by simp⟩
  | some x => exact b.flatTo_ok hv _ (Nat.le_refl _) x (List.mem_of_getElem? h)

structure Rg where
  f : Int
  t : Int
  lo : Int
  hi : Int

/-- The i-th pair that ranges yields. -/
def BK.rg (b : BK) (i : Nat) : Rg :=
  if i < b.lots.toNat then ⟨0, 1 + i, 0, 1000⟩ else
    let q := (i - b.lots.toNat) / 2
    let x := b.at' q
    if (i - b.lots.toNat) % 2 = 0 then (if x.1 then ⟨0, 1 + b.lots + q, 0, 0⟩ else ⟨b.lots + q, 1 + b.lots + q, b.lo, b.hi⟩)
    else ⟨1 + b.lots + q, 1 + x.2.lot, x.2.lo, x.2.hi⟩
def BK.rgN (b : BK) : Nat := b.lots.toNat + 2 * b.total
abbrev Rg.e (r : Rg) : Array Value := #[.agg #[.int .i64 r.f, .int .i64 r.t], .agg #[.int .i64 r.lo, .int .i64 r.hi]]

theorem BK.rg_lot (b : BK) (L k : Nat) (hL : b.lots = L) (hk : k < L) : b.rg k = ⟨0, 1 + k, 0, 1000⟩ := by
  unfold BK.rg; rw [hL]; simp [hk]
def lstN (k u j : Nat) : Int := if j = 0 then 0 else k + u + j
def tlo (b : BK) (j : Nat) : Int := if j = 0 then 0 else b.lo
def thi (b : BK) (j : Nat) : Int := if j = 0 then 0 else b.hi
theorem BK.rg_one (b : BK) (L s j : Nat) (hL : b.lots = L) (hs : s < b.n) (hj : j < b.m s) :
    b.rg (L + 2 * (b.upto s + j)) = ⟨lstN L (b.upto s) j, 1 + L + b.upto s + j, tlo b j, thi b j⟩ := by
  unfold BK.rg
  have e1 : (L + 2 * (b.upto s + j) - L) / 2 = b.upto s + j := by omega
  have e2 : (L + 2 * (b.upto s + j) - L) % 2 = 0 := by omega
  simp only [hL, Int.toNat_natCast, show ¬ L + 2 * (b.upto s + j) < L by omega, if_false, e1, e2, if_true, b.at_eq s j hs hj, lstN, tlo, thi]
  by_cases h0 : j = 0
  · subst h0; simp
  · simp [h0]; omega
theorem BK.rg_two (b : BK) (L s j : Nat) (hL : b.lots = L) (hs : s < b.n) (hj : j < b.m s) :
    b.rg (L + 2 * (b.upto s + j) + 1) = ⟨1 + L + b.upto s + j, 1 + (b.t s j).lot, (b.t s j).lo, (b.t s j).hi⟩ := by
  unfold BK.rg
  have e1 : (L + 2 * (b.upto s + j) + 1 - L) / 2 = b.upto s + j := by omega
  have e2 : (L + 2 * (b.upto s + j) + 1 - L) % 2 = 1 := by omega
  simp only [hL, Int.toNat_natCast, show ¬ L + 2 * (b.upto s + j) + 1 < L by omega, if_false, e1, e2, b.at_eq s j hs hj]
  simp; omega
/-- The lower ends are small. -/
theorem BK.rg_lo (b : BK) (hv : b.Valid) (i : Nat) : -1000 ≤ (b.rg i).lo ∧ (b.rg i).lo ≤ 1000 := by
  have h := b.at_ok hv ((i - b.lots.toNat) / 2)
  have h1 := hv.lo0
  have h2 := hv.lohi
  have h3 := hv.hi50
  have h4 := h.lo
  have h5 := h.le
  have h6 := h.hi
  unfold BK.rg
  split
  · simp
  · simp only
    split
    · split <;> simp <;> omega
    · simp only; omega
end Go.Proofs.YtmedkmbfggphdaaDoor

namespace Go.Proofs.YtmedkmbfggphdaaDoor
open Go.RowKit

/-- No more than 8 sittings of 16 tastes. -/
def BK.Small (b : BK) : Prop := b.n ≤ 8 ∧ ∀ k, k < b.n → b.m k ≤ 16
def BK.full (b : BK) (n : Nat) : Bool := (List.range n).all fun k => b.m k != 0
def countsB (b : BK) : Bool := b.full b.n && (wIn 1 6 b.lots && decide (b.n ≤ 4) && decide (b.total ≤ 12))

theorem BK.full_succ (b : BK) (n : Nat) : b.full (n + 1) = (b.full n && b.m n != 0) := by simp [BK.full, List.range_succ]
theorem BK.full_false {b : BK} {n k : Nat} (hk : k < n) (h : b.m k = 0) : b.full n = false := by
  simp only [BK.full, List.all_eq_false, List.mem_range]
  exact ⟨k, hk, by simp [h]⟩
theorem BK.upto_le (b : BK) (h : b.Small) : ∀ k, k ≤ b.n → b.upto k ≤ 16 * k
  | 0, _ => by simp [BK.upto]
  | k + 1, hk => by have := BK.upto_le b h k (by omega); have := h.2 k (by omega); simp only [BK.upto]; omega

theorem countsFit_any (w : World) (b : BK) (p : Option Addr) (cap : Nat) (hs : b.Small) (hb : BookAt w.heap.size w p b) (hg : Gl w) :
    Calls Tryd.prog 61 #[.agg #[.int .i64 b.lo, .int .i64 b.hi, .int .i64 b.lots, .slice p b.n cap]] w fun e w' => e = .returned (.bool (countsB b)) ∧ Pure w w' := by
  have hn := hs.1
  have g0 := hg.l0
  have g1 := hg.l1
  have gs : 1 < w.heap.size := by have := hg.sz; omega
  go_enter Tryd.func61, Tryd.ntmps61
  go_wp2
  go_loop [3, 5, 9] (fun a _ i => ∃ k : Nat, k ≤ b.n ∧ i = .int .i64 k ∧ a = .int .i64 (b.upto k) ∧ b.full k = true) (fun _ _ i => b.n - (intOf i).toNat)
  case atStart => exact ⟨0, Nat.zero_le _, rfl, rfl, rfl⟩
  case round =>
    obtain ⟨k, hk, rfl, rfl, hall⟩ := hrel
    have HA := Lib.hid hall
    clear hall
    have hu := b.upto_le hs k hk
    by_cases hlt : k < b.n
    · obtain ⟨blk, o, q, c, rfl, hblk, hc, _⟩ := hb k hlt
      have hm := hs.2 k hlt
      by_cases h0 : b.m k = 0
      · have HF : Hid (countsB b = false) := by show _ = _; simp [countsB, BK.full_false hlt h0]
        go_wp2
        go_ret
        exact ⟨by rw [HF.out]; rfl, by repeat (first | exact Diff.refl _ | apply Diff.alloc)⟩
      · have HS : Hid (b.full (k + 1) = true) := by show _ = true; rw [BK.full_succ, HA.out]; simpa using h0
        have HU : Hid (b.upto (k + 1) = b.upto k + b.m k) := rfl
        go_wp2
        go_round
        case rel => exact ⟨k + 1, by omega, by go_num, by rw [HU.out]; go_num, HS.out⟩
        case measure => simp [intOf]; omega
    · obtain rfl : k = b.n := by omega
      have hrow : Hid (∀ k, k < 1 → #[Value.int .i64 b.lots][k]? = some (.int .i64 b.lots)) := by
        intro k hk; obtain rfl : k = 0 := by omega
        rfl
      have HT : Hid (wAll 1 6 (fun _ => b.lots) 1 = wIn 1 6 b.lots) := by simp [wAll, Hid, List.range_succ]
      have HC : Hid (countsB b = (wIn 1 6 b.lots && decide (b.n ≤ 4) && decide (b.total ≤ 12))) := by show _ = _; simp [countsB, HA.out]
      have HK : Hid (b.total = b.upto b.n) := rfl
      go_wp2_with fail
      refine (within_any _ 1 6 _ _ _ (fun _ => b.lots) (by omega) ?_).mono ?_
      · exact row_new _ _ _ _ _ _ (by simp) hrow.out
      rintro e w' ⟨rfl, hp⟩
      rw [HT.out]
      obtain ⟨hc1, hf1⟩ := pcell hp
      cases hw1 : wIn 1 6 b.lots
      all_goals go_wp2
      all_goals go_ret
      all_goals refine ⟨?_, Diff.trans (by repeat (first | exact Diff.refl _ | apply Diff.alloc)) hp⟩
      all_goals rw [HC.out, hw1, HK.out]
      all_goals clear hc1 hf1 hp
      all_goals simp
      all_goals first | omega | (rw [Bool.eq_iff_iff]; simp; omega)



def tsB (b : BK) (x : TS) : Bool := (decide (0 ≤ x.lot) && decide (x.lot < b.lots)) && (decide (x.lo ≤ x.hi) && (wIn (-1000) 1000 x.lo && wIn (-1000) 1000 x.hi))
def BK.rowOk (b : BK) (k n : Nat) : Bool := (List.range n).all fun j => tsB b (b.t k j)
def BK.rowsOk (b : BK) (n : Nat) : Bool := (List.range n).all fun k => b.rowOk k (b.m k)
theorem BK.rowOk_succ (b : BK) (k n : Nat) : b.rowOk k (n + 1) = (b.rowOk k n && tsB b (b.t k n)) := by simp [BK.rowOk, List.range_succ]
theorem BK.rowsOk_succ (b : BK) (n : Nat) : b.rowsOk (n + 1) = (b.rowsOk n && b.rowOk n (b.m n)) := by simp [BK.rowsOk, List.range_succ]
theorem BK.rowOk_false {b : BK} {k n j : Nat} (hj : j < n) (h : tsB b (b.t k j) = false) : b.rowOk k n = false := by
  simp only [BK.rowOk, List.all_eq_false, List.mem_range]
  exact ⟨j, hj, by simp [h]⟩
theorem BK.rowsOk_false {b : BK} {n k : Nat} (hk : k < n) (h : b.rowOk k (b.m k) = false) : b.rowsOk n = false := by
  simp only [BK.rowsOk, List.all_eq_false, List.mem_range]
  exact ⟨k, hk, by simp [h]⟩
def tastesB (b : BK) : Bool := b.rowsOk b.n

theorem tastesFit_any (w : World) (b : BK) (p : Option Addr) (cap : Nat) (hs : b.Small) (hb : BookAt w.heap.size w p b) (hg : Gl w) :
    Calls Tryd.prog 62 #[.agg #[.int .i64 b.lo, .int .i64 b.hi, .int .i64 b.lots, .slice p b.n cap]] w fun e w' => e = .returned (.bool (tastesB b)) ∧ Pure w w' := by
  have hn := hs.1
  have g0 := hg.s0
  have g1 := hg.s1
  have gs : 2 < w.heap.size := by have := hg.sz; omega
  go_enter Tryd.func62, Tryd.ntmps62
  go_wp2
  go_loopw [4, 6, 10] (fun _ _ i wr => ∃ k : Nat, k ≤ b.n ∧ i = .int .i64 k ∧ b.rowsOk k = true ∧ Pure (w.alloc (.cells #[.int .i64 b.lo, .int .i64 b.hi, .int .i64 b.lots, .slice p b.n cap] 26)) wr) (fun _ _ i _ => b.n - (intOf i).toNat)
  case atStart => exact ⟨0, Nat.zero_le _, rfl, rfl, Diff.refl _⟩
  case round =>
    obtain ⟨k, hk, rfl, hall, hp⟩ := hrel
    have HA := Lib.hid hall
    clear hall
    obtain ⟨hc1, hf1⟩ := pcell hp
    by_cases hlt : k < b.n
    · obtain ⟨blk, o, q, c, rfl, hblk, hc, hsit⟩ := hb k hlt
      have hm := hs.2 k hlt
      go_wp2
      obtain ⟨wo, rfl⟩ : ∃ wo : World, wo = wr := ⟨_, rfl⟩
      have hz : w.heap.size < wo.heap.size := by have := hp.size; simp at this; omega
      go_loopw [2, 6, 16] (fun _ _ i wr => ∃ j : Nat, j ≤ b.m k ∧ i = .int .i64 j ∧ b.rowOk k j = true ∧ Pure wo wr) (fun _ _ i _ => b.m k - (intOf i).toNat)
      case atStart => exact ⟨0, Nat.zero_le _, rfl, rfl, Diff.refl _⟩
      case round =>
        obtain ⟨j, hj, rfl, hall, hpi⟩ := hrel
        have HI := Lib.hid hall
        clear hall
        obtain ⟨hc2, hf2⟩ := pcell hpi
        have PW : Hid (Pure w wr) := ((Diff.refl w).alloc _).trans (hp.trans hpi)
        have PI : Hid (Pure wo wr) := hpi
        have hz2 : wo.heap.size ≤ wr.heap.size := hpi.size
        by_cases hltj : j < b.m k
        · obtain ⟨bs, os, rfl, hbs, ht0, ht1, ht2⟩ := hsit j hltj
          have hbs2 : bs < wo.heap.size := by omega
          have gs2 : 2 < wo.heap.size := by omega
          have gs3 : 2 < wr.heap.size := by omega
          have hz3 : w.heap.size < wr.heap.size := by omega
          by_cases hx0 : (b.t k j).lot < 0
          · have HF : Hid (tastesB b = false) := BK.rowsOk_false hlt (BK.rowOk_false hltj (by simp [tsB]; omega))
            go_wp2
            go_ret
            exact ⟨by rw [HF.out]; rfl, PW.out.alloc _⟩
          · by_cases hx1 : b.lots ≤ (b.t k j).lot
            · have HF : Hid (tastesB b = false) := BK.rowsOk_false hlt (BK.rowOk_false hltj (by simp [tsB]; omega))
              go_wp2
              go_ret
              exact ⟨by rw [HF.out]; rfl, PW.out.alloc _⟩
            · go_wp2_with fail
              refine (valid_any _ _ _ _ _).mono ?_
              rintro e w' ⟨rfl, hp3⟩
              obtain ⟨hc3, hf3⟩ := pcell hp3
              obtain ⟨v, hv⟩ : ∃ v, (decide ((b.t k j).lo ≤ (b.t k j).hi) && (wIn (-1000) 1000 (b.t k j).lo && wIn (-1000) 1000 (b.t k j).hi)) = v := ⟨_, rfl⟩
              have HV := Lib.hid hv
              rw [hv]
              clear hv
              cases v
              · have HF : Hid (tastesB b = false) := BK.rowsOk_false hlt (BK.rowOk_false hltj (by rw [tsB, HV.out]; simp))
                go_wp2
                go_ret
                exact ⟨by rw [HF.out]; rfl, (PW.out.alloc _).trans hp3⟩
              · have HS : Hid (b.rowOk k (j + 1) = true) := by show _ = true; rw [BK.rowOk_succ, HI.out, tsB, HV.out]; simp; omega
                go_wp2
                go_roundw
                case rel => exact ⟨j + 1, by omega, by go_num, HS.out, (PI.out.alloc _).trans hp3⟩
                case measure => simp [intOf]; omega
        · obtain rfl : j = b.m k := by omega
          have HS : Hid (b.rowsOk (k + 1) = true) := by show _ = true; rw [BK.rowsOk_succ, HA.out, HI.out]; rfl
          go_wp2
          go_roundw
          case rel => exact ⟨k + 1, by omega, by go_num, HS.out, hp.trans hpi⟩
          case measure => simp [intOf]; omega
    · obtain rfl : k = b.n := by omega
      have HF : Hid (tastesB b = true) := HA.out
      go_wp2
      go_ret
      exact ⟨by rw [HF.out]; rfl, Diff.trans (by repeat (first | exact Diff.refl _ | apply Diff.alloc)) hp⟩

def checkB (b : BK) : Int :=
  if (decide (b.lo ≤ b.hi) && (wIn 0 50 b.lo && wIn 0 50 b.hi)) = false then 3 else if countsB b = false then 6 else if tastesB b = false then 3 else 0

theorem ret_int {k : IntKind} {a b : Int} (h : a = b) : Ending.returned (.int k a) = .returned (.int k b) := by rw [h]

theorem CheckBook_any (w : World) (b : BK) (p : Option Addr) (cap : Nat) (hs : b.Small) (hb : BookAt w.heap.size w p b) (hg : Gl w) :
    Calls Tryd.prog 23 #[.agg #[.int .i64 b.lo, .int .i64 b.hi, .int .i64 b.lots, .slice p b.n cap]] w fun e w' => e = .returned (.int .i64 (checkB b)) ∧ Pure w w' := by
  have g0 := hg.r0
  have g1 := hg.r1
  have gs : 0 < w.heap.size := by have := hg.sz; omega
  go_enter Tryd.func23, Tryd.ntmps23
  go_wp2_with fail
  refine (valid_any _ _ _ _ _).mono ?_
  rintro e w1 ⟨rfl, hp1⟩
  obtain ⟨hc1, hf1⟩ := pcell hp1
  obtain ⟨v, hv⟩ : ∃ v, (decide (b.lo ≤ b.hi) && (wIn 0 50 b.lo && wIn 0 50 b.hi)) = v := ⟨_, rfl⟩
  have HV := Lib.hid hv
  rw [hv]
  clear hv
  have P1 : Hid (Pure w w1) := ((Diff.refl w).alloc _).trans hp1
  have hB1 : Hid (BookAt w1.heap.size w1 p b) := (hb.diff P1.out (Nat.le_refl _) (fun _ _ => id)).mono P1.out.size
  have hG1 : Hid (Gl w1) := hg.diff P1.out (fun _ _ => id)
  have hz1 : w.heap.size < w1.heap.size := by have := hp1.size; simp at this; omega
  cases v
  · have HF : Hid (checkB b = 3) := by show _ = _; unfold checkB; rw [HV.out]; rfl
    go_wp2
    go_ret
    exact ⟨by rw [HF.out]; rfl, P1.out⟩
  · go_wp2_with fail
    refine (countsFit_any _ b _ _ hs hB1.out hG1.out).mono ?_
    rintro e w2 ⟨rfl, hp2⟩
    obtain ⟨hc2, hf2⟩ := pcell hp2
    have P2 : Hid (Pure w w2) := P1.out.trans hp2
    have hB2 : Hid (BookAt w2.heap.size w2 p b) := (hb.diff P2.out (Nat.le_refl _) (fun _ _ => id)).mono P2.out.size
    have hG2 : Hid (Gl w2) := hg.diff P2.out (fun _ _ => id)
    cases hv2 : countsB b
    · have HF : Hid (checkB b = 6) := by show _ = _; unfold checkB; rw [HV.out, hv2]; rfl
      go_wp2
      go_ret
      exact ⟨by rw [HF.out]; rfl, P2.out⟩
    · have HV2 := Lib.hid hv2
      clear hv2
      go_wp2_with fail
      refine (tastesFit_any _ b _ _ hs hB2.out hG2.out).mono ?_
      rintro e w3 ⟨rfl, hp3⟩
      have P3 : Hid (Pure w w3) := P2.out.trans hp3
      cases hv3 : tastesB b
      · have HF : Hid (checkB b = 3) := by show _ = _; unfold checkB; rw [HV.out, HV2.out, hv3]; rfl
        go_wp2
        go_ret
        exact ⟨by rw [HF.out]; rfl, P3.out⟩
      · have HF : Hid (checkB b = 0) := by show _ = _; unfold checkB; rw [HV.out, HV2.out, hv3]; rfl
        go_wp2
        go_ret
        exact ⟨by rw [HF.out]; rfl, P3.out⟩
end Go.Proofs.YtmedkmbfggphdaaDoor

namespace Go.Proofs.YtmedkmbfggphdaaDoor
open Go.RowKit

theorem tastes_any (w : World) (b : BK) (p : Option Addr) (cap : Nat) (hs : b.Small) (hb : BookAt w.heap.size w p b) :
    Calls Tryd.prog 64 #[.agg #[.int .i64 b.lo, .int .i64 b.hi, .int .i64 b.lots, .slice p b.n cap]] w fun e w' => e = .returned (.int .i64 b.total) ∧ Pure w w' := by
  have hn := hs.1
  go_enter Tryd.func64, Tryd.ntmps64
  go_wp2
  go_loop [3, 5, 10] (fun a _ i => ∃ k : Nat, k ≤ b.n ∧ i = .int .i64 k ∧ a = .int .i64 (b.upto k)) (fun _ _ i => b.n - (intOf i).toNat)
  case atStart => exact ⟨0, Nat.zero_le _, rfl, rfl⟩
  case round =>
    obtain ⟨k, hk, rfl, rfl⟩ := hrel
    have hu := b.upto_le hs k hk
    by_cases hlt : k < b.n
    · obtain ⟨blk, o, q, c, rfl, hblk, hc, _⟩ := hb k hlt
      have hm := hs.2 k hlt
      have HU : Hid (b.upto (k + 1) = b.upto k + b.m k) := rfl
      go_wp2
      go_round
      case rel => exact ⟨k + 1, by omega, by go_num, by rw [HU.out]; go_num⟩
      case measure => simp [intOf]; omega
    · obtain rfl : k = b.n := by omega
      go_wp2
      go_ret
      exact ⟨rfl, by repeat (first | exact Diff.refl _ | apply Diff.alloc)⟩

theorem lotName_any (w : World) (a c d : Int) (s : Value) (lot : Int) (h0 : -10 ≤ lot) (h1 : lot ≤ 1000) :
    Calls Tryd.prog 73 #[.agg #[.int .i64 a, .int .i64 c, .int .i64 d, s], .int .i64 lot] w fun e w' => e = .returned (.int .i64 (1 + lot)) ∧ Pure w w' := by
  go_enter Tryd.func73, Tryd.ntmps73
  go_wp2
  go_ret
  exact ⟨rfl, by repeat (first | exact Diff.refl _ | apply Diff.alloc)⟩

theorem tasteName_any (w : World) (a c d : Int) (s : Value) (taste : Int) (h0 : 0 ≤ taste) (h1 : taste ≤ 1000) (h2 : 0 ≤ d) (h3 : d ≤ 1000) :
    Calls Tryd.prog 85 #[.agg #[.int .i64 a, .int .i64 c, .int .i64 d, s], .int .i64 taste] w fun e w' => e = .returned (.int .i64 (1 + d + taste)) ∧ Pure w w' := by
  go_enter Tryd.func85, Tryd.ntmps85
  go_wp2
  go_ret
  exact ⟨rfl, by repeat (first | exact Diff.refl _ | apply Diff.alloc)⟩

theorem back_any (w : World) (i j : Int) :
    Calls Tryd.prog 100 #[.agg #[.int .i64 i, .int .i64 j]] w fun e w' => e = .returned (.agg #[.int .i64 j, .int .i64 i]) ∧ Pure w w' := by
  go_enter Tryd.func100, Tryd.ntmps100
  go_wp2
  exact bodyPost_ret (v := .agg #[.int .i64 j, .int .i64 i]) (by simp [results, Tryd.results100, go_sem]) rfl ⟨rfl, by repeat (first | exact Diff.refl _ | apply Diff.alloc)⟩

/-- What a region keeps: a box of four cells at B, and all that lay in W. -/
abbrev Box4 (B : Nat) (v0 v1 v2 v3 : Value) (W w : World) : Prop :=
  w.cell? ⟨B, 0, none⟩ = some v0 ∧ w.cell? ⟨B, 1, none⟩ = some v1 ∧ w.cell? ⟨B, 2, none⟩ = some v2 ∧ w.cell? ⟨B, 3, none⟩ = some v3 ∧ B < w.heap.size ∧ Hid (Pure W w)
theorem Box4.keep {B : Nat} {v0 v1 v2 v3 : Value} {W : World} (h : Box4 B v0 v1 v2 v3 W W) {w : World} (hp : Pure W w) : Box4 B v0 v1 v2 v3 W w := by
  obtain ⟨h0, h1, h2, h3, h4, -⟩ := h
  have c := (pcell hp).1
  exact ⟨(c _ _ h4).trans h0, (c _ _ h4).trans h1, (c _ _ h4).trans h2, (c _ _ h4).trans h3, Nat.lt_of_lt_of_le h4 hp.size, hp⟩
/-- The world behind the box of a value of four cells, by name. -/
theorem box4 (w : World) (v0 v1 v2 v3 : Value) (T : TypeId) : ∃ W, Hid (w.alloc (.cells #[v0, v1, v2, v3] T) = W) ∧ Box4 w.heap.size v0 v1 v2 v3 W W ∧ Hid (Pure w W) :=
  ⟨_, rfl, ⟨by simp [go_sem], by simp [go_sem], by simp [go_sem], by simp [go_sem], by simp, Diff.refl _⟩, (Diff.refl w).alloc _⟩

theorem names_any (w : World) (b : BK) (p : Option Addr) (cap : Nat) (hs : b.Small) (hb : BookAt w.heap.size w p b) (h2 : 0 ≤ b.lots) (h3 : b.lots ≤ 1000) :
    Calls Tryd.prog 96 #[.agg #[.int .i64 b.lo, .int .i64 b.hi, .int .i64 b.lots, .slice p b.n cap]] w fun e w' => e = .returned (.int .i64 (1 + b.lots + b.total)) ∧ Pure w w' := by
  have ht : b.total ≤ 1000 := by have := b.upto_le hs b.n (Nat.le_refl _); have := hs.1; unfold BK.total; omega
  go_enter Tryd.func96, Tryd.ntmps96
  go_wp2
  obtain ⟨W, HB, hb4, hP⟩ := box4 w (.int .i64 b.lo) (.int .i64 b.hi) (.int .i64 b.lots) (.slice p b.n cap) 82
  have KEY := Lib.hid hb4
  obtain ⟨hc0, hc1, hc2, hc3, hBW, -⟩ := hb4
  rw [HB.out]
  have hp0 : Hid (Pure W W.drew) := (Diff.refl W).drew
  go_region_held3 (fun w' => Box4 w.heap.size (.int .i64 b.lo) (.int .i64 b.hi) (.int .i64 b.lots) (.slice p b.n cap) W w')
    (exact KEY.out.keep (by first | exact hp0.out | exact hp0.out.trans hp1 | exact (hp0.out.trans hp1).trans hp2))
    (first | (go_at_call 64; refine (tastes_any _ b _ _ hs ?_).mono ?_; (exact (hb.diff (hP.out.trans hp0.out) (Nat.le_refl _) (fun _ _ => id)).mono (hP.out.trans hp0.out).size); rintro e w1 ⟨rfl, hp1⟩)
           | (go_at_call 85; refine (tasteName_any _ _ _ _ _ _ (by omega) (by omega) (by omega) (by omega)).mono ?_; rintro e w2 ⟨rfl, hp2⟩))
  go_wp2
  go_ret
  exact ⟨rfl, ((hP.out.trans hp0.out).trans hp1).trans hp2⟩
end Go.Proofs.YtmedkmbfggphdaaDoor

namespace Go.Proofs.YtmedkmbfggphdaaDoor
open Go.RowKit

theorem isRange_any (w : World) (lo hi l h : Int) :
    Calls Tryd.prog 63 #[.agg #[.int .i64 lo, .int .i64 hi], .int .i64 l, .int .i64 h] w fun e w' => e = .returned (.bool (decide (l ≤ lo) && (decide (lo ≤ hi) && decide (hi ≤ h)))) ∧ Pure w w' := by
  go_enter Tryd.func63, Tryd.ntmps63
  by_cases h1 : l ≤ lo
  · by_cases h2 : lo ≤ hi
    · have HF : Hid ((decide (l ≤ lo) && (decide (lo ≤ hi) && decide (hi ≤ h))) = decide (hi ≤ h)) := by show _ = _; simp [h1, h2]
      go_wp2
      go_ret
      exact ⟨by first | (rw [HF.out]; rfl) | (simp; omega) | simp_all, by repeat (first | exact Diff.refl _ | apply Diff.alloc)⟩
    · have HF : Hid ((decide (l ≤ lo) && (decide (lo ≤ hi) && decide (hi ≤ h))) = false) := by show _ = _; simp [h2]
      go_wp2
      go_ret
      exact ⟨by first | (rw [HF.out]; rfl) | (simp; omega) | simp_all, by repeat (first | exact Diff.refl _ | apply Diff.alloc)⟩
  · have HF : Hid ((decide (l ≤ lo) && (decide (lo ≤ hi) && decide (hi ≤ h))) = false) := by show _ = _; simp [h1]
    go_wp2
    go_ret
    exact ⟨by first | (rw [HF.out]; rfl) | (simp; omega) | simp_all, by repeat (first | exact Diff.refl _ | apply Diff.alloc)⟩

def firstTo (b : BK) (q : Int) (n : Nat) : Bool := (List.range n).any fun k => (b.upto k : Int) == q
theorem firstTo_succ (b : BK) (q : Int) (n : Nat) : firstTo b q (n + 1) = (firstTo b q n || (b.upto n : Int) == q) := by simp [firstTo, List.range_succ]
theorem firstTo_true {b : BK} {q : Int} {n k : Nat} (hk : k < n) (h : (b.upto k : Int) = q) : firstTo b q n = true := by
  simp only [firstTo, List.any_eq_true, List.mem_range]
  exact ⟨k, hk, by simp [h]⟩

theorem IsFirst_any (w : World) (b : BK) (p : Option Addr) (cap : Nat) (q : Int) (hs : b.Small) (hb : BookAt w.heap.size w p b) :
    Calls Tryd.prog 93 #[.agg #[.int .i64 b.lo, .int .i64 b.hi, .int .i64 b.lots, .slice p b.n cap], .int .i64 q] w fun e w' => e = .returned (.bool (firstTo b q b.n)) ∧ Pure w w' := by
  have hn := hs.1
  go_enter Tryd.func93, Tryd.ntmps93
  go_wp2
  go_loop [5, 6] (fun a i => ∃ k : Nat, k ≤ b.n ∧ i = .int .i64 k ∧ a = .int .i64 (b.upto k) ∧ firstTo b q k = false) (fun _ i => b.n - (intOf i).toNat)
  case atStart => exact ⟨0, Nat.zero_le _, rfl, rfl, rfl⟩
  case round =>
    obtain ⟨k, hk, rfl, rfl, hno⟩ := hrel
    have HNO := Lib.hid hno
    clear hno
    have hu := b.upto_le hs k hk
    by_cases hlt : k < b.n
    · obtain ⟨blk, o, q', c, rfl, hblk, hc, _⟩ := hb k hlt
      have hm := hs.2 k hlt
      have HU : Hid (b.upto (k + 1) = b.upto k + b.m k) := rfl
      by_cases h1 : (b.upto k : Int) = q
      · have HF : Hid (firstTo b q b.n = true) := firstTo_true hlt h1
        have hbq : ((b.upto k : Int) == q) = true := by simp [h1]
        clear h1
        go_wp2
        go_ret
        exact ⟨by first | (rw [HF.out]; rfl) | (simp; omega) | simp_all, by repeat (first | exact Diff.refl _ | apply Diff.alloc)⟩
      · have HS : Hid (firstTo b q (k + 1) = false) := by show _ = _; rw [firstTo_succ, HNO.out]; simp [h1]
        have hbq : ((b.upto k : Int) == q) = false := by simp [h1]
        clear h1
        go_wp2
        go_round
        case rel => exact ⟨k + 1, by omega, by go_num, by rw [HU.out]; go_num, HS.out⟩
        case measure => simp [intOf]; omega
    · obtain rfl : k = b.n := by omega
      go_wp2
      go_ret
      exact ⟨by rw [HNO.out]; rfl, by repeat (first | exact Diff.refl _ | apply Diff.alloc)⟩
end Go.Proofs.YtmedkmbfggphdaaDoor
