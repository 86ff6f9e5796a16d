/- Plain helpers for walks: a frame relation between worlds, the contract of an iterator function, and the law for a statement that ranges over a function. No condition: nothing here speaks of a program. A law for a region that draws its order, by an invariant over which of its operations have been carried out. No condition. The law of YtgpfmnjianflaaaDoorA2 outside a fence. No condition. Facts of a drawn region's operations, in few words. No condition. -/
import Derived.RangeFuncNested
import Derived.RangeFuncBound
import Derived.RangeFuncCalls
import Derived.RangeFuncLeaves
import Derived.WalkKit
import Derived.OrdersIn
import Derived.RegionTactic
set_option linter.unusedSimpArgs false
set_option linter.unusedVariables false
set_option linter.constructorNameAsVariable false
namespace Go.Proofs.YtgpfmnjianflaaaDoor
open Go.RowKit

/-- Of the blocks that lay in w only those of O may have turned. -/
structure Diff (O : Nat → Prop) (w w' : World) : Prop where
  os : w'.os = w.os
  tape : w'.tape = w.tape
  output : w'.output = w.output
  size : w.heap.size ≤ w'.heap.size
  block : ∀ k, k < w.heap.size → ¬ O k → w'.heap[k]? = w.heap[k]?

/-- Nothing that lay has turned. -/
abbrev Pure (w w' : World) : Prop := Diff (fun _ => False) w w'

theorem Diff.refl {O : Nat → Prop} (w : World) : Diff O w w := ⟨rfl, rfl, rfl, Nat.le_refl _, fun _ _ _ => rfl⟩
theorem Diff.trans {O : Nat → Prop} {a b c : World} (h : Diff O a b) (k : Diff O b c) : Diff O a c :=
  ⟨k.os.trans h.os, k.tape.trans h.tape, k.output.trans h.output, Nat.le_trans h.size k.size,
    fun i hi ho => (k.block i (Nat.lt_of_lt_of_le hi h.size) ho).trans (h.block i hi ho)⟩
theorem Diff.mono {O O' : Nat → Prop} {a b : World} (h : Diff O a b) (hO : ∀ k, k < a.heap.size → O k → O' k) : Diff O' a b :=
  ⟨h.os, h.tape, h.output, h.size, fun k hk ho => h.block k hk (fun h' => ho (hO k hk h'))⟩
/-- What lay only behind a's end may turn freely. -/
theorem Diff.trans' {O O' : Nat → Prop} {a b c : World} (h : Diff O a b) (k : Diff O' b c) (hO : ∀ k, k < a.heap.size → O' k → O k) : Diff O a c :=
  ⟨k.os.trans h.os, k.tape.trans h.tape, k.output.trans h.output, Nat.le_trans h.size k.size,
    fun i hi ho => (k.block i (Nat.lt_of_lt_of_le hi h.size) (fun h' => ho (hO i hi h'))).trans (h.block i hi ho)⟩
theorem Diff.alloc {O : Nat → Prop} {a w : World} (h : Diff O a w) (o : Obj) : Diff O a (w.alloc o) :=
  h.trans ⟨rfl, rfl, rfl, by simp, fun k hk _ => Below.heap_alloc _ _ _ hk⟩
theorem Diff.setCell {O : Nat → Prop} {a w : World} (h : Diff O a w) {p : Addr} (hp : p.block < a.heap.size → O p.block) (u : Value) : Diff O a (w.setCell p u) :=
  h.trans' (O' := fun k => k = p.block) ⟨rfl, rfl, rfl, by simp [World.setCell], fun k _ ho => Below.heap_setCell _ _ _ _ ho⟩ (fun _ hk e => by subst e; exact hp hk)
theorem Diff.drew {O : Nat → Prop} {a w : World} (h : Diff O a w) : Diff O a w.drew := ⟨h.os, h.tape, h.output, h.size, h.block⟩
theorem Diff.putObj {O : Nat → Prop} {a w : World} (h : Diff O a w) {r : Nat} (hr : r < a.heap.size → O r) (o : Obj) : Diff O a (w.putObj r o) :=
  h.trans' (O' := fun k => k = r) ⟨rfl, rfl, rfl, by simp, fun _ _ ho => World.putObj_heap_other ho⟩ (fun _ hk e => by subst e; exact hr hk)
theorem Diff.cell {O : Nat → Prop} {w w' : World} (h : Diff O w w') {p : Addr} (hp : p.block < w.heap.size) (ho : ¬ O p.block) : w'.cell? p = w.cell? p :=
  World.cell?_of_block (w := w) (h.block p.block hp ho)
theorem Diff.below {O : Nat → Prop} {w w' : World} {B : Nat} (h : Diff O w w') (hB : B ≤ w.heap.size) (ho : ∀ k, k < B → ¬ O k) : Below B w w' :=
  ⟨h.os, h.tape, h.output, h.size, fun k hk => h.block k (Nat.lt_of_lt_of_le hk hB) (ho k hk)⟩
theorem Below.diff {B : Nat} {w w' : World} (h : Below B w w') : Diff (fun k => B ≤ k) w w' :=
  ⟨h.os, h.tape, h.output, h.size, fun k _ ho => h.block k (by omega)⟩
theorem Diff.pure_below {w w' : World} (h : Pure w w') {B : Nat} (hB : B ≤ w.heap.size) : Below B w w' := h.below hB (fun _ _ => id)

/-- Two rules for the walk behind a call that turns nothing old. -/
theorem pcell {W w' : World} (h : Pure W w') : (∀ b o, b < W.heap.size → w'.cell? ⟨b, o, none⟩ = W.cell? ⟨b, o, none⟩) ∧ (∀ b o, b < W.heap.size → w'.frozen? ⟨b, o, none⟩ = W.frozen? ⟨b, o, none⟩) :=
  ⟨fun b o hb => h.cell (p := ⟨b, o, none⟩) hb id, fun b _ hb => World.frozen?_of_block (w := W) (h.block b hb id)⟩
/-- The same where the blocks of O may have turned. -/
theorem dcell {O : Nat → Prop} {W w' : World} (h : Diff O W w') : (∀ b o, b < W.heap.size → ¬ O b → w'.cell? ⟨b, o, none⟩ = W.cell? ⟨b, o, none⟩) ∧ (∀ b o, b < W.heap.size → ¬ O b → w'.frozen? ⟨b, o, none⟩ = W.frozen? ⟨b, o, none⟩) :=
  ⟨fun b o hb ho => h.cell (p := ⟨b, o, none⟩) hb ho, fun b _ hb ho => World.frozen?_of_block (w := W) (h.block b hb ho)⟩

/-- A predicate on (owned blocks, world) that minds neither new blocks nor turns of the blocks that the other party owns. -/
def Stable (J : (Nat → Prop) → World → Prop) : Prop :=
  ∀ O O' w w', J O w → Diff O w w' → (∀ k, O' k → O k ∨ w.heap.size ≤ k) → J O' w'

/-- The contract of an iterator: called with yield in its argument's place, it yields es 0, .., es (n - 1), until a round says no. It reads the blocks of R alone, and those of its own (O), which the rounds leave alone. -/
def Iter (P : Program) (f : FuncId) (A : Value → Array Value) (n : Nat) (es : Nat → Array Value) (R : Nat → Prop) (W0 : World) : Prop :=
  ∀ (l : Nat) (J : Nat → (Nat → Prop) → World → Prop) (Jx : (Nat → Prop) → World → Prop) (W : World),
    (∀ k, R k → k < W0.heap.size) → Diff (fun k => ¬ R k) W0 W →
    (∀ i, Stable (J i)) → Stable Jx →
    (∀ i O W1, i < n → J i O W1 → (∀ k, O k → W.heap.size ≤ k ∧ k < W1.heap.size) → W.heap.size ≤ W1.heap.size →
      YieldAt Fence.wide 0 P l (es i) W1 fun e W' => Diff (fun k => ¬ R k ∧ ¬ O k) W1 W' ∧
        ((e = .returned (.bool true) ∧ J (i + 1) O W') ∨ (e = .returned (.bool false) ∧ Jx O W'))) →
    J 0 (fun _ => False) W →
    CallsIn Fence.wide 0 P f (A (.func (.yield l) #[] #[])) W fun e W' => (∃ v, e = .returned v) ∧ ∃ O, (∀ k, O k → W.heap.size ≤ k) ∧ (J n O W' ∨ Jx O W')

/-- How the body of a round may be left. -/
def roundEnd (M : Nat → Prop) (I Ix : (Nat → Prop) → World → Prop) (O : Nat → Prop) (W : World) : Exit → Act → World → Prop
  | .normal, _, W' => Diff M W W' ∧ I O W'
  | .ret, _, W' => Diff M W W' ∧ Ix O W'
  | _, _, _ => False

theorem pend_wide {n : Nat} : Fence.wide.depth.isSome = true → 1 ≤ n := by simp [Fence.wide]

/-- The statement 'for .. := range g { body }' in a function's own frame. -/
theorem range_law {P : Program} {g : Operand} {ps : Array Tmp} {assign body : Code} {Q : Exit → Act → World → Prop} {a : Act} {w W0 : World}
    {f : FuncId} {A : Value → Array Value} {n : Nat} {es : Nat → Array Value} {R : Nat → Prop}
    (hcall : ∀ l W, ∃ d, (resolve a.eval (rangeCall g l) 0).run P W = .ok d W ∧ (invoke d.target d.args).run P W = .ok (.enter f (A (.func (.yield l) #[] #[]))) W)
    (hit : Iter P f A n es R W0) (hR : ∀ k, R k → k < W0.heap.size) (hRw : Diff (fun k => ¬ R k) W0 w) (hps : ∀ i, i < n → (es i).size = ps.size)
    (I : Nat → (Nat → Prop) → World → Prop) (Ix : (Nat → Prop) → World → Prop) (hI : ∀ i, Stable (I i)) (hIx : Stable Ix) (h0 : I 0 (fun _ => False) w)
    (Bx : Nat → World → Act → World → Prop) (hBx : ∀ i W1 a' W' L o, Bx i W1 a' W' → L < W1.heap.size → Bx i W1 a' (W'.putObj L o))
    (hassign : ∀ l i O W1, i < n → I i O W1 → assign.wpIn (Fence.wide.inRound l) 0 P (Exit.then (fun a' W' => Diff (fun _ => False) W1 W' ∧ Bx i W1 a' W') (fun _ _ _ => False))
      { tmps := (ps.zip (es i)).foldl (fun t (p, v) => t.setIfInBounds p v) a.tmps, defers := [] } W1)
    (hbody : ∀ l i O W1 a' W', i < n → I i O W1 → Diff O W1 W' → (∀ k, O k → w.heap.size ≤ k ∧ k < W1.heap.size) → w.heap.size ≤ W1.heap.size → W1.heap.size ≤ W'.heap.size → Bx i W1 a' W' →
      body.wpIn (Fence.wide.inRound l) 0 P (roundEnd (fun k => ¬ R k ∧ ¬ O k) (I (i + 1)) Ix O W') a' W')
    (hdone : ∀ O D W, I n O W → O D → w.heap.size ≤ D → W.heap[D]? = some (.deferred (some [])) → Q .normal { a with defers := { target := .collected D, args := #[] } :: a.defers } W)
    (hstop : ∀ O D W, Ix O W → O D → w.heap.size ≤ D → W.heap[D]? = some (.deferred (some [])) → Q .ret { a with defers := { target := .collected D, args := #[] } :: a.defers } W) :
    (Code.rangeFunc g ps assign body).wpIn Fence.wide 0 P Q a w := by
  refine wpIn_rangeFunc ?_
  intro fn hfn
  have hro : Fence.wide.round = none := rfl
  rw [hro]
  obtain ⟨rec, hrec⟩ : ∃ rec : LoopState → Option Code → Loop, rec = fun st pe => { state := st, pending := pe, fn, tmps := a.tmps, params := ps, assign, body, defers := w.heap.size } := ⟨_, rfl⟩
  obtain ⟨W1, hW1⟩ : ∃ W1, (w.alloc (.deferred (some []))).alloc (.loop (rec .ready none)) = W1 := ⟨_, rfl⟩
  have hd01 : Diff (fun _ => False) w W1 := by rw [← hW1]; exact ((Diff.refl w).alloc _).alloc _
  have hsz1 : W1.heap.size = w.heap.size + 2 := by rw [← hW1]; simp
  have hL1 : W1.heap[w.heap.size + 1]? = some (.loop (rec .ready none)) := by
    rw [← hW1]; have := World.alloc_heap_new (w.alloc (.deferred (some []))) (.loop (rec .ready none)); rwa [World.size_alloc] at this
  have hK1 : W1.heap[w.heap.size]? = some (.deferred (some [])) := by
    rw [← hW1]; exact (Below.heap_alloc _ _ _ (by simp)).trans (World.alloc_heap_new w _)
  obtain ⟨d, hd1, hd2⟩ := hcall (w.heap.size + 1) W1
  let J : Nat → (Nat → Prop) → World → Prop := fun i O W => I i (fun k => O k ∨ k = w.heap.size ∨ k = w.heap.size + 1) W ∧ ¬ O w.heap.size ∧ ¬ O (w.heap.size + 1) ∧ w.heap.size + 2 ≤ W.heap.size ∧
    W.heap[w.heap.size + 1]? = some (.loop (rec .ready none)) ∧ W.heap[w.heap.size]? = some (.deferred (some []))
  let Jx : (Nat → Prop) → World → Prop := fun O W => Ix (fun k => O k ∨ k = w.heap.size ∨ k = w.heap.size + 1) W ∧ ¬ O w.heap.size ∧ ¬ O (w.heap.size + 1) ∧ w.heap.size + 2 ≤ W.heap.size ∧
    W.heap[w.heap.size + 1]? = some (.loop (rec .done (some .ret))) ∧ W.heap[w.heap.size]? = some (.deferred (some []))
  have hst : ∀ (X : (Nat → Prop) → World → Prop), Stable X → ∀ st : Obj, Stable (fun O W => X (fun k => O k ∨ k = w.heap.size ∨ k = w.heap.size + 1) W ∧ ¬ O w.heap.size ∧ ¬ O (w.heap.size + 1) ∧ w.heap.size + 2 ≤ W.heap.size ∧
      W.heap[w.heap.size + 1]? = some st ∧ W.heap[w.heap.size]? = some (.deferred (some []))) := by
    intro X hX st O O' x y ⟨h1, h2, h3, h4, h5, h6⟩ hdf hO
    refine ⟨hX _ _ _ _ h1 (hdf.mono (fun k _ h => .inl h)) ?_, ?_, ?_, Nat.le_trans h4 hdf.size, (hdf.block _ (by omega) h3).trans h5, (hdf.block _ (by omega) h2).trans h6⟩
    · rintro k (h | h | h)
      · rcases hO k h with h | h
        · exact .inl (.inl h)
        · exact .inr h
      · exact .inl (.inr (.inl h))
      · exact .inl (.inr (.inr h))
    · intro h; rcases hO _ h with h | h
      · exact h2 h
      · omega
    · intro h; rcases hO _ h with h | h
      · exact h3 h
      · omega
  have hlead : ∀ f', Target.leads P W1 d.target d.args = some f' → Fence.wide.fn f' := fun _ _ => trivial
  refine ⟨w.heap.size + 1, [{ target := .collected w.heap.size, args := #[] }], W1, d, W1, f, A (.func (.yield (w.heap.size + 1)) #[] #[]), W1, ?_, hd1, hlead, hd2, pend_wide, ?_⟩
  · rw [← hW1, hrec]; exact run_enterLoop_outer _ _ _ _ _
  have hcalls := hit (w.heap.size + 1) J Jx W1 hR (hRw.trans (hd01.mono (fun _ _ h => h.elim))) (fun i => hst (I i) (hI i) _) (hst Ix hIx _) ?_ ?_
  · refine CallsIn.mono hcalls ?_
    rintro e W2 ⟨⟨v, rfl⟩, O, hOb, hh⟩
    rcases hh with ⟨h1, h2, h3, h4, h5, h6⟩ | ⟨h1, h2, h3, h4, h5, h6⟩
    · refine ⟨none, W2.putObj (w.heap.size + 1) (.loop { rec .ready none with state := .exhausted }), ?_, ?_⟩
      · have := run_endLoop (P := P) h5 (by rw [hrec]; simp); rw [hrec] at this ⊢; exact this
      · refine hdone (fun k => O k ∨ k = w.heap.size ∨ k = w.heap.size + 1) w.heap.size _ (hI n _ _ _ _ h1 ((Diff.refl W2).putObj (fun _ => .inr (.inr rfl)) _) (fun k h => .inl h)) (.inr (.inl rfl)) (Nat.le_refl _) ?_
        exact (World.putObj_heap_other (by omega)).trans h6
    · refine ⟨some .ret, W2.putObj (w.heap.size + 1) (.loop { rec .done (some .ret) with state := .exhausted }), ?_, ?_⟩
      · have := run_endLoop (P := P) h5 (by rw [hrec]; simp); rw [hrec] at this ⊢; exact this
      · refine wpIn_ret ?_
        refine hstop (fun k => O k ∨ k = w.heap.size ∨ k = w.heap.size + 1) w.heap.size _ (hIx _ _ _ _ h1 ((Diff.refl W2).putObj (fun _ => .inr (.inr rfl)) _) (fun k h => .inl h)) (.inr (.inl rfl)) (Nat.le_refl _) ?_
        exact (World.putObj_heap_other (by omega)).trans h6
  · -- a round
    rintro i O Wa hin ⟨h1, h2, h3, h4, h5, h6⟩ hO hsa
    refine ⟨fn, _, assign, body, (by have := run_yield (P := P) (args := es i) h5 (by rw [hrec]; exact hps i hin); rw [hrec] at this; exact this), ?_⟩
    refine roundIn_of_wpIn hfn ?_
    refine wpIn_mono (hassign _ i _ Wa hin h1) ?_
    rintro e a' Wb hb
    cases e with
    | normal =>
      obtain ⟨hdab, hbx⟩ := hb
      have hlb : Wb.heap[w.heap.size + 1]? = some (.loop (rec .ready none)) := (hdab.block _ (by omega) id).trans h5
      have hkb : Wb.heap[w.heap.size]? = some (.deferred (some [])) := (hdab.block _ (by omega) id).trans h6
      have hsb := hdab.size
      refine ⟨_, run_beginRound hlb (by rw [hrec]), ?_⟩
      have hdo : Diff (fun k => O k ∨ k = w.heap.size ∨ k = w.heap.size + 1) Wa (Wb.putObj (w.heap.size + 1) (.loop { rec .ready none with state := .busy })) :=
        (hdab.mono (fun _ _ h => h.elim)).putObj (fun _ => .inr (.inr rfl)) _
      have hl2 : (Wb.putObj (w.heap.size + 1) (.loop { rec .ready none with state := .busy })).heap[w.heap.size + 1]? = some (.loop { rec .ready none with state := .busy }) := World.putObj_heap_same (by omega)
      have hk2 : (Wb.putObj (w.heap.size + 1) (.loop { rec .ready none with state := .busy })).heap[w.heap.size]? = some (.deferred (some [])) := (World.putObj_heap_other (by omega)).trans hkb
      have hOO : ∀ k, (O k ∨ k = w.heap.size ∨ k = w.heap.size + 1) → w.heap.size ≤ k ∧ k < Wa.heap.size := by
        rintro k (h | h | h)
        · have := hO k h; omega
        · omega
        · omega
      refine wpIn_mono (hbody _ i _ Wa a' _ hin h1 hdo hOO (by omega) (by simp; omega) (hBx i Wa a' Wb _ _ hbx (by omega))) ?_
      have fin : ∀ (jump : Option Code) (W3 : World), Diff (fun k => ¬ R k ∧ ¬ (O k ∨ k = w.heap.size ∨ k = w.heap.size + 1)) (Wb.putObj (w.heap.size + 1) (.loop { rec .ready none with state := .busy })) W3 →
          (Instr.endRound (w.heap.size + 1) jump).run P W3 = .ok (.bool jump.isNone) (W3.putObj (w.heap.size + 1) (.loop (rec (if jump.isNone then .ready else .done) jump))) ∧
          (W3.putObj (w.heap.size + 1) (.loop (rec (if jump.isNone then .ready else .done) jump))).heap[w.heap.size + 1]? = some (.loop (rec (if jump.isNone then .ready else .done) jump)) ∧
          (W3.putObj (w.heap.size + 1) (.loop (rec (if jump.isNone then .ready else .done) jump))).heap[w.heap.size]? = some (.deferred (some [])) ∧
          w.heap.size + 2 ≤ W3.heap.size ∧
          Diff (fun k => ¬ R k ∧ ¬ O k) Wa (W3.putObj (w.heap.size + 1) (.loop (rec (if jump.isNone then .ready else .done) jump))) := fun jump W3 hk3 => by
        have hs3 := hk3.size
        simp only [World.putObj_size] at hs3
        have hl3 := (hk3.block (w.heap.size + 1) (by simp; omega) (fun h => h.2 (.inr (.inr rfl)))).trans hl2
        have hk3' := (hk3.block (w.heap.size) (by simp; omega) (fun h => h.2 (.inr (.inl rfl)))).trans hk2
        have := run_endRound (P := P) jump hl3
        rw [hrec] at this ⊢
        have hRs := hRw.size
        refine ⟨this, World.putObj_heap_same (by omega), (World.putObj_heap_other (by omega)).trans hk3', by omega, ?_⟩
        refine Diff.putObj ?_ (fun _ => ⟨fun h => by have := hR _ h; omega, h3⟩) _
        refine Diff.trans' (O' := fun k => ¬ R k ∧ ¬ (O k ∨ k = w.heap.size ∨ k = w.heap.size + 1)) ?_ hk3 (fun k hk h => ⟨h.1, fun h' => h.2 (.inl h')⟩)
        exact Diff.putObj (hdab.mono (fun _ _ h => h.elim)) (fun _ => ⟨fun h => by have := hR _ h; omega, h3⟩) _
      rintro e a3 W3 hp
      cases e with
      | normal =>
        obtain ⟨hk3, hi3⟩ := hp
        obtain ⟨hr, hl4, hk4, hs4, hdf⟩ := fin none W3 hk3
        exact ⟨_, _, hr, hdf, .inl ⟨rfl, hI _ _ _ _ _ hi3 ((Diff.refl W3).putObj (fun _ => .inr (.inr rfl)) _) (fun k h => .inl h), h2, h3, by simp; omega, hl4, hk4⟩⟩
      | ret =>
        obtain ⟨hk3, hi3⟩ := hp
        obtain ⟨hr, hl4, hk4, hs4, hdf⟩ := fin (some .ret) W3 hk3
        exact ⟨_, _, hr, hdf, .inr ⟨rfl, hIx _ _ _ _ hi3 ((Diff.refl W3).putObj (fun _ => .inr (.inr rfl)) _) (fun k h => .inl h), h2, h3, by simp; omega, hl4, hk4⟩⟩
      | exit id => exact hp.elim
      | goto t => exact hp.elim
      | panic ch => exact hp.elim
      | outgrown => exact hp.elim
    | exit id => exact hb.elim
    | goto t => exact hb.elim
    | ret => exact hb.elim
    | panic ch => exact hb.elim
    | outgrown => exact hb.elim
  · exact ⟨hI 0 _ _ _ _ h0 hd01 (fun k h => by rcases h with h | h | h
                                               · exact h.elim
                                               · exact .inr (by omega)
                                               · exact .inr (by omega)), id, id, by omega, hL1, hK1⟩
end Go.Proofs.YtgpfmnjianflaaaDoor
namespace Go.Proofs.YtgpfmnjianflaaaDoor
open Go.RowKit

def depsOf (o : Oper) : List Nat := o.after.toList.filterMap fun e => if Region.binds .any e then some e.on else none
def backB (l : List Oper) : Bool := (List.range l.length).all fun i => match l[i]? with | some o => (depsOf o).all (fun j => decide (j < i)) | none => true
def upd (d : Nat → Bool) (i : Nat) : Nat → Bool := fun j => j == i || d j

def Closed (l : List Oper) (d : Nat → Bool) : Prop := ∀ j o, l[j]? = some o → d j = true → (depsOf o).all d = true

/-- Each operation, once those that it waits for are done, leads on within the invariant. -/
def RegAll (F : Fence) (n : Nat) (P : Program) (ops : Array Oper) (Q : Exit → Act → World → Prop) (l0 : List Oper) (Inv : (Nat → Bool) → Act → World → Prop) : List Oper → Nat → Prop
  | [], _ => True
  | o :: rest, i => (∀ d a w, d i = false → (depsOf o).all d = true → Closed l0 d → Inv d a w → ∀ K : Act → World → Prop, (∀ a w, Inv (upd d i) a w → K a w) →
      if Region.wanted o (yielded ops a.tmps) = true then Oper.wpIn F n P o a w K Q else (∀ f, o.about P w a.eval = some f → F.fn f) ∧ K (a.put o.dst undef) w) ∧ RegAll F n P ops Q l0 Inv rest (i + 1)

theorem RegAll.get {F : Fence} {n : Nat} {P : Program} {ops : Array Oper} {Q : Exit → Act → World → Prop} {l0 : List Oper} {Inv : (Nat → Bool) → Act → World → Prop} :
    ∀ (l : List Oper) (k : Nat), RegAll F n P ops Q l0 Inv l k → ∀ i o, l[i]? = some o → ∀ d a w, d (k + i) = false → (depsOf o).all d = true → Closed l0 d → Inv d a w → ∀ K : Act → World → Prop, (∀ a w, Inv (upd d (k + i)) a w → K a w) →
      if Region.wanted o (yielded ops a.tmps) = true then Oper.wpIn F n P o a w K Q else (∀ f, o.about P w a.eval = some f → F.fn f) ∧ K (a.put o.dst undef) w
  | [], _, _, i, o, h => by simp at h
  | x :: l, k, hr, 0, o, h => by simp at h; subst h; exact hr.1
  | x :: l, k, hr, i + 1, o, h => by
    have := RegAll.get l (k + 1) hr.2 i o (by simpa using h)
    rwa [show k + 1 + i = k + (i + 1) by omega] at this

/-- Operation i must be carried out ahead of j. -/
def ancB (l : List Oper) : Nat → Nat → Nat → Bool
  | 0, _, _ => false
  | f + 1, j, i => match l[j]? with
    | some o => (depsOf o).any fun k => k == i || ancB l f k i
    | none => false
theorem Closed.anc {l : List Oper} {d : Nat → Bool} (h : Closed l d) : ∀ (f j i : Nat), ancB l f j i = true → d j = true → d i = true
  | 0, _, _, h0, _ => by simp [ancB] at h0
  | f + 1, j, i, h0, hj => by
    cases ho : l[j]? with
    | none => simp [ancB, ho] at h0
    | some o =>
      simp only [ancB, ho, List.any_eq_true, Bool.or_eq_true, beq_iff_eq] at h0
      obtain ⟨k, hk, hki⟩ := h0
      have hdk := List.all_eq_true.1 (h j o ho hj) k hk
      rcases hki with rfl | hki
      · exact hdk
      · exact Closed.anc h f k i hki hdk
theorem Closed.pos {l : List Oper} {d : Nat → Bool} (h : Closed l d) {o : Oper} (j : Nat) (ho : l[j]? = some o) (hd : (depsOf o).all d = true) (i f : Nat) (ha : ancB l (f + 1) j i = true) : d i = true := by
  simp only [ancB, ho, List.any_eq_true, Bool.or_eq_true, beq_iff_eq] at ha
  obtain ⟨k, hk, hki⟩ := ha
  have hdk := List.all_eq_true.1 hd k hk
  rcases hki with rfl | hki
  · exact hdk
  · exact Closed.anc h _ k i hki hdk
theorem Closed.neg {l : List Oper} {d : Nat → Bool} (h : Closed l d) {i : Nat} (hi : d i = false) (j : Nat) (ha : ancB l 30 j i = true) : d j = false := by
  cases hj : d j with
  | false => rfl
  | true => rw [h.anc 30 j i ha hj] at hi; cases hi

theorem countP_lt {p q : Nat → Bool} (hpq : ∀ j, q j = true → p j = true) {i : Nat} (hp : p i = true) (hq : q i = false) : ∀ l : List Nat, i ∈ l → l.countP q < l.countP p
  | [], h => by cases h
  | x :: l, h => by
    rw [List.countP_cons, List.countP_cons]
    have hle : l.countP q ≤ l.countP p := List.countP_mono_left (fun j _ hj => hpq j hj)
    by_cases hx : x = i
    · subst hx; simp [hp, hq]; omega
    · have hi : i ∈ l := by
        rcases List.mem_cons.1 h with h | h
        · exact absurd h.symm hx
        · exact h
      have := countP_lt hpq hp hq l hi
      have h1 := hpq x
      by_cases hqx : q x = true
      · simp [hqx, h1 hqx]; omega
      · simp [hqx]; omega

theorem ready_all {l : List Oper} (hb : backB l = true) {listed : Array Bool} (hsz : listed.size = l.length) (hr : Region.ready .any l.toArray listed = []) : ∀ i, i < l.length → listed.getD i false = true := by
  intro i
  induction i using Nat.strongRecOn with
  | _ i ih =>
    intro hi
    cases hd : listed.getD i false with
    | true => rfl
    | false =>
      have hlt : i < listed.size := by omega
      have hin : i ∈ Region.ready .any l.toArray listed := by
        refine mem_ready.2 ⟨?_, l[i], by simp [hi], ?_⟩
        · simp [hlt] at hd ⊢; exact hd
        · intro e he hbi
          have hb' := List.all_eq_true.1 hb i (by simpa using hi)
          simp only [List.getElem?_eq_getElem hi] at hb'
          have := List.all_eq_true.1 hb' e.on (by
            simp only [depsOf, List.mem_filterMap]
            exact ⟨e, by simpa using he, by simp [hbi]⟩)
          have hlt' : e.on < i := by simpa using this
          exact ih e.on hlt' (by omega)
      rw [hr] at hin
      cases hin

theorem reg_core {F : Fence} {n : Nat} {P : Program} {Q : Exit → Act → World → Prop} {l : List Oper} (Inv : (Nat → Bool) → Act → World → Prop) (hb : backB l = true)
    (hs : RegAll F n P l.toArray Q l Inv l 0) (hq : ∀ d a w, (List.range l.length).all d = true → Inv d a w → Q .normal a w) :
    ∀ (fuel : Nat) (listed : Array Bool) (a : Act) (w : World), listed.size = l.length → (List.range l.length).countP (fun j => !listed.getD j false) ≤ fuel →
      Closed l (fun j => listed.getD j false) → Inv (fun j => listed.getD j false) a w → wpAnyIn F n P .any l.toArray Q fuel listed a w := by
  intro fuel
  have fin : ∀ (listed : Array Bool) (a : Act) (w : World), (∀ i, i < l.length → listed.getD i false = true) → Inv (fun j => listed.getD j false) a w → Q .normal a w := fun listed a w h hI =>
    hq _ a w (List.all_eq_true.2 (fun i hi => h i (by simpa using hi))) hI
  induction fuel with
  | zero =>
    intro listed a w hsz hc hcl hI
    have hall : ∀ i, i < l.length → listed.getD i false = true := by
      intro i hi
      have h0 : (List.range l.length).countP (fun j => !listed.getD j false) = 0 := by omega
      have := List.countP_eq_zero.1 h0 i (by simpa using hi)
      simpa using this
    refine ⟨?_, fin listed a w hall hI⟩
    cases hr : Region.ready .any l.toArray listed with
    | nil => rfl
    | cons i rs =>
      have hi : i ∈ Region.ready .any l.toArray listed := by rw [hr]; simp
      obtain ⟨h1, o, ho, _⟩ := mem_ready.1 hi
      have hlt : i < l.length := by simpa using (List.getElem?_eq_some_iff.1 (by simpa using ho)).1
      have := hall i hlt
      have hl : i < listed.size := by omega
      simp [hl] at h1 this
      rw [h1] at this; cases this
  | succ fuel ih =>
    intro listed a w hsz hc hcl hI
    refine ⟨fun hr => fin listed a w (ready_all hb hsz hr) hI, fun i hi => ?_⟩
    obtain ⟨h1, o, ho, hdep⟩ := mem_ready.1 hi
    have ho' : l[i]? = some o := by simpa using ho
    have hlt : i < l.length := (List.getElem?_eq_some_iff.1 ho').1
    have hl : i < listed.size := by omega
    have hf : listed.getD i false = false := by simp [hl] at h1 ⊢; exact h1
    have hd : (depsOf o).all (fun j => listed.getD j false) = true := List.all_eq_true.2 (fun j hj => by
      simp only [depsOf, List.mem_filterMap] at hj
      obtain ⟨e, he, hej⟩ := hj
      by_cases hbi : Region.binds .any e = true
      · simp [hbi] at hej; subst hej; exact hdep e (by simpa using he) hbi
      · simp [hbi] at hej)
    refine wpOpIn_step ho (fun K hK => ?_)
    refine RegAll.get l 0 hs i o ho' (fun j => listed.getD j false) a w (by simpa using hf) hd hcl hI K (fun a' w' hI' => hK a' w' ?_)
    have hfun : (fun j => (listed.setIfInBounds i true).getD j false) = upd (fun j => listed.getD j false) (0 + i) := by
      funext j
      by_cases hj : j = i
      · subst hj; simp [upd, hl]
      · simp [upd, hj, Array.getElem?_setIfInBounds_ne (Ne.symm hj)]
    have hcl' : Closed l (upd (fun j => listed.getD j false) (0 + i)) := by
      intro j oj hj hdj
      refine List.all_eq_true.2 (fun x hx => ?_)
      by_cases hji : j = i
      · subst hji
        rw [ho'] at hj; cases hj
        have := List.all_eq_true.1 hd x hx
        simp only [upd, this, Bool.or_true]
      · have hdj' : listed.getD j false = true := by simpa [upd, hji] using hdj
        have := List.all_eq_true.1 (hcl j oj hj hdj') x hx
        simp only [upd, this, Bool.or_true]
    refine ih _ a' w' (by simpa using hsz) ?_ (by rw [hfun]; exact hcl') (by rw [hfun]; exact hI')
    have := countP_lt (p := fun j => !listed.getD j false) (q := fun j => !(listed.setIfInBounds i true).getD j false) (i := i) (fun j hj => by
      have this : (listed.setIfInBounds i true).getD j false = upd (fun j => listed.getD j false) (0 + i) j := congrFun hfun j
      simp only [this] at hj
      simp [upd] at hj ⊢; exact hj.2) (by simp only [hf]; rfl) (by simp [hl]) (List.range l.length) (by simpa using hlt)
    omega

/-- The law. -/
theorem reg_inv {F : Fence} {n : Nat} {P : Program} {Q : Exit → Act → World → Prop} {l : List Oper} {id : Nat} {a : Act} {w : World} (Inv : (Nat → Bool) → Act → World → Prop)
    (hm : P.follows .mixedOrders = true) (hb : backB l = true) (h0 : Inv (fun _ => false) a w.drew)
    (hs : RegAll F n P l.toArray Q l Inv l 0) (hq : ∀ d a w, (List.range l.length).all d = true → Inv d a w → Q .normal a w) : (Code.region id l.toArray true).wpIn F n P Q a w := by
  refine wpIn_region_any hm ?_
  refine reg_core Inv hb hs hq _ _ a _ (by simp) ?_ ?_ ?_
  · exact Nat.le_trans List.countP_le_length (by simp)
  · intro j o hj hd
    have : (Array.replicate l.toArray.size false).getD j false = false := by
      by_cases hj : j < l.length
      · simp [hj]
      · rw [Array.getD_eq_getD_getElem?]; simp [hj]
    have hd' : (Array.replicate l.toArray.size false).getD j false = true := hd
    rw [this] at hd'; cases hd'
  · have : (fun j => (Array.replicate l.toArray.size false).getD j false) = fun _ => false := by
      funext j
      by_cases hj : j < l.length
      · simp [hj]
      · simp [hj]
    rw [this]; exact h0
end Go.Proofs.YtgpfmnjianflaaaDoor
namespace Go.Proofs.YtgpfmnjianflaaaDoor
open Go.RowKit

/-- Each operation, once those that it waits for are done, leads on within the invariant. -/
def RegAllW (P : Program) (ops : Array Oper) (Q : Exit → Act → World → Prop) (l0 : List Oper) (Inv : (Nat → Bool) → Act → World → Prop) : List Oper → Nat → Prop
  | [], _ => True
  | o :: rest, i => (∀ d a w, d i = false → (depsOf o).all d = true → Closed l0 d → Inv d a w → ∀ K : Act → World → Prop, (∀ a w, Inv (upd d i) a w → K a w) →
      if Region.wanted o (yielded ops a.tmps) = true then Oper.wp P o a w K Q else K (a.put o.dst undef) w) ∧ RegAllW P ops Q l0 Inv rest (i + 1)

theorem RegAllW.get {P : Program} {ops : Array Oper} {Q : Exit → Act → World → Prop} {l0 : List Oper} {Inv : (Nat → Bool) → Act → World → Prop} :
    ∀ (l : List Oper) (k : Nat), RegAllW P ops Q l0 Inv l k → ∀ i o, l[i]? = some o → ∀ d a w, d (k + i) = false → (depsOf o).all d = true → Closed l0 d → Inv d a w → ∀ K : Act → World → Prop, (∀ a w, Inv (upd d (k + i)) a w → K a w) →
      if Region.wanted o (yielded ops a.tmps) = true then Oper.wp P o a w K Q else K (a.put o.dst undef) w
  | [], _, _, i, o, h => by simp at h
  | x :: l, k, hr, 0, o, h => by simp at h; subst h; exact hr.1
  | x :: l, k, hr, i + 1, o, h => by
    have := RegAllW.get l (k + 1) hr.2 i o (by simpa using h)
    rwa [show k + 1 + i = k + (i + 1) by omega] at this

theorem reg_coreW {P : Program} {Q : Exit → Act → World → Prop} {l : List Oper} (Inv : (Nat → Bool) → Act → World → Prop) (hb : backB l = true)
    (hs : RegAllW P l.toArray Q l Inv l 0) (hq : ∀ d a w, (List.range l.length).all d = true → Inv d a w → Q .normal a w) :
    ∀ (fuel : Nat) (listed : Array Bool) (a : Act) (w : World), listed.size = l.length → (List.range l.length).countP (fun j => !listed.getD j false) ≤ fuel →
      Closed l (fun j => listed.getD j false) → Inv (fun j => listed.getD j false) a w → wpAny P .any l.toArray Q fuel listed a w := by
  intro fuel
  have fin : ∀ (listed : Array Bool) (a : Act) (w : World), (∀ i, i < l.length → listed.getD i false = true) → Inv (fun j => listed.getD j false) a w → Q .normal a w := fun listed a w h hI =>
    hq _ a w (List.all_eq_true.2 (fun i hi => h i (by simpa using hi))) hI
  induction fuel with
  | zero =>
    intro listed a w hsz hc hcl hI
    have hall : ∀ i, i < l.length → listed.getD i false = true := by
      intro i hi
      have h0 : (List.range l.length).countP (fun j => !listed.getD j false) = 0 := by omega
      have := List.countP_eq_zero.1 h0 i (by simpa using hi)
      simpa using this
    refine ⟨?_, fin listed a w hall hI⟩
    cases hr : Region.ready .any l.toArray listed with
    | nil => rfl
    | cons i rs =>
      have hi : i ∈ Region.ready .any l.toArray listed := by rw [hr]; simp
      obtain ⟨h1, o, ho, _⟩ := mem_ready.1 hi
      have hlt : i < l.length := by simpa using (List.getElem?_eq_some_iff.1 (by simpa using ho)).1
      have := hall i hlt
      have hl : i < listed.size := by omega
      simp [hl] at h1 this
      rw [h1] at this; cases this
  | succ fuel ih =>
    intro listed a w hsz hc hcl hI
    refine ⟨fun hr => fin listed a w (ready_all hb hsz hr) hI, fun i hi => ?_⟩
    obtain ⟨h1, o, ho, hdep⟩ := mem_ready.1 hi
    have ho' : l[i]? = some o := by simpa using ho
    have hlt : i < l.length := (List.getElem?_eq_some_iff.1 ho').1
    have hl : i < listed.size := by omega
    have hf : listed.getD i false = false := by simp [hl] at h1 ⊢; exact h1
    have hd : (depsOf o).all (fun j => listed.getD j false) = true := List.all_eq_true.2 (fun j hj => by
      simp only [depsOf, List.mem_filterMap] at hj
      obtain ⟨e, he, hej⟩ := hj
      by_cases hbi : Region.binds .any e = true
      · simp [hbi] at hej; subst hej; exact hdep e (by simpa using he) hbi
      · simp [hbi] at hej)
    refine wpOp_step ho (fun K hK => ?_)
    refine RegAllW.get l 0 hs i o ho' (fun j => listed.getD j false) a w (by simpa using hf) hd hcl hI K (fun a' w' hI' => hK a' w' ?_)
    have hfun : (fun j => (listed.setIfInBounds i true).getD j false) = upd (fun j => listed.getD j false) (0 + i) := by
      funext j
      by_cases hj : j = i
      · subst hj; simp [upd, hl]
      · simp [upd, hj, Array.getElem?_setIfInBounds_ne (Ne.symm hj)]
    have hcl' : Closed l (upd (fun j => listed.getD j false) (0 + i)) := by
      intro j oj hj hdj
      refine List.all_eq_true.2 (fun x hx => ?_)
      by_cases hji : j = i
      · subst hji
        rw [ho'] at hj; cases hj
        have := List.all_eq_true.1 hd x hx
        simp only [upd, this, Bool.or_true]
      · have hdj' : listed.getD j false = true := by simpa [upd, hji] using hdj
        have := List.all_eq_true.1 (hcl j oj hj hdj') x hx
        simp only [upd, this, Bool.or_true]
    refine ih _ a' w' (by simpa using hsz) ?_ (by rw [hfun]; exact hcl') (by rw [hfun]; exact hI')
    have := countP_lt (p := fun j => !listed.getD j false) (q := fun j => !(listed.setIfInBounds i true).getD j false) (i := i) (fun j hj => by
      have this : (listed.setIfInBounds i true).getD j false = upd (fun j => listed.getD j false) (0 + i) j := congrFun hfun j
      simp only [this] at hj
      simp [upd] at hj ⊢; exact hj.2) (by simp only [hf]; rfl) (by simp [hl]) (List.range l.length) (by simpa using hlt)
    omega

/-- The law. -/
theorem reg_invW {P : Program} {Q : Exit → Act → World → Prop} {l : List Oper} {id : Nat} {a : Act} {w : World} (Inv : (Nat → Bool) → Act → World → Prop)
    (hm : P.follows .mixedOrders = true) (hb : backB l = true) (h0 : Inv (fun _ => false) a w.drew)
    (hs : RegAllW P l.toArray Q l Inv l 0) (hq : ∀ d a w, (List.range l.length).all d = true → Inv d a w → Q .normal a w) : (Code.region id l.toArray true).wp P Q a w := by
  refine wp_region_any hm ?_
  refine reg_coreW Inv hb hs hq _ _ a _ (by simp) ?_ ?_ ?_
  · exact Nat.le_trans List.countP_le_length (by simp)
  · intro j o hj hd
    have : (Array.replicate l.toArray.size false).getD j false = false := by
      by_cases hj : j < l.length
      · simp [hj]
      · rw [Array.getD_eq_getD_getElem?]; simp [hj]
    have hd' : (Array.replicate l.toArray.size false).getD j false = true := hd
    rw [this] at hd'; cases hd'
  · have : (fun j => (Array.replicate l.toArray.size false).getD j false) = fun _ => false := by
      funext j
      by_cases hj : j < l.length
      · simp [hj]
      · simp [hj]
    rw [this]; exact h0
end Go.Proofs.YtgpfmnjianflaaaDoor
namespace Go.Proofs.YtgpfmnjianflaaaDoor
open Go.RowKit

def AllT (d : Nat → Bool) : List Nat → Prop
  | [] => True
  | j :: l => d j = true ∧ AllT d l
def AllF (d : Nat → Bool) : List Nat → Prop
  | [] => True
  | j :: l => d j = false ∧ AllF d l
theorem AllT.of {d : Nat → Bool} : ∀ l : List Nat, (∀ j ∈ l, d j = true) → AllT d l
  | [], _ => trivial
  | j :: l, h => ⟨h j (by simp), AllT.of l (fun k hk => h k (by simp [hk]))⟩
theorem AllF.of {d : Nat → Bool} : ∀ l : List Nat, (∀ j ∈ l, d j = false) → AllF d l
  | [], _ => trivial
  | j :: l, h => ⟨h j (by simp), AllF.of l (fun k hk => h k (by simp [hk]))⟩
theorem Closed.facts {l : List Oper} {d : Nat → Bool} (h : Closed l d) (i : Nat) (hi : d i = false) {o : Oper} (ho : l[i]? = some o) (hd : (depsOf o).all d = true) (A D : List Nat)
    (hA : A.all (fun j => ancB l 30 i j) = true) (hD : D.all (fun j => ancB l 30 j i) = true) : d i = false ∧ AllT d A ∧ AllF d D :=
  ⟨hi, AllT.of A (fun j hj => h.pos i ho hd j 29 (List.all_eq_true.1 hA j hj)), AllF.of D (fun j hj => h.neg hi j (List.all_eq_true.1 hD j hj))⟩
theorem AllT.all {n : Nat} {d : Nat → Bool} (h : (List.range n).all d = true) (L : List Nat) (hL : L.all (fun j => decide (j < n)) = true) : AllT d L :=
  AllT.of L (fun j hj => List.all_eq_true.1 h j (by simpa using List.all_eq_true.1 hL j hj))
end Go.Proofs.YtgpfmnjianflaaaDoor
