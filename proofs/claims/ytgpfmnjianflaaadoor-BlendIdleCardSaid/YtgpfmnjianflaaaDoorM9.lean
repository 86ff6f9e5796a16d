/- Long drawn regions by the slots that matter: one small goal an operation. No condition. Operations of a long drawn region, one law each. No condition. Walk of Works: the examples hold. -/
import Derived.Test.YtgpfmnjianflaaaDoorMA
import Derived.Test.YtgpfmnjianflaaaDoorM1
import Derived.Shelf.Abstract
import Derived.Test.YtgpfmnjianflaaaDoorM8
set_option linter.unusedSimpArgs false
set_option linter.unusedVariables false
set_option linter.constructorNameAsVariable false
namespace Go.Proofs.YtgpfmnjianflaaaDoor
open Go.RowKit

/-- A slot holds a value. -/
def At (a : Act) (i : Nat) (v : Value) : Prop := a.tmps[i]? = some v
theorem At.eval {a : Act} {i : Nat} {v : Value} (h : At a i v) : a.eval (.tmp i) = v := by
  show a.tmps.getD i undef = v
  rw [Array.getD_eq_getD_getElem?, h]; rfl
theorem At.put {a : Act} {i d : Nat} {v u : Value} (h : At a i v) (hd : i ≠ d) : At (a.put (some d) u) i v := by
  show (a.tmps.setIfInBounds d u)[i]? = some v
  rw [Array.getElem?_setIfInBounds_ne (by omega)]; exact h
theorem At.new {a : Act} {d : Nat} {u : Value} (h : d < a.tmps.size) : At (a.put (some d) u) d u := by
  show (a.tmps.setIfInBounds d u)[d]? = some u
  simp [h]
theorem put_size (a : Act) (d : Nat) (u : Value) : (a.put (some d) u).tmps.size = a.tmps.size := by
  show (a.tmps.setIfInBounds d u).size = _
  simp
/-- The slots that matter: N of them in all; those of S hold what B says throughout; once an operation of J is done, its slot holds what V says. -/
structure SF (N : Nat) (S : List Nat) (B : Nat → Value) (J : List Nat) (D : Nat → Nat) (V : Nat → Value) (d : Nat → Bool) (a : Act) : Prop where
  size : a.tmps.size = N
  nodef : a.defers = []
  base : ∀ s, s ∈ S → At a s (B s)
  done : ∀ j, j ∈ J → d j = true → At a (D j) (V j)
section
variable {N : Nat} {S : List Nat} {B : Nat → Value} {J : List Nat} {D : Nat → Nat} {V : Nat → Value} {d : Nat → Bool} {a : Act}
theorem SF.put (h : SF N S B J D V d a) (i : Nat) (v : Value) (t : Nat) (ht : t < N) (h1 : (S.all fun s => s != t) = true) (h2 : (J.all fun j => j == i || D j != t) = true) (h3 : D i = t ∧ V i = v ∨ J.contains i = false) : SF N S B J D V (upd d i) (a.put (some t) v) := by
  refine ⟨by rw [put_size]; exact h.size, h.nodef, fun s hs => (h.base s hs).put (by have := List.all_eq_true.1 h1 s hs; simpa using this), fun j hj hd => ?_⟩
  by_cases e : j = i
  · subst e
    rcases h3 with ⟨h4, h5⟩ | h4
    · rw [h4, h5]; exact At.new (by rw [h.size]; exact ht)
    · simp only [List.contains_eq_mem, decide_eq_false_iff_not] at h4
      exact absurd hj h4
  · refine (h.done j hj ?_).put ?_
    · simpa [upd, e] using hd
    · have := List.all_eq_true.1 h2 j hj
      simpa [e] using this
theorem SF.start (h1 : a.tmps.size = N) (h0 : a.defers = []) (h2 : ∀ s, s ∈ S → At a s (B s)) : SF N S B J D V (fun _ => false) a := ⟨h1, h0, h2, fun j _ h => by cases h⟩
end
section
variable {P : Program} {o : Oper} {a : Act} {w : World} {K : Act → World → Prop} {Q : Exit → Act → World → Prop}
theorem wp_move_at (x : Operand) (hop : o.op = .move x) {v : Value} (hx : a.eval x = v) (h : K (a.put o.dst v) w) : o.wp P a w K Q := by
  unfold Oper.wp; simp [execOp, hop, hx]; exact h
theorem wp_assign_at (x : Operand) (hop : o.op = .assign x) {v : Value} (hx : a.eval x = v) (h : K (a.put o.dst v) w) : o.wp P a w K Q := by
  unfold Oper.wp; simp [execOp, hop, hx]; exact h
theorem wp_pick_true (c x y : Operand) (hop : o.op = .pick c x y) {v : Value} (hc : a.eval c = .bool true) (hx : a.eval x = v) (h : K (a.put o.dst v) w) : o.wp P a w K Q := by
  unfold Oper.wp; simp only [execOp, hop, hc, hx]; simp; exact h
theorem wp_pick_false (c x y : Operand) (hop : o.op = .pick c x y) {v : Value} (hc : a.eval c = .bool false) (hx : a.eval y = v) (h : K (a.put o.dst v) w) : o.wp P a w K Q := by
  unfold Oper.wp; simp only [execOp, hop, hc, hx]; simp; exact h
end
theorem wanted_free {o : Oper} {y : Nat → Option Bool} (h : o.guard = none) : Region.wanted o y = true := by unfold Region.wanted; rw [h]
theorem wanted_at {o : Oper} {ops : Array Oper} {a : Act} {g : Nat} {b : Bool} {s : Nat} (h : o.guard = some (g, b)) (ho : (ops[g]?).bind (·.dst) = some s) (ha : At a s (.bool b)) : Region.wanted o (yielded ops a.tmps) = true := by
  unfold Region.wanted yielded
  have ha' : a.tmps[s]? = some (.bool b) := ha
  rw [h]
  simp [ho, ha']
end Go.Proofs.YtgpfmnjianflaaaDoor
namespace Go.Proofs.YtgpfmnjianflaaaDoor
open Go.RowKit
theorem map_one (f : Operand → Value) (x : Operand) : #[x].map f = #[f x] := by simp
theorem map_two (f : Operand → Value) (x y : Operand) : #[x, y].map f = #[f x, f y] := by simp
theorem map_three (f : Operand → Value) (x y z : Operand) : #[x, y, z].map f = #[f x, f y, f z] := by simp
section
variable {o : Oper} {a : Act} {w : World} {K : Act → World → Prop} {Q : Exit → Act → World → Prop}
theorem wp_load_two (x : Operand) (hop : o.op = .load 29 x) {g : Nat} {u v : Value} (hx : a.eval x = .pointer (some ⟨g, 0, none⟩)) (h0 : w.cell? ⟨g, 0, none⟩ = some u) (h1 : w.cell? ⟨g, 1, none⟩ = some v) (hl : g < w.heap.size) (h : K (a.put o.dst (.agg #[u, v])) w) : o.wp Tryd.prog a w K Q := by
  unfold Oper.wp
  simp only [execOp, hop, hx]
  go_simp
  exact h
theorem wp_load_int (x : Operand) (hop : o.op = .load 2 x) {g n : Nat} {u : Value} (hx : a.eval x = .pointer (some ⟨g, n, none⟩)) (h0 : w.cell? ⟨g, n, none⟩ = some u) (hl : g < w.heap.size) (h : K (a.put o.dst u) w) : o.wp Tryd.prog a w K Q := by
  unfold Oper.wp
  simp only [execOp, hop, hx]
  go_simp
  exact h
theorem wp_field45 (x : Operand) (hop : o.op = .fieldAddr 45 x 2) {g : Nat} (hx : a.eval x = .pointer (some ⟨g, 0, none⟩)) (h : K (a.put o.dst (.pointer (some ⟨g, 2, none⟩))) w) : o.wp Tryd.prog a w K Q := by
  unfold Oper.wp
  simp only [execOp, hop, hx]
  go_simp
  exact h
theorem wp_eql_two (x y : Operand) (t : TypeId) (hop : o.op = .binOp .eql 29 x y t) {b c : Int} (hx : a.eval x = .agg #[.int .i64 b, .int .i64 c]) (hy : a.eval y = .agg #[.int .i64 b, .int .i64 c]) (h : K (a.put o.dst (.bool true)) w) : o.wp Tryd.prog a w K Q := by
  unfold Oper.wp
  simp only [execOp, hop, hx, hy]
  go_simp
  exact h
theorem wp_eql_int (x y : Operand) (s t : TypeId) (hs : s = 30 ∨ s = 2) (hop : o.op = .binOp .eql s x y t) {b : Int} (hx : a.eval x = .int .i64 b) (hy : a.eval y = .int .i64 b) (h : K (a.put o.dst (.bool true)) w) : o.wp Tryd.prog a w K Q := by
  unfold Oper.wp
  rcases hs with rfl | rfl
  · simp only [execOp, hop, hx, hy]
    go_simp
    exact h
  · simp only [execOp, hop, hx, hy]
    go_simp
    exact h
theorem wp_geq_int (x y : Operand) (t : TypeId) (hop : o.op = .binOp .geq 2 x y t) {b c : Int} (hx : a.eval x = .int .i64 b) (hy : a.eval y = .int .i64 c) (hbc : c ≤ b) (h : K (a.put o.dst (.bool true)) w) : o.wp Tryd.prog a w K Q := by
  unfold Oper.wp
  have hb : decide (c ≤ b) = true := by simpa using hbc
  simp only [execOp, hop, hx, hy]
  go_simp
  exact h
theorem wp_build_ints (n : Nat) (parts : Array (Nat × Operand)) (hop : o.op = .buildSlice 51 n parts) (c : Array Value) (hr : ∀ w, (Instr.buildSlice 51 n (parts.map fun (i, x) => (i, a.eval x))).run Tryd.prog w = .ok (.slice (some ⟨w.heap.size, 0, none⟩) n n) (w.alloc (.cells c 3)))
    (h : K (a.put o.dst (.slice (some ⟨w.heap.size, 0, none⟩) n n)) (w.alloc (.cells c 3))) : o.wp Tryd.prog a w K Q := by
  unfold Oper.wp
  simp only [execOp, hop]
  simp [hr]
  exact h
theorem wp_call_at (f : FuncId) (he : Go.Proofs.Enters Tryd.prog f) (args : Array Operand) (ts : Array TypeId) (hop : o.op = .call { callee := .value (.func f), args := args, argTypes := ts }) (xs : Array Value) (hx : args.map a.eval = xs) {v : Value} {R : World → Prop}
    (hc : Calls Tryd.prog f xs w fun e w' => e = .returned v ∧ R w') (h : ∀ w', R w' → K (a.put o.dst v) w') : o.wp Tryd.prog a w K Q := by
  have hv : (execOp a.eval o).run Tryd.prog w = .ok (.enter f xs) w := by
    have hfe : a.eval (.func f) = .func (.func f) #[] #[] := rfl
    simp only [execOp, hop, resolve, hfe, hx]
    simp [invoke, Deferred.ofValue, Result.andThen, he xs w]
  unfold Oper.wp
  rw [hv]
  refine Calls.mono hc ?_
  rintro e w' ⟨rfl, hr⟩
  exact h w' hr
end
end Go.Proofs.YtgpfmnjianflaaaDoor
namespace Go.Proofs.YtgpfmnjianflaaaDoor
open Go.RowKit

theorem blk0 (w : World) (T : TypeId) (c : Array Value) : Blk w.heap.size T c (w.alloc (.cells c T)) := Blk.new _ _ _
theorem blk1 (w : World) (o : Obj) (T : TypeId) (c : Array Value) : Blk (w.heap.size + 1) T c ((w.alloc o).alloc (.cells c T)) := by
  have := Blk.new (w.alloc o) T c
  rwa [World.size_alloc] at this
theorem blk2 (w : World) (o p : Obj) (T : TypeId) (c : Array Value) : Blk (w.heap.size + 1 + 1) T c (((w.alloc o).alloc p).alloc (.cells c T)) := by
  have := blk1 (w.alloc o) p T c
  rwa [World.size_alloc] at this
theorem row_lit {W : World} {g T n : Nat} {c : Array Value} {f : Nat → Int} (h : Blk g T c W) (hc : ∀ k, k < n → c[k]? = some (.int .i64 (f k))) : Row W.heap.size W (some ⟨g, 0, none⟩) n fun k => .int .i64 (f k) := fun k hk =>
  ⟨g, 0, rfl, h.lt, by rw [Nat.zero_add, h.at]; exact hc k hk⟩
theorem ints_same {w : World} {p q : Option Addr} {n : Nat} (c d : Nat) (hn : n ≤ 1000) {f : Nat → Int} (hp : Row w.heap.size w p n fun k => .int .i64 (f k)) (hq : Row w.heap.size w q n fun k => .int .i64 (f k)) :
    Calls Tryd.prog 44 #[.slice p n c, .slice q n d] w fun e w' => e = .returned (.bool true) ∧ Pure w w' := by
  have := Ints_any w p q n n c d f f hn hn hp hq
  rw [show intsB f f n n = true by unfold intsB eqTo; simp] at this
  exact this
theorem wi_row {W W' : World} {q : Option Addr} {n : Nat} {f : Nat → Value} (h : Row W.heap.size W q n f) (hp : Pure W W') : Row W'.heap.size W' q n f := h.to hp
/-- The lists that are built on the way. -/
structure W26X (V0 : World) (d : Nat → Bool) (a : Act) (W : World) : Prop where
  pure : Pure V0 W
  p : d 62 = true → ∃ s, At a 312 (.slice (some ⟨s, 0, none⟩) 4 4) ∧ Row W.heap.size W (some ⟨s, 0, none⟩) 4 fun k => .int .i64 (nthN [0, 1, 3, 2] k : Int)
  q : d 63 = true → ∃ s, At a 313 (.slice (some ⟨s, 0, none⟩) 4 4) ∧ Row W.heap.size W (some ⟨s, 0, none⟩) 4 fun k => .int .i64 (nthN [0, 1, 3, 2] k : Int)
  r : d 68 = true → ∃ s, At a 318 (.slice (some ⟨s, 0, none⟩) 1 1) ∧ Row W.heap.size W (some ⟨s, 0, none⟩) 1 fun k => .int .i64 (nthN [4] k : Int)
  s : d 69 = true → ∃ s, At a 319 (.slice (some ⟨s, 0, none⟩) 1 1) ∧ Row W.heap.size W (some ⟨s, 0, none⟩) 1 fun k => .int .i64 (nthN [4] k : Int)
theorem W26X.start {V0 W : World} {a : Act} (h : Pure V0 W) : W26X V0 (fun _ => false) a W := ⟨h, fun h => (by cases h), fun h => (by cases h), fun h => (by cases h), fun h => (by cases h)⟩
theorem keepS {a : Act} {t u : Nat} {v : Value} {n : Nat} {f : Nat → Int} {W W' : World} (h : ∃ s, At a t (.slice (some ⟨s, 0, none⟩) n n) ∧ Row W.heap.size W (some ⟨s, 0, none⟩) n fun k => .int .i64 (f k)) (hp : Pure W W') (ht : t ≠ u) : ∃ s, At (a.put (some u) v) t (.slice (some ⟨s, 0, none⟩) n n) ∧ Row W'.heap.size W' (some ⟨s, 0, none⟩) n fun k => .int .i64 (f k) := by
  obtain ⟨s, h1, h2⟩ := h
  exact ⟨s, h1.put ht, h2.to hp⟩
theorem upd_ne {d : Nat → Bool} {i j : Nat} (h : j ≠ i) (hd : upd d i j = true) : d j = true := by simpa [upd, h] using hd
section
variable {V0 W W' : World} {d : Nat → Bool} {a : Act} (h : W26X V0 d a W) (hp : Pure W W')
include h hp
theorem W26X.put (i t : Nat) (v : Value) (hi : i ≠ 62 ∧ i ≠ 63 ∧ i ≠ 68 ∧ i ≠ 69) (ht : t ≠ 312 ∧ t ≠ 313 ∧ t ≠ 318 ∧ t ≠ 319) : W26X V0 (upd d i) (a.put (some t) v) W' :=
  ⟨h.pure.trans hp, fun e => keepS (h.p (upd_ne (by omega) e)) hp (by omega), fun e => keepS (h.q (upd_ne (by omega) e)) hp (by omega), fun e => keepS (h.r (upd_ne (by omega) e)) hp (by omega), fun e => keepS (h.s (upd_ne (by omega) e)) hp (by omega)⟩
theorem W26X.b62 {g : Nat} (hs : 312 < a.tmps.size) (hr : Row W'.heap.size W' (some ⟨g, 0, none⟩) 4 fun k => .int .i64 (nthN [0, 1, 3, 2] k : Int)) (hn : d 63 = false) : W26X V0 (upd d 62) (a.put (some 312) (.slice (some ⟨g, 0, none⟩) 4 4)) W' :=
  ⟨h.pure.trans hp, fun _ => ⟨g, At.new hs, hr⟩, fun e => (by rw [upd_ne (by decide) e] at hn; cases hn), fun e => keepS (h.r (upd_ne (by decide) e)) hp (by decide), fun e => keepS (h.s (upd_ne (by decide) e)) hp (by decide)⟩
theorem W26X.b63 {g : Nat} (hs : 313 < a.tmps.size) (hr : Row W'.heap.size W' (some ⟨g, 0, none⟩) 4 fun k => .int .i64 (nthN [0, 1, 3, 2] k : Int)) : W26X V0 (upd d 63) (a.put (some 313) (.slice (some ⟨g, 0, none⟩) 4 4)) W' :=
  ⟨h.pure.trans hp, fun e => keepS (h.p (upd_ne (by decide) e)) hp (by decide), fun _ => ⟨g, At.new hs, hr⟩, fun e => keepS (h.r (upd_ne (by decide) e)) hp (by decide), fun e => keepS (h.s (upd_ne (by decide) e)) hp (by decide)⟩
theorem W26X.b68 {g : Nat} (hs : 318 < a.tmps.size) (hr : Row W'.heap.size W' (some ⟨g, 0, none⟩) 1 fun k => .int .i64 (nthN [4] k : Int)) (hn : d 69 = false) : W26X V0 (upd d 68) (a.put (some 318) (.slice (some ⟨g, 0, none⟩) 1 1)) W' :=
  ⟨h.pure.trans hp, fun e => keepS (h.p (upd_ne (by decide) e)) hp (by decide), fun e => keepS (h.q (upd_ne (by decide) e)) hp (by decide), fun _ => ⟨g, At.new hs, hr⟩, fun e => (by rw [upd_ne (by decide) e] at hn; cases hn)⟩
theorem W26X.b69 {g : Nat} (hs : 319 < a.tmps.size) (hr : Row W'.heap.size W' (some ⟨g, 0, none⟩) 1 fun k => .int .i64 (nthN [4] k : Int)) : W26X V0 (upd d 69) (a.put (some 319) (.slice (some ⟨g, 0, none⟩) 1 1)) W' :=
  ⟨h.pure.trans hp, fun e => keepS (h.p (upd_ne (by decide) e)) hp (by decide), fun e => keepS (h.q (upd_ne (by decide) e)) hp (by decide), fun e => keepS (h.r (upd_ne (by decide) e)) hp (by decide), fun _ => ⟨g, At.new hs, hr⟩⟩
end
def w26S : List Nat := [3, 4, 5, 8, 11, 12, 18, 24, 32, 34, 36, 38, 44, 45, 46, 47]
def w26J : List Nat := [0, 1, 2, 3, 4, 5, 6, 7, 8, 9, 10, 11, 12, 13, 14, 15, 16, 17, 18, 19, 20, 21, 22, 23, 24, 25, 26, 27, 28, 29, 30, 31, 32, 33, 34, 35, 36, 37, 38, 39, 40, 41, 42, 43, 44, 45, 46, 47, 48, 49, 50, 51, 52, 53, 54, 55, 56, 57, 58, 59, 60, 61, 64, 65, 66, 67, 70, 71, 72, 73, 74, 75, 76]
def w26D (j : Nat) : Nat := ([250, 251, 252, 253, 254, 255, 256, 257, 258, 259, 260, 261, 262, 263, 264, 265, 266, 267, 268, 269, 270, 271, 272, 273, 274, 275, 276, 277, 278, 279, 280, 281, 282, 283, 284, 285, 286, 287, 288, 289, 290, 291, 292, 293, 294, 295, 296, 297, 298, 299, 300, 301, 302, 303, 304, 305, 306, 307, 308, 309, 310, 311, 312, 313, 314, 315, 316, 317, 318, 319, 320, 321, 322, 323, 324, 325, 0] : List Nat).getD j 0
def w26B (gS gP gC gD gV gT gQ gW gZ gF : Nat) (qk qi : Option Addr) (ck ci : Nat) (s : Nat) : Value := match s with
  | 3 => Value.pointer (some { block := gS, off := 0 })
  | 4 => Value.pointer (some { block := gP, off := 0 })
  | 5 => Value.int IntKind.i64 0
  | 8 => Value.int IntKind.i64 0
  | 11 => Value.int IntKind.i64 0
  | 12 => Value.pointer (some { block := gC, off := 0 })
  | 18 => Value.pointer (some { block := gD, off := 0 })
  | 24 => Value.pointer (some { block := gV, off := 0 })
  | 32 => Value.pointer (some { block := gF, off := 0 })
  | 34 => Value.slice qk 4 ck
  | 36 => Value.slice qi 1 ci
  | 38 => Value.int IntKind.i64 3
  | 44 => Value.pointer (some { block := gT, off := 0 })
  | 45 => Value.pointer (some { block := gQ, off := 0 })
  | 46 => Value.pointer (some { block := gW, off := 0 })
  | 47 => Value.pointer (some { block := gZ, off := 0 })
  | _ => undef
def w26V (gS gP gC gD gV gT gQ gW gZ gF : Nat) (qk qi : Option Addr) (ck ci : Nat) (j : Nat) : Value := match j with
  | 0 => Value.agg #[Value.int IntKind.i64 25, Value.int IntKind.i64 1]
  | 1 => Value.agg #[Value.int IntKind.i64 25, Value.int IntKind.i64 1]
  | 2 => Value.bool true
  | 3 => Value.bool true
  | 4 => Value.agg #[Value.int IntKind.i64 85, Value.int IntKind.i64 2]
  | 5 => Value.agg #[Value.int IntKind.i64 85, Value.int IntKind.i64 2]
  | 6 => Value.bool true
  | 7 => Value.bool true
  | 8 => Value.bool true
  | 9 => Value.agg #[Value.int IntKind.i64 85, Value.int IntKind.i64 2]
  | 10 => Value.agg #[Value.int IntKind.i64 85, Value.int IntKind.i64 2]
  | 11 => Value.bool true
  | 12 => Value.bool true
  | 13 => Value.bool true
  | 14 => Value.agg #[Value.int IntKind.i64 20, Value.int IntKind.i64 1]
  | 15 => Value.agg #[Value.int IntKind.i64 20, Value.int IntKind.i64 1]
  | 16 => Value.bool true
  | 17 => Value.bool true
  | 18 => Value.bool true
  | 19 => Value.int IntKind.i64 0
  | 20 => Value.bool true
  | 21 => Value.bool true
  | 22 => Value.bool true
  | 23 => Value.agg #[Value.int IntKind.i64 25, Value.int IntKind.i64 1]
  | 24 => Value.agg #[Value.int IntKind.i64 25, Value.int IntKind.i64 1]
  | 25 => Value.bool true
  | 26 => Value.bool true
  | 27 => Value.bool true
  | 28 => Value.agg #[Value.int IntKind.i64 85, Value.int IntKind.i64 2]
  | 29 => Value.agg #[Value.int IntKind.i64 85, Value.int IntKind.i64 2]
  | 30 => Value.bool true
  | 31 => Value.bool true
  | 32 => Value.bool true
  | 33 => Value.agg #[Value.int IntKind.i64 85, Value.int IntKind.i64 2]
  | 34 => Value.agg #[Value.int IntKind.i64 85, Value.int IntKind.i64 2]
  | 35 => Value.bool true
  | 36 => Value.bool true
  | 37 => Value.bool true
  | 38 => Value.int IntKind.i64 0
  | 39 => Value.bool true
  | 40 => Value.bool true
  | 41 => Value.bool true
  | 42 => Value.agg #[Value.int IntKind.i64 85, Value.int IntKind.i64 2]
  | 43 => Value.agg #[Value.int IntKind.i64 85, Value.int IntKind.i64 2]
  | 44 => Value.bool true
  | 45 => Value.bool true
  | 46 => Value.bool true
  | 47 => Value.int IntKind.i64 0
  | 48 => Value.bool true
  | 49 => Value.bool true
  | 50 => Value.bool true
  | 51 => Value.agg #[Value.int IntKind.i64 20, Value.int IntKind.i64 1]
  | 52 => Value.agg #[Value.int IntKind.i64 20, Value.int IntKind.i64 1]
  | 53 => Value.bool true
  | 54 => Value.bool true
  | 55 => Value.bool true
  | 56 => Value.pointer (some { block := gF, off := 2 })
  | 57 => Value.int IntKind.i64 0
  | 58 => Value.bool true
  | 59 => Value.bool true
  | 60 => Value.bool true
  | 61 => Value.slice qk 4 ck
  | 64 => Value.bool true
  | 65 => Value.bool true
  | 66 => Value.bool true
  | 67 => Value.slice qi 1 ci
  | 70 => Value.bool true
  | 71 => Value.bool true
  | 72 => Value.bool true
  | 73 => Value.int IntKind.i64 3
  | 74 => Value.bool true
  | 75 => Value.bool true
  | 76 => Value.bool true
  | _ => undef
set_option maxRecDepth 20000 in
set_option maxHeartbeats 4000000 in
theorem Works_any (w : World) (hg : Gl w) : Calls Tryd.prog 17 #[] w fun e w' => e = .returned (.bool true) ∧ Pure w w' := by
  have hmx : Tryd.prog.follows .mixedOrders = true := by kernel_rfl
  have HG := Lib.hid hg
  clear hg
  go_enter Tryd.func17, Tryd.ntmps17
  go_wp2_with fail
  refine (five_any w).mono ?_
  rintro e w1 ⟨⟨pA, cA, rfl, hA⟩, hp1⟩
  have HA := Lib.hid hA
  have HP1 := Lib.hid hp1
  clear hA hp1
  go_wp2_with fail
  refine (two_any w1).mono ?_
  rintro e w2 ⟨⟨pB, cB, rfl, hB⟩, hp2⟩
  have HP2 := Lib.hid (HP1.out.trans hp2)
  have HW2 : Hid (WI pA pB w2) := ⟨HA.out.to hp2, hB, HG.out.to HP2.out⟩
  clear hB hp2
  go_wp2_with fail
  obtain ⟨X0, hX0⟩ : ∃ V : World, w2.alloc (Obj.cells #[Value.int IntKind.i64 0, Value.int IntKind.i64 1, Value.int IntKind.i64 0, Value.int IntKind.i64 1, Value.int IntKind.i64 0] 2) = V := ⟨_, rfl⟩
  have hpX0 : Pure w2 X0 := by rw [← hX0]; exact ((Diff.refl w2).alloc _)
  have bL1 : Blk (w2.heap.size) 2 #[Value.int IntKind.i64 0, Value.int IntKind.i64 1, Value.int IntKind.i64 0, Value.int IntKind.i64 1, Value.int IntKind.i64 0] X0 := by rw [← hX0]; exact (blk0 w2 2 _)
  rw [hX0]
  obtain ⟨g0_0, hg0_0⟩ : ∃ g, w2.heap.size = g := ⟨_, rfl⟩
  rw [hg0_0] at bL1 ⊢
  have HP_0 := Lib.hid (HP2.out.trans hpX0)
  have HW_0 := Lib.hid (HW2.out.to hpX0)
  have L1_0 := Lib.hid bL1
  clear hX0 hpX0 hg0_0 bL1 HP2 HW2
  refine (llongs_any X0 _ _ 5 5 rfl).mono ?_
  rintro e v1 ⟨rfl, hp⟩
  have HP_1 := Lib.hid (HP_0.out.trans hp)
  have HW_1 := Lib.hid (HW_0.out.to hp)
  have L1_1 := Lib.hid (L1_0.out.to hp)
  clear hp  HP_0 HW_0 L1_0
  go_wp2_with fail
  refine (k1 HW_1.out cA 5 (row_lit (n := 5) (f := g1) L1_1.out (fun k hk => by rcases k with _ | _ | _ | _ | _ | k <;> first | rfl | omega))).mono ?_
  rintro e v2 ⟨rfl, hp⟩
  have HP_2 := Lib.hid (HP_1.out.trans hp)
  have HW_2 := Lib.hid (HW_1.out.to hp)
  have L1_2 := Lib.hid (L1_1.out.to hp)
  clear hp  HP_1 HW_1 L1_1
  go_wp2_with fail
  obtain ⟨X3, hX3⟩ : ∃ V : World, ((v2.alloc (Obj.cells #[Value.int IntKind.i64 25, Value.int IntKind.i64 1] 29)).alloc (Obj.cells #[Value.int IntKind.i64 85, Value.int IntKind.i64 2] 29)).alloc (Obj.cells #[Value.int IntKind.i64 0, Value.int IntKind.i64 0, Value.int IntKind.i64 0, Value.int IntKind.i64 0, Value.int IntKind.i64 0] 2) = V := ⟨_, rfl⟩
  have hpX3 : Pure v2 X3 := by rw [← hX3]; exact ((((Diff.refl v2).alloc _).alloc _).alloc _)
  have bS : Blk (v2.heap.size) 29 #[Value.int IntKind.i64 25, Value.int IntKind.i64 1] X3 := by rw [← hX3]; exact (((blk0 v2 29 _).alloc _).alloc _)
  have bP : Blk (v2.heap.size + 1) 29 #[Value.int IntKind.i64 85, Value.int IntKind.i64 2] X3 := by rw [← hX3]; exact ((blk1 v2 _ 29 _).alloc _)
  have bL2 : Blk (v2.heap.size + 1 + 1) 2 #[Value.int IntKind.i64 0, Value.int IntKind.i64 0, Value.int IntKind.i64 0, Value.int IntKind.i64 0, Value.int IntKind.i64 0] X3 := by rw [← hX3]; exact (blk2 v2 _ _ 2 _)
  rw [hX3]
  obtain ⟨g3_0, hg3_0⟩ : ∃ g, v2.heap.size = g := ⟨_, rfl⟩
  rw [hg3_0] at bS bP bL2 ⊢
  obtain ⟨g3_1, hg3_1⟩ : ∃ g, g3_0 + 1 = g := ⟨_, rfl⟩
  rw [hg3_1] at bP bL2 ⊢
  obtain ⟨g3_2, hg3_2⟩ : ∃ g, g3_1 + 1 = g := ⟨_, rfl⟩
  rw [hg3_2] at bL2 ⊢
  have HP_3 := Lib.hid (HP_2.out.trans hpX3)
  have HW_3 := Lib.hid (HW_2.out.to hpX3)
  have S_3 := Lib.hid bS
  have P_3 := Lib.hid bP
  have L2_3 := Lib.hid bL2
  clear hX3 hpX3 hg3_2 hg3_1 hg3_0 bS bP bL2 HP_2 HW_2
  refine (llongs_any X3 _ _ 5 5 rfl).mono ?_
  rintro e v4 ⟨rfl, hp⟩
  have HP_4 := Lib.hid (HP_3.out.trans hp)
  have HW_4 := Lib.hid (HW_3.out.to hp)
  have S_4 := Lib.hid (S_3.out.to hp)
  have P_4 := Lib.hid (P_3.out.to hp)
  have L2_4 := Lib.hid (L2_3.out.to hp)
  clear hp  HP_3 HW_3 S_3 P_3 L2_3
  go_wp2_with fail
  refine (k2 HW_4.out cA 5 (row_lit (n := 5) (f := g0) L2_4.out (fun k hk => by rcases k with _ | _ | _ | _ | _ | k <;> first | rfl | omega))).mono ?_
  rintro e v5 ⟨rfl, hp⟩
  have HP_5 := Lib.hid (HP_4.out.trans hp)
  have HW_5 := Lib.hid (HW_4.out.to hp)
  have S_5 := Lib.hid (S_4.out.to hp)
  have P_5 := Lib.hid (P_4.out.to hp)
  have L2_5 := Lib.hid (L2_4.out.to hp)
  clear hp  HP_4 HW_4 S_4 P_4 L2_4
  go_wp2_with fail
  obtain ⟨X6, hX6⟩ : ∃ V : World, ((v5.alloc (Obj.cells #[Value.int IntKind.i64 0, Value.int IntKind.i64 0] 29)).alloc (Obj.cells #[Value.int IntKind.i64 0, Value.int IntKind.i64 0] 29)).alloc (Obj.cells #[Value.int IntKind.i64 1, Value.int IntKind.i64 1] 2) = V := ⟨_, rfl⟩
  have hpX6 : Pure v5 X6 := by rw [← hX6]; exact ((((Diff.refl v5).alloc _).alloc _).alloc _)
  have bL3 : Blk (v5.heap.size + 1 + 1) 2 #[Value.int IntKind.i64 1, Value.int IntKind.i64 1] X6 := by rw [← hX6]; exact (blk2 v5 _ _ 2 _)
  rw [hX6]
  obtain ⟨g6_0, hg6_0⟩ : ∃ g, v5.heap.size = g := ⟨_, rfl⟩
  rw [hg6_0] at bL3 ⊢
  obtain ⟨g6_1, hg6_1⟩ : ∃ g, g6_0 + 1 = g := ⟨_, rfl⟩
  rw [hg6_1] at bL3 ⊢
  obtain ⟨g6_2, hg6_2⟩ : ∃ g, g6_1 + 1 = g := ⟨_, rfl⟩
  rw [hg6_2] at bL3 ⊢
  have HP_6 := Lib.hid (HP_5.out.trans hpX6)
  have HW_6 := Lib.hid (HW_5.out.to hpX6)
  have S_6 := Lib.hid (S_5.out.to hpX6)
  have P_6 := Lib.hid (P_5.out.to hpX6)
  have L3_6 := Lib.hid bL3
  clear hX6 hpX6 hg6_2 hg6_1 hg6_0 bL3 HP_5 HW_5 S_5 P_5
  refine (llongs_any X6 _ _ 2 2 rfl).mono ?_
  rintro e v7 ⟨rfl, hp⟩
  have HP_7 := Lib.hid (HP_6.out.trans hp)
  have HW_7 := Lib.hid (HW_6.out.to hp)
  have S_7 := Lib.hid (S_6.out.to hp)
  have P_7 := Lib.hid (P_6.out.to hp)
  have L3_7 := Lib.hid (L3_6.out.to hp)
  clear hp  HP_6 HW_6 S_6 P_6 L3_6
  go_wp2_with fail
  refine (k3 HW_7.out cA 2 (row_lit (n := 2) (f := g11) L3_7.out (fun k hk => by rcases k with _ | _ | _ | _ | _ | k <;> first | rfl | omega))).mono ?_
  rintro e v8 ⟨rfl, hp⟩
  have HP_8 := Lib.hid (HP_7.out.trans hp)
  have HW_8 := Lib.hid (HW_7.out.to hp)
  have S_8 := Lib.hid (S_7.out.to hp)
  have P_8 := Lib.hid (P_7.out.to hp)
  have L3_8 := Lib.hid (L3_7.out.to hp)
  clear hp  HP_7 HW_7 S_7 P_7 L3_7
  go_wp2_with fail
  obtain ⟨X9, hX9⟩ : ∃ V : World, (v8.alloc (Obj.cells #[Value.int IntKind.i64 0, Value.int IntKind.i64 0] 29)).alloc (Obj.cells #[Value.int IntKind.i64 0, Value.int IntKind.i64 0] 29) = V := ⟨_, rfl⟩
  have hpX9 : Pure v8 X9 := by rw [← hX9]; exact (((Diff.refl v8).alloc _).alloc _)
  rw [hX9]
  obtain ⟨g9_0, hg9_0⟩ : ∃ g, v8.heap.size = g := ⟨_, rfl⟩
  rw [hg9_0]
  obtain ⟨g9_1, hg9_1⟩ : ∃ g, g9_0 + 1 = g := ⟨_, rfl⟩
  rw [hg9_1]
  have HP_9 := Lib.hid (HP_8.out.trans hpX9)
  have HW_9 := Lib.hid (HW_8.out.to hpX9)
  have S_9 := Lib.hid (S_8.out.to hpX9)
  have P_9 := Lib.hid (P_8.out.to hpX9)
  clear hX9 hpX9 hg9_1 hg9_0  HP_8 HW_8 S_8 P_8
  refine (k4 HW_9.out cA).mono ?_
  rintro e v10 ⟨rfl, hp⟩
  have HP_10 := Lib.hid (HP_9.out.trans hp)
  have HW_10 := Lib.hid (HW_9.out.to hp)
  have S_10 := Lib.hid (S_9.out.to hp)
  have P_10 := Lib.hid (P_9.out.to hp)
  clear hp  HP_9 HW_9 S_9 P_9
  go_wp2_with fail
  obtain ⟨X11, hX11⟩ : ∃ V : World, v10.alloc (Obj.cells #[Value.int IntKind.i64 85, Value.int IntKind.i64 2] 29) = V := ⟨_, rfl⟩
  have hpX11 : Pure v10 X11 := by rw [← hX11]; exact ((Diff.refl v10).alloc _)
  have bC : Blk (v10.heap.size) 29 #[Value.int IntKind.i64 85, Value.int IntKind.i64 2] X11 := by rw [← hX11]; exact (blk0 v10 29 _)
  rw [hX11]
  obtain ⟨g11_0, hg11_0⟩ : ∃ g, v10.heap.size = g := ⟨_, rfl⟩
  rw [hg11_0] at bC ⊢
  have HP_11 := Lib.hid (HP_10.out.trans hpX11)
  have HW_11 := Lib.hid (HW_10.out.to hpX11)
  have S_11 := Lib.hid (S_10.out.to hpX11)
  have P_11 := Lib.hid (P_10.out.to hpX11)
  have C_11 := Lib.hid bC
  clear hX11 hpX11 hg11_0 bC HP_10 HW_10 S_10 P_10
  refine (k5 HW_11.out cA).mono ?_
  rintro e v12 ⟨rfl, hp⟩
  have HP_12 := Lib.hid (HP_11.out.trans hp)
  have HW_12 := Lib.hid (HW_11.out.to hp)
  have S_12 := Lib.hid (S_11.out.to hp)
  have P_12 := Lib.hid (P_11.out.to hp)
  have C_12 := Lib.hid (C_11.out.to hp)
  clear hp  HP_11 HW_11 S_11 P_11 C_11
  go_wp2_with fail
  obtain ⟨X13, hX13⟩ : ∃ V : World, v12.alloc (Obj.cells #[Value.int IntKind.i64 0, Value.int IntKind.i64 0] 29) = V := ⟨_, rfl⟩
  have hpX13 : Pure v12 X13 := by rw [← hX13]; exact ((Diff.refl v12).alloc _)
  rw [hX13]
  obtain ⟨g13_0, hg13_0⟩ : ∃ g, v12.heap.size = g := ⟨_, rfl⟩
  rw [hg13_0]
  have HP_13 := Lib.hid (HP_12.out.trans hpX13)
  have HW_13 := Lib.hid (HW_12.out.to hpX13)
  have S_13 := Lib.hid (S_12.out.to hpX13)
  have P_13 := Lib.hid (P_12.out.to hpX13)
  have C_13 := Lib.hid (C_12.out.to hpX13)
  clear hX13 hpX13 hg13_0  HP_12 HW_12 S_12 P_12 C_12
  refine (k6 HW_13.out cA).mono ?_
  rintro e v14 ⟨rfl, hp⟩
  have HP_14 := Lib.hid (HP_13.out.trans hp)
  have HW_14 := Lib.hid (HW_13.out.to hp)
  have S_14 := Lib.hid (S_13.out.to hp)
  have P_14 := Lib.hid (P_13.out.to hp)
  have C_14 := Lib.hid (C_13.out.to hp)
  clear hp  HP_13 HW_13 S_13 P_13 C_13
  go_wp2_with fail
  obtain ⟨X15, hX15⟩ : ∃ V : World, v14.alloc (Obj.cells #[Value.int IntKind.i64 0, Value.int IntKind.i64 0] 29) = V := ⟨_, rfl⟩
  have hpX15 : Pure v14 X15 := by rw [← hX15]; exact ((Diff.refl v14).alloc _)
  rw [hX15]
  obtain ⟨g15_0, hg15_0⟩ : ∃ g, v14.heap.size = g := ⟨_, rfl⟩
  rw [hg15_0]
  have HP_15 := Lib.hid (HP_14.out.trans hpX15)
  have HW_15 := Lib.hid (HW_14.out.to hpX15)
  have S_15 := Lib.hid (S_14.out.to hpX15)
  have P_15 := Lib.hid (P_14.out.to hpX15)
  have C_15 := Lib.hid (C_14.out.to hpX15)
  clear hX15 hpX15 hg15_0  HP_14 HW_14 S_14 P_14 C_14
  refine (k7 HW_15.out cB).mono ?_
  rintro e v16 ⟨rfl, hp⟩
  have HP_16 := Lib.hid (HP_15.out.trans hp)
  have HW_16 := Lib.hid (HW_15.out.to hp)
  have S_16 := Lib.hid (S_15.out.to hp)
  have P_16 := Lib.hid (P_15.out.to hp)
  have C_16 := Lib.hid (C_15.out.to hp)
  clear hp  HP_15 HW_15 S_15 P_15 C_15
  go_wp2_with fail
  obtain ⟨X17, hX17⟩ : ∃ V : World, v16.alloc (Obj.cells #[Value.int IntKind.i64 20, Value.int IntKind.i64 1] 29) = V := ⟨_, rfl⟩
  have hpX17 : Pure v16 X17 := by rw [← hX17]; exact ((Diff.refl v16).alloc _)
  have bD : Blk (v16.heap.size) 29 #[Value.int IntKind.i64 20, Value.int IntKind.i64 1] X17 := by rw [← hX17]; exact (blk0 v16 29 _)
  rw [hX17]
  obtain ⟨g17_0, hg17_0⟩ : ∃ g, v16.heap.size = g := ⟨_, rfl⟩
  rw [hg17_0] at bD ⊢
  have HP_17 := Lib.hid (HP_16.out.trans hpX17)
  have HW_17 := Lib.hid (HW_16.out.to hpX17)
  have S_17 := Lib.hid (S_16.out.to hpX17)
  have P_17 := Lib.hid (P_16.out.to hpX17)
  have C_17 := Lib.hid (C_16.out.to hpX17)
  have D_17 := Lib.hid bD
  clear hX17 hpX17 hg17_0 bD HP_16 HW_16 S_16 P_16 C_16
  refine (k8 HW_17.out cA).mono ?_
  rintro e v18 ⟨rfl, hp⟩
  have HP_18 := Lib.hid (HP_17.out.trans hp)
  have HW_18 := Lib.hid (HW_17.out.to hp)
  have S_18 := Lib.hid (S_17.out.to hp)
  have P_18 := Lib.hid (P_17.out.to hp)
  have C_18 := Lib.hid (C_17.out.to hp)
  have D_18 := Lib.hid (D_17.out.to hp)
  clear hp  HP_17 HW_17 S_17 P_17 C_17 D_17
  go_wp2_with fail
  obtain ⟨X19, hX19⟩ : ∃ V : World, v18.alloc (Obj.cells #[Value.int IntKind.i64 0, Value.int IntKind.i64 0] 29) = V := ⟨_, rfl⟩
  have hpX19 : Pure v18 X19 := by rw [← hX19]; exact ((Diff.refl v18).alloc _)
  rw [hX19]
  obtain ⟨g19_0, hg19_0⟩ : ∃ g, v18.heap.size = g := ⟨_, rfl⟩
  rw [hg19_0]
  have HP_19 := Lib.hid (HP_18.out.trans hpX19)
  have HW_19 := Lib.hid (HW_18.out.to hpX19)
  have S_19 := Lib.hid (S_18.out.to hpX19)
  have P_19 := Lib.hid (P_18.out.to hpX19)
  have C_19 := Lib.hid (C_18.out.to hpX19)
  have D_19 := Lib.hid (D_18.out.to hpX19)
  clear hX19 hpX19 hg19_0  HP_18 HW_18 S_18 P_18 C_18 D_18
  refine (k9 HW_19.out cA).mono ?_
  rintro e v20 ⟨⟨gx, rfl, hx⟩, hp⟩
  have HP_20 := Lib.hid (HP_19.out.trans hp)
  have HW_20 := Lib.hid (HW_19.out.to hp)
  have S_20 := Lib.hid (S_19.out.to hp)
  have P_20 := Lib.hid (P_19.out.to hp)
  have C_20 := Lib.hid (C_19.out.to hp)
  have D_20 := Lib.hid (D_19.out.to hp)
  have X_20 := Lib.hid hx
  clear hp hx HP_19 HW_19 S_19 P_19 C_19 D_19
  go_wp2_with fail
  refine (lline_any v20 2 10 3).mono ?_
  rintro e v21 ⟨rfl, hp⟩
  have HP_21 := Lib.hid (HP_20.out.trans hp)
  have HW_21 := Lib.hid (HW_20.out.to hp)
  have S_21 := Lib.hid (S_20.out.to hp)
  have P_21 := Lib.hid (P_20.out.to hp)
  have C_21 := Lib.hid (C_20.out.to hp)
  have D_21 := Lib.hid (D_20.out.to hp)
  have X_21 := Lib.hid (X_20.out.to hp)
  clear hp  HP_20 HW_20 S_20 P_20 C_20 D_20 X_20
  go_wp2_with fail
  refine (k10 HW_21.out cA).mono ?_
  rintro e v22 ⟨rfl, hp⟩
  have HP_22 := Lib.hid (HP_21.out.trans hp)
  have HW_22 := Lib.hid (HW_21.out.to hp)
  have S_22 := Lib.hid (S_21.out.to hp)
  have P_22 := Lib.hid (P_21.out.to hp)
  have C_22 := Lib.hid (C_21.out.to hp)
  have D_22 := Lib.hid (D_21.out.to hp)
  have X_22 := Lib.hid (X_21.out.to hp)
  clear hp  HP_21 HW_21 S_21 P_21 C_21 D_21 X_21
  go_wp2_with fail
  obtain ⟨X23, hX23⟩ : ∃ V : World, v22.alloc (Obj.cells #[Value.int IntKind.i64 85, Value.int IntKind.i64 2] 29) = V := ⟨_, rfl⟩
  have hpX23 : Pure v22 X23 := by rw [← hX23]; exact ((Diff.refl v22).alloc _)
  have bV : Blk (v22.heap.size) 29 #[Value.int IntKind.i64 85, Value.int IntKind.i64 2] X23 := by rw [← hX23]; exact (blk0 v22 29 _)
  rw [hX23]
  obtain ⟨g23_0, hg23_0⟩ : ∃ g, v22.heap.size = g := ⟨_, rfl⟩
  rw [hg23_0] at bV ⊢
  have HP_23 := Lib.hid (HP_22.out.trans hpX23)
  have HW_23 := Lib.hid (HW_22.out.to hpX23)
  have S_23 := Lib.hid (S_22.out.to hpX23)
  have P_23 := Lib.hid (P_22.out.to hpX23)
  have C_23 := Lib.hid (C_22.out.to hpX23)
  have D_23 := Lib.hid (D_22.out.to hpX23)
  have X_23 := Lib.hid (X_22.out.to hpX23)
  have V_23 := Lib.hid bV
  clear hX23 hpX23 hg23_0 bV HP_22 HW_22 S_22 P_22 C_22 D_22 X_22
  refine (lline_any X23 1 0 2).mono ?_
  rintro e v24 ⟨rfl, hp⟩
  have HP_24 := Lib.hid (HP_23.out.trans hp)
  have HW_24 := Lib.hid (HW_23.out.to hp)
  have S_24 := Lib.hid (S_23.out.to hp)
  have P_24 := Lib.hid (P_23.out.to hp)
  have C_24 := Lib.hid (C_23.out.to hp)
  have D_24 := Lib.hid (D_23.out.to hp)
  have X_24 := Lib.hid (X_23.out.to hp)
  have V_24 := Lib.hid (V_23.out.to hp)
  clear hp  HP_23 HW_23 S_23 P_23 C_23 D_23 X_23 V_23
  go_wp2_with fail
  refine (k11 HW_24.out cA).mono ?_
  rintro e v25 ⟨rfl, hp⟩
  have HP_25 := Lib.hid (HP_24.out.trans hp)
  have HW_25 := Lib.hid (HW_24.out.to hp)
  have S_25 := Lib.hid (S_24.out.to hp)
  have P_25 := Lib.hid (P_24.out.to hp)
  have C_25 := Lib.hid (C_24.out.to hp)
  have D_25 := Lib.hid (D_24.out.to hp)
  have X_25 := Lib.hid (X_24.out.to hp)
  have V_25 := Lib.hid (V_24.out.to hp)
  clear hp  HP_24 HW_24 S_24 P_24 C_24 D_24 X_24 V_24
  go_wp2_with fail
  obtain ⟨X26, hX26⟩ : ∃ V : World, v25.alloc (Obj.cells #[Value.int IntKind.i64 0, Value.int IntKind.i64 0] 29) = V := ⟨_, rfl⟩
  have hpX26 : Pure v25 X26 := by rw [← hX26]; exact ((Diff.refl v25).alloc _)
  rw [hX26]
  obtain ⟨g26_0, hg26_0⟩ : ∃ g, v25.heap.size = g := ⟨_, rfl⟩
  rw [hg26_0]
  have HP_26 := Lib.hid (HP_25.out.trans hpX26)
  have HW_26 := Lib.hid (HW_25.out.to hpX26)
  have S_26 := Lib.hid (S_25.out.to hpX26)
  have P_26 := Lib.hid (P_25.out.to hpX26)
  have C_26 := Lib.hid (C_25.out.to hpX26)
  have D_26 := Lib.hid (D_25.out.to hpX26)
  have X_26 := Lib.hid (X_25.out.to hpX26)
  have V_26 := Lib.hid (V_25.out.to hpX26)
  clear hX26 hpX26 hg26_0  HP_25 HW_25 S_25 P_25 C_25 D_25 X_25 V_25
  refine (lline_any X26 0 0 0).mono ?_
  rintro e v27 ⟨rfl, hp⟩
  have HP_27 := Lib.hid (HP_26.out.trans hp)
  have HW_27 := Lib.hid (HW_26.out.to hp)
  have S_27 := Lib.hid (S_26.out.to hp)
  have P_27 := Lib.hid (P_26.out.to hp)
  have C_27 := Lib.hid (C_26.out.to hp)
  have D_27 := Lib.hid (D_26.out.to hp)
  have X_27 := Lib.hid (X_26.out.to hp)
  have V_27 := Lib.hid (V_26.out.to hp)
  clear hp  HP_26 HW_26 S_26 P_26 C_26 D_26 X_26 V_26
  go_wp2_with fail
  refine (k12 HW_27.out cA).mono ?_
  rintro e v28 ⟨rfl, hp⟩
  have HP_28 := Lib.hid (HP_27.out.trans hp)
  have HW_28 := Lib.hid (HW_27.out.to hp)
  have S_28 := Lib.hid (S_27.out.to hp)
  have P_28 := Lib.hid (P_27.out.to hp)
  have C_28 := Lib.hid (C_27.out.to hp)
  have D_28 := Lib.hid (D_27.out.to hp)
  have X_28 := Lib.hid (X_27.out.to hp)
  have V_28 := Lib.hid (V_27.out.to hp)
  clear hp  HP_27 HW_27 S_27 P_27 C_27 D_27 X_27 V_27
  go_wp2_with fail
  obtain ⟨X29, hX29⟩ : ∃ V : World, v28.alloc (Obj.cells #[Value.int IntKind.i64 0, Value.int IntKind.i64 0] 29) = V := ⟨_, rfl⟩
  have hpX29 : Pure v28 X29 := by rw [← hX29]; exact ((Diff.refl v28).alloc _)
  rw [hX29]
  obtain ⟨g29_0, hg29_0⟩ : ∃ g, v28.heap.size = g := ⟨_, rfl⟩
  rw [hg29_0]
  have HP_29 := Lib.hid (HP_28.out.trans hpX29)
  have HW_29 := Lib.hid (HW_28.out.to hpX29)
  have S_29 := Lib.hid (S_28.out.to hpX29)
  have P_29 := Lib.hid (P_28.out.to hpX29)
  have C_29 := Lib.hid (C_28.out.to hpX29)
  have D_29 := Lib.hid (D_28.out.to hpX29)
  have X_29 := Lib.hid (X_28.out.to hpX29)
  have V_29 := Lib.hid (V_28.out.to hpX29)
  clear hX29 hpX29 hg29_0  HP_28 HW_28 S_28 P_28 C_28 D_28 X_28 V_28
  refine (k13 HW_29.out cA).mono ?_
  rintro e v30 ⟨rfl, hp⟩
  have HP_30 := Lib.hid (HP_29.out.trans hp)
  have HW_30 := Lib.hid (HW_29.out.to hp)
  have S_30 := Lib.hid (S_29.out.to hp)
  have P_30 := Lib.hid (P_29.out.to hp)
  have C_30 := Lib.hid (C_29.out.to hp)
  have D_30 := Lib.hid (D_29.out.to hp)
  have X_30 := Lib.hid (X_29.out.to hp)
  have V_30 := Lib.hid (V_29.out.to hp)
  clear hp  HP_29 HW_29 S_29 P_29 C_29 D_29 X_29 V_29
  go_wp2_with fail
  obtain ⟨X31, hX31⟩ : ∃ V : World, v30.alloc (Obj.cells #[Value.int IntKind.i64 10, Value.int IntKind.i64 50, Value.int IntKind.i64 15] 45) = V := ⟨_, rfl⟩
  have hpX31 : Pure v30 X31 := by rw [← hX31]; exact ((Diff.refl v30).alloc _)
  have bLI : Blk (v30.heap.size) 45 #[Value.int IntKind.i64 10, Value.int IntKind.i64 50, Value.int IntKind.i64 15] X31 := by rw [← hX31]; exact (blk0 v30 45 _)
  rw [hX31]
  obtain ⟨g31_0, hg31_0⟩ : ∃ g, v30.heap.size = g := ⟨_, rfl⟩
  rw [hg31_0] at bLI ⊢
  have HP_31 := Lib.hid (HP_30.out.trans hpX31)
  have HW_31 := Lib.hid (HW_30.out.to hpX31)
  have S_31 := Lib.hid (S_30.out.to hpX31)
  have P_31 := Lib.hid (P_30.out.to hpX31)
  have C_31 := Lib.hid (C_30.out.to hpX31)
  have D_31 := Lib.hid (D_30.out.to hpX31)
  have X_31 := Lib.hid (X_30.out.to hpX31)
  have V_31 := Lib.hid (V_30.out.to hpX31)
  have LI_31 := Lib.hid bLI
  clear hX31 hpX31 hg31_0 bLI HP_30 HW_30 S_30 P_30 C_30 D_30 X_30 V_30
  refine (k14 HW_31.out cB).mono ?_
  rintro e v32 ⟨rfl, hp⟩
  have HP_32 := Lib.hid (HP_31.out.trans hp)
  have HW_32 := Lib.hid (HW_31.out.to hp)
  have S_32 := Lib.hid (S_31.out.to hp)
  have P_32 := Lib.hid (P_31.out.to hp)
  have C_32 := Lib.hid (C_31.out.to hp)
  have D_32 := Lib.hid (D_31.out.to hp)
  have X_32 := Lib.hid (X_31.out.to hp)
  have V_32 := Lib.hid (V_31.out.to hp)
  have LI_32 := Lib.hid (LI_31.out.to hp)
  clear hp  HP_31 HW_31 S_31 P_31 C_31 D_31 X_31 V_31 LI_31
  go_wp2_with fail
  obtain ⟨X33, hX33⟩ : ∃ V : World, v32.alloc (Obj.cells #[Value.int IntKind.i64 1, Value.int IntKind.i64 20, Value.int IntKind.i64 0] 45) = V := ⟨_, rfl⟩
  have hpX33 : Pure v32 X33 := by rw [← hX33]; exact ((Diff.refl v32).alloc _)
  have bFL : Blk (v32.heap.size) 45 #[Value.int IntKind.i64 1, Value.int IntKind.i64 20, Value.int IntKind.i64 0] X33 := by rw [← hX33]; exact (blk0 v32 45 _)
  rw [hX33]
  obtain ⟨g33_0, hg33_0⟩ : ∃ g, v32.heap.size = g := ⟨_, rfl⟩
  rw [hg33_0] at bFL ⊢
  have HP_33 := Lib.hid (HP_32.out.trans hpX33)
  have HW_33 := Lib.hid (HW_32.out.to hpX33)
  have S_33 := Lib.hid (S_32.out.to hpX33)
  have P_33 := Lib.hid (P_32.out.to hpX33)
  have C_33 := Lib.hid (C_32.out.to hpX33)
  have D_33 := Lib.hid (D_32.out.to hpX33)
  have X_33 := Lib.hid (X_32.out.to hpX33)
  have V_33 := Lib.hid (V_32.out.to hpX33)
  have LI_33 := Lib.hid (LI_32.out.to hpX33)
  have FL_33 := Lib.hid bFL
  clear hX33 hpX33 hg33_0 bFL HP_32 HW_32 S_32 P_32 C_32 D_32 X_32 V_32 LI_32
  refine (k15 HW_33.out cA).mono ?_
  rintro e v34 ⟨⟨qk, ck, rfl, hx⟩, hp⟩
  have HP_34 := Lib.hid (HP_33.out.trans hp)
  have HW_34 := Lib.hid (HW_33.out.to hp)
  have S_34 := Lib.hid (S_33.out.to hp)
  have P_34 := Lib.hid (P_33.out.to hp)
  have C_34 := Lib.hid (C_33.out.to hp)
  have D_34 := Lib.hid (D_33.out.to hp)
  have X_34 := Lib.hid (X_33.out.to hp)
  have V_34 := Lib.hid (V_33.out.to hp)
  have LI_34 := Lib.hid (LI_33.out.to hp)
  have FL_34 := Lib.hid (FL_33.out.to hp)
  have K_34 := Lib.hid hx
  clear hp hx HP_33 HW_33 S_33 P_33 C_33 D_33 X_33 V_33 LI_33 FL_33
  go_wp2_with fail
  refine (k16 HW_34.out cA).mono ?_
  rintro e v35 ⟨⟨qi, ci, rfl, hx⟩, hp⟩
  have HP_35 := Lib.hid (HP_34.out.trans hp)
  have HW_35 := Lib.hid (HW_34.out.to hp)
  have S_35 := Lib.hid (S_34.out.to hp)
  have P_35 := Lib.hid (P_34.out.to hp)
  have C_35 := Lib.hid (C_34.out.to hp)
  have D_35 := Lib.hid (D_34.out.to hp)
  have X_35 := Lib.hid (X_34.out.to hp)
  have V_35 := Lib.hid (V_34.out.to hp)
  have LI_35 := Lib.hid (LI_34.out.to hp)
  have FL_35 := Lib.hid (FL_34.out.to hp)
  have K_35 := Lib.hid (K_34.out.to hp)
  have I_35 := Lib.hid hx
  clear hp hx HP_34 HW_34 S_34 P_34 C_34 D_34 X_34 V_34 LI_34 FL_34 K_34
  go_wp2_with fail
  refine (k17 HW_35.out cA).mono ?_
  rintro e v36 ⟨rfl, hp⟩
  have HP_36 := Lib.hid (HP_35.out.trans hp)
  have HW_36 := Lib.hid (HW_35.out.to hp)
  have S_36 := Lib.hid (S_35.out.to hp)
  have P_36 := Lib.hid (P_35.out.to hp)
  have C_36 := Lib.hid (C_35.out.to hp)
  have D_36 := Lib.hid (D_35.out.to hp)
  have X_36 := Lib.hid (X_35.out.to hp)
  have V_36 := Lib.hid (V_35.out.to hp)
  have LI_36 := Lib.hid (LI_35.out.to hp)
  have FL_36 := Lib.hid (FL_35.out.to hp)
  have K_36 := Lib.hid (K_35.out.to hp)
  have I_36 := Lib.hid (I_35.out.to hp)
  clear hp  HP_35 HW_35 S_35 P_35 C_35 D_35 X_35 V_35 LI_35 FL_35 K_35 I_35
  go_wp2_with fail
  refine (k18 HW_36.out cA).mono ?_
  rintro e v37 ⟨rfl, hp⟩
  have HP_37 := Lib.hid (HP_36.out.trans hp)
  have HW_37 := Lib.hid (HW_36.out.to hp)
  have S_37 := Lib.hid (S_36.out.to hp)
  have P_37 := Lib.hid (P_36.out.to hp)
  have C_37 := Lib.hid (C_36.out.to hp)
  have D_37 := Lib.hid (D_36.out.to hp)
  have X_37 := Lib.hid (X_36.out.to hp)
  have V_37 := Lib.hid (V_36.out.to hp)
  have LI_37 := Lib.hid (LI_36.out.to hp)
  have FL_37 := Lib.hid (FL_36.out.to hp)
  have K_37 := Lib.hid (K_36.out.to hp)
  have I_37 := Lib.hid (I_36.out.to hp)
  clear hp  HP_36 HW_36 S_36 P_36 C_36 D_36 X_36 V_36 LI_36 FL_36 K_36 I_36
  go_wp2_with fail
  refine (k19 HW_37.out cA).mono ?_
  rintro e v38 ⟨rfl, hp⟩
  have HP_38 := Lib.hid (HP_37.out.trans hp)
  have HW_38 := Lib.hid (HW_37.out.to hp)
  have S_38 := Lib.hid (S_37.out.to hp)
  have P_38 := Lib.hid (P_37.out.to hp)
  have C_38 := Lib.hid (C_37.out.to hp)
  have D_38 := Lib.hid (D_37.out.to hp)
  have X_38 := Lib.hid (X_37.out.to hp)
  have V_38 := Lib.hid (V_37.out.to hp)
  have LI_38 := Lib.hid (LI_37.out.to hp)
  have FL_38 := Lib.hid (FL_37.out.to hp)
  have K_38 := Lib.hid (K_37.out.to hp)
  have I_38 := Lib.hid (I_37.out.to hp)
  clear hp  HP_37 HW_37 S_37 P_37 C_37 D_37 X_37 V_37 LI_37 FL_37 K_37 I_37
  go_wp2_with fail
  refine (k20 HW_38.out cA 5 X_38.out).mono ?_
  rintro e v39 ⟨rfl, hp⟩
  have HP_39 := Lib.hid (HP_38.out.trans hp)
  have HW_39 := Lib.hid (HW_38.out.to hp)
  have S_39 := Lib.hid (S_38.out.to hp)
  have P_39 := Lib.hid (P_38.out.to hp)
  have C_39 := Lib.hid (C_38.out.to hp)
  have D_39 := Lib.hid (D_38.out.to hp)
  have X_39 := Lib.hid (X_38.out.to hp)
  have V_39 := Lib.hid (V_38.out.to hp)
  have LI_39 := Lib.hid (LI_38.out.to hp)
  have FL_39 := Lib.hid (FL_38.out.to hp)
  have K_39 := Lib.hid (K_38.out.to hp)
  have I_39 := Lib.hid (I_38.out.to hp)
  clear hp  HP_38 HW_38 S_38 P_38 C_38 D_38 X_38 V_38 LI_38 FL_38 K_38 I_38
  have c0 := LI_39.out.at 0
  have c1 := LI_39.out.at 1
  have c2 := LI_39.out.at 2
  have cl := LI_39.out.lt
  go_wp2_with fail
  clear c0 c1 c2 cl
  obtain ⟨X40, hX40⟩ : ∃ V : World, (v39.alloc (Obj.cells #[Value.int IntKind.i64 25, Value.int IntKind.i64 1] 29)).alloc (Obj.cells #[Value.int IntKind.i64 85, Value.int IntKind.i64 2] 29) = V := ⟨_, rfl⟩
  have hpX40 : Pure v39 X40 := by rw [← hX40]; exact (((Diff.refl v39).alloc _).alloc _)
  have bT : Blk (v39.heap.size) 29 #[Value.int IntKind.i64 25, Value.int IntKind.i64 1] X40 := by rw [← hX40]; exact ((blk0 v39 29 _).alloc _)
  have bQ : Blk (v39.heap.size + 1) 29 #[Value.int IntKind.i64 85, Value.int IntKind.i64 2] X40 := by rw [← hX40]; exact (blk1 v39 _ 29 _)
  rw [hX40]
  obtain ⟨g40_0, hg40_0⟩ : ∃ g, v39.heap.size = g := ⟨_, rfl⟩
  rw [hg40_0] at bT bQ ⊢
  obtain ⟨g40_1, hg40_1⟩ : ∃ g, g40_0 + 1 = g := ⟨_, rfl⟩
  rw [hg40_1] at bQ ⊢
  have HP_40 := Lib.hid (HP_39.out.trans hpX40)
  have HW_40 := Lib.hid (HW_39.out.to hpX40)
  have S_40 := Lib.hid (S_39.out.to hpX40)
  have P_40 := Lib.hid (P_39.out.to hpX40)
  have C_40 := Lib.hid (C_39.out.to hpX40)
  have D_40 := Lib.hid (D_39.out.to hpX40)
  have X_40 := Lib.hid (X_39.out.to hpX40)
  have V_40 := Lib.hid (V_39.out.to hpX40)
  have LI_40 := Lib.hid (LI_39.out.to hpX40)
  have FL_40 := Lib.hid (FL_39.out.to hpX40)
  have K_40 := Lib.hid (K_39.out.to hpX40)
  have I_40 := Lib.hid (I_39.out.to hpX40)
  have T_40 := Lib.hid bT
  have Q_40 := Lib.hid bQ
  clear hX40 hpX40 hg40_1 hg40_0 bT bQ HP_39 HW_39 S_39 P_39 C_39 D_39 X_39 V_39 LI_39 FL_39 K_39 I_39
  refine (k21 HW_40.out cA).mono ?_
  rintro e v41 ⟨rfl, hp⟩
  have HP_41 := Lib.hid (HP_40.out.trans hp)
  have HW_41 := Lib.hid (HW_40.out.to hp)
  have S_41 := Lib.hid (S_40.out.to hp)
  have P_41 := Lib.hid (P_40.out.to hp)
  have C_41 := Lib.hid (C_40.out.to hp)
  have D_41 := Lib.hid (D_40.out.to hp)
  have X_41 := Lib.hid (X_40.out.to hp)
  have V_41 := Lib.hid (V_40.out.to hp)
  have LI_41 := Lib.hid (LI_40.out.to hp)
  have FL_41 := Lib.hid (FL_40.out.to hp)
  have K_41 := Lib.hid (K_40.out.to hp)
  have I_41 := Lib.hid (I_40.out.to hp)
  have T_41 := Lib.hid (T_40.out.to hp)
  have Q_41 := Lib.hid (Q_40.out.to hp)
  clear hp  HP_40 HW_40 S_40 P_40 C_40 D_40 X_40 V_40 LI_40 FL_40 K_40 I_40 T_40 Q_40
  have c0 := FL_41.out.at 0
  have c1 := FL_41.out.at 1
  have c2 := FL_41.out.at 2
  have cl := FL_41.out.lt
  go_wp2_with fail
  clear c0 c1 c2 cl
  obtain ⟨X42, hX42⟩ : ∃ V : World, v41.alloc (Obj.cells #[Value.int IntKind.i64 85, Value.int IntKind.i64 2] 29) = V := ⟨_, rfl⟩
  have hpX42 : Pure v41 X42 := by rw [← hX42]; exact ((Diff.refl v41).alloc _)
  have bW : Blk (v41.heap.size) 29 #[Value.int IntKind.i64 85, Value.int IntKind.i64 2] X42 := by rw [← hX42]; exact (blk0 v41 29 _)
  rw [hX42]
  obtain ⟨g42_0, hg42_0⟩ : ∃ g, v41.heap.size = g := ⟨_, rfl⟩
  rw [hg42_0] at bW ⊢
  have HP_42 := Lib.hid (HP_41.out.trans hpX42)
  have HW_42 := Lib.hid (HW_41.out.to hpX42)
  have S_42 := Lib.hid (S_41.out.to hpX42)
  have P_42 := Lib.hid (P_41.out.to hpX42)
  have C_42 := Lib.hid (C_41.out.to hpX42)
  have D_42 := Lib.hid (D_41.out.to hpX42)
  have X_42 := Lib.hid (X_41.out.to hpX42)
  have V_42 := Lib.hid (V_41.out.to hpX42)
  have LI_42 := Lib.hid (LI_41.out.to hpX42)
  have FL_42 := Lib.hid (FL_41.out.to hpX42)
  have K_42 := Lib.hid (K_41.out.to hpX42)
  have I_42 := Lib.hid (I_41.out.to hpX42)
  have T_42 := Lib.hid (T_41.out.to hpX42)
  have Q_42 := Lib.hid (Q_41.out.to hpX42)
  have W_42 := Lib.hid bW
  clear hX42 hpX42 hg42_0 bW HP_41 HW_41 S_41 P_41 C_41 D_41 X_41 V_41 LI_41 FL_41 K_41 I_41 T_41 Q_41
  refine (k22 HW_42.out cB).mono ?_
  rintro e v43 ⟨rfl, hp⟩
  have HP_43 := Lib.hid (HP_42.out.trans hp)
  have HW_43 := Lib.hid (HW_42.out.to hp)
  have S_43 := Lib.hid (S_42.out.to hp)
  have P_43 := Lib.hid (P_42.out.to hp)
  have C_43 := Lib.hid (C_42.out.to hp)
  have D_43 := Lib.hid (D_42.out.to hp)
  have X_43 := Lib.hid (X_42.out.to hp)
  have V_43 := Lib.hid (V_42.out.to hp)
  have LI_43 := Lib.hid (LI_42.out.to hp)
  have FL_43 := Lib.hid (FL_42.out.to hp)
  have K_43 := Lib.hid (K_42.out.to hp)
  have I_43 := Lib.hid (I_42.out.to hp)
  have T_43 := Lib.hid (T_42.out.to hp)
  have Q_43 := Lib.hid (Q_42.out.to hp)
  have W_43 := Lib.hid (W_42.out.to hp)
  clear hp  HP_42 HW_42 S_42 P_42 C_42 D_42 X_42 V_42 LI_42 FL_42 K_42 I_42 T_42 Q_42 W_42
  go_wp2_with fail
  obtain ⟨X44, hX44⟩ : ∃ V : World, v43.alloc (Obj.cells #[Value.int IntKind.i64 20, Value.int IntKind.i64 1] 29) = V := ⟨_, rfl⟩
  have hpX44 : Pure v43 X44 := by rw [← hX44]; exact ((Diff.refl v43).alloc _)
  have bZ : Blk (v43.heap.size) 29 #[Value.int IntKind.i64 20, Value.int IntKind.i64 1] X44 := by rw [← hX44]; exact (blk0 v43 29 _)
  rw [hX44]
  obtain ⟨g44_0, hg44_0⟩ : ∃ g, v43.heap.size = g := ⟨_, rfl⟩
  rw [hg44_0] at bZ ⊢
  have HP_44 := Lib.hid (HP_43.out.trans hpX44)
  have HW_44 := Lib.hid (HW_43.out.to hpX44)
  have S_44 := Lib.hid (S_43.out.to hpX44)
  have P_44 := Lib.hid (P_43.out.to hpX44)
  have C_44 := Lib.hid (C_43.out.to hpX44)
  have D_44 := Lib.hid (D_43.out.to hpX44)
  have X_44 := Lib.hid (X_43.out.to hpX44)
  have V_44 := Lib.hid (V_43.out.to hpX44)
  have LI_44 := Lib.hid (LI_43.out.to hpX44)
  have FL_44 := Lib.hid (FL_43.out.to hpX44)
  have K_44 := Lib.hid (K_43.out.to hpX44)
  have I_44 := Lib.hid (I_43.out.to hpX44)
  have T_44 := Lib.hid (T_43.out.to hpX44)
  have Q_44 := Lib.hid (Q_43.out.to hpX44)
  have W_44 := Lib.hid (W_43.out.to hpX44)
  have Z_44 := Lib.hid bZ
  clear hX44 hpX44 hg44_0 bZ HP_43 HW_43 S_43 P_43 C_43 D_43 X_43 V_43 LI_43 FL_43 K_43 I_43 T_43 Q_43 W_43
  obtain ⟨gS, hgS⟩ : ∃ g, g3_0 = g := ⟨_, rfl⟩
  obtain ⟨gP, hgP⟩ : ∃ g, g3_1 = g := ⟨_, rfl⟩
  obtain ⟨gC, hgC⟩ : ∃ g, g11_0 = g := ⟨_, rfl⟩
  obtain ⟨gD, hgD⟩ : ∃ g, g17_0 = g := ⟨_, rfl⟩
  obtain ⟨gV, hgV⟩ : ∃ g, g23_0 = g := ⟨_, rfl⟩
  obtain ⟨gT, hgT⟩ : ∃ g, g40_0 = g := ⟨_, rfl⟩
  obtain ⟨gQ, hgQ⟩ : ∃ g, g40_1 = g := ⟨_, rfl⟩
  obtain ⟨gW, hgW⟩ : ∃ g, g42_0 = g := ⟨_, rfl⟩
  obtain ⟨gZ, hgZ⟩ : ∃ g, g44_0 = g := ⟨_, rfl⟩
  obtain ⟨gF, hgF⟩ : ∃ g, g33_0 = g := ⟨_, rfl⟩
  rw [hgS] at S_44
  rw [hgP] at P_44
  rw [hgC] at C_44
  rw [hgD] at D_44
  rw [hgV] at V_44
  rw [hgT] at T_44
  rw [hgQ] at Q_44
  rw [hgW] at W_44
  rw [hgZ] at Z_44
  rw [hgF] at FL_44
  rw [hgS, hgP, hgC, hgD, hgV, hgT, hgQ, hgW, hgZ, hgF]
  clear hgS hgP hgC hgD hgV hgT hgQ hgW hgZ hgF
  simp only [List.append_eq, List.cons_append, List.nil_append, List.append_toArray, List.append_nil]
  refine reg_invW (fun d a W => SF 326 w26S (w26B gS gP gC gD gV gT gQ gW gZ gF qk qi ck ci) w26J w26D (w26V gS gP gC gD gV gT gQ gW gZ gF qk qi ck ci) d a ∧ W26X X44 d a W) hmx (by kernel_rfl) ?_ ?_ ?_
  · refine ⟨SF.start rfl rfl (fun s hs => ?_), ?_⟩
    · simp only [w26S, List.mem_cons, List.mem_nil_iff, or_false] at hs
      rcases hs with rfl | rfl | rfl | rfl | rfl | rfl | rfl | rfl | rfl | rfl | rfl | rfl | rfl | rfl | rfl | rfl <;> rfl
    · exact W26X.start (Diff.refl X44).drew
  · refine ⟨?_, ?_, ?_, ?_, ?_, ?_, ?_, ?_, ?_, ?_, ?_, ?_, ?_, ?_, ?_, ?_, ?_, ?_, ?_, ?_, ?_, ?_, ?_, ?_, ?_, ?_, ?_, ?_, ?_, ?_, ?_, ?_, ?_, ?_, ?_, ?_, ?_, ?_, ?_, ?_, ?_, ?_, ?_, ?_, ?_, ?_, ?_, ?_, ?_, ?_, ?_, ?_, ?_, ?_, ?_, ?_, ?_, ?_, ?_, ?_, ?_, ?_, ?_, ?_, ?_, ?_, ?_, ?_, ?_, ?_, ?_, ?_, ?_, ?_, ?_, ?_, ?_, trivial⟩
    · rintro d a W hdi hdep hcl ⟨hF, hX⟩ K hK
      have E := hcl.facts 0 hdi rfl hdep [] [] (by kernel_rfl) (by kernel_rfl)
      simp only [AllT, AllF] at E
      rw [if_pos (wanted_free rfl)]
      have o0 : At a 3 (Value.pointer (some { block := gS, off := 0 })) := hF.base 3 (by decide)
      have kz := S_44.out.to hX.pure
      refine wp_load_two _ rfl o0.eval (kz.at 0) (kz.at 1) kz.lt ?_
      exact hK _ _ ⟨hF.put 0 (Value.agg #[Value.int IntKind.i64 25, Value.int IntKind.i64 1]) 250 (by omega) (by kernel_rfl) (by kernel_rfl) (.inl ⟨rfl, rfl⟩), hX.put (Diff.refl _) 0 250 _ (by decide) (by decide)⟩
    · rintro d a W hdi hdep hcl ⟨hF, hX⟩ K hK
      have E := hcl.facts 1 hdi rfl hdep [] [] (by kernel_rfl) (by kernel_rfl)
      simp only [AllT, AllF] at E
      rw [if_pos (wanted_free rfl)]
      refine wp_call_at 31 (enters_of Tryd.func31 (by kernel_rfl) rfl) _ _ rfl #[Value.int IntKind.i64 25, Value.int IntKind.i64 1] (by simp [Act.eval]) (lby_any _ 25 1) ?_
      intro W' hp
      exact hK _ _ ⟨hF.put 1 (Value.agg #[Value.int IntKind.i64 25, Value.int IntKind.i64 1]) 251 (by omega) (by kernel_rfl) (by kernel_rfl) (.inl ⟨rfl, rfl⟩), hX.put hp 1 251 _ (by decide) (by decide)⟩
    · rintro d a W hdi hdep hcl ⟨hF, hX⟩ K hK
      have E := hcl.facts 2 hdi rfl hdep [0, 1] [] (by kernel_rfl) (by kernel_rfl)
      simp only [AllT, AllF] at E
      rw [if_pos (wanted_free rfl)]
      have o0 : At a 250 (Value.agg #[Value.int IntKind.i64 25, Value.int IntKind.i64 1]) := hF.done 0 (by decide) (by simp only [E])
      have o1 : At a 251 (Value.agg #[Value.int IntKind.i64 25, Value.int IntKind.i64 1]) := hF.done 1 (by decide) (by simp only [E])
      refine wp_eql_two _ _ _ rfl o0.eval o1.eval ?_
      exact hK _ _ ⟨hF.put 2 (Value.bool true) 252 (by omega) (by kernel_rfl) (by kernel_rfl) (.inl ⟨rfl, rfl⟩), hX.put (Diff.refl _) 2 252 _ (by decide) (by decide)⟩
    · rintro d a W hdi hdep hcl ⟨hF, hX⟩ K hK
      have E := hcl.facts 3 hdi rfl hdep [1, 2] [] (by kernel_rfl) (by kernel_rfl)
      simp only [AllT, AllF] at E
      rw [if_pos (wanted_free rfl)]
      have o0 : At a 252 (Value.bool true) := hF.done 2 (by decide) (by simp only [E])
      refine wp_move_at _ rfl o0.eval ?_
      exact hK _ _ ⟨hF.put 3 (Value.bool true) 253 (by omega) (by kernel_rfl) (by kernel_rfl) (.inl ⟨rfl, rfl⟩), hX.put (Diff.refl _) 3 253 _ (by decide) (by decide)⟩
    · rintro d a W hdi hdep hcl ⟨hF, hX⟩ K hK
      have E := hcl.facts 4 hdi rfl hdep [3] [] (by kernel_rfl) (by kernel_rfl)
      simp only [AllT, AllF] at E
      have o0 : At a 253 (Value.bool true) := hF.done 3 (by decide) (by simp only [E])
      rw [if_pos (wanted_at (g := 3) (b := true) (s := 253) rfl rfl o0)]
      have o1 : At a 4 (Value.pointer (some { block := gP, off := 0 })) := hF.base 4 (by decide)
      have kz := P_44.out.to hX.pure
      refine wp_load_two _ rfl o1.eval (kz.at 0) (kz.at 1) kz.lt ?_
      exact hK _ _ ⟨hF.put 4 (Value.agg #[Value.int IntKind.i64 85, Value.int IntKind.i64 2]) 254 (by omega) (by kernel_rfl) (by kernel_rfl) (.inl ⟨rfl, rfl⟩), hX.put (Diff.refl _) 4 254 _ (by decide) (by decide)⟩
    · rintro d a W hdi hdep hcl ⟨hF, hX⟩ K hK
      have E := hcl.facts 5 hdi rfl hdep [3] [] (by kernel_rfl) (by kernel_rfl)
      simp only [AllT, AllF] at E
      have o0 : At a 253 (Value.bool true) := hF.done 3 (by decide) (by simp only [E])
      rw [if_pos (wanted_at (g := 3) (b := true) (s := 253) rfl rfl o0)]
      refine wp_call_at 31 (enters_of Tryd.func31 (by kernel_rfl) rfl) _ _ rfl #[Value.int IntKind.i64 85, Value.int IntKind.i64 2] (by simp [Act.eval]) (lby_any _ 85 2) ?_
      intro W' hp
      exact hK _ _ ⟨hF.put 5 (Value.agg #[Value.int IntKind.i64 85, Value.int IntKind.i64 2]) 255 (by omega) (by kernel_rfl) (by kernel_rfl) (.inl ⟨rfl, rfl⟩), hX.put hp 5 255 _ (by decide) (by decide)⟩
    · rintro d a W hdi hdep hcl ⟨hF, hX⟩ K hK
      have E := hcl.facts 6 hdi rfl hdep [3, 4, 5] [] (by kernel_rfl) (by kernel_rfl)
      simp only [AllT, AllF] at E
      have o0 : At a 253 (Value.bool true) := hF.done 3 (by decide) (by simp only [E])
      rw [if_pos (wanted_at (g := 3) (b := true) (s := 253) rfl rfl o0)]
      have o1 : At a 254 (Value.agg #[Value.int IntKind.i64 85, Value.int IntKind.i64 2]) := hF.done 4 (by decide) (by simp only [E])
      have o2 : At a 255 (Value.agg #[Value.int IntKind.i64 85, Value.int IntKind.i64 2]) := hF.done 5 (by decide) (by simp only [E])
      refine wp_eql_two _ _ _ rfl o1.eval o2.eval ?_
      exact hK _ _ ⟨hF.put 6 (Value.bool true) 256 (by omega) (by kernel_rfl) (by kernel_rfl) (.inl ⟨rfl, rfl⟩), hX.put (Diff.refl _) 6 256 _ (by decide) (by decide)⟩
    · rintro d a W hdi hdep hcl ⟨hF, hX⟩ K hK
      have E := hcl.facts 7 hdi rfl hdep [3, 6] [] (by kernel_rfl) (by kernel_rfl)
      simp only [AllT, AllF] at E
      rw [if_pos (wanted_free rfl)]
      have o0 : At a 253 (Value.bool true) := hF.done 3 (by decide) (by simp only [E])
      have o1 : At a 256 (Value.bool true) := hF.done 6 (by decide) (by simp only [E])
      refine wp_pick_true _ _ _ rfl o0.eval o1.eval ?_
      exact hK _ _ ⟨hF.put 7 (Value.bool true) 257 (by omega) (by kernel_rfl) (by kernel_rfl) (.inl ⟨rfl, rfl⟩), hX.put (Diff.refl _) 7 257 _ (by decide) (by decide)⟩
    · rintro d a W hdi hdep hcl ⟨hF, hX⟩ K hK
      have E := hcl.facts 8 hdi rfl hdep [5, 7] [] (by kernel_rfl) (by kernel_rfl)
      simp only [AllT, AllF] at E
      rw [if_pos (wanted_free rfl)]
      have o0 : At a 257 (Value.bool true) := hF.done 7 (by decide) (by simp only [E])
      refine wp_move_at _ rfl o0.eval ?_
      exact hK _ _ ⟨hF.put 8 (Value.bool true) 258 (by omega) (by kernel_rfl) (by kernel_rfl) (.inl ⟨rfl, rfl⟩), hX.put (Diff.refl _) 8 258 _ (by decide) (by decide)⟩
    · rintro d a W hdi hdep hcl ⟨hF, hX⟩ K hK
      have E := hcl.facts 9 hdi rfl hdep [8] [] (by kernel_rfl) (by kernel_rfl)
      simp only [AllT, AllF] at E
      have o0 : At a 258 (Value.bool true) := hF.done 8 (by decide) (by simp only [E])
      rw [if_pos (wanted_at (g := 8) (b := true) (s := 258) rfl rfl o0)]
      have o1 : At a 12 (Value.pointer (some { block := gC, off := 0 })) := hF.base 12 (by decide)
      have kz := C_44.out.to hX.pure
      refine wp_load_two _ rfl o1.eval (kz.at 0) (kz.at 1) kz.lt ?_
      exact hK _ _ ⟨hF.put 9 (Value.agg #[Value.int IntKind.i64 85, Value.int IntKind.i64 2]) 259 (by omega) (by kernel_rfl) (by kernel_rfl) (.inl ⟨rfl, rfl⟩), hX.put (Diff.refl _) 9 259 _ (by decide) (by decide)⟩
    · rintro d a W hdi hdep hcl ⟨hF, hX⟩ K hK
      have E := hcl.facts 10 hdi rfl hdep [8] [] (by kernel_rfl) (by kernel_rfl)
      simp only [AllT, AllF] at E
      have o0 : At a 258 (Value.bool true) := hF.done 8 (by decide) (by simp only [E])
      rw [if_pos (wanted_at (g := 8) (b := true) (s := 258) rfl rfl o0)]
      have o1 : At a 4 (Value.pointer (some { block := gP, off := 0 })) := hF.base 4 (by decide)
      have kz := P_44.out.to hX.pure
      refine wp_load_two _ rfl o1.eval (kz.at 0) (kz.at 1) kz.lt ?_
      exact hK _ _ ⟨hF.put 10 (Value.agg #[Value.int IntKind.i64 85, Value.int IntKind.i64 2]) 260 (by omega) (by kernel_rfl) (by kernel_rfl) (.inl ⟨rfl, rfl⟩), hX.put (Diff.refl _) 10 260 _ (by decide) (by decide)⟩
    · rintro d a W hdi hdep hcl ⟨hF, hX⟩ K hK
      have E := hcl.facts 11 hdi rfl hdep [8, 9, 10] [] (by kernel_rfl) (by kernel_rfl)
      simp only [AllT, AllF] at E
      have o0 : At a 258 (Value.bool true) := hF.done 8 (by decide) (by simp only [E])
      rw [if_pos (wanted_at (g := 8) (b := true) (s := 258) rfl rfl o0)]
      have o1 : At a 259 (Value.agg #[Value.int IntKind.i64 85, Value.int IntKind.i64 2]) := hF.done 9 (by decide) (by simp only [E])
      have o2 : At a 260 (Value.agg #[Value.int IntKind.i64 85, Value.int IntKind.i64 2]) := hF.done 10 (by decide) (by simp only [E])
      refine wp_eql_two _ _ _ rfl o1.eval o2.eval ?_
      exact hK _ _ ⟨hF.put 11 (Value.bool true) 261 (by omega) (by kernel_rfl) (by kernel_rfl) (.inl ⟨rfl, rfl⟩), hX.put (Diff.refl _) 11 261 _ (by decide) (by decide)⟩
    · rintro d a W hdi hdep hcl ⟨hF, hX⟩ K hK
      have E := hcl.facts 12 hdi rfl hdep [8, 11] [] (by kernel_rfl) (by kernel_rfl)
      simp only [AllT, AllF] at E
      rw [if_pos (wanted_free rfl)]
      have o0 : At a 258 (Value.bool true) := hF.done 8 (by decide) (by simp only [E])
      have o1 : At a 261 (Value.bool true) := hF.done 11 (by decide) (by simp only [E])
      refine wp_pick_true _ _ _ rfl o0.eval o1.eval ?_
      exact hK _ _ ⟨hF.put 12 (Value.bool true) 262 (by omega) (by kernel_rfl) (by kernel_rfl) (.inl ⟨rfl, rfl⟩), hX.put (Diff.refl _) 12 262 _ (by decide) (by decide)⟩
    · rintro d a W hdi hdep hcl ⟨hF, hX⟩ K hK
      have E := hcl.facts 13 hdi rfl hdep [8, 12] [] (by kernel_rfl) (by kernel_rfl)
      simp only [AllT, AllF] at E
      rw [if_pos (wanted_free rfl)]
      have o0 : At a 262 (Value.bool true) := hF.done 12 (by decide) (by simp only [E])
      refine wp_move_at _ rfl o0.eval ?_
      exact hK _ _ ⟨hF.put 13 (Value.bool true) 263 (by omega) (by kernel_rfl) (by kernel_rfl) (.inl ⟨rfl, rfl⟩), hX.put (Diff.refl _) 13 263 _ (by decide) (by decide)⟩
    · rintro d a W hdi hdep hcl ⟨hF, hX⟩ K hK
      have E := hcl.facts 14 hdi rfl hdep [13] [] (by kernel_rfl) (by kernel_rfl)
      simp only [AllT, AllF] at E
      have o0 : At a 263 (Value.bool true) := hF.done 13 (by decide) (by simp only [E])
      rw [if_pos (wanted_at (g := 13) (b := true) (s := 263) rfl rfl o0)]
      have o1 : At a 18 (Value.pointer (some { block := gD, off := 0 })) := hF.base 18 (by decide)
      have kz := D_44.out.to hX.pure
      refine wp_load_two _ rfl o1.eval (kz.at 0) (kz.at 1) kz.lt ?_
      exact hK _ _ ⟨hF.put 14 (Value.agg #[Value.int IntKind.i64 20, Value.int IntKind.i64 1]) 264 (by omega) (by kernel_rfl) (by kernel_rfl) (.inl ⟨rfl, rfl⟩), hX.put (Diff.refl _) 14 264 _ (by decide) (by decide)⟩
    · rintro d a W hdi hdep hcl ⟨hF, hX⟩ K hK
      have E := hcl.facts 15 hdi rfl hdep [13] [] (by kernel_rfl) (by kernel_rfl)
      simp only [AllT, AllF] at E
      have o0 : At a 263 (Value.bool true) := hF.done 13 (by decide) (by simp only [E])
      rw [if_pos (wanted_at (g := 13) (b := true) (s := 263) rfl rfl o0)]
      refine wp_call_at 31 (enters_of Tryd.func31 (by kernel_rfl) rfl) _ _ rfl #[Value.int IntKind.i64 20, Value.int IntKind.i64 1] (by simp [Act.eval]) (lby_any _ 20 1) ?_
      intro W' hp
      exact hK _ _ ⟨hF.put 15 (Value.agg #[Value.int IntKind.i64 20, Value.int IntKind.i64 1]) 265 (by omega) (by kernel_rfl) (by kernel_rfl) (.inl ⟨rfl, rfl⟩), hX.put hp 15 265 _ (by decide) (by decide)⟩
    · rintro d a W hdi hdep hcl ⟨hF, hX⟩ K hK
      have E := hcl.facts 16 hdi rfl hdep [13, 14, 15] [] (by kernel_rfl) (by kernel_rfl)
      simp only [AllT, AllF] at E
      have o0 : At a 263 (Value.bool true) := hF.done 13 (by decide) (by simp only [E])
      rw [if_pos (wanted_at (g := 13) (b := true) (s := 263) rfl rfl o0)]
      have o1 : At a 264 (Value.agg #[Value.int IntKind.i64 20, Value.int IntKind.i64 1]) := hF.done 14 (by decide) (by simp only [E])
      have o2 : At a 265 (Value.agg #[Value.int IntKind.i64 20, Value.int IntKind.i64 1]) := hF.done 15 (by decide) (by simp only [E])
      refine wp_eql_two _ _ _ rfl o1.eval o2.eval ?_
      exact hK _ _ ⟨hF.put 16 (Value.bool true) 266 (by omega) (by kernel_rfl) (by kernel_rfl) (.inl ⟨rfl, rfl⟩), hX.put (Diff.refl _) 16 266 _ (by decide) (by decide)⟩
    · rintro d a W hdi hdep hcl ⟨hF, hX⟩ K hK
      have E := hcl.facts 17 hdi rfl hdep [13, 16] [] (by kernel_rfl) (by kernel_rfl)
      simp only [AllT, AllF] at E
      rw [if_pos (wanted_free rfl)]
      have o0 : At a 263 (Value.bool true) := hF.done 13 (by decide) (by simp only [E])
      have o1 : At a 266 (Value.bool true) := hF.done 16 (by decide) (by simp only [E])
      refine wp_pick_true _ _ _ rfl o0.eval o1.eval ?_
      exact hK _ _ ⟨hF.put 17 (Value.bool true) 267 (by omega) (by kernel_rfl) (by kernel_rfl) (.inl ⟨rfl, rfl⟩), hX.put (Diff.refl _) 17 267 _ (by decide) (by decide)⟩
    · rintro d a W hdi hdep hcl ⟨hF, hX⟩ K hK
      have E := hcl.facts 18 hdi rfl hdep [15, 17] [] (by kernel_rfl) (by kernel_rfl)
      simp only [AllT, AllF] at E
      rw [if_pos (wanted_free rfl)]
      have o0 : At a 267 (Value.bool true) := hF.done 17 (by decide) (by simp only [E])
      refine wp_move_at _ rfl o0.eval ?_
      exact hK _ _ ⟨hF.put 18 (Value.bool true) 268 (by omega) (by kernel_rfl) (by kernel_rfl) (.inl ⟨rfl, rfl⟩), hX.put (Diff.refl _) 18 268 _ (by decide) (by decide)⟩
    · rintro d a W hdi hdep hcl ⟨hF, hX⟩ K hK
      have E := hcl.facts 19 hdi rfl hdep [18] [] (by kernel_rfl) (by kernel_rfl)
      simp only [AllT, AllF] at E
      have o0 : At a 268 (Value.bool true) := hF.done 18 (by decide) (by simp only [E])
      rw [if_pos (wanted_at (g := 18) (b := true) (s := 268) rfl rfl o0)]
      have o1 : At a 5 (Value.int IntKind.i64 0) := hF.base 5 (by decide)
      refine wp_move_at _ rfl o1.eval ?_
      exact hK _ _ ⟨hF.put 19 (Value.int IntKind.i64 0) 269 (by omega) (by kernel_rfl) (by kernel_rfl) (.inl ⟨rfl, rfl⟩), hX.put (Diff.refl _) 19 269 _ (by decide) (by decide)⟩
    · rintro d a W hdi hdep hcl ⟨hF, hX⟩ K hK
      have E := hcl.facts 20 hdi rfl hdep [18, 19] [] (by kernel_rfl) (by kernel_rfl)
      simp only [AllT, AllF] at E
      have o0 : At a 268 (Value.bool true) := hF.done 18 (by decide) (by simp only [E])
      rw [if_pos (wanted_at (g := 18) (b := true) (s := 268) rfl rfl o0)]
      have o1 : At a 269 (Value.int IntKind.i64 0) := hF.done 19 (by decide) (by simp only [E])
      refine wp_eql_int _ _ _ _ (by decide) rfl o1.eval rfl ?_
      exact hK _ _ ⟨hF.put 20 (Value.bool true) 270 (by omega) (by kernel_rfl) (by kernel_rfl) (.inl ⟨rfl, rfl⟩), hX.put (Diff.refl _) 20 270 _ (by decide) (by decide)⟩
    · rintro d a W hdi hdep hcl ⟨hF, hX⟩ K hK
      have E := hcl.facts 21 hdi rfl hdep [18, 20] [] (by kernel_rfl) (by kernel_rfl)
      simp only [AllT, AllF] at E
      rw [if_pos (wanted_free rfl)]
      have o0 : At a 268 (Value.bool true) := hF.done 18 (by decide) (by simp only [E])
      have o1 : At a 270 (Value.bool true) := hF.done 20 (by decide) (by simp only [E])
      refine wp_pick_true _ _ _ rfl o0.eval o1.eval ?_
      exact hK _ _ ⟨hF.put 21 (Value.bool true) 271 (by omega) (by kernel_rfl) (by kernel_rfl) (.inl ⟨rfl, rfl⟩), hX.put (Diff.refl _) 21 271 _ (by decide) (by decide)⟩
    · rintro d a W hdi hdep hcl ⟨hF, hX⟩ K hK
      have E := hcl.facts 22 hdi rfl hdep [18, 21] [] (by kernel_rfl) (by kernel_rfl)
      simp only [AllT, AllF] at E
      rw [if_pos (wanted_free rfl)]
      have o0 : At a 271 (Value.bool true) := hF.done 21 (by decide) (by simp only [E])
      refine wp_move_at _ rfl o0.eval ?_
      exact hK _ _ ⟨hF.put 22 (Value.bool true) 272 (by omega) (by kernel_rfl) (by kernel_rfl) (.inl ⟨rfl, rfl⟩), hX.put (Diff.refl _) 22 272 _ (by decide) (by decide)⟩
    · rintro d a W hdi hdep hcl ⟨hF, hX⟩ K hK
      have E := hcl.facts 23 hdi rfl hdep [22] [] (by kernel_rfl) (by kernel_rfl)
      simp only [AllT, AllF] at E
      have o0 : At a 272 (Value.bool true) := hF.done 22 (by decide) (by simp only [E])
      rw [if_pos (wanted_at (g := 22) (b := true) (s := 272) rfl rfl o0)]
      have o1 : At a 44 (Value.pointer (some { block := gT, off := 0 })) := hF.base 44 (by decide)
      have kz := T_44.out.to hX.pure
      refine wp_load_two _ rfl o1.eval (kz.at 0) (kz.at 1) kz.lt ?_
      exact hK _ _ ⟨hF.put 23 (Value.agg #[Value.int IntKind.i64 25, Value.int IntKind.i64 1]) 273 (by omega) (by kernel_rfl) (by kernel_rfl) (.inl ⟨rfl, rfl⟩), hX.put (Diff.refl _) 23 273 _ (by decide) (by decide)⟩
    · rintro d a W hdi hdep hcl ⟨hF, hX⟩ K hK
      have E := hcl.facts 24 hdi rfl hdep [22] [] (by kernel_rfl) (by kernel_rfl)
      simp only [AllT, AllF] at E
      have o0 : At a 272 (Value.bool true) := hF.done 22 (by decide) (by simp only [E])
      rw [if_pos (wanted_at (g := 22) (b := true) (s := 272) rfl rfl o0)]
      have o1 : At a 3 (Value.pointer (some { block := gS, off := 0 })) := hF.base 3 (by decide)
      have kz := S_44.out.to hX.pure
      refine wp_load_two _ rfl o1.eval (kz.at 0) (kz.at 1) kz.lt ?_
      exact hK _ _ ⟨hF.put 24 (Value.agg #[Value.int IntKind.i64 25, Value.int IntKind.i64 1]) 274 (by omega) (by kernel_rfl) (by kernel_rfl) (.inl ⟨rfl, rfl⟩), hX.put (Diff.refl _) 24 274 _ (by decide) (by decide)⟩
    · rintro d a W hdi hdep hcl ⟨hF, hX⟩ K hK
      have E := hcl.facts 25 hdi rfl hdep [22, 23, 24] [] (by kernel_rfl) (by kernel_rfl)
      simp only [AllT, AllF] at E
      have o0 : At a 272 (Value.bool true) := hF.done 22 (by decide) (by simp only [E])
      rw [if_pos (wanted_at (g := 22) (b := true) (s := 272) rfl rfl o0)]
      have o1 : At a 273 (Value.agg #[Value.int IntKind.i64 25, Value.int IntKind.i64 1]) := hF.done 23 (by decide) (by simp only [E])
      have o2 : At a 274 (Value.agg #[Value.int IntKind.i64 25, Value.int IntKind.i64 1]) := hF.done 24 (by decide) (by simp only [E])
      refine wp_eql_two _ _ _ rfl o1.eval o2.eval ?_
      exact hK _ _ ⟨hF.put 25 (Value.bool true) 275 (by omega) (by kernel_rfl) (by kernel_rfl) (.inl ⟨rfl, rfl⟩), hX.put (Diff.refl _) 25 275 _ (by decide) (by decide)⟩
    · rintro d a W hdi hdep hcl ⟨hF, hX⟩ K hK
      have E := hcl.facts 26 hdi rfl hdep [22, 25] [] (by kernel_rfl) (by kernel_rfl)
      simp only [AllT, AllF] at E
      rw [if_pos (wanted_free rfl)]
      have o0 : At a 272 (Value.bool true) := hF.done 22 (by decide) (by simp only [E])
      have o1 : At a 275 (Value.bool true) := hF.done 25 (by decide) (by simp only [E])
      refine wp_pick_true _ _ _ rfl o0.eval o1.eval ?_
      exact hK _ _ ⟨hF.put 26 (Value.bool true) 276 (by omega) (by kernel_rfl) (by kernel_rfl) (.inl ⟨rfl, rfl⟩), hX.put (Diff.refl _) 26 276 _ (by decide) (by decide)⟩
    · rintro d a W hdi hdep hcl ⟨hF, hX⟩ K hK
      have E := hcl.facts 27 hdi rfl hdep [22, 26] [] (by kernel_rfl) (by kernel_rfl)
      simp only [AllT, AllF] at E
      rw [if_pos (wanted_free rfl)]
      have o0 : At a 276 (Value.bool true) := hF.done 26 (by decide) (by simp only [E])
      refine wp_move_at _ rfl o0.eval ?_
      exact hK _ _ ⟨hF.put 27 (Value.bool true) 277 (by omega) (by kernel_rfl) (by kernel_rfl) (.inl ⟨rfl, rfl⟩), hX.put (Diff.refl _) 27 277 _ (by decide) (by decide)⟩
    · rintro d a W hdi hdep hcl ⟨hF, hX⟩ K hK
      have E := hcl.facts 28 hdi rfl hdep [27] [] (by kernel_rfl) (by kernel_rfl)
      simp only [AllT, AllF] at E
      have o0 : At a 277 (Value.bool true) := hF.done 27 (by decide) (by simp only [E])
      rw [if_pos (wanted_at (g := 27) (b := true) (s := 277) rfl rfl o0)]
      have o1 : At a 45 (Value.pointer (some { block := gQ, off := 0 })) := hF.base 45 (by decide)
      have kz := Q_44.out.to hX.pure
      refine wp_load_two _ rfl o1.eval (kz.at 0) (kz.at 1) kz.lt ?_
      exact hK _ _ ⟨hF.put 28 (Value.agg #[Value.int IntKind.i64 85, Value.int IntKind.i64 2]) 278 (by omega) (by kernel_rfl) (by kernel_rfl) (.inl ⟨rfl, rfl⟩), hX.put (Diff.refl _) 28 278 _ (by decide) (by decide)⟩
    · rintro d a W hdi hdep hcl ⟨hF, hX⟩ K hK
      have E := hcl.facts 29 hdi rfl hdep [27] [] (by kernel_rfl) (by kernel_rfl)
      simp only [AllT, AllF] at E
      have o0 : At a 277 (Value.bool true) := hF.done 27 (by decide) (by simp only [E])
      rw [if_pos (wanted_at (g := 27) (b := true) (s := 277) rfl rfl o0)]
      have o1 : At a 4 (Value.pointer (some { block := gP, off := 0 })) := hF.base 4 (by decide)
      have kz := P_44.out.to hX.pure
      refine wp_load_two _ rfl o1.eval (kz.at 0) (kz.at 1) kz.lt ?_
      exact hK _ _ ⟨hF.put 29 (Value.agg #[Value.int IntKind.i64 85, Value.int IntKind.i64 2]) 279 (by omega) (by kernel_rfl) (by kernel_rfl) (.inl ⟨rfl, rfl⟩), hX.put (Diff.refl _) 29 279 _ (by decide) (by decide)⟩
    · rintro d a W hdi hdep hcl ⟨hF, hX⟩ K hK
      have E := hcl.facts 30 hdi rfl hdep [27, 28, 29] [] (by kernel_rfl) (by kernel_rfl)
      simp only [AllT, AllF] at E
      have o0 : At a 277 (Value.bool true) := hF.done 27 (by decide) (by simp only [E])
      rw [if_pos (wanted_at (g := 27) (b := true) (s := 277) rfl rfl o0)]
      have o1 : At a 278 (Value.agg #[Value.int IntKind.i64 85, Value.int IntKind.i64 2]) := hF.done 28 (by decide) (by simp only [E])
      have o2 : At a 279 (Value.agg #[Value.int IntKind.i64 85, Value.int IntKind.i64 2]) := hF.done 29 (by decide) (by simp only [E])
      refine wp_eql_two _ _ _ rfl o1.eval o2.eval ?_
      exact hK _ _ ⟨hF.put 30 (Value.bool true) 280 (by omega) (by kernel_rfl) (by kernel_rfl) (.inl ⟨rfl, rfl⟩), hX.put (Diff.refl _) 30 280 _ (by decide) (by decide)⟩
    · rintro d a W hdi hdep hcl ⟨hF, hX⟩ K hK
      have E := hcl.facts 31 hdi rfl hdep [27, 30] [] (by kernel_rfl) (by kernel_rfl)
      simp only [AllT, AllF] at E
      rw [if_pos (wanted_free rfl)]
      have o0 : At a 277 (Value.bool true) := hF.done 27 (by decide) (by simp only [E])
      have o1 : At a 280 (Value.bool true) := hF.done 30 (by decide) (by simp only [E])
      refine wp_pick_true _ _ _ rfl o0.eval o1.eval ?_
      exact hK _ _ ⟨hF.put 31 (Value.bool true) 281 (by omega) (by kernel_rfl) (by kernel_rfl) (.inl ⟨rfl, rfl⟩), hX.put (Diff.refl _) 31 281 _ (by decide) (by decide)⟩
    · rintro d a W hdi hdep hcl ⟨hF, hX⟩ K hK
      have E := hcl.facts 32 hdi rfl hdep [27, 31] [] (by kernel_rfl) (by kernel_rfl)
      simp only [AllT, AllF] at E
      rw [if_pos (wanted_free rfl)]
      have o0 : At a 281 (Value.bool true) := hF.done 31 (by decide) (by simp only [E])
      refine wp_move_at _ rfl o0.eval ?_
      exact hK _ _ ⟨hF.put 32 (Value.bool true) 282 (by omega) (by kernel_rfl) (by kernel_rfl) (.inl ⟨rfl, rfl⟩), hX.put (Diff.refl _) 32 282 _ (by decide) (by decide)⟩
    · rintro d a W hdi hdep hcl ⟨hF, hX⟩ K hK
      have E := hcl.facts 33 hdi rfl hdep [32] [] (by kernel_rfl) (by kernel_rfl)
      simp only [AllT, AllF] at E
      have o0 : At a 282 (Value.bool true) := hF.done 32 (by decide) (by simp only [E])
      rw [if_pos (wanted_at (g := 32) (b := true) (s := 282) rfl rfl o0)]
      have o1 : At a 24 (Value.pointer (some { block := gV, off := 0 })) := hF.base 24 (by decide)
      have kz := V_44.out.to hX.pure
      refine wp_load_two _ rfl o1.eval (kz.at 0) (kz.at 1) kz.lt ?_
      exact hK _ _ ⟨hF.put 33 (Value.agg #[Value.int IntKind.i64 85, Value.int IntKind.i64 2]) 283 (by omega) (by kernel_rfl) (by kernel_rfl) (.inl ⟨rfl, rfl⟩), hX.put (Diff.refl _) 33 283 _ (by decide) (by decide)⟩
    · rintro d a W hdi hdep hcl ⟨hF, hX⟩ K hK
      have E := hcl.facts 34 hdi rfl hdep [32] [] (by kernel_rfl) (by kernel_rfl)
      simp only [AllT, AllF] at E
      have o0 : At a 282 (Value.bool true) := hF.done 32 (by decide) (by simp only [E])
      rw [if_pos (wanted_at (g := 32) (b := true) (s := 282) rfl rfl o0)]
      have o1 : At a 4 (Value.pointer (some { block := gP, off := 0 })) := hF.base 4 (by decide)
      have kz := P_44.out.to hX.pure
      refine wp_load_two _ rfl o1.eval (kz.at 0) (kz.at 1) kz.lt ?_
      exact hK _ _ ⟨hF.put 34 (Value.agg #[Value.int IntKind.i64 85, Value.int IntKind.i64 2]) 284 (by omega) (by kernel_rfl) (by kernel_rfl) (.inl ⟨rfl, rfl⟩), hX.put (Diff.refl _) 34 284 _ (by decide) (by decide)⟩
    · rintro d a W hdi hdep hcl ⟨hF, hX⟩ K hK
      have E := hcl.facts 35 hdi rfl hdep [32, 33, 34] [] (by kernel_rfl) (by kernel_rfl)
      simp only [AllT, AllF] at E
      have o0 : At a 282 (Value.bool true) := hF.done 32 (by decide) (by simp only [E])
      rw [if_pos (wanted_at (g := 32) (b := true) (s := 282) rfl rfl o0)]
      have o1 : At a 283 (Value.agg #[Value.int IntKind.i64 85, Value.int IntKind.i64 2]) := hF.done 33 (by decide) (by simp only [E])
      have o2 : At a 284 (Value.agg #[Value.int IntKind.i64 85, Value.int IntKind.i64 2]) := hF.done 34 (by decide) (by simp only [E])
      refine wp_eql_two _ _ _ rfl o1.eval o2.eval ?_
      exact hK _ _ ⟨hF.put 35 (Value.bool true) 285 (by omega) (by kernel_rfl) (by kernel_rfl) (.inl ⟨rfl, rfl⟩), hX.put (Diff.refl _) 35 285 _ (by decide) (by decide)⟩
    · rintro d a W hdi hdep hcl ⟨hF, hX⟩ K hK
      have E := hcl.facts 36 hdi rfl hdep [32, 35] [] (by kernel_rfl) (by kernel_rfl)
      simp only [AllT, AllF] at E
      rw [if_pos (wanted_free rfl)]
      have o0 : At a 282 (Value.bool true) := hF.done 32 (by decide) (by simp only [E])
      have o1 : At a 285 (Value.bool true) := hF.done 35 (by decide) (by simp only [E])
      refine wp_pick_true _ _ _ rfl o0.eval o1.eval ?_
      exact hK _ _ ⟨hF.put 36 (Value.bool true) 286 (by omega) (by kernel_rfl) (by kernel_rfl) (.inl ⟨rfl, rfl⟩), hX.put (Diff.refl _) 36 286 _ (by decide) (by decide)⟩
    · rintro d a W hdi hdep hcl ⟨hF, hX⟩ K hK
      have E := hcl.facts 37 hdi rfl hdep [32, 36] [] (by kernel_rfl) (by kernel_rfl)
      simp only [AllT, AllF] at E
      rw [if_pos (wanted_free rfl)]
      have o0 : At a 286 (Value.bool true) := hF.done 36 (by decide) (by simp only [E])
      refine wp_move_at _ rfl o0.eval ?_
      exact hK _ _ ⟨hF.put 37 (Value.bool true) 287 (by omega) (by kernel_rfl) (by kernel_rfl) (.inl ⟨rfl, rfl⟩), hX.put (Diff.refl _) 37 287 _ (by decide) (by decide)⟩
    · rintro d a W hdi hdep hcl ⟨hF, hX⟩ K hK
      have E := hcl.facts 38 hdi rfl hdep [37] [] (by kernel_rfl) (by kernel_rfl)
      simp only [AllT, AllF] at E
      have o0 : At a 287 (Value.bool true) := hF.done 37 (by decide) (by simp only [E])
      rw [if_pos (wanted_at (g := 37) (b := true) (s := 287) rfl rfl o0)]
      have o1 : At a 8 (Value.int IntKind.i64 0) := hF.base 8 (by decide)
      refine wp_move_at _ rfl o1.eval ?_
      exact hK _ _ ⟨hF.put 38 (Value.int IntKind.i64 0) 288 (by omega) (by kernel_rfl) (by kernel_rfl) (.inl ⟨rfl, rfl⟩), hX.put (Diff.refl _) 38 288 _ (by decide) (by decide)⟩
    · rintro d a W hdi hdep hcl ⟨hF, hX⟩ K hK
      have E := hcl.facts 39 hdi rfl hdep [37, 38] [] (by kernel_rfl) (by kernel_rfl)
      simp only [AllT, AllF] at E
      have o0 : At a 287 (Value.bool true) := hF.done 37 (by decide) (by simp only [E])
      rw [if_pos (wanted_at (g := 37) (b := true) (s := 287) rfl rfl o0)]
      have o1 : At a 288 (Value.int IntKind.i64 0) := hF.done 38 (by decide) (by simp only [E])
      refine wp_eql_int _ _ _ _ (by decide) rfl o1.eval rfl ?_
      exact hK _ _ ⟨hF.put 39 (Value.bool true) 289 (by omega) (by kernel_rfl) (by kernel_rfl) (.inl ⟨rfl, rfl⟩), hX.put (Diff.refl _) 39 289 _ (by decide) (by decide)⟩
    · rintro d a W hdi hdep hcl ⟨hF, hX⟩ K hK
      have E := hcl.facts 40 hdi rfl hdep [37, 39] [] (by kernel_rfl) (by kernel_rfl)
      simp only [AllT, AllF] at E
      rw [if_pos (wanted_free rfl)]
      have o0 : At a 287 (Value.bool true) := hF.done 37 (by decide) (by simp only [E])
      have o1 : At a 289 (Value.bool true) := hF.done 39 (by decide) (by simp only [E])
      refine wp_pick_true _ _ _ rfl o0.eval o1.eval ?_
      exact hK _ _ ⟨hF.put 40 (Value.bool true) 290 (by omega) (by kernel_rfl) (by kernel_rfl) (.inl ⟨rfl, rfl⟩), hX.put (Diff.refl _) 40 290 _ (by decide) (by decide)⟩
    · rintro d a W hdi hdep hcl ⟨hF, hX⟩ K hK
      have E := hcl.facts 41 hdi rfl hdep [37, 40] [] (by kernel_rfl) (by kernel_rfl)
      simp only [AllT, AllF] at E
      rw [if_pos (wanted_free rfl)]
      have o0 : At a 290 (Value.bool true) := hF.done 40 (by decide) (by simp only [E])
      refine wp_move_at _ rfl o0.eval ?_
      exact hK _ _ ⟨hF.put 41 (Value.bool true) 291 (by omega) (by kernel_rfl) (by kernel_rfl) (.inl ⟨rfl, rfl⟩), hX.put (Diff.refl _) 41 291 _ (by decide) (by decide)⟩
    · rintro d a W hdi hdep hcl ⟨hF, hX⟩ K hK
      have E := hcl.facts 42 hdi rfl hdep [41] [] (by kernel_rfl) (by kernel_rfl)
      simp only [AllT, AllF] at E
      have o0 : At a 291 (Value.bool true) := hF.done 41 (by decide) (by simp only [E])
      rw [if_pos (wanted_at (g := 41) (b := true) (s := 291) rfl rfl o0)]
      have o1 : At a 46 (Value.pointer (some { block := gW, off := 0 })) := hF.base 46 (by decide)
      have kz := W_44.out.to hX.pure
      refine wp_load_two _ rfl o1.eval (kz.at 0) (kz.at 1) kz.lt ?_
      exact hK _ _ ⟨hF.put 42 (Value.agg #[Value.int IntKind.i64 85, Value.int IntKind.i64 2]) 292 (by omega) (by kernel_rfl) (by kernel_rfl) (.inl ⟨rfl, rfl⟩), hX.put (Diff.refl _) 42 292 _ (by decide) (by decide)⟩
    · rintro d a W hdi hdep hcl ⟨hF, hX⟩ K hK
      have E := hcl.facts 43 hdi rfl hdep [41] [] (by kernel_rfl) (by kernel_rfl)
      simp only [AllT, AllF] at E
      have o0 : At a 291 (Value.bool true) := hF.done 41 (by decide) (by simp only [E])
      rw [if_pos (wanted_at (g := 41) (b := true) (s := 291) rfl rfl o0)]
      have o1 : At a 4 (Value.pointer (some { block := gP, off := 0 })) := hF.base 4 (by decide)
      have kz := P_44.out.to hX.pure
      refine wp_load_two _ rfl o1.eval (kz.at 0) (kz.at 1) kz.lt ?_
      exact hK _ _ ⟨hF.put 43 (Value.agg #[Value.int IntKind.i64 85, Value.int IntKind.i64 2]) 293 (by omega) (by kernel_rfl) (by kernel_rfl) (.inl ⟨rfl, rfl⟩), hX.put (Diff.refl _) 43 293 _ (by decide) (by decide)⟩
    · rintro d a W hdi hdep hcl ⟨hF, hX⟩ K hK
      have E := hcl.facts 44 hdi rfl hdep [41, 42, 43] [] (by kernel_rfl) (by kernel_rfl)
      simp only [AllT, AllF] at E
      have o0 : At a 291 (Value.bool true) := hF.done 41 (by decide) (by simp only [E])
      rw [if_pos (wanted_at (g := 41) (b := true) (s := 291) rfl rfl o0)]
      have o1 : At a 292 (Value.agg #[Value.int IntKind.i64 85, Value.int IntKind.i64 2]) := hF.done 42 (by decide) (by simp only [E])
      have o2 : At a 293 (Value.agg #[Value.int IntKind.i64 85, Value.int IntKind.i64 2]) := hF.done 43 (by decide) (by simp only [E])
      refine wp_eql_two _ _ _ rfl o1.eval o2.eval ?_
      exact hK _ _ ⟨hF.put 44 (Value.bool true) 294 (by omega) (by kernel_rfl) (by kernel_rfl) (.inl ⟨rfl, rfl⟩), hX.put (Diff.refl _) 44 294 _ (by decide) (by decide)⟩
    · rintro d a W hdi hdep hcl ⟨hF, hX⟩ K hK
      have E := hcl.facts 45 hdi rfl hdep [41, 44] [] (by kernel_rfl) (by kernel_rfl)
      simp only [AllT, AllF] at E
      rw [if_pos (wanted_free rfl)]
      have o0 : At a 291 (Value.bool true) := hF.done 41 (by decide) (by simp only [E])
      have o1 : At a 294 (Value.bool true) := hF.done 44 (by decide) (by simp only [E])
      refine wp_pick_true _ _ _ rfl o0.eval o1.eval ?_
      exact hK _ _ ⟨hF.put 45 (Value.bool true) 295 (by omega) (by kernel_rfl) (by kernel_rfl) (.inl ⟨rfl, rfl⟩), hX.put (Diff.refl _) 45 295 _ (by decide) (by decide)⟩
    · rintro d a W hdi hdep hcl ⟨hF, hX⟩ K hK
      have E := hcl.facts 46 hdi rfl hdep [41, 45] [] (by kernel_rfl) (by kernel_rfl)
      simp only [AllT, AllF] at E
      rw [if_pos (wanted_free rfl)]
      have o0 : At a 295 (Value.bool true) := hF.done 45 (by decide) (by simp only [E])
      refine wp_move_at _ rfl o0.eval ?_
      exact hK _ _ ⟨hF.put 46 (Value.bool true) 296 (by omega) (by kernel_rfl) (by kernel_rfl) (.inl ⟨rfl, rfl⟩), hX.put (Diff.refl _) 46 296 _ (by decide) (by decide)⟩
    · rintro d a W hdi hdep hcl ⟨hF, hX⟩ K hK
      have E := hcl.facts 47 hdi rfl hdep [46] [] (by kernel_rfl) (by kernel_rfl)
      simp only [AllT, AllF] at E
      have o0 : At a 296 (Value.bool true) := hF.done 46 (by decide) (by simp only [E])
      rw [if_pos (wanted_at (g := 46) (b := true) (s := 296) rfl rfl o0)]
      have o1 : At a 11 (Value.int IntKind.i64 0) := hF.base 11 (by decide)
      refine wp_move_at _ rfl o1.eval ?_
      exact hK _ _ ⟨hF.put 47 (Value.int IntKind.i64 0) 297 (by omega) (by kernel_rfl) (by kernel_rfl) (.inl ⟨rfl, rfl⟩), hX.put (Diff.refl _) 47 297 _ (by decide) (by decide)⟩
    · rintro d a W hdi hdep hcl ⟨hF, hX⟩ K hK
      have E := hcl.facts 48 hdi rfl hdep [46, 47] [] (by kernel_rfl) (by kernel_rfl)
      simp only [AllT, AllF] at E
      have o0 : At a 296 (Value.bool true) := hF.done 46 (by decide) (by simp only [E])
      rw [if_pos (wanted_at (g := 46) (b := true) (s := 296) rfl rfl o0)]
      have o1 : At a 297 (Value.int IntKind.i64 0) := hF.done 47 (by decide) (by simp only [E])
      refine wp_eql_int _ _ _ _ (by decide) rfl o1.eval rfl ?_
      exact hK _ _ ⟨hF.put 48 (Value.bool true) 298 (by omega) (by kernel_rfl) (by kernel_rfl) (.inl ⟨rfl, rfl⟩), hX.put (Diff.refl _) 48 298 _ (by decide) (by decide)⟩
    · rintro d a W hdi hdep hcl ⟨hF, hX⟩ K hK
      have E := hcl.facts 49 hdi rfl hdep [46, 48] [] (by kernel_rfl) (by kernel_rfl)
      simp only [AllT, AllF] at E
      rw [if_pos (wanted_free rfl)]
      have o0 : At a 296 (Value.bool true) := hF.done 46 (by decide) (by simp only [E])
      have o1 : At a 298 (Value.bool true) := hF.done 48 (by decide) (by simp only [E])
      refine wp_pick_true _ _ _ rfl o0.eval o1.eval ?_
      exact hK _ _ ⟨hF.put 49 (Value.bool true) 299 (by omega) (by kernel_rfl) (by kernel_rfl) (.inl ⟨rfl, rfl⟩), hX.put (Diff.refl _) 49 299 _ (by decide) (by decide)⟩
    · rintro d a W hdi hdep hcl ⟨hF, hX⟩ K hK
      have E := hcl.facts 50 hdi rfl hdep [46, 49] [] (by kernel_rfl) (by kernel_rfl)
      simp only [AllT, AllF] at E
      rw [if_pos (wanted_free rfl)]
      have o0 : At a 299 (Value.bool true) := hF.done 49 (by decide) (by simp only [E])
      refine wp_move_at _ rfl o0.eval ?_
      exact hK _ _ ⟨hF.put 50 (Value.bool true) 300 (by omega) (by kernel_rfl) (by kernel_rfl) (.inl ⟨rfl, rfl⟩), hX.put (Diff.refl _) 50 300 _ (by decide) (by decide)⟩
    · rintro d a W hdi hdep hcl ⟨hF, hX⟩ K hK
      have E := hcl.facts 51 hdi rfl hdep [50] [] (by kernel_rfl) (by kernel_rfl)
      simp only [AllT, AllF] at E
      have o0 : At a 300 (Value.bool true) := hF.done 50 (by decide) (by simp only [E])
      rw [if_pos (wanted_at (g := 50) (b := true) (s := 300) rfl rfl o0)]
      have o1 : At a 47 (Value.pointer (some { block := gZ, off := 0 })) := hF.base 47 (by decide)
      have kz := Z_44.out.to hX.pure
      refine wp_load_two _ rfl o1.eval (kz.at 0) (kz.at 1) kz.lt ?_
      exact hK _ _ ⟨hF.put 51 (Value.agg #[Value.int IntKind.i64 20, Value.int IntKind.i64 1]) 301 (by omega) (by kernel_rfl) (by kernel_rfl) (.inl ⟨rfl, rfl⟩), hX.put (Diff.refl _) 51 301 _ (by decide) (by decide)⟩
    · rintro d a W hdi hdep hcl ⟨hF, hX⟩ K hK
      have E := hcl.facts 52 hdi rfl hdep [50] [] (by kernel_rfl) (by kernel_rfl)
      simp only [AllT, AllF] at E
      have o0 : At a 300 (Value.bool true) := hF.done 50 (by decide) (by simp only [E])
      rw [if_pos (wanted_at (g := 50) (b := true) (s := 300) rfl rfl o0)]
      have o1 : At a 18 (Value.pointer (some { block := gD, off := 0 })) := hF.base 18 (by decide)
      have kz := D_44.out.to hX.pure
      refine wp_load_two _ rfl o1.eval (kz.at 0) (kz.at 1) kz.lt ?_
      exact hK _ _ ⟨hF.put 52 (Value.agg #[Value.int IntKind.i64 20, Value.int IntKind.i64 1]) 302 (by omega) (by kernel_rfl) (by kernel_rfl) (.inl ⟨rfl, rfl⟩), hX.put (Diff.refl _) 52 302 _ (by decide) (by decide)⟩
    · rintro d a W hdi hdep hcl ⟨hF, hX⟩ K hK
      have E := hcl.facts 53 hdi rfl hdep [50, 51, 52] [] (by kernel_rfl) (by kernel_rfl)
      simp only [AllT, AllF] at E
      have o0 : At a 300 (Value.bool true) := hF.done 50 (by decide) (by simp only [E])
      rw [if_pos (wanted_at (g := 50) (b := true) (s := 300) rfl rfl o0)]
      have o1 : At a 301 (Value.agg #[Value.int IntKind.i64 20, Value.int IntKind.i64 1]) := hF.done 51 (by decide) (by simp only [E])
      have o2 : At a 302 (Value.agg #[Value.int IntKind.i64 20, Value.int IntKind.i64 1]) := hF.done 52 (by decide) (by simp only [E])
      refine wp_eql_two _ _ _ rfl o1.eval o2.eval ?_
      exact hK _ _ ⟨hF.put 53 (Value.bool true) 303 (by omega) (by kernel_rfl) (by kernel_rfl) (.inl ⟨rfl, rfl⟩), hX.put (Diff.refl _) 53 303 _ (by decide) (by decide)⟩
    · rintro d a W hdi hdep hcl ⟨hF, hX⟩ K hK
      have E := hcl.facts 54 hdi rfl hdep [50, 53] [] (by kernel_rfl) (by kernel_rfl)
      simp only [AllT, AllF] at E
      rw [if_pos (wanted_free rfl)]
      have o0 : At a 300 (Value.bool true) := hF.done 50 (by decide) (by simp only [E])
      have o1 : At a 303 (Value.bool true) := hF.done 53 (by decide) (by simp only [E])
      refine wp_pick_true _ _ _ rfl o0.eval o1.eval ?_
      exact hK _ _ ⟨hF.put 54 (Value.bool true) 304 (by omega) (by kernel_rfl) (by kernel_rfl) (.inl ⟨rfl, rfl⟩), hX.put (Diff.refl _) 54 304 _ (by decide) (by decide)⟩
    · rintro d a W hdi hdep hcl ⟨hF, hX⟩ K hK
      have E := hcl.facts 55 hdi rfl hdep [50, 54] [] (by kernel_rfl) (by kernel_rfl)
      simp only [AllT, AllF] at E
      rw [if_pos (wanted_free rfl)]
      have o0 : At a 304 (Value.bool true) := hF.done 54 (by decide) (by simp only [E])
      refine wp_move_at _ rfl o0.eval ?_
      exact hK _ _ ⟨hF.put 55 (Value.bool true) 305 (by omega) (by kernel_rfl) (by kernel_rfl) (.inl ⟨rfl, rfl⟩), hX.put (Diff.refl _) 55 305 _ (by decide) (by decide)⟩
    · rintro d a W hdi hdep hcl ⟨hF, hX⟩ K hK
      have E := hcl.facts 56 hdi rfl hdep [55] [] (by kernel_rfl) (by kernel_rfl)
      simp only [AllT, AllF] at E
      have o0 : At a 305 (Value.bool true) := hF.done 55 (by decide) (by simp only [E])
      rw [if_pos (wanted_at (g := 55) (b := true) (s := 305) rfl rfl o0)]
      have q1 : At a 32 (Value.pointer (some { block := gF, off := 0 })) := hF.base 32 (by decide)
      refine wp_field45 _ rfl q1.eval ?_
      exact hK _ _ ⟨hF.put 56 (Value.pointer (some { block := gF, off := 2 })) 306 (by omega) (by kernel_rfl) (by kernel_rfl) (.inl ⟨rfl, rfl⟩), hX.put (Diff.refl _) 56 306 _ (by decide) (by decide)⟩
    · rintro d a W hdi hdep hcl ⟨hF, hX⟩ K hK
      have E := hcl.facts 57 hdi rfl hdep [55, 56] [] (by kernel_rfl) (by kernel_rfl)
      simp only [AllT, AllF] at E
      have o0 : At a 305 (Value.bool true) := hF.done 55 (by decide) (by simp only [E])
      rw [if_pos (wanted_at (g := 55) (b := true) (s := 305) rfl rfl o0)]
      have q1 : At a 306 (Value.pointer (some { block := gF, off := 2 })) := hF.done 56 (by decide) (by simp only [E])
      have kz := FL_44.out.to hX.pure
      refine wp_load_int _ rfl q1.eval (kz.at 2) kz.lt ?_
      exact hK _ _ ⟨hF.put 57 (Value.int IntKind.i64 0) 307 (by omega) (by kernel_rfl) (by kernel_rfl) (.inl ⟨rfl, rfl⟩), hX.put (Diff.refl _) 57 307 _ (by decide) (by decide)⟩
    · rintro d a W hdi hdep hcl ⟨hF, hX⟩ K hK
      have E := hcl.facts 58 hdi rfl hdep [55, 57] [] (by kernel_rfl) (by kernel_rfl)
      simp only [AllT, AllF] at E
      have o0 : At a 305 (Value.bool true) := hF.done 55 (by decide) (by simp only [E])
      rw [if_pos (wanted_at (g := 55) (b := true) (s := 305) rfl rfl o0)]
      have o1 : At a 307 (Value.int IntKind.i64 0) := hF.done 57 (by decide) (by simp only [E])
      refine wp_geq_int _ _ _ rfl o1.eval rfl (by omega) ?_
      exact hK _ _ ⟨hF.put 58 (Value.bool true) 308 (by omega) (by kernel_rfl) (by kernel_rfl) (.inl ⟨rfl, rfl⟩), hX.put (Diff.refl _) 58 308 _ (by decide) (by decide)⟩
    · rintro d a W hdi hdep hcl ⟨hF, hX⟩ K hK
      have E := hcl.facts 59 hdi rfl hdep [55, 58] [] (by kernel_rfl) (by kernel_rfl)
      simp only [AllT, AllF] at E
      rw [if_pos (wanted_free rfl)]
      have o0 : At a 305 (Value.bool true) := hF.done 55 (by decide) (by simp only [E])
      have o1 : At a 308 (Value.bool true) := hF.done 58 (by decide) (by simp only [E])
      refine wp_pick_true _ _ _ rfl o0.eval o1.eval ?_
      exact hK _ _ ⟨hF.put 59 (Value.bool true) 309 (by omega) (by kernel_rfl) (by kernel_rfl) (.inl ⟨rfl, rfl⟩), hX.put (Diff.refl _) 59 309 _ (by decide) (by decide)⟩
    · rintro d a W hdi hdep hcl ⟨hF, hX⟩ K hK
      have E := hcl.facts 60 hdi rfl hdep [55, 59] [] (by kernel_rfl) (by kernel_rfl)
      simp only [AllT, AllF] at E
      rw [if_pos (wanted_free rfl)]
      have o0 : At a 309 (Value.bool true) := hF.done 59 (by decide) (by simp only [E])
      refine wp_move_at _ rfl o0.eval ?_
      exact hK _ _ ⟨hF.put 60 (Value.bool true) 310 (by omega) (by kernel_rfl) (by kernel_rfl) (.inl ⟨rfl, rfl⟩), hX.put (Diff.refl _) 60 310 _ (by decide) (by decide)⟩
    · rintro d a W hdi hdep hcl ⟨hF, hX⟩ K hK
      have E := hcl.facts 61 hdi rfl hdep [60] [] (by kernel_rfl) (by kernel_rfl)
      simp only [AllT, AllF] at E
      have o0 : At a 310 (Value.bool true) := hF.done 60 (by decide) (by simp only [E])
      rw [if_pos (wanted_at (g := 60) (b := true) (s := 310) rfl rfl o0)]
      have o1 : At a 34 (Value.slice qk 4 ck) := hF.base 34 (by decide)
      refine wp_move_at _ rfl o1.eval ?_
      exact hK _ _ ⟨hF.put 61 (Value.slice qk 4 ck) 311 (by omega) (by kernel_rfl) (by kernel_rfl) (.inl ⟨rfl, rfl⟩), hX.put (Diff.refl _) 61 311 _ (by decide) (by decide)⟩
    · rintro d a W hdi hdep hcl ⟨hF, hX⟩ K hK
      have E := hcl.facts 62 hdi rfl hdep [60] [63] (by kernel_rfl) (by kernel_rfl)
      simp only [AllT, AllF] at E
      have o0 : At a 310 (Value.bool true) := hF.done 60 (by decide) (by simp only [E])
      rw [if_pos (wanted_at (g := 60) (b := true) (s := 310) rfl rfl o0)]
      refine wp_build_ints 4 _ rfl #[Value.int IntKind.i64 0, Value.int IntKind.i64 1, Value.int IntKind.i64 3, Value.int IntKind.i64 2] (fun w => by go_simp) ?_
      have hb := Blk.new W 3 #[Value.int IntKind.i64 0, Value.int IntKind.i64 1, Value.int IntKind.i64 3, Value.int IntKind.i64 2]
      have hp : Pure W (W.alloc (Obj.cells #[Value.int IntKind.i64 0, Value.int IntKind.i64 1, Value.int IntKind.i64 3, Value.int IntKind.i64 2] 3)) := (Diff.refl W).alloc _
      refine hK _ _ ⟨hF.put 62 _ 312 (by omega) (by kernel_rfl) (by kernel_rfl) (.inr (by decide)), ?_⟩
      have hs : 312 < a.tmps.size := by rw [hF.size]; omega
      exact hX.b62 hp hs (row_lit hb (fun k hk => by rcases k with _ | _ | _ | _ | k <;> first | rfl | omega)) (by simp only [E])
    · rintro d a W hdi hdep hcl ⟨hF, hX⟩ K hK
      have E := hcl.facts 63 hdi rfl hdep [60, 62] [] (by kernel_rfl) (by kernel_rfl)
      simp only [AllT, AllF] at E
      have o0 : At a 310 (Value.bool true) := hF.done 60 (by decide) (by simp only [E])
      rw [if_pos (wanted_at (g := 60) (b := true) (s := 310) rfl rfl o0)]
      obtain ⟨s, hs1, hs2⟩ := hX.p (by simp only [E])
      refine wp_call_at 60 (enters_of Tryd.func60 (by kernel_rfl) rfl) _ _ rfl #[Value.slice (some ⟨s, 0, none⟩) 4 4] (by rw [show (#[Operand.tmp 312] : Array Operand).map a.eval = #[a.eval (.tmp 312)] from map_one _ _, hs1.eval]) (lof_any _ _ _ _ _ rfl) ?_
      intro W' hp
      have hs : 313 < a.tmps.size := by rw [hF.size]; omega
      exact hK _ _ ⟨hF.put 63 _ 313 (by omega) (by kernel_rfl) (by kernel_rfl) (.inr (by decide)), hX.b63 hp hs (hs2.to hp)⟩
    · rintro d a W hdi hdep hcl ⟨hF, hX⟩ K hK
      have E := hcl.facts 64 hdi rfl hdep [60, 61, 63] [] (by kernel_rfl) (by kernel_rfl)
      simp only [AllT, AllF] at E
      have o0 : At a 310 (Value.bool true) := hF.done 60 (by decide) (by simp only [E])
      rw [if_pos (wanted_at (g := 60) (b := true) (s := 310) rfl rfl o0)]
      obtain ⟨s, hs1, hs2⟩ := hX.q (by simp only [E])
      have q1 : At a 311 (Value.slice qk 4 ck) := hF.done 61 (by decide) (by simp only [E])
      refine wp_call_at 44 (enters_of Tryd.func44 (by kernel_rfl) rfl) _ _ rfl #[Value.slice qk 4 ck, Value.slice (some ⟨s, 0, none⟩) 4 4] (by rw [show (#[Operand.tmp 311, Operand.tmp 313] : Array Operand).map a.eval = #[a.eval (.tmp 311), a.eval (.tmp 313)] from map_two _ _ _, q1.eval, hs1.eval]) (ints_same ck 4 (n := 4) (f := fun k => (nthN [0, 1, 3, 2] k : Int)) (by omega) (K_44.out.to hX.pure) hs2) ?_
      intro W' hp
      exact hK _ _ ⟨hF.put 64 (Value.bool true) 314 (by omega) (by kernel_rfl) (by kernel_rfl) (.inl ⟨rfl, rfl⟩), hX.put hp 64 314 _ (by decide) (by decide)⟩
    · rintro d a W hdi hdep hcl ⟨hF, hX⟩ K hK
      have E := hcl.facts 65 hdi rfl hdep [60, 64] [] (by kernel_rfl) (by kernel_rfl)
      simp only [AllT, AllF] at E
      rw [if_pos (wanted_free rfl)]
      have o0 : At a 310 (Value.bool true) := hF.done 60 (by decide) (by simp only [E])
      have o1 : At a 314 (Value.bool true) := hF.done 64 (by decide) (by simp only [E])
      refine wp_pick_true _ _ _ rfl o0.eval o1.eval ?_
      exact hK _ _ ⟨hF.put 65 (Value.bool true) 315 (by omega) (by kernel_rfl) (by kernel_rfl) (.inl ⟨rfl, rfl⟩), hX.put (Diff.refl _) 65 315 _ (by decide) (by decide)⟩
    · rintro d a W hdi hdep hcl ⟨hF, hX⟩ K hK
      have E := hcl.facts 66 hdi rfl hdep [64, 65] [] (by kernel_rfl) (by kernel_rfl)
      simp only [AllT, AllF] at E
      rw [if_pos (wanted_free rfl)]
      have o0 : At a 315 (Value.bool true) := hF.done 65 (by decide) (by simp only [E])
      refine wp_move_at _ rfl o0.eval ?_
      exact hK _ _ ⟨hF.put 66 (Value.bool true) 316 (by omega) (by kernel_rfl) (by kernel_rfl) (.inl ⟨rfl, rfl⟩), hX.put (Diff.refl _) 66 316 _ (by decide) (by decide)⟩
    · rintro d a W hdi hdep hcl ⟨hF, hX⟩ K hK
      have E := hcl.facts 67 hdi rfl hdep [66] [] (by kernel_rfl) (by kernel_rfl)
      simp only [AllT, AllF] at E
      have o0 : At a 316 (Value.bool true) := hF.done 66 (by decide) (by simp only [E])
      rw [if_pos (wanted_at (g := 66) (b := true) (s := 316) rfl rfl o0)]
      have o1 : At a 36 (Value.slice qi 1 ci) := hF.base 36 (by decide)
      refine wp_move_at _ rfl o1.eval ?_
      exact hK _ _ ⟨hF.put 67 (Value.slice qi 1 ci) 317 (by omega) (by kernel_rfl) (by kernel_rfl) (.inl ⟨rfl, rfl⟩), hX.put (Diff.refl _) 67 317 _ (by decide) (by decide)⟩
    · rintro d a W hdi hdep hcl ⟨hF, hX⟩ K hK
      have E := hcl.facts 68 hdi rfl hdep [66] [69] (by kernel_rfl) (by kernel_rfl)
      simp only [AllT, AllF] at E
      have o0 : At a 316 (Value.bool true) := hF.done 66 (by decide) (by simp only [E])
      rw [if_pos (wanted_at (g := 66) (b := true) (s := 316) rfl rfl o0)]
      refine wp_build_ints 1 _ rfl #[Value.int IntKind.i64 4] (fun w => by go_simp) ?_
      have hb := Blk.new W 3 #[Value.int IntKind.i64 4]
      have hp : Pure W (W.alloc (Obj.cells #[Value.int IntKind.i64 4] 3)) := (Diff.refl W).alloc _
      refine hK _ _ ⟨hF.put 68 _ 318 (by omega) (by kernel_rfl) (by kernel_rfl) (.inr (by decide)), ?_⟩
      have hs : 318 < a.tmps.size := by rw [hF.size]; omega
      exact hX.b68 hp hs (row_lit hb (fun k hk => by rcases k with _ | k <;> first | rfl | omega)) (by simp only [E])
    · rintro d a W hdi hdep hcl ⟨hF, hX⟩ K hK
      have E := hcl.facts 69 hdi rfl hdep [66, 68] [] (by kernel_rfl) (by kernel_rfl)
      simp only [AllT, AllF] at E
      have o0 : At a 316 (Value.bool true) := hF.done 66 (by decide) (by simp only [E])
      rw [if_pos (wanted_at (g := 66) (b := true) (s := 316) rfl rfl o0)]
      obtain ⟨s, hs1, hs2⟩ := hX.r (by simp only [E])
      refine wp_call_at 60 (enters_of Tryd.func60 (by kernel_rfl) rfl) _ _ rfl #[Value.slice (some ⟨s, 0, none⟩) 1 1] (by rw [show (#[Operand.tmp 318] : Array Operand).map a.eval = #[a.eval (.tmp 318)] from map_one _ _, hs1.eval]) (lof_any _ _ _ _ _ rfl) ?_
      intro W' hp
      have hs : 319 < a.tmps.size := by rw [hF.size]; omega
      exact hK _ _ ⟨hF.put 69 _ 319 (by omega) (by kernel_rfl) (by kernel_rfl) (.inr (by decide)), hX.b69 hp hs (hs2.to hp)⟩
    · rintro d a W hdi hdep hcl ⟨hF, hX⟩ K hK
      have E := hcl.facts 70 hdi rfl hdep [66, 67, 69] [] (by kernel_rfl) (by kernel_rfl)
      simp only [AllT, AllF] at E
      have o0 : At a 316 (Value.bool true) := hF.done 66 (by decide) (by simp only [E])
      rw [if_pos (wanted_at (g := 66) (b := true) (s := 316) rfl rfl o0)]
      obtain ⟨s, hs1, hs2⟩ := hX.s (by simp only [E])
      have q1 : At a 317 (Value.slice qi 1 ci) := hF.done 67 (by decide) (by simp only [E])
      refine wp_call_at 44 (enters_of Tryd.func44 (by kernel_rfl) rfl) _ _ rfl #[Value.slice qi 1 ci, Value.slice (some ⟨s, 0, none⟩) 1 1] (by rw [show (#[Operand.tmp 317, Operand.tmp 319] : Array Operand).map a.eval = #[a.eval (.tmp 317), a.eval (.tmp 319)] from map_two _ _ _, q1.eval, hs1.eval]) (ints_same ci 1 (n := 1) (f := fun k => (nthN [4] k : Int)) (by omega) (I_44.out.to hX.pure) hs2) ?_
      intro W' hp
      exact hK _ _ ⟨hF.put 70 (Value.bool true) 320 (by omega) (by kernel_rfl) (by kernel_rfl) (.inl ⟨rfl, rfl⟩), hX.put hp 70 320 _ (by decide) (by decide)⟩
    · rintro d a W hdi hdep hcl ⟨hF, hX⟩ K hK
      have E := hcl.facts 71 hdi rfl hdep [66, 70] [] (by kernel_rfl) (by kernel_rfl)
      simp only [AllT, AllF] at E
      rw [if_pos (wanted_free rfl)]
      have o0 : At a 316 (Value.bool true) := hF.done 66 (by decide) (by simp only [E])
      have o1 : At a 320 (Value.bool true) := hF.done 70 (by decide) (by simp only [E])
      refine wp_pick_true _ _ _ rfl o0.eval o1.eval ?_
      exact hK _ _ ⟨hF.put 71 (Value.bool true) 321 (by omega) (by kernel_rfl) (by kernel_rfl) (.inl ⟨rfl, rfl⟩), hX.put (Diff.refl _) 71 321 _ (by decide) (by decide)⟩
    · rintro d a W hdi hdep hcl ⟨hF, hX⟩ K hK
      have E := hcl.facts 72 hdi rfl hdep [70, 71] [] (by kernel_rfl) (by kernel_rfl)
      simp only [AllT, AllF] at E
      rw [if_pos (wanted_free rfl)]
      have o0 : At a 321 (Value.bool true) := hF.done 71 (by decide) (by simp only [E])
      refine wp_move_at _ rfl o0.eval ?_
      exact hK _ _ ⟨hF.put 72 (Value.bool true) 322 (by omega) (by kernel_rfl) (by kernel_rfl) (.inl ⟨rfl, rfl⟩), hX.put (Diff.refl _) 72 322 _ (by decide) (by decide)⟩
    · rintro d a W hdi hdep hcl ⟨hF, hX⟩ K hK
      have E := hcl.facts 73 hdi rfl hdep [72] [] (by kernel_rfl) (by kernel_rfl)
      simp only [AllT, AllF] at E
      have o0 : At a 322 (Value.bool true) := hF.done 72 (by decide) (by simp only [E])
      rw [if_pos (wanted_at (g := 72) (b := true) (s := 322) rfl rfl o0)]
      have o1 : At a 38 (Value.int IntKind.i64 3) := hF.base 38 (by decide)
      refine wp_move_at _ rfl o1.eval ?_
      exact hK _ _ ⟨hF.put 73 (Value.int IntKind.i64 3) 323 (by omega) (by kernel_rfl) (by kernel_rfl) (.inl ⟨rfl, rfl⟩), hX.put (Diff.refl _) 73 323 _ (by decide) (by decide)⟩
    · rintro d a W hdi hdep hcl ⟨hF, hX⟩ K hK
      have E := hcl.facts 74 hdi rfl hdep [72, 73] [] (by kernel_rfl) (by kernel_rfl)
      simp only [AllT, AllF] at E
      have o0 : At a 322 (Value.bool true) := hF.done 72 (by decide) (by simp only [E])
      rw [if_pos (wanted_at (g := 72) (b := true) (s := 322) rfl rfl o0)]
      have o1 : At a 323 (Value.int IntKind.i64 3) := hF.done 73 (by decide) (by simp only [E])
      refine wp_eql_int _ _ _ _ (by decide) rfl o1.eval rfl ?_
      exact hK _ _ ⟨hF.put 74 (Value.bool true) 324 (by omega) (by kernel_rfl) (by kernel_rfl) (.inl ⟨rfl, rfl⟩), hX.put (Diff.refl _) 74 324 _ (by decide) (by decide)⟩
    · rintro d a W hdi hdep hcl ⟨hF, hX⟩ K hK
      have E := hcl.facts 75 hdi rfl hdep [72, 74] [] (by kernel_rfl) (by kernel_rfl)
      simp only [AllT, AllF] at E
      rw [if_pos (wanted_free rfl)]
      have o0 : At a 322 (Value.bool true) := hF.done 72 (by decide) (by simp only [E])
      have o1 : At a 324 (Value.bool true) := hF.done 74 (by decide) (by simp only [E])
      refine wp_pick_true _ _ _ rfl o0.eval o1.eval ?_
      exact hK _ _ ⟨hF.put 75 (Value.bool true) 325 (by omega) (by kernel_rfl) (by kernel_rfl) (.inl ⟨rfl, rfl⟩), hX.put (Diff.refl _) 75 325 _ (by decide) (by decide)⟩
    · rintro d a W hdi hdep hcl ⟨hF, hX⟩ K hK
      have E := hcl.facts 76 hdi rfl hdep [72, 75] [] (by kernel_rfl) (by kernel_rfl)
      simp only [AllT, AllF] at E
      rw [if_pos (wanted_free rfl)]
      have o0 : At a 325 (Value.bool true) := hF.done 75 (by decide) (by simp only [E])
      refine wp_assign_at _ rfl o0.eval ?_
      exact hK _ _ ⟨hF.put 76 (Value.bool true) 0 (by omega) (by kernel_rfl) (by kernel_rfl) (.inl ⟨rfl, rfl⟩), hX.put (Diff.refl _) 76 0 _ (by decide) (by decide)⟩
  · rintro d a W hall ⟨hF, hX⟩
    have E := AllT.all hall [76] (by kernel_rfl)
    have oR : At a 0 (Value.bool true) := hF.done 76 (by decide) E.1
    have hpe := hX.pure
    have r1 : a.tmps[0]? = some (.bool true) := oR
    go_wp2_with fail
    exact bodyPost_ret (v := .bool true) (by simp only [results, Tryd.results17]; simp [go_sem, r1]) hF.nodef ⟨rfl, HP_44.out.trans hpe⟩
end Go.Proofs.YtgpfmnjianflaaaDoor
