/- Two tables compared, and a table put into a new block. -/
import Derived.Test.YtmedkmbfggphdaaDoorM01
import Derived.Laws.StructEq
set_option linter.unusedSimpArgs false
set_option linter.unusedVariables false
set_option linter.constructorNameAsVariable false
namespace Go.Proofs.YtmedkmbfggphdaaDoor
open Go.RowKit

theorem run_box_table (w : World) (f : Nat → Bd) : (Instr.box 111 (.agg (tabV f))).run Tryd.prog w = .ok (.pointer (some ⟨w.heap.size, 0, none⟩)) (w.alloc (.cells (tabV f) 111)) := by kernel_rfl

section
variable {P : Program}
theorem run_equalIn_array (d : Nat) (t elem : TypeId) (xs ys : Array Value) (len n : Nat) (hu : P.underlying t = some (.array len elem)) (hn : ∀ w, (sizeOf elem).run P w = .ok n w) (r : Nat → Bool)
    (h : ∀ i, i < len → ∀ w, ∃ a b, (part elem xs (i * n)).run P w = .ok a w ∧ (part elem ys (i * n)).run P w = .ok b w ∧ (Op.equalIn d elem a b).run P w = .ok (r i) w) (w : World) :
    (Op.equalIn (d + 1) t (.agg xs) (.agg ys)).run P w = .ok ((List.range len).all r) w := by
  simp only [Op.equalIn, Sem.run_bind, run_underlying hu, Result.andThen_ok, hn]
  simp only [Std.Legacy.Range.forIn_eq_forIn_range', Std.Legacy.Range.size, Nat.sub_zero, Nat.add_one_sub_one, Nat.div_one, ← List.range_eq_range']
  have key : ∀ l : List Nat, (∀ i ∈ l, i < len) → (forIn l ((none, ()) : Option Bool × Unit) fun i _ => (do
      let a ← part elem xs (i * n)
      let b ← part elem ys (i * n)
      let c ← Op.equalIn d elem a b
      if (!c) = true then pure (ForInStep.done (some false, ())) else pure (ForInStep.yield (none, ())) : Sem _)).run P w = .ok (if l.all r then none else some false, ()) w := by
    intro l
    induction l with
    | nil => intro _; simp
    | cons i l ih =>
      intro hl
      obtain ⟨a, b, h1, h2, h3⟩ := h i (hl i (by simp)) w
      rw [List.forIn_cons, Sem.run_bind]
      simp only [Sem.run_bind, h1, h2, h3, Result.andThen_ok, Sem.run_ite]
      cases hr : r i with
      | false => simp [hr]
      | true =>
        simp only [Bool.not_true, Bool.false_eq_true, if_false, Sem.run_pure, Result.andThen_ok]
        rw [ih (fun j hj => hl j (by simp [hj]))]
        simp [hr]
  rw [key (List.range len) (fun i hi => by simpa using hi)]
  cases hA : (List.range len).all r <;> simp
end

theorem size108 (w : World) : (sizeOf 108).run Tryd.prog w = .ok 2 w := by kernel_rfl
theorem size109 (w : World) : (sizeOf 109).run Tryd.prog w = .ok 38 w := by kernel_rfl
theorem isAgg108 (w : World) : (isAgg 108).run Tryd.prog w = .ok true w := by kernel_rfl
theorem isAgg109 (w : World) : (isAgg 109).run Tryd.prog w = .ok true w := by kernel_rfl
theorem under109 : Tryd.prog.underlying 109 = some (.array 19 108) := by kernel_rfl
theorem under111 : Tryd.prog.underlying 111 = some (.array 19 109) := by kernel_rfl
theorem part109 (w : World) (xs : Array Value) (o : Nat) : (part 109 xs o).run Tryd.prog w = .ok (.agg (xs.extract o (o + 38))) w := by
  simp [part, Sem.run_bind]
theorem part108 (w : World) (xs : Array Value) (o : Nat) : (part 108 xs o).run Tryd.prog w = .ok (.agg (xs.extract o (o + 2))) w := by
  simp [part, Sem.run_bind]
def Bd.eqB (a b : Bd) : Bool := (a.by' == b.by') && (a.known == b.known)
theorem tab_part (f : Nat → Bd) (i j : Nat) (hi : i < 19) (hj : j < 19) : ((tabV f).extract (i * 38) (i * 38 + 38)).extract (j * 2) (j * 2 + 2) = #[.int .i64 (f (i * 19 + j)).by', .bool (f (i * 19 + j)).known] := by
  rw [Array.extract_extract]
  apply Array.ext_getElem?
  intro k
  have h0 : (tabV f)[i * 38 + j * 2]? = some (.int .i64 (f (i * 19 + j)).by') := by rw [show i * 38 + j * 2 = 2 * (i * 19 + j) by omega]; exact tab_by (by omega)
  have h1 : (tabV f)[i * 38 + j * 2 + 1]? = some (.bool (f (i * 19 + j)).known) := by rw [show i * 38 + j * 2 + 1 = 2 * (i * 19 + j) + 1 by omega]; exact tab_known (by omega)
  have hm : min (i * 38 + (j * 2 + 2)) (i * 38 + 38) = i * 38 + j * 2 + 2 := by omega
  rw [Array.getElem?_extract, hm]
  match k with
  | 0 => simp [h0, tab_size]; omega
  | 1 => simp [h1, tab_size]; omega
  | k + 2 => simp [tab_size]; omega
theorem eq108 (d : Nat) (w : World) (a b : Bd) : (Op.equalIn (d + 2) 108 (.agg #[.int .i64 a.by', .bool a.known]) (.agg #[.int .i64 b.by', .bool b.known])).run Tryd.prog w = .ok (a.eqB b) w := by
  simp [go_sem, Bd.eqB]
  by_cases h1 : a.by' = b.by' <;> by_cases h2 : a.known = b.known <;> simp [h1, h2]
/-- What comparing two tables answers. -/
def tabEq (f g : Nat → Bd) : Bool := (List.range 19).all fun i => (List.range 19).all fun j => (f (i * 19 + j)).eqB (g (i * 19 + j))
theorem run_eql_table (w : World) (f g : Nat → Bd) : (binOp .eql 111 (.agg (tabV f)) (.agg (tabV g))).run Tryd.prog w = .ok (.bool (tabEq f g)) w := by
  rw [run_eql_struct, run_equalIn_array 9999 111 109 _ _ 19 38 under111 size109 (fun i => (List.range 19).all fun j => (f (i * 19 + j)).eqB (g (i * 19 + j)))]
  · rfl
  · intro i hi w
    refine ⟨_, _, part109 _ _ _, part109 _ _ _, ?_⟩
    rw [run_equalIn_array 9998 109 108 _ _ 19 2 under109 size108 (fun j => (f (i * 19 + j)).eqB (g (i * 19 + j)))]
    intro j hj w
    refine ⟨_, _, part108 _ _ _, part108 _ _ _, ?_⟩
    rw [tab_part f i j hi hj, tab_part g i j hi hj]
    exact eq108 9996 _ _ _
section
variable {ops : Array Oper} {rest : List Oper} {o : Oper} {a : Act} {w : World} {Q : Exit → Act → World → Prop} {K : Act → World → Prop}
theorem wpList_box_table (hgd : o.guard = none) (x : Operand) (ho : o.op = .box 111 x) (f : Nat → Bd) (hx : a.eval x = .agg (tabV f))
    (h : wpList Tryd.prog ops Q rest (a.put o.dst (.pointer (some ⟨w.heap.size, 0, none⟩))) (w.alloc (.cells (tabV f) 111))) : wpList Tryd.prog ops Q (o :: rest) a w :=
  wpList_plain hgd fun K hK => by
    unfold Oper.wp execOp
    simp only [ho, hx, Sem.run_bind, run_box_table, Result.andThen_ok, Sem.run_pure]
    exact hK _ _ h
theorem wp_load_table (x : Operand) (ho : o.op = .load 111 x) (g : Nat) (f : Nat → Bd)
    (hx : a.eval x = .pointer (some ⟨g, 0, none⟩)) (hg : w.heap[g]? = some (.cells (tabV f) 111 (0, 0)))
    (h : K (a.put o.dst (.agg (tabV f))) w) : o.wp Tryd.prog a w K Q :=
  wp_load_row 111 x ho g hx 111 (tabV f) (0, 0) _ hg Tryd.underlying111 rfl (by rw [tab_size]; exact size_table) h
theorem wp_eql_table (x y : Operand) (t : TypeId) (ho : o.op = .binOp .eql 111 x y t) (f g : Nat → Bd)
    (hx : a.eval x = .agg (tabV f)) (hy : a.eval y = .agg (tabV g))
    (h : K (a.put o.dst (.bool (tabEq f g))) w) : o.wp Tryd.prog a w K Q := by
  have hgd : (eqGuard .eql 111 x y (.agg (tabV f)) (.agg (tabV g))).run Tryd.prog w = .ok () w := run_eqGuard_agg w .eql 111 x y _ _ (by kernel_rfl)
  unfold Oper.wp execOp
  simp only [ho, hx, hy, Sem.run_bind, hgd, run_eql_table, Result.andThen_ok, Sem.run_pure]
  exact h
end
theorem tabEq_self (f : Nat → Bd) : tabEq f f = true := by simp [tabEq, Bd.eqB]
theorem tabEq_false {f g : Nat → Bd} (k : Nat) (hk : k < 361) (h : (f k).known ≠ (g k).known) : tabEq f g = false := by
  cases hq : tabEq f g with
  | false => rfl
  | true =>
    simp only [tabEq, List.all_eq_true, List.mem_range, Bd.eqB, Bool.and_eq_true, beq_iff_eq] at hq
    have := (hq (k / 19) (by omega) (k % 19) (by omega)).2
    rw [show k / 19 * 19 + k % 19 = k by omega] at this
    exact absurd this h
end Go.Proofs.YtmedkmbfggphdaaDoor
