/- Walks of the methods of bound, and of none. Laws for a map whose keys are pairs of ints and whose values are int64s, by its very entries. The table of bounds in memory, and what tighten computes. A law for a region that draws its order, by an invariant over which of its operations have been carried out. No condition. The law of YtmedkmbfggphdaaDoorK2 outside a fence. No condition. -/
import Derived.Test.YtmedkmbfggphdaaDoorM00
import Derived.Test.YtmedkmbfggphdaaDoorProg
import Derived.BigQuiet
import Derived.Deep.QuietTactic
import Derived.Laws.StructEq
import Derived.OrdersIn
import Derived.RegionTactic
set_option linter.unusedSimpArgs false
set_option linter.unusedVariables false
set_option linter.constructorNameAsVariable false
namespace Go.Proofs.YtmedkmbfggphdaaDoor
open Go.RowKit

structure Bd where
  by' : Int
  known : Bool
deriving DecidableEq

def Bd.tighter (b o : Bd) : Bd := if o.known && (!b.known || decide (o.by' < b.by')) then o else b
def Bd.next (b o : Bd) : Bd := if b.known && o.known then ⟨b.by' + o.by', true⟩ else ⟨0, false⟩
abbrev Bd.v (b : Bd) : Value := .agg #[.int .i64 b.by', .bool b.known]

theorem tighter_any (w : World) (b o : Bd) :
    Calls Tryd.prog 101 #[.agg #[.int .i64 b.by', .bool b.known], .agg #[.int .i64 o.by', .bool o.known]] w fun e w' => e = .returned (.agg #[.int .i64 (b.tighter o).by', .bool (b.tighter o).known]) ∧ Pure w w' := by
  obtain ⟨x, k⟩ := b
  obtain ⟨y, l⟩ := o
  cases l
  · have HF : Hid (Bd.tighter ⟨x, k⟩ ⟨y, false⟩ = ⟨x, k⟩) := rfl
    rw [HF.out]
    go_enter Tryd.func101, Tryd.ntmps101
    go_wp2
    exact bodyPost_ret (v := .agg #[.int .i64 x, .bool k]) (by simp [results, Tryd.results101, go_sem]) rfl ⟨rfl, by repeat (first | exact Diff.refl _ | apply Diff.alloc)⟩
  · cases k
    · have HF : Hid (Bd.tighter ⟨x, false⟩ ⟨y, true⟩ = ⟨y, true⟩) := rfl
      rw [HF.out]
      go_enter Tryd.func101, Tryd.ntmps101
      go_wp2
      exact bodyPost_ret (v := .agg #[.int .i64 y, .bool true]) (by simp [results, Tryd.results101, go_sem]) rfl ⟨rfl, by repeat (first | exact Diff.refl _ | apply Diff.alloc)⟩
    · by_cases h : y < x
      · have HF : Hid (Bd.tighter ⟨x, true⟩ ⟨y, true⟩ = ⟨y, true⟩) := by show _ = _; simp [Bd.tighter, h]
        rw [HF.out]
        go_enter Tryd.func101, Tryd.ntmps101
        go_wp2
        exact bodyPost_ret (v := .agg #[.int .i64 y, .bool true]) (by simp [results, Tryd.results101, go_sem]) rfl ⟨rfl, by repeat (first | exact Diff.refl _ | apply Diff.alloc)⟩
      · have HF : Hid (Bd.tighter ⟨x, true⟩ ⟨y, true⟩ = ⟨x, true⟩) := by show _ = _; simp [Bd.tighter, h]
        rw [HF.out]
        go_enter Tryd.func101, Tryd.ntmps101
        go_wp2
        exact bodyPost_ret (v := .agg #[.int .i64 x, .bool true]) (by simp [results, Tryd.results101, go_sem]) rfl ⟨rfl, by repeat (first | exact Diff.refl _ | apply Diff.alloc)⟩

theorem next_any (w : World) (b o : Bd) (h0 : -1000000000 ≤ b.by') (h1 : b.by' ≤ 1000000000) (h2 : -1000000000 ≤ o.by') (h3 : o.by' ≤ 1000000000) :
    Calls Tryd.prog 102 #[.agg #[.int .i64 b.by', .bool b.known], .agg #[.int .i64 o.by', .bool o.known]] w fun e w' => e = .returned (.agg #[.int .i64 (b.next o).by', .bool (b.next o).known]) ∧ Pure w w' := by
  obtain ⟨x, k⟩ := b
  obtain ⟨y, l⟩ := o
  simp only at h0 h1 h2 h3
  cases k
  · have HF : Hid (Bd.next ⟨x, false⟩ ⟨y, l⟩ = ⟨0, false⟩) := rfl
    rw [HF.out]
    go_enter Tryd.func102, Tryd.ntmps102
    go_wp2
    exact bodyPost_ret (v := .agg #[.int .i64 0, .bool false]) (by simp [results, Tryd.results102, go_sem]) rfl ⟨rfl, by repeat (first | exact Diff.refl _ | apply Diff.alloc)⟩
  · cases l
    · have HF : Hid (Bd.next ⟨x, true⟩ ⟨y, false⟩ = ⟨0, false⟩) := rfl
      rw [HF.out]
      go_enter Tryd.func102, Tryd.ntmps102
      go_wp2
      exact bodyPost_ret (v := .agg #[.int .i64 0, .bool false]) (by simp [results, Tryd.results102, go_sem]) rfl ⟨rfl, by repeat (first | exact Diff.refl _ | apply Diff.alloc)⟩
    · have HF : Hid (Bd.next ⟨x, true⟩ ⟨y, true⟩ = ⟨x + y, true⟩) := rfl
      rw [HF.out]
      go_enter Tryd.func102, Tryd.ntmps102
      go_wp2
      exact bodyPost_ret (v := .agg #[.int .i64 (x + y), .bool true]) (by simp [results, Tryd.results102, go_sem]) rfl ⟨rfl, by repeat (first | exact Diff.refl _ | apply Diff.alloc)⟩

/-- The cells of a table: f k is the bound from k / 19 to k % 19. -/
def tabV (f : Nat → Bd) : Array Value := Array.ofFn (n := 722) fun i => if i.val % 2 = 0 then .int .i64 (f (i.val / 2)).by' else .bool (f (i.val / 2)).known
def bd0 : Bd := ⟨0, false⟩
def tab0 : Array Value := tabV fun _ => bd0
theorem tab_size (f : Nat → Bd) : (tabV f).size = 722 := by simp [tabV]
theorem tab_by {f : Nat → Bd} {k : Nat} (h : k < 361) : (tabV f)[2 * k]? = some (.int .i64 (f k).by') := by
  simp [tabV, Array.getElem?_ofFn]; omega
theorem tab_known {f : Nat → Bd} {k : Nat} (h : k < 361) : (tabV f)[2 * k + 1]? = some (.bool (f k).known) := by
  have e : (2 * k + 1) / 2 = k := by omega
  have e2 : (2 * k + 1) % 2 = 1 := by omega
  simp [tabV, Array.getElem?_ofFn, e, e2]; omega

theorem run_alloc_table (w : World) : (Instr.alloc 111 true (.tuple #[])).run Tryd.prog w = .ok (.pointer (some ⟨w.heap.size, 0, none⟩)) (w.alloc (.cells tab0 111)) := by kernel_rfl
theorem run_build_table (w : World) : (Instr.build 111 #[]).run Tryd.prog w = .ok (.agg tab0) w := by kernel_rfl
theorem size_table : (Tryd.prog.info? 111).map (·.size) = some 722 := by kernel_rfl
theorem tab_oneCell (f : Nat → Bd) : (tabV f).all (·.oneCell') = true := by
  rw [Array.all_eq_true]
  intro i hi
  simp only [tabV, Array.getElem_ofFn]
  split <;> rfl

section
variable {ops : Array Oper} {rest : List Oper} {o : Oper} {a : Act} {w : World} {Q : Exit → Act → World → Prop}
theorem wpList_alloc_table (hgd : o.guard = none) (ho : o.op = .alloc 111)
    (h : wpList Tryd.prog ops Q rest (a.put o.dst (.pointer (some ⟨w.heap.size, 0, none⟩))) (w.alloc (.cells tab0 111))) : wpList Tryd.prog ops Q (o :: rest) a w :=
  wpList_plain hgd fun K hK => by
    unfold Oper.wp execOp
    simp only [ho, Sem.run_bind, run_alloc_table, Result.andThen_ok, Sem.run_pure]
    exact hK _ _ h
theorem wpList_build_table (hgd : o.guard = none) (ho : o.op = .build 111 #[])
    (h : wpList Tryd.prog ops Q rest (a.put o.dst (.agg tab0)) w) : wpList Tryd.prog ops Q (o :: rest) a w :=
  wpList_plain hgd fun K hK => by
    unfold Oper.wp execOp
    simp only [ho, Sem.run_bind, Array.map_empty, run_build_table, Result.andThen_ok, Sem.run_pure]
    exact hK _ _ h
theorem wpList_store_table (hgd : o.guard = none) (x y : Operand) (ho : o.op = .store 111 x y) (g : Nat) (f old : Nat → Bd)
    (hx : a.eval x = .pointer (some ⟨g, 0, none⟩)) (hy : a.eval y = .agg (tabV f)) (hg : w.heap[g]? = some (.cells (tabV old) 111 (0, 0)))
    (h : wpList Tryd.prog ops Q rest (a.put o.dst undef) (w.setRow g (tabV f))) : wpList Tryd.prog ops Q (o :: rest) a w :=
  wpList_store_row hgd 111 x y ho g (tabV f) hx hy 111 (tabV old) hg (by rw [tab_size]; exact size_table) (by rw [tab_size, tab_size]) (tab_oneCell f) h
theorem wpList_load_table (hgd : o.guard = none) (x : Operand) (ho : o.op = .load 111 x) (g : Nat) (f : Nat → Bd)
    (hx : a.eval x = .pointer (some ⟨g, 0, none⟩)) (hg : w.heap[g]? = some (.cells (tabV f) 111 (0, 0)))
    (h : wpList Tryd.prog ops Q rest (a.put o.dst (.agg (tabV f))) w) : wpList Tryd.prog ops Q (o :: rest) a w :=
  wpList_load_row hgd 111 x ho g hx 111 (tabV f) (0, 0) _ hg Tryd.underlying111 rfl (by rw [tab_size]; exact size_table) h
end
theorem Diff.setRow {O : Nat → Prop} {a w : World} (h : Diff O a w) {g : Nat} (hp : g < a.heap.size → O g) (cs : Array Value) : Diff O a (w.setRow g cs) :=
  h.trans' (O' := fun k => k = g) ⟨rfl, rfl, rfl, by simp, fun _ _ ho => setRow_other _ _ _ _ ho⟩ (fun _ hk e => by subst e; exact hp hk)


theorem none_any (w : World) :
    Calls Tryd.prog 87 #[] w fun e w' => e = .returned (.agg tab0) ∧ Pure w w' := by
  go_enter Tryd.func87, Tryd.ntmps87
  refine wp_seq (wp_region_lit (wpList_alloc_table rfl rfl ?_))
  have hsz : (w.alloc (.cells tab0 111)).heap[w.heap.size]? = some (.cells tab0 111 (0, 0)) := World.alloc_heap_new _ _
  obtain ⟨W, hW⟩ : ∃ W, w.alloc (.cells tab0 111) = W := ⟨_, rfl⟩
  have hP : Pure w W := by rw [← hW]; exact (Diff.refl w).alloc _
  rw [hW] at hsz ⊢
  clear hW
  refine wpList_nil (wp_seq (wp_region_lit (wpList_build_table rfl rfl ?_)))
  refine wpList_store_table rfl (.tmp 0) (.tmp 1) rfl w.heap.size (fun _ => bd0) (fun _ => bd0) rfl rfl hsz ?_
  refine wpList_nil (wp_ret ?_)
  refine bodyPost_ret (v := .agg tab0) (results_cell_row Tryd.results87 _ _ w.heap.size 111 tab0 (0, 0) _ rfl ?_ Tryd.underlying111 rfl ?_) rfl ⟨rfl, hP.setRow (by omega) _⟩
  · exact setRow_heap _ _ _ _ _ _ hsz
  · rw [show tab0.size = 722 from tab_size _]; exact size_table
end Go.Proofs.YtmedkmbfggphdaaDoor

namespace Go.Proofs.YtmedkmbfggphdaaDoor
open Go.RowKit

structure ME where
  f : Int
  t : Int
  v : Int
  born : Nat
abbrev ME.toE (e : ME) : MapEntry := { key := .agg #[.int .i64 e.f, .int .i64 e.t], val := .int .i64 e.v, born := e.born }
abbrev ME.is (f t : Int) (e : ME) : Bool := f == e.f && t == e.t
/-- The object of a map. -/
abbrev mapO (es : List ME) (clock : Nat) : Obj := .map (es.map ME.toE).toArray clock

theorem run_checkPair (w : World) (em : Bool) (f t : Int) : (Instr.checkKey em 10000 106 (.agg #[.int .i64 f, .int .i64 t])).run Tryd.prog w = .ok () w := by kernel_rfl
theorem run_keyStays (w : World) (f t : Int) : (Instr.keyThatStays (.agg #[.int .i64 f, .int .i64 t]) (.agg #[.int .i64 f, .int .i64 t])).run Tryd.prog w = .ok (.agg #[.int .i64 f, .int .i64 t]) w := by
  simp [Instr.keyThatStays, Instr.sameBits]
theorem run_equalPair (w : World) (a b c d : Int) : (Op.equal 106 (.agg #[.int .i64 a, .int .i64 b]) (.agg #[.int .i64 c, .int .i64 d])).run Tryd.prog w = .ok (a == c && b == d) w := by
  unfold Op.equal
  have hu : Tryd.prog.underlying 106 = some (.struct (Tryd.prog.fieldsOf 106)) := by kernel_rfl
  show (Op.equalIn (9999 + 1) 106 _ _).run _ _ = _
  rw [run_equalIn_struct w 9999 106 _ _ hu (by kernel_rfl)]
  have h0 := Tryd.underlying106
  rw [hu] at h0
  simp only [Option.some.injEq, TypeDesc.struct.injEq] at h0
  rw [h0]
  have p0 : ∀ (w : World) (x y : Int), (part 3 #[.int .i64 x, .int .i64 y] 0).run Tryd.prog w = .ok (.int .i64 x) w := fun _ _ _ => by kernel_rfl
  have p1 : ∀ (w : World) (x y : Int), (part 3 #[.int .i64 x, .int .i64 y] 1).run Tryd.prog w = .ok (.int .i64 y) w := fun _ _ _ => by kernel_rfl
  have e3 : ∀ (w : World) (x y : Int), (Op.equalIn 9999 3 (.int .i64 x) (.int .i64 y)).run Tryd.prog w = .ok (x == y) w := fun w x y => run_equalIn_int w 9998 3 .i64 .i64 x y Tryd.underlying3
  simp [Op.eqFields, Sem.run_bind, p0, p1, e3, Result.andThen]
  cases h : (a == c) <;> simp_all
  by_cases hb : b = d <;> simp_all

def findM (f t : Int) : List ME → Nat → Option (Nat × ME)
  | [], _ => none
  | e :: es, i => if e.is f t then some (i, e) else findM f t es (i + 1)

theorem run_findAsking (w : World) (f t : Int) : ∀ (es : List ME) (i : Nat), (Instr.findAsking 106 (.agg #[.int .i64 f, .int .i64 t]) (es.map ME.toE) i).run Tryd.prog w = .ok ((findM f t es i).map fun x => (x.1, .int .i64 x.2.v)) w
  | [], i => by simp [Instr.findAsking, findM]
  | e :: es, i => by
    simp only [List.map_cons, Instr.findAsking, Sem.run_bind, run_equalPair, Result.andThen_ok, findM, ME.is]
    by_cases h : (f == e.f && t == e.t) = true
    · rw [if_pos h, if_pos h]; simp
    · rw [if_neg h, if_neg h]; exact run_findAsking w f t es (i + 1)
theorem run_findKey (w : World) (f t : Int) (es : List ME) : (Instr.findKey 106 (.agg #[.int .i64 f, .int .i64 t]) (es.map ME.toE)).run Tryd.prog w = .ok ((findM f t es 0).map fun x => (x.1, .int .i64 x.2.v)) w := by
  unfold Instr.findKey
  rw [Sem.run_bind, run_underlying Tryd.underlying106]
  cases es with
  | nil => simp [Instr.findNow, findM, Result.andThen]
  | cons e es =>
    have := run_findAsking w f t (e :: es) 0
    simp only [List.map_cons] at this
    simp only [Result.andThen_ok, List.map_cons, Instr.findNow, Instr.sameNow]
    exact this

theorem findM_none {f t : Int} : ∀ {es : List ME} {i : Nat}, (∀ e ∈ es, e.is f t = false) → findM f t es i = none
  | [], _, _ => rfl
  | e :: es, i, h => by
    unfold findM
    rw [h e (by simp)]
    exact findM_none (fun x hx => h x (by simp [hx]))

theorem run_mapUpdate_fresh (w : World) (r : Nat) (es : List ME) (clock : Nat) (f t v : Int) (hr : w.heap[r]? = some (mapO es clock)) (hf : ∀ e ∈ es, e.is f t = false) :
    (Instr.mapUpdate 94 (.map (some r)) (.agg #[.int .i64 f, .int .i64 t]) (.int .i64 v)).run Tryd.prog w = .ok () (w.putObj r (mapO (es ++ [⟨f, t, v, clock⟩]) (clock + 1))) := by
  unfold Instr.mapUpdate
  have hg : (getObj r).run Tryd.prog w = .ok (mapO es clock) w := by simp [getObj, Sem.run, hr]
  have hk := run_findKey w f t es
  rw [findM_none hf] at hk
  simp only [Sem.run_bind, run_underlying Tryd.underlying94, Result.andThen_ok, hg, run_checkPair]
  rw [hk]
  simp only [Option.map_none, Result.andThen_ok, setObj, Sem.run, hr, World.putObj, if_true]
  simp [mapO, Sem.run, hr]

theorem run_lookup_ok (w : World) (r : Nat) (es : List ME) (clock : Nat) (f t : Int) (hr : w.heap[r]? = some (mapO es clock)) :
    (Instr.lookup 94 (.map (some r)) (.agg #[.int .i64 f, .int .i64 t]) true).run Tryd.prog w = .ok (.tuple #[.int .i64 (((findM f t es 0).map (·.2.v)).getD 0), .bool (findM f t es 0).isSome]) w := by
  unfold Instr.lookup
  have hg : (getObj r).run Tryd.prog w = .ok (mapO es clock) w := by simp [getObj, Sem.run, hr]
  have hk := run_findKey w f t es
  have hz : (zeroValue 2).run Tryd.prog w = .ok (.int .i64 0) w := by kernel_rfl
  simp only [Sem.run_bind, run_underlying Tryd.underlying94, Result.andThen_ok, hg, run_checkPair, Sem.run_pure]
  rw [hk]
  cases h : findM f t es 0 with
  | none => simp [Result.andThen, Sem.run_bind, hz]
  | some x => simp [Result.andThen]
theorem run_lookup_no (w : World) (r : Nat) (es : List ME) (clock : Nat) (f t : Int) (hr : w.heap[r]? = some (mapO es clock)) :
    (Instr.lookup 94 (.map (some r)) (.agg #[.int .i64 f, .int .i64 t]) false).run Tryd.prog w = .ok (.int .i64 (((findM f t es 0).map (·.2.v)).getD 0)) w := by
  unfold Instr.lookup
  have hg : (getObj r).run Tryd.prog w = .ok (mapO es clock) w := by simp [getObj, Sem.run, hr]
  have hk := run_findKey w f t es
  have hz : (zeroValue 2).run Tryd.prog w = .ok (.int .i64 0) w := by kernel_rfl
  simp only [Sem.run_bind, run_underlying Tryd.underlying94, Result.andThen_ok, hg, run_checkPair, Sem.run_pure]
  rw [hk]
  cases h : findM f t es 0 with
  | none => simp [Result.andThen, Sem.run_bind, hz]
  | some x => simp [Result.andThen]
theorem map_erase : ∀ (es : List ME) (i : Nat), (es.map ME.toE).eraseIdx i = (es.eraseIdx i).map ME.toE
  | [], _ => rfl
  | _ :: _, 0 => rfl
  | e :: es, i + 1 => by simp [List.eraseIdx, map_erase es i]
/-- What a delete leaves. -/
def delM (f t : Int) (es : List ME) : List ME := match findM f t es 0 with | some (i, _) => es.eraseIdx i | none => es
theorem run_delete (w : World) (r : Nat) (es : List ME) (clock : Nat) (f t : Int) (hr : w.heap[r]? = some (mapO es clock)) (T : TypeId) (k : TypeId) :
    (Builtin.delete_ #[94, k] T #[.map (some r), .agg #[.int .i64 f, .int .i64 t]]).run Tryd.prog w = .ok (.tuple #[]) (w.putObj r (mapO (delM f t es) clock)) := by
  unfold Builtin.delete_
  have hg : (getObj r).run Tryd.prog w = .ok (mapO es clock) w := by simp [getObj, Sem.run, hr]
  have hk := run_findKey w f t es
  simp only [List.getElem?_toArray, List.getElem?_cons_zero, List.getElem?_cons_succ, Sem.run_bind, run_underlying Tryd.underlying94, Result.andThen_ok, hg, run_checkPair]
  rw [hk]
  cases h : findM f t es 0 with
  | none => simp [Result.andThen, setObj, Sem.run, hr, World.putObj, delM, h]
  | some x => 
    simp [Result.andThen, setObj, Sem.run, hr, World.putObj, delM, h, mapO, map_erase]
end Go.Proofs.YtmedkmbfggphdaaDoor

namespace Go.Proofs.YtmedkmbfggphdaaDoor
open Go.RowKit

def setF (f : Nat → Bd) (k : Nat) (x : Bd) : Nat → Bd := fun j => if j = k then x else f j

theorem tab_get_even {f : Nat → Bd} {i : Nat} (h : i < 722) (h2 : i % 2 = 0) : (tabV f)[i]? = some (.int .i64 (f (i / 2)).by') := by
  simp [tabV, Array.getElem?_ofFn, h, h2]
theorem tab_get_odd {f : Nat → Bd} {i : Nat} (h : i < 722) (h2 : i % 2 = 1) : (tabV f)[i]? = some (.bool (f (i / 2)).known) := by
  simp [tabV, Array.getElem?_ofFn, h, h2]

theorem tab_set (f : Nat → Bd) (k : Nat) (hk : k < 361) (x : Bd) : ((tabV f).setIfInBounds (2 * k) (.int .i64 x.by')).setIfInBounds (2 * k + 1) (.bool x.known) = tabV (setF f k x) := by
  apply Array.ext_getElem?
  intro i
  by_cases hi : i < 722
  · by_cases h1 : i = 2 * k + 1
    · subst h1
      rw [Array.getElem?_setIfInBounds_self]
      rw [tab_get_odd hi (by omega)]
      have e : (2 * k + 1) / 2 = k := by omega
      simp [tab_size, hi, setF, e]
    · rw [Array.getElem?_setIfInBounds_ne (by omega)]
      by_cases h0 : i = 2 * k
      · subst h0
        rw [Array.getElem?_setIfInBounds_self, tab_get_even hi (by omega)]
        simp [tab_size, hi, setF]
      · rw [Array.getElem?_setIfInBounds_ne (by omega)]
        rcases Nat.mod_two_eq_zero_or_one i with e | e
        · rw [tab_get_even hi e, tab_get_even hi e]
          simp [setF, show ¬ i / 2 = k by omega]
        · rw [tab_get_odd hi e, tab_get_odd hi e]
          simp [setF, show ¬ i / 2 = k by omega]
  · rw [Array.getElem?_eq_none (by simp [tab_size]; omega), Array.getElem?_eq_none (by simp [tab_size]; omega)]

/-- Block g holds the table f. -/
def TabAt (w : World) (g : Nat) (f : Nat → Bd) : Prop := w.heap[g]? = some (.cells (tabV f) 111 (0, 0))
theorem TabAt.lt {w : World} {g : Nat} {f : Nat → Bd} (h : TabAt w g f) : g < w.heap.size := (Array.getElem?_eq_some_iff.1 h).1
theorem TabAt.cell {w : World} {g : Nat} {f : Nat → Bd} (h : TabAt w g f) {o k : Nat} (hk : k < 361) (ho : o = 2 * k) : w.cell? ⟨g, o, none⟩ = some (.int .i64 (f k).by') := by
  subst ho; rw [cell_of_row w g _ _ _ _ h]; exact tab_by hk
theorem TabAt.cell1 {w : World} {g : Nat} {f : Nat → Bd} (h : TabAt w g f) {o k : Nat} (hk : k < 361) (ho : o = 2 * k + 1) : w.cell? ⟨g, o, none⟩ = some (.bool (f k).known) := by
  subst ho; rw [cell_of_row w g _ _ _ _ h]; exact tab_known hk
theorem TabAt.free {w : World} {g : Nat} {f : Nat → Bd} (h : TabAt w g f) (o : Nat) : w.frozen? ⟨g, o, none⟩ = false := frozen_of_row w g o _ _ h
theorem TabAt.set {w : World} {g : Nat} {f : Nat → Bd} (h : TabAt w g f) {o k : Nat} (hk : k < 361) (ho : o = 2 * k) (x : Bd) :
    TabAt ((w.setCell ⟨g, o, none⟩ (.int .i64 x.by')).setCell ⟨g, o + 1, none⟩ (.bool x.known)) g (setF f k x) := by
  subst ho
  have h1 := heap_setCell_same w g (2 * k) _ _ (.int .i64 x.by') h
  have h2 := heap_setCell_same _ g (2 * k + 1) _ _ (.bool x.known) h1
  rw [tab_set f k hk x] at h2
  exact h2
theorem TabAt.diff {O : Nat → Prop} {w w' : World} {g : Nat} {f : Nat → Bd} (h : TabAt w g f) (hd : Diff O w w') (ho : ¬ O g) : TabAt w' g f := (hd.block g h.lt ho).trans h

/-! What tighten computes. -/
def diagT (n : Nat) : Nat → Bd := fun k => if k / 19 = k % 19 ∧ k / 19 < n then ⟨0, true⟩ else bd0
def netT (es : List ME) : Nat → Bd := fun k => match findM ((k / 19 : Nat) : Int) ((k % 19 : Nat) : Int) es 0 with | some x => ⟨x.2.v, true⟩ | none => diagT 19 k
def phase (v : Nat) (T : Nat → Bd) : Nat → Bd := fun k => (T k).tighter ((T (k / 19 * 19 + v)).next (T (v * 19 + k % 19)))
/-- The table as it stands within phase v, the first n entries of which are done. -/
def partT (v n : Nat) (T : Nat → Bd) : Nat → Bd := fun k => if k < n then phase v T k else T k
def fwTo : Nat → (Nat → Bd) → Option (Nat → Bd)
  | 0, T => some T
  | n + 1, T => match fwTo n T with
    | none => none
    | some T' => if (T' (n * 19 + n)).by' < 0 then none else some (phase n T')
def tightS (es : List ME) : Nat → Bd := (fwTo 19 (netT es)).getD fun _ => bd0

theorem tighter_self_row {b d : Bd} (h : 0 ≤ d.by') : b.tighter (b.next d) = b := by
  obtain ⟨x, k⟩ := b
  obtain ⟨y, l⟩ := d
  simp only at h
  cases k <;> cases l <;> simp [Bd.tighter, Bd.next]
  omega
theorem tighter_self_col {b d : Bd} (h : 0 ≤ d.by') : b.tighter (d.next b) = b := by
  obtain ⟨x, k⟩ := b
  obtain ⟨y, l⟩ := d
  simp only at h
  cases k <;> cases l <;> simp [Bd.tighter, Bd.next]
  omega
/-- Within a phase its row and its column stand. -/
theorem phase_row {v : Nat} {T : Nat → Bd} (h : 0 ≤ (T (v * 19 + v)).by') {k : Nat} (hk : k % 19 = v) : phase v T k = T k := by
  unfold phase
  have e : k / 19 * 19 + v = k := by omega
  rw [e, hk]
  exact tighter_self_row h
theorem phase_col {v : Nat} {T : Nat → Bd} (h : 0 ≤ (T (v * 19 + v)).by') (hv : v < 19) {k : Nat} (hk : k / 19 = v) : phase v T k = T k := by
  unfold phase
  have e : v * 19 + k % 19 = k := by omega
  rw [hk, e]
  exact tighter_self_col h
theorem partT_row {v n : Nat} {T : Nat → Bd} (h : 0 ≤ (T (v * 19 + v)).by') {k : Nat} (hk : k % 19 = v) : partT v n T k = T k := by
  unfold partT; split
  · exact phase_row h hk
  · rfl
theorem partT_col {v n : Nat} {T : Nat → Bd} (h : 0 ≤ (T (v * 19 + v)).by') (hv : v < 19) {k : Nat} (hk : k / 19 = v) : partT v n T k = T k := by
  unfold partT; split
  · exact phase_col h hv hk
  · rfl
theorem partT_succ {v n : Nat} {T : Nat → Bd} (x : Bd) (hx : x = phase v T n) : setF (partT v n T) n x = partT v (n + 1) T := by
  funext k
  unfold setF partT
  by_cases h : k = n
  · subst h; simp [hx]
  · simp only [h, if_false]
    by_cases h2 : k < n
    · simp [h2, show k < n + 1 by omega]
    · simp [h2, show ¬ k < n + 1 by omega]

/-- All bounds are small. -/
def SmallT (c : Int) (T : Nat → Bd) : Prop := ∀ k, -c ≤ (T k).by' ∧ (T k).by' ≤ c
theorem SmallT.step {c : Int} {T : Nat → Bd} (h : SmallT c T) (v : Nat) (hc : 0 ≤ c) : SmallT (2 * c) (phase v T) := by
  intro k
  have h1 := h k
  have h2 := h (k / 19 * 19 + v)
  have h3 := h (v * 19 + k % 19)
  have a1 : ∀ b o : Bd, b.tighter o = b ∨ b.tighter o = o := fun b o => by
    unfold Bd.tighter; split
    · exact .inr rfl
    · exact .inl rfl
  have a2 : ∀ d e : Bd, (d.next e).by' = d.by' + e.by' ∨ (d.next e).by' = 0 := fun d e => by
    unfold Bd.next; split
    · exact .inl rfl
    · exact .inr rfl
  rw [show phase v T k = (T k).tighter ((T (k / 19 * 19 + v)).next (T (v * 19 + k % 19))) from rfl]
  rcases a1 (T k) ((T (k / 19 * 19 + v)).next (T (v * 19 + k % 19))) with e | e
  · rw [e]; omega
  · rw [e]
    rcases a2 (T (k / 19 * 19 + v)) (T (v * 19 + k % 19)) with e2 | e2 <;> rw [e2] <;> omega
def capN : Nat → Int
  | 0 => 1000
  | n + 1 => 2 * capN n
theorem capN_pos : ∀ n, 1000 ≤ capN n
  | 0 => by simp [capN]
  | n + 1 => by have := capN_pos n; simp only [capN]; omega
theorem capN_mono {m n : Nat} (h : m ≤ n) : capN m ≤ capN n := by
  induction n with
  | zero => obtain rfl : m = 0 := by omega
            exact Int.le_refl _
  | succ n ih =>
    by_cases e : m = n + 1
    · subst e; exact Int.le_refl _
    · have := ih (by omega); have := capN_pos n; simp only [capN]; omega
theorem capN_small {n : Nat} (h : n ≤ 19) : capN n ≤ 600000000 := by
  have := capN_mono h
  have e : capN 19 = 524288000 := by decide
  omega
theorem fwTo_small {T : Nat → Bd} (h : SmallT 1000 T) : ∀ (n : Nat) (T' : Nat → Bd), fwTo n T = some T' → SmallT (capN n) T'
  | 0, T', e => by cases e; exact h
  | n + 1, T', e => by
    unfold fwTo at e
    split at e
    · cases e
    · rename_i T'' h2
      split at e
      · cases e
      · cases e
        exact (fwTo_small h n T'' h2).step n (by have := capN_pos n; omega)
theorem fwTo_none {T : Nat → Bd} {n : Nat} (h : fwTo n T = none) : ∀ m, n ≤ m → fwTo m T = none
  | 0, hm => by obtain rfl : n = 0 := by omega
                exact h
  | m + 1, hm => by
    by_cases e : n = m + 1
    · subst e; exact h
    · unfold fwTo; rw [fwTo_none h m (by omega)]
end Go.Proofs.YtmedkmbfggphdaaDoor

namespace Go.Proofs.YtmedkmbfggphdaaDoor
open Go.RowKit

def depsOf (o : Oper) : List Nat := o.after.toList.filterMap fun e => if Region.binds .any e then some e.on else none
def backB (l : List Oper) : Bool := (List.range l.length).all fun i => match l[i]? with | some o => (depsOf o).all (fun j => decide (j < i)) | none => true
def upd (d : Nat → Bool) (i : Nat) : Nat → Bool := fun j => j == i || d j

def Closed (l : List Oper) (d : Nat → Bool) : Prop := ∀ j o, l[j]? = some o → d j = true → (depsOf o).all d = true

/-- Each operation, once those that it waits for are done, leads on within the invariant. -/
def RegAll (F : Fence) (n : Nat) (P : Program) (ops : Array Oper) (Q : Exit → Act → World → Prop) (l0 : List Oper) (Inv : (Nat → Bool) → Act → World → Prop) : List Oper → Nat → Prop
  | [], _ => True
  | o :: rest, i => (∀ d a w, d i = false → (depsOf o).all d = true → Closed l0 d → Inv d a w → ∀ K : Act → World → Prop, (∀ a w, Inv (upd d i) a w → K a w) →
      if Region.wanted o (yielded ops a.tmps) = true then Oper.wpIn F n P o a w K Q else (∀ f, o.about P w a.eval = some f → F.fn f) ∧ K (a.put o.dst undef) w) ∧ RegAll F n P ops Q l0 Inv rest (i + 1)

theorem RegAll.get {F : Fence} {n : Nat} {P : Program} {ops : Array Oper} {Q : Exit → Act → World → Prop} {l0 : List Oper} {Inv : (Nat → Bool) → Act → World → Prop} :
    ∀ (l : List Oper) (k : Nat), RegAll F n P ops Q l0 Inv l k → ∀ i o, l[i]? = some o → ∀ d a w, d (k + i) = false → (depsOf o).all d = true → Closed l0 d → Inv d a w → ∀ K : Act → World → Prop, (∀ a w, Inv (upd d (k + i)) a w → K a w) →
      if Region.wanted o (yielded ops a.tmps) = true then Oper.wpIn F n P o a w K Q else (∀ f, o.about P w a.eval = some f → F.fn f) ∧ K (a.put o.dst undef) w
  | [], _, _, i, o, h => by simp at h
  | x :: l, k, hr, 0, o, h => by simp at h; subst h; exact hr.1
  | x :: l, k, hr, i + 1, o, h => by
    have := RegAll.get l (k + 1) hr.2 i o (by simpa using h)
    rwa [show k + 1 + i = k + (i + 1) by omega] at this

/-- Operation i must be carried out ahead of j. -/
def ancB (l : List Oper) : Nat → Nat → Nat → Bool
  | 0, _, _ => false
  | f + 1, j, i => match l[j]? with
    | some o => (depsOf o).any fun k => k == i || ancB l f k i
    | none => false
theorem Closed.anc {l : List Oper} {d : Nat → Bool} (h : Closed l d) : ∀ (f j i : Nat), ancB l f j i = true → d j = true → d i = true
  | 0, _, _, h0, _ => by simp [ancB] at h0
  | f + 1, j, i, h0, hj => by
    cases ho : l[j]? with
    | none => simp [ancB, ho] at h0
    | some o =>
      simp only [ancB, ho, List.any_eq_true, Bool.or_eq_true, beq_iff_eq] at h0
      obtain ⟨k, hk, hki⟩ := h0
      have hdk := List.all_eq_true.1 (h j o ho hj) k hk
      rcases hki with rfl | hki
      · exact hdk
      · exact Closed.anc h f k i hki hdk
theorem Closed.pos {l : List Oper} {d : Nat → Bool} (h : Closed l d) {o : Oper} (j : Nat) (ho : l[j]? = some o) (hd : (depsOf o).all d = true) (i f : Nat) (ha : ancB l (f + 1) j i = true) : d i = true := by
  simp only [ancB, ho, List.any_eq_true, Bool.or_eq_true, beq_iff_eq] at ha
  obtain ⟨k, hk, hki⟩ := ha
  have hdk := List.all_eq_true.1 hd k hk
  rcases hki with rfl | hki
  · exact hdk
  · exact Closed.anc h _ k i hki hdk
theorem Closed.neg {l : List Oper} {d : Nat → Bool} (h : Closed l d) {i : Nat} (hi : d i = false) (j : Nat) (ha : ancB l 30 j i = true) : d j = false := by
  cases hj : d j with
  | false => rfl
  | true => rw [h.anc 30 j i ha hj] at hi; cases hi

theorem countP_lt {p q : Nat → Bool} (hpq : ∀ j, q j = true → p j = true) {i : Nat} (hp : p i = true) (hq : q i = false) : ∀ l : List Nat, i ∈ l → l.countP q < l.countP p
  | [], h => by cases h
  | x :: l, h => by
    rw [List.countP_cons, List.countP_cons]
    have hle : l.countP q ≤ l.countP p := List.countP_mono_left (fun j _ hj => hpq j hj)
    by_cases hx : x = i
    · subst hx; simp [hp, hq]; omega
    · have hi : i ∈ l := by
        rcases List.mem_cons.1 h with h | h
        · exact absurd h.symm hx
        · exact h
      have := countP_lt hpq hp hq l hi
      have h1 := hpq x
      by_cases hqx : q x = true
      · simp [hqx, h1 hqx]; omega
      · simp [hqx]; omega

theorem ready_all {l : List Oper} (hb : backB l = true) {listed : Array Bool} (hsz : listed.size = l.length) (hr : Region.ready .any l.toArray listed = []) : ∀ i, i < l.length → listed.getD i false = true := by
  intro i
  induction i using Nat.strongRecOn with
  | _ i ih =>
    intro hi
    cases hd : listed.getD i false with
    | true => rfl
    | false =>
      have hlt : i < listed.size := by omega
      have hin : i ∈ Region.ready .any l.toArray listed := by
        refine mem_ready.2 ⟨?_, l[i], by simp [hi], ?_⟩
        · simp [hlt] at hd ⊢; exact hd
        · intro e he hbi
          have hb' := List.all_eq_true.1 hb i (by simpa using hi)
          simp only [List.getElem?_eq_getElem hi] at hb'
          have := List.all_eq_true.1 hb' e.on (by
            simp only [depsOf, List.mem_filterMap]
            exact ⟨e, by simpa using he, by simp [hbi]⟩)
          have hlt' : e.on < i := by simpa using this
          exact ih e.on hlt' (by omega)
      rw [hr] at hin
      cases hin

theorem reg_core {F : Fence} {n : Nat} {P : Program} {Q : Exit → Act → World → Prop} {l : List Oper} (Inv : (Nat → Bool) → Act → World → Prop) (hb : backB l = true)
    (hs : RegAll F n P l.toArray Q l Inv l 0) (hq : ∀ d a w, (List.range l.length).all d = true → Inv d a w → Q .normal a w) :
    ∀ (fuel : Nat) (listed : Array Bool) (a : Act) (w : World), listed.size = l.length → (List.range l.length).countP (fun j => !listed.getD j false) ≤ fuel →
      Closed l (fun j => listed.getD j false) → Inv (fun j => listed.getD j false) a w → wpAnyIn F n P .any l.toArray Q fuel listed a w := by
  intro fuel
  have fin : ∀ (listed : Array Bool) (a : Act) (w : World), (∀ i, i < l.length → listed.getD i false = true) → Inv (fun j => listed.getD j false) a w → Q .normal a w := fun listed a w h hI =>
    hq _ a w (List.all_eq_true.2 (fun i hi => h i (by simpa using hi))) hI
  induction fuel with
  | zero =>
    intro listed a w hsz hc hcl hI
    have hall : ∀ i, i < l.length → listed.getD i false = true := by
      intro i hi
      have h0 : (List.range l.length).countP (fun j => !listed.getD j false) = 0 := by omega
      have := List.countP_eq_zero.1 h0 i (by simpa using hi)
      simpa using this
    refine ⟨?_, fin listed a w hall hI⟩
    cases hr : Region.ready .any l.toArray listed with
    | nil => rfl
    | cons i rs =>
      have hi : i ∈ Region.ready .any l.toArray listed := by rw [hr]; simp
      obtain ⟨h1, o, ho, _⟩ := mem_ready.1 hi
      have hlt : i < l.length := by simpa using (List.getElem?_eq_some_iff.1 (by simpa using ho)).1
      have := hall i hlt
      have hl : i < listed.size := by omega
      simp [hl] at h1 this
      rw [h1] at this; cases this
  | succ fuel ih =>
    intro listed a w hsz hc hcl hI
    refine ⟨fun hr => fin listed a w (ready_all hb hsz hr) hI, fun i hi => ?_⟩
    obtain ⟨h1, o, ho, hdep⟩ := mem_ready.1 hi
    have ho' : l[i]? = some o := by simpa using ho
    have hlt : i < l.length := (List.getElem?_eq_some_iff.1 ho').1
    have hl : i < listed.size := by omega
    have hf : listed.getD i false = false := by simp [hl] at h1 ⊢; exact h1
    have hd : (depsOf o).all (fun j => listed.getD j false) = true := List.all_eq_true.2 (fun j hj => by
      simp only [depsOf, List.mem_filterMap] at hj
      obtain ⟨e, he, hej⟩ := hj
      by_cases hbi : Region.binds .any e = true
      · simp [hbi] at hej; subst hej; exact hdep e (by simpa using he) hbi
      · simp [hbi] at hej)
    refine wpOpIn_step ho (fun K hK => ?_)
    refine RegAll.get l 0 hs i o ho' (fun j => listed.getD j false) a w (by simpa using hf) hd hcl hI K (fun a' w' hI' => hK a' w' ?_)
    have hfun : (fun j => (listed.setIfInBounds i true).getD j false) = upd (fun j => listed.getD j false) (0 + i) := by
      funext j
      by_cases hj : j = i
      · subst hj; simp [upd, hl]
      · simp [upd, hj, Array.getElem?_setIfInBounds_ne (Ne.symm hj)]
    have hcl' : Closed l (upd (fun j => listed.getD j false) (0 + i)) := by
      intro j oj hj hdj
      refine List.all_eq_true.2 (fun x hx => ?_)
      by_cases hji : j = i
      · subst hji
        rw [ho'] at hj; cases hj
        have := List.all_eq_true.1 hd x hx
        simp only [upd, this, Bool.or_true]
      · have hdj' : listed.getD j false = true := by simpa [upd, hji] using hdj
        have := List.all_eq_true.1 (hcl j oj hj hdj') x hx
        simp only [upd, this, Bool.or_true]
    refine ih _ a' w' (by simpa using hsz) ?_ (by rw [hfun]; exact hcl') (by rw [hfun]; exact hI')
    have := countP_lt (p := fun j => !listed.getD j false) (q := fun j => !(listed.setIfInBounds i true).getD j false) (i := i) (fun j hj => by
      have this : (listed.setIfInBounds i true).getD j false = upd (fun j => listed.getD j false) (0 + i) j := congrFun hfun j
      simp only [this] at hj
      simp [upd] at hj ⊢; exact hj.2) (by simp only [hf]; rfl) (by simp [hl]) (List.range l.length) (by simpa using hlt)
    omega

/-- The law. -/
theorem reg_inv {F : Fence} {n : Nat} {P : Program} {Q : Exit → Act → World → Prop} {l : List Oper} {id : Nat} {a : Act} {w : World} (Inv : (Nat → Bool) → Act → World → Prop)
    (hm : P.follows .mixedOrders = true) (hb : backB l = true) (h0 : Inv (fun _ => false) a w.drew)
    (hs : RegAll F n P l.toArray Q l Inv l 0) (hq : ∀ d a w, (List.range l.length).all d = true → Inv d a w → Q .normal a w) : (Code.region id l.toArray true).wpIn F n P Q a w := by
  refine wpIn_region_any hm ?_
  refine reg_core Inv hb hs hq _ _ a _ (by simp) ?_ ?_ ?_
  · exact Nat.le_trans List.countP_le_length (by simp)
  · intro j o hj hd
    have : (Array.replicate l.toArray.size false).getD j false = false := by
      by_cases hj : j < l.length
      · simp [hj]
      · rw [Array.getD_eq_getD_getElem?]; simp [hj]
    have hd' : (Array.replicate l.toArray.size false).getD j false = true := hd
    rw [this] at hd'; cases hd'
  · have : (fun j => (Array.replicate l.toArray.size false).getD j false) = fun _ => false := by
      funext j
      by_cases hj : j < l.length
      · simp [hj]
      · simp [hj]
    rw [this]; exact h0
end Go.Proofs.YtmedkmbfggphdaaDoor

namespace Go.Proofs.YtmedkmbfggphdaaDoor
open Go.RowKit

/-- Each operation, once those that it waits for are done, leads on within the invariant. -/
def RegAllW (P : Program) (ops : Array Oper) (Q : Exit → Act → World → Prop) (l0 : List Oper) (Inv : (Nat → Bool) → Act → World → Prop) : List Oper → Nat → Prop
  | [], _ => True
  | o :: rest, i => (∀ d a w, d i = false → (depsOf o).all d = true → Closed l0 d → Inv d a w → ∀ K : Act → World → Prop, (∀ a w, Inv (upd d i) a w → K a w) →
      if Region.wanted o (yielded ops a.tmps) = true then Oper.wp P o a w K Q else K (a.put o.dst undef) w) ∧ RegAllW P ops Q l0 Inv rest (i + 1)

theorem RegAllW.get {P : Program} {ops : Array Oper} {Q : Exit → Act → World → Prop} {l0 : List Oper} {Inv : (Nat → Bool) → Act → World → Prop} :
    ∀ (l : List Oper) (k : Nat), RegAllW P ops Q l0 Inv l k → ∀ i o, l[i]? = some o → ∀ d a w, d (k + i) = false → (depsOf o).all d = true → Closed l0 d → Inv d a w → ∀ K : Act → World → Prop, (∀ a w, Inv (upd d (k + i)) a w → K a w) →
      if Region.wanted o (yielded ops a.tmps) = true then Oper.wp P o a w K Q else K (a.put o.dst undef) w
  | [], _, _, i, o, h => by simp at h
  | x :: l, k, hr, 0, o, h => by simp at h; subst h; exact hr.1
  | x :: l, k, hr, i + 1, o, h => by
    have := RegAllW.get l (k + 1) hr.2 i o (by simpa using h)
    rwa [show k + 1 + i = k + (i + 1) by omega] at this

theorem reg_coreW {P : Program} {Q : Exit → Act → World → Prop} {l : List Oper} (Inv : (Nat → Bool) → Act → World → Prop) (hb : backB l = true)
    (hs : RegAllW P l.toArray Q l Inv l 0) (hq : ∀ d a w, (List.range l.length).all d = true → Inv d a w → Q .normal a w) :
    ∀ (fuel : Nat) (listed : Array Bool) (a : Act) (w : World), listed.size = l.length → (List.range l.length).countP (fun j => !listed.getD j false) ≤ fuel →
      Closed l (fun j => listed.getD j false) → Inv (fun j => listed.getD j false) a w → wpAny P .any l.toArray Q fuel listed a w := by
  intro fuel
  have fin : ∀ (listed : Array Bool) (a : Act) (w : World), (∀ i, i < l.length → listed.getD i false = true) → Inv (fun j => listed.getD j false) a w → Q .normal a w := fun listed a w h hI =>
    hq _ a w (List.all_eq_true.2 (fun i hi => h i (by simpa using hi))) hI
  induction fuel with
  | zero =>
    intro listed a w hsz hc hcl hI
    have hall : ∀ i, i < l.length → listed.getD i false = true := by
      intro i hi
      have h0 : (List.range l.length).countP (fun j => !listed.getD j false) = 0 := by omega
      have := List.countP_eq_zero.1 h0 i (by simpa using hi)
      simpa using this
    refine ⟨?_, fin listed a w hall hI⟩
    cases hr : Region.ready .any l.toArray listed with
    | nil => rfl
    | cons i rs =>
      have hi : i ∈ Region.ready .any l.toArray listed := by rw [hr]; simp
      obtain ⟨h1, o, ho, _⟩ := mem_ready.1 hi
      have hlt : i < l.length := by simpa using (List.getElem?_eq_some_iff.1 (by simpa using ho)).1
      have := hall i hlt
      have hl : i < listed.size := by omega
      simp [hl] at h1 this
      rw [h1] at this; cases this
  | succ fuel ih =>
    intro listed a w hsz hc hcl hI
    refine ⟨fun hr => fin listed a w (ready_all hb hsz hr) hI, fun i hi => ?_⟩
    obtain ⟨h1, o, ho, hdep⟩ := mem_ready.1 hi
    have ho' : l[i]? = some o := by simpa using ho
    have hlt : i < l.length := (List.getElem?_eq_some_iff.1 ho').1
    have hl : i < listed.size := by omega
    have hf : listed.getD i false = false := by simp [hl] at h1 ⊢; exact h1
    have hd : (depsOf o).all (fun j => listed.getD j false) = true := List.all_eq_true.2 (fun j hj => by
      simp only [depsOf, List.mem_filterMap] at hj
      obtain ⟨e, he, hej⟩ := hj
      by_cases hbi : Region.binds .any e = true
      · simp [hbi] at hej; subst hej; exact hdep e (by simpa using he) hbi
      · simp [hbi] at hej)
    refine wpOp_step ho (fun K hK => ?_)
    refine RegAllW.get l 0 hs i o ho' (fun j => listed.getD j false) a w (by simpa using hf) hd hcl hI K (fun a' w' hI' => hK a' w' ?_)
    have hfun : (fun j => (listed.setIfInBounds i true).getD j false) = upd (fun j => listed.getD j false) (0 + i) := by
      funext j
      by_cases hj : j = i
      · subst hj; simp [upd, hl]
      · simp [upd, hj, Array.getElem?_setIfInBounds_ne (Ne.symm hj)]
    have hcl' : Closed l (upd (fun j => listed.getD j false) (0 + i)) := by
      intro j oj hj hdj
      refine List.all_eq_true.2 (fun x hx => ?_)
      by_cases hji : j = i
      · subst hji
        rw [ho'] at hj; cases hj
        have := List.all_eq_true.1 hd x hx
        simp only [upd, this, Bool.or_true]
      · have hdj' : listed.getD j false = true := by simpa [upd, hji] using hdj
        have := List.all_eq_true.1 (hcl j oj hj hdj') x hx
        simp only [upd, this, Bool.or_true]
    refine ih _ a' w' (by simpa using hsz) ?_ (by rw [hfun]; exact hcl') (by rw [hfun]; exact hI')
    have := countP_lt (p := fun j => !listed.getD j false) (q := fun j => !(listed.setIfInBounds i true).getD j false) (i := i) (fun j hj => by
      have this : (listed.setIfInBounds i true).getD j false = upd (fun j => listed.getD j false) (0 + i) j := congrFun hfun j
      simp only [this] at hj
      simp [upd] at hj ⊢; exact hj.2) (by simp only [hf]; rfl) (by simp [hl]) (List.range l.length) (by simpa using hlt)
    omega

/-- The law. -/
theorem reg_invW {P : Program} {Q : Exit → Act → World → Prop} {l : List Oper} {id : Nat} {a : Act} {w : World} (Inv : (Nat → Bool) → Act → World → Prop)
    (hm : P.follows .mixedOrders = true) (hb : backB l = true) (h0 : Inv (fun _ => false) a w.drew)
    (hs : RegAllW P l.toArray Q l Inv l 0) (hq : ∀ d a w, (List.range l.length).all d = true → Inv d a w → Q .normal a w) : (Code.region id l.toArray true).wp P Q a w := by
  refine wp_region_any hm ?_
  refine reg_coreW Inv hb hs hq _ _ a _ (by simp) ?_ ?_ ?_
  · exact Nat.le_trans List.countP_le_length (by simp)
  · intro j o hj hd
    have : (Array.replicate l.toArray.size false).getD j false = false := by
      by_cases hj : j < l.length
      · simp [hj]
      · rw [Array.getD_eq_getD_getElem?]; simp [hj]
    have hd' : (Array.replicate l.toArray.size false).getD j false = true := hd
    rw [this] at hd'; cases hd'
  · have : (fun j => (Array.replicate l.toArray.size false).getD j false) = fun _ => false := by
      funext j
      by_cases hj : j < l.length
      · simp [hj]
      · simp [hj]
    rw [this]; exact h0
end Go.Proofs.YtmedkmbfggphdaaDoor
