/- The tightest bounds of a book, as a table; what comparing it to none tells. The region that compares a table with none. The walk of the method apart of a table. The walk of the method apart of a tongue. The walk of unlink. A book that CheckBook takes is valid, as the other texts say it. -/
import Derived.Test.YtmedkmbfggphdaaDoorT2
import Derived.Test.YtmedkmbfggphdaaDoorE1
import Derived.Test.YtmedkmbfggphdaaDoorM05
import Derived.Test.YtmedkmbfggphdaaDoorM01
import Derived.Deep.RegionHeld3
import Derived.Test.YtmedkmbfggphdaaDoorM00
set_option linter.unusedSimpArgs false
set_option linter.unusedVariables false
set_option linter.constructorNameAsVariable false
namespace Go.Proofs.YtmedkmbfggphdaaDoor
open Go.RowKit

theorem BK.netM_good (b : BK) (hv : b.Valid) : GoodM (b.netM b.bnN) b.bnN := by
  have hm : ∀ e ∈ b.netM b.bnN, ∃ i, i < b.bnN ∧ e = ⟨(b.bn i).f, (b.bn i).t, (b.bn i).by', i⟩ := by
    intro e he
    simp only [BK.netM, List.mem_map, List.mem_range] at he
    obtain ⟨i, hi, rfl⟩ := he
    exact ⟨i, hi, rfl⟩
  refine ⟨?_, ?_, ?_, ?_, ?_⟩
  · intro e he; obtain ⟨i, hi, rfl⟩ := hm e he; exact hi
  · have : (b.netM b.bnN).map (·.born) = List.range b.bnN := by
      unfold BK.netM; rw [List.map_map]; exact List.map_id _
    rw [this]; exact List.nodup_range
  · intro x hx y hy hxy
    obtain ⟨i, hi, rfl⟩ := hm x hx
    obtain ⟨j, hj, rfl⟩ := hm y hy
    have : i = j := hxy
    subst this; rfl
  · intro x hx y hy h1 h2
    obtain ⟨i, hi, rfl⟩ := hm x hx
    obtain ⟨j, hj, rfl⟩ := hm y hy
    have : i = j := b.bn_inj hv hi hj h1 h2
    subst this; rfl
  · intro e he
    obtain ⟨i, hi, rfl⟩ := hm e he
    obtain ⟨a1, a2, a3, a4⟩ := b.bn_small hv i hi
    obtain ⟨a5, a6⟩ := b.bn_by hv i
    exact ⟨a1, a2, a3, a4, a5, a6⟩
theorem GoodM.filter {es : List ME} {clock : Nat} (h : GoodM es clock) (p : ME → Bool) : GoodM (es.filter p) clock :=
  ⟨fun e he => h.lt e (List.mem_filter.1 he).1, (h.nd.sublist (List.filter_sublist.map _)), fun a ha c hc => h.inj a (List.mem_filter.1 ha).1 c (List.mem_filter.1 hc).1,
    fun a ha c hc => h.keys a (List.mem_filter.1 ha).1 c (List.mem_filter.1 hc).1, fun e he => h.small e (List.mem_filter.1 he).1⟩
theorem tightS_small (es : List ME) (clock : Nat) (hg : GoodM es clock) : ∀ k, -1000000000 ≤ (tightS es k).by' ∧ (tightS es k).by' ≤ 1000000000 := by
  intro k
  unfold tightS
  cases h : fwTo 19 (netT es) with
  | none => simp [bd0]
  | some T =>
    have := fwTo_small (netT_small es clock hg) 19 T h k
    have h2 := capN_small (n := 19) (by omega)
    simp only [Option.getD_some]; omega
theorem phase_known {v : Nat} {T : Nat → Bd} {k : Nat} (h : (T k).known = true) : (phase v T k).known = true := by
  unfold phase Bd.tighter
  split
  · rename_i h2; simp only [Bool.and_eq_true] at h2; exact h2.1
  · exact h
theorem fwTo_known {T : Nat → Bd} {k : Nat} (h : (T k).known = true) : ∀ (n : Nat) (T' : Nat → Bd), fwTo n T = some T' → (T' k).known = true
  | 0, T', e => by cases e; exact h
  | n + 1, T', e => by
    unfold fwTo at e
    split at e
    · cases e
    · rename_i T'' h2
      split at e
      · cases e
      · cases e
        exact phase_known (fwTo_known h n T'' h2)
theorem netT_diag (es : List ME) : (netT es 0).known = true := by
  unfold netT
  split
  · rfl
  · simp [diagT]
/-- Whether a net allows no truth. -/
def noneB (es : List ME) : Bool := (fwTo 19 (netT es)).isNone
theorem tabEq_none (es : List ME) : tabEq (tightS es) (fun _ => bd0) = noneB es := by
  unfold noneB tightS
  cases h : fwTo 19 (netT es) with
  | none => exact tabEq_self _
  | some T => exact tabEq_false 0 (by omega) (by rw [Option.getD_some, fwTo_known (netT_diag es) 19 T h]; simp [bd0])
end Go.Proofs.YtmedkmbfggphdaaDoor

namespace Go.Proofs.YtmedkmbfggphdaaDoor
open Go.RowKit

def putIf (c : Bool) (p : Nat) (v : Value) (a : Act) : Act := bif c then a.put (some p) v else a
theorem put_comm (a : Act) (p q : Nat) (u v : Value) (h : p ≠ q) : (a.put (some p) u).put (some q) v = (a.put (some q) v).put (some p) u := by
  simp only [Act.put, Array.setIfInBounds_comm _ _ h]
theorem putIf_put (c : Bool) (a : Act) (p q : Nat) (u v : Value) (h : p ≠ q) : (putIf c p u a).put (some q) v = putIf c p u (a.put (some q) v) := by
  cases c
  · rfl
  · exact put_comm a p q u v h
theorem eval_putIf (c : Bool) (a : Act) (p s : Nat) (v : Value) (h : p ≠ s) : (putIf c p v a).eval (.tmp s) = a.eval (.tmp s) := by
  cases c
  · rfl
  · show ((a.tmps.setIfInBounds p v).getD s undef) = a.tmps.getD s undef
    rw [Array.getD_eq_getD_getElem?, Array.getD_eq_getD_getElem?, Array.getElem?_setIfInBounds_ne h]
theorem eval_putIf_self (a : Act) (p : Nat) (v : Value) (h : p < a.tmps.size) : (putIf true p v a).eval (.tmp p) = v := by
  show ((a.tmps.setIfInBounds p v).getD p undef) = v
  simp [h]
theorem size_putIf (c : Bool) (a : Act) (p : Nat) (v : Value) : (putIf c p v a).tmps.size = a.tmps.size := by
  cases c
  · rfl
  · simp [putIf, Act.put]

set_option maxHeartbeats 1000000 in
theorem region_none {Q : Exit → Act → World → Prop} (rid p q r s : Nat) (x1 x2 x3 : String) (a : Act) (w : World) (g : Nat) (f : Nat → Bd)
    (hs : a.eval (.tmp s) = .pointer (some ⟨g, 0, none⟩)) (hT : TabAt w g f)
    (hd : p ≠ q ∧ p ≠ r ∧ q ≠ r ∧ p ≠ s ∧ q ≠ s ∧ r ≠ s ∧ p < a.tmps.size ∧ q < a.tmps.size)
    (h : ∀ w', Pure w w' → Q .normal (((a.put (some p) (.agg (tabV f))).put (some q) (.agg tab0)).put (some r) (.bool (tabEq f fun _ => bd0))) w') :
    (Code.region rid #[{ dst := some p, op := .load 111 (.tmp s), type := 111, pos := x1, after := #[], guard := none },
      { dst := some q, op := .call { callee := .value (.func 87), args := #[], argTypes := #[] }, type := 111, pos := x2, after := #[], guard := none },
      { dst := some r, op := .binOp .eql 111 (.tmp p) (.tmp q) 111, type := 4, pos := x3, after := #[{ on := 0, ground := .data }, { on := 1, ground := .data }], guard := none }] true).wp Tryd.prog Q a w := by
  obtain ⟨d1, d2, d3, d4, d5, d6, d7, d8⟩ := hd
  refine reg_invW (fun d a' w' => a' = putIf (d 2) r (.bool (tabEq f fun _ => bd0)) (putIf (d 1) q (.agg tab0) (putIf (d 0) p (.agg (tabV f)) a)) ∧ TabAt w' g f ∧ Pure w w') (by kernel_rfl) (by kernel_rfl) ?_ ?_ ?_
  · exact ⟨rfl, hT.diff (O := fun _ => False) (Diff.refl _).drew (fun h => h), (Diff.refl _).drew⟩
  · refine ⟨?_, ?_, ?_, trivial⟩
    · rintro d a' w' hdi hdep hcl ⟨rfl, hw, hp⟩ K hK
      replace hdi : d 0 = false := hdi
      have f2 : d 2 = false := hcl.neg hdi 2 (by kernel_rfl)
      refine Eq.mpr (if_pos rfl) ?_
      refine wp_load_table (.tmp s) rfl g f ?_ hw (hK _ _ ⟨?_, hw, hp⟩)
      · rw [eval_putIf _ _ _ _ _ d6, eval_putIf _ _ _ _ _ d5, eval_putIf _ _ _ _ _ d4]; exact hs
      · rw [putIf_put _ _ _ _ _ _ (Ne.symm d2), putIf_put _ _ _ _ _ _ (Ne.symm d1)]
        simp only [upd, hdi, f2]
        simp [putIf]
    · rintro d a' w' hdi hdep hcl ⟨rfl, hw, hp⟩ K hK
      replace hdi : d 1 = false := hdi
      have f2 : d 2 = false := hcl.neg hdi 2 (by kernel_rfl)
      go_simp
      refine (none_any _).mono ?_
      rintro e w2 ⟨rfl, hp2⟩
      refine hK _ _ ⟨?_, hw.diff hp2 (fun h => h), hp.trans hp2⟩
      simp only [upd, hdi, f2]
      simp [putIf, Act.put]
    · rintro d a' w' hdi hdep hcl ⟨rfl, hw, hp⟩ K hK
      replace hdi : d 2 = false := hdi
      have e0 : d 0 = true := hcl.pos 2 rfl hdep 0 29 (by kernel_rfl)
      have e1 : d 1 = true := hcl.pos 2 rfl hdep 1 29 (by kernel_rfl)
      refine Eq.mpr (if_pos rfl) ?_
      simp only [e0, e1, hdi]
      refine wp_eql_table (.tmp p) (.tmp q) 111 rfl f (fun _ => bd0) ?_ ?_ (hK _ _ ⟨?_, hw, hp⟩)
      · show (putIf true q (.agg tab0) _).eval _ = _
        rw [eval_putIf _ _ _ _ _ (Ne.symm d1)]
        exact eval_putIf_self _ _ _ d7
      · exact eval_putIf_self _ _ _ (by rw [size_putIf]; exact d8)
      · simp [upd, hdi, e0, e1, putIf]
  · rintro d a' w' hall ⟨rfl, hw, hp⟩
    simp [List.range_succ] at hall
    obtain ⟨e0, e1, e2⟩ := hall
    simp only [e0, e1, e2]
    exact h _ hp
end Go.Proofs.YtmedkmbfggphdaaDoor

namespace Go.Proofs.YtmedkmbfggphdaaDoor
open Go.RowKit

set_option maxHeartbeats 2000000 in
theorem apart94_any (w : World) (f : Nat → Bd) (x y : Nat) (hx : x < 19) (hy : y < 19) (hs : ∀ k, -1000000000 ≤ (f k).by' ∧ (f k).by' ≤ 1000000000) :
    Calls Tryd.prog 94 #[.agg (tabV f), .int .i64 x, .int .i64 y] w fun e w' => e = .returned (.agg #[.int .i64 (-(f (x * 19 + y)).by'), .int .i64 (f (y * 19 + x)).by']) ∧ Pure w w' := by
  have hmx : Tryd.prog.follows .mixedOrders = true := by kernel_rfl
  have k1 : x * 19 + y < 361 := by omega
  have k2 : y * 19 + x < 361 := by omega
  have hb := hs (x * 19 + y)
  go_enter Tryd.func94, Tryd.ntmps94
  refine wp_seq (wp_region_lit (wpList_box_table rfl (.tmp 0) rfl f rfl ?_))
  have hT : TabAt (w.alloc (.cells (tabV f) 111)) w.heap.size f := World.alloc_heap_new _ _
  have hP : Hid (Pure w (w.alloc (.cells (tabV f) 111))) := (Diff.refl w).alloc _
  obtain ⟨W, hW⟩ : ∃ W, w.alloc (.cells (tabV f) 111) = W := ⟨_, rfl⟩
  rw [hW] at hT hP ⊢
  clear hW
  obtain ⟨g, hg⟩ : ∃ g, w.heap.size = g := ⟨_, rfl⟩
  rw [hg] at hT ⊢
  have c0 : W.cell? ⟨g, x * 38 + y * 2, none⟩ = some (.int .i64 (f (x * 19 + y)).by') := hT.cell k1 (by omega)
  have c1 : W.cell? ⟨g, y * 38 + x * 2, none⟩ = some (.int .i64 (f (y * 19 + x)).by') := hT.cell k2 (by omega)
  have hgl : g < W.heap.size := hT.lt
  have hxi : (x : Int) < 19 := by omega
  have hyi : (y : Int) < 19 := by omega
  clear hT hg
  simp only [Act.put, List.setIfInBounds_toArray, List.set_cons_zero, List.set_cons_succ]
  go_wp2
  go_region_held3 (fun w' => w'.cell? ⟨g, x * 38 + y * 2, none⟩ = some (.int .i64 (f (x * 19 + y)).by') ∧ w'.cell? ⟨g, y * 38 + x * 2, none⟩ = some (.int .i64 (f (y * 19 + x)).by')) (exact ⟨by go_simp; first | exact c0 | skip, by go_simp; first | exact c1 | skip⟩) (fail)
  go_wp2
  exact bodyPost_ret (v := .agg #[.int .i64 (-(f (x * 19 + y)).by'), .int .i64 (f (y * 19 + x)).by']) (by simp [results, Tryd.results94, go_sem]; exact IntWalk.i64_in _ (by omega)) rfl ⟨rfl, hP.out.trans ((Diff.refl _).alloc _).drew⟩
end Go.Proofs.YtmedkmbfggphdaaDoor

namespace Go.Proofs.YtmedkmbfggphdaaDoor
open Go.RowKit

/-- The table that tells of a book. -/
def BK.es (b : BK) : List ME := b.netM b.bnN
def BK.T (b : BK) : Nat → Bd := tightS b.es
def apartV (T : Nat → Bd) (x y : Nat) : Value := .agg #[.int .i64 (-(T (x * 19 + y)).by'), .int .i64 (T (y * 19 + x)).by']

set_option maxHeartbeats 2000000 in
theorem apart72_any (w : World) (b : BK) (p : Option Addr) (cap : Nat) (x y : Nat) (hx : x < 19) (hy : y < 19) (hv : b.Valid) (hb : BookAt w.heap.size w p b) (hg : Gl w) :
    Calls Tryd.prog 72 #[.agg #[.int .i64 b.lo, .int .i64 b.hi, .int .i64 b.lots, .slice p b.n cap], .int .i64 x, .int .i64 y] w fun e w' =>
      e = .returned (.tuple #[bif noneB b.es then .agg #[.int .i64 0, .int .i64 0] else apartV b.T x y, .int .i64 (bif noneB b.es then 17 else 0)]) ∧ Pure w w' := by
  have hmx : Tryd.prog.follows .mixedOrders = true := by kernel_rfl
  have hgd := b.netM_good hv
  have hsm := tightS_small b.es b.bnN hgd
  go_enter Tryd.func72, Tryd.ntmps72
  go_wp2_with fail
  obtain ⟨X, hX⟩ : ∃ X, (w.alloc (.cells #[.int .i64 b.lo, .int .i64 b.hi, .int .i64 b.lots, .slice p b.n cap] 82)).alloc (.cells #[.int .i64 0, .int .i64 0] 23) = X := ⟨_, rfl⟩
  have hXd : Pure w X := by rw [← hX]; exact ((Diff.refl w).alloc _).alloc _
  have hR : X.heap[w.heap.size + 1]? = some (.cells #[.int .i64 0, .int .i64 0] 23 (0, 0)) := by
    rw [← hX]
    have := World.alloc_heap_new (w.alloc (.cells #[.int .i64 b.lo, .int .i64 b.hi, .int .i64 b.lots, .slice p b.n cap] 82)) (.cells #[.int .i64 0, .int .i64 0] 23)
    rwa [World.size_alloc] at this
  rw [hX]
  clear hX
  have hbX := (hb.diff hXd (Nat.le_refl _) (fun _ _ => id)).mono hXd.size
  have hgX := hg.diff hXd (fun _ _ => id)
  refine (net_any X b p cap hv hbX hgX).mono ?_
  rintro e w1 ⟨rfl, hm1, hp1⟩
  have HbX := Lib.hid hbX
  have HP1 : Hid (Pure w w1) := hXd.trans hp1
  have hR1 : w1.heap[w.heap.size + 1]? = some (.cells #[.int .i64 0, .int .i64 0] 23 (0, 0)) := (hp1.block _ (Array.getElem?_eq_some_iff.1 hR).1 id).trans hR
  clear hbX hgX hp1 hR hXd
  go_wp2_with fail
  refine (tighten_any w1 (X.heap.size + 1) b.bnN b.es hm1 hgd).mono ?_
  rintro e w2 ⟨rfl, hp2⟩
  have HP2 : Hid (Pure w w2) := HP1.out.trans hp2
  have hR2 : w2.heap[w.heap.size + 1]? = some (.cells #[.int .i64 0, .int .i64 0] 23 (0, 0)) := (hp2.block _ (Array.getElem?_eq_some_iff.1 hR1).1 id).trans hR1
  clear hm1 hR1 hp2 HP1
  go_wp2_with (first | (refine wpList_alloc_table rfl rfl ?_) | (refine wpList_store_table rfl (.tmp 8) (.tmp 11) rfl w2.heap.size b.T (fun _ => bd0) rfl rfl (World.alloc_heap_new _ _) ?_))
  obtain ⟨Y, hY⟩ : ∃ Y, (w2.alloc (.cells tab0 111)).setRow w2.heap.size (tabV b.T) = Y := ⟨_, rfl⟩
  have hTY : TabAt Y w2.heap.size b.T := by rw [← hY]; exact setRow_heap _ _ _ _ _ _ (World.alloc_heap_new _ _)
  have hPY : Pure w2 Y := by rw [← hY]; exact ((Diff.refl w2).alloc _).setRow (fun h => absurd h (Nat.lt_irrefl _)) _
  have hRl : w.heap.size + 1 < w2.heap.size := (Array.getElem?_eq_some_iff.1 hR2).1
  have hRY : Y.heap[w.heap.size + 1]? = some (.cells #[.int .i64 0, .int .i64 0] 23 (0, 0)) := (hPY.block _ hRl id).trans hR2
  have HPY : Hid (Pure w Y) := HP2.out.trans hPY
  rw [hY]
  clear hY hPY hR2 HP2
  obtain ⟨g, hgg⟩ : ∃ g, w2.heap.size = g := ⟨_, rfl⟩
  rw [hgg] at hTY ⊢
  simp only [Act.put, List.setIfInBounds_toArray, List.set_cons_zero, List.set_cons_succ]
  refine region_none 2 12 13 14 8 _ _ _ _ _ g b.T rfl hTY (by simp) ?_
  intro w3 hp3
  have HP3 : Hid (Pure w w3) := HPY.out.trans hp3
  have hT3 : TabAt w3 g b.T := hTY.diff hp3 (fun h => h)
  have hR3 : w3.heap[w.heap.size + 1]? = some (.cells #[.int .i64 0, .int .i64 0] 23 (0, 0)) := (hp3.block _ (Array.getElem?_eq_some_iff.1 hRY).1 id).trans hRY
  clear hTY hRY hp3 HPY
  simp only [Act.put, List.setIfInBounds_toArray, List.set_cons_zero, List.set_cons_succ]
  rw [show tabEq b.T (fun _ => bd0) = noneB b.es from tabEq_none b.es]
  have HT3 := Lib.hid hT3
  have hRl3 : w.heap.size + 1 < w3.heap.size := (Array.getElem?_eq_some_iff.1 hR3).1
  have hf3 : w3.frozen? ⟨w.heap.size + 1, 0, none⟩ = false := frozen_of_row w3 _ _ _ _ hR3
  have hf4 : w3.frozen? ⟨w.heap.size + 1, 1, none⟩ = false := frozen_of_row w3 _ _ _ _ hR3
  have hc3 : w3.cell? ⟨w.heap.size + 1, 0, none⟩ = some (.int .i64 0) := by rw [cell_of_row w3 _ _ _ _ _ hR3]; rfl
  have hc4 : w3.cell? ⟨w.heap.size + 1, 1, none⟩ = some (.int .i64 0) := by rw [cell_of_row w3 _ _ _ _ _ hR3]; rfl
  clear hT3 hR3
  cases hN : noneB b.es with
  | true =>
    go_wp2_with fail
    exact bodyPost_ret (v := .tuple #[.agg #[.int .i64 0, .int .i64 0], .int .i64 17]) (by simp [results, Tryd.results72, go_sem, hc3, hc4]) rfl ⟨by rw [hN]; rfl, (HP3.out.setCell (fun h => absurd h (by simp)) _).setCell (fun h => absurd h (by simp)) _⟩
  | false =>
    go_wp2_with (refine wpList_load_table rfl (.tmp 8) rfl g b.T rfl HT3.out ?_)
    refine (apart94_any _ b.T x y hx hy hsm).mono ?_
    rintro e w4 ⟨rfl, hp4⟩
    have HP4 : Hid (Pure w w4) := HP3.out.trans hp4
    obtain ⟨dc, df⟩ := pcell hp4
    have hc3' := (dc _ _ hRl3).trans hc3
    have hc4' := (dc _ _ hRl3).trans hc4
    have hf3' := (df _ _ hRl3).trans hf3
    have hf4' := (df _ _ hRl3).trans hf4
    have hRl4 : w.heap.size + 1 < w4.heap.size := Nat.lt_of_lt_of_le hRl3 hp4.size
    clear dc df hc3 hc4 hf3 hf4 hp4
    go_wp2_with fail
    exact bodyPost_ret (v := .tuple #[apartV b.T x y, .int .i64 0]) (by simp [results, Tryd.results72, go_sem, apartV, hc3', hc4']) rfl ⟨by rw [hN]; rfl, (HP4.out.setCell (fun h => absurd h (by simp)) _).setCell (fun h => absurd h (by simp)) _⟩
end Go.Proofs.YtmedkmbfggphdaaDoor

namespace Go.Proofs.YtmedkmbfggphdaaDoor
open Go.RowKit

theorem wpList_delete_run {P : Program} {w : World} {ops : Array Oper} {rest : List Oper} {o : Oper} {a : Act} {Q : Exit → Act → World → Prop} (hgd : o.guard = none) (s x : Operand) (t tn : TypeId)
    (ho : o.op = .call { callee := .builtin .delete, args := #[s, x], argTypes := #[t, tn] }) (vs vx : Value) (hs : a.eval s = vs) (hx : a.eval x = vx)
    (v' : Value) (w' : World) (hr : (Builtin.delete_ #[t, tn] o.type #[vs, vx]).run P w = .ok v' w') (h : wpList P ops Q rest (a.put o.dst v') w') : wpList P ops Q (o :: rest) a w :=
  wpList_plain hgd fun K hK => by
    unfold Oper.wp execOp
    simp only [ho, resolve, invoke, builtin, Sem.run_bind, Sem.run_pure, Result.andThen_ok, List.map_toArray, List.map_cons, List.map_nil, hs, hx, hr]
    exact hK _ _ h
set_option maxRecDepth 20000 in
theorem unlink_any (w : World) (r clock : Nat) (es : List ME) (f t : Int) (hr : w.heap[r]? = some (mapO es clock)) :
    Calls Tryd.prog 84 #[.map (some r), .agg #[.int .i64 f, .int .i64 t]] w fun e w' => e = .returned (.tuple #[]) ∧ w'.heap[r]? = some (mapO (delM t f (delM f t es)) clock) ∧ Diff (fun k => k = r) w w' := by
  have hrl : r < w.heap.size := (Array.getElem?_eq_some_iff.1 hr).1
  go_enter Tryd.func84, Tryd.ntmps84
  have hr0 : (w.alloc (.cells #[.int .i64 f, .int .i64 t] 106)).heap[r]? = some (mapO es clock) := (Below.heap_alloc _ _ _ hrl).trans hr
  have hd1 := run_delete (w.alloc (.cells #[.int .i64 f, .int .i64 t] 106)) r es clock f t hr0 0 106
  obtain ⟨X, hX⟩ : ∃ X, w.alloc (.cells #[.int .i64 f, .int .i64 t] 106) = X := ⟨_, rfl⟩
  obtain ⟨D1, hD1⟩ : ∃ D1, X.putObj r (mapO (delM f t es) clock) = D1 := ⟨_, rfl⟩
  have hXs : X.heap.size = w.heap.size + 1 := by rw [← hX]; simp
  have hXc : X.heap[w.heap.size]? = some (.cells #[.int .i64 f, .int .i64 t] 106 (0, 0)) := by rw [← hX]; exact World.alloc_heap_new _ _
  have hXd : Diff (fun k => k = r) w X := by rw [← hX]; exact (Diff.refl w).alloc _
  have hDm : D1.heap[r]? = some (mapO (delM f t es) clock) := by rw [← hD1]; exact World.putObj_heap_same (by omega)
  have hDc : D1.heap[w.heap.size]? = some (.cells #[.int .i64 f, .int .i64 t] 106 (0, 0)) := by rw [← hD1]; exact (World.putObj_heap_other (by omega)).trans hXc
  have hDd : Diff (fun k => k = r) w D1 := by rw [← hD1]; exact hXd.putObj (fun _ => rfl) _
  have hDs : w.heap.size < D1.heap.size := (Array.getElem?_eq_some_iff.1 hDc).1
  rw [hX, hD1] at hd1
  have x0 : X.cell? ⟨w.heap.size, 0, none⟩ = some (.int .i64 f) := by rw [cell_of_row X _ _ _ _ _ hXc]; rfl
  have x1 : X.cell? ⟨w.heap.size, 1, none⟩ = some (.int .i64 t) := by rw [cell_of_row X _ _ _ _ _ hXc]; rfl
  have y0 : D1.cell? ⟨w.heap.size, 0, none⟩ = some (.int .i64 f) := by rw [cell_of_row D1 _ _ _ _ _ hDc]; rfl
  have y1 : D1.cell? ⟨w.heap.size, 1, none⟩ = some (.int .i64 t) := by rw [cell_of_row D1 _ _ _ _ _ hDc]; rfl
  clear hD1 hXc hDc hr hr0 hXd
  go_wp2_with (first | (rw [hX]; clear hX; fail) | (at_builtin; rw [hX]; refine wpList_delete_run rfl _ _ _ _ rfl _ _ rfl rfl _ _ hd1 ?_))
  refine (back_any D1 f t).mono ?_
  rintro e w3 ⟨rfl, hp3⟩
  have hd2 := run_delete w3 r (delM f t es) clock t f ((hp3.block _ (Array.getElem?_eq_some_iff.1 hDm).1 id).trans hDm) 0 106
  have hrl3 : r < w3.heap.size := by have := hp3.size; omega
  have HD : Hid (Diff (fun k => k = r) w (w3.putObj r (mapO (delM t f (delM f t es)) clock))) := (hDd.trans (hp3.mono (fun _ _ h => h.elim))).putObj (fun _ => rfl) _
  clear hd1 hDm hDd x0 x1 y0 y1 hX
  go_wp2_with (at_builtin; refine wpList_delete_run rfl _ _ _ _ rfl _ _ rfl rfl _ _ hd2 ?_)
  exact bodyPost_end (results_none rfl _ _ _) rfl ⟨rfl, World.putObj_heap_same hrl3, HD.out⟩
end Go.Proofs.YtmedkmbfggphdaaDoor

namespace Go.Proofs.YtmedkmbfggphdaaDoor

theorem BK.Valid.small {b : BK} (h : b.Valid) : b.Small := by
  refine ⟨by have := h.n4; omega, fun k hk => ?_⟩
  have h1 := b.upto_mono (i := k + 1) (j := b.n) (by omega)
  have h2 := h.tot
  unfold BK.total at h2
  simp only [BK.upto] at h1
  omega
theorem checkB_cases (b : BK) : checkB b = 0 ∨ checkB b = 3 ∨ checkB b = 6 := by
  unfold checkB
  split
  · exact .inr (.inl rfl)
  · split
    · exact .inr (.inr rfl)
    · split
      · exact .inr (.inl rfl)
      · exact .inl rfl
theorem checkB_valid {b : BK} (h : checkB b = 0) : b.Valid := by
  unfold checkB at h
  split at h
  · cases h
  · split at h
    · cases h
    · split at h
      · cases h
      · rename_i h1 h2 h3
        simp only [Bool.not_eq_false, Bool.and_eq_true, decide_eq_true_eq, wIn, countsB, tastesB] at h1 h2 h3
        obtain ⟨h2a, ⟨⟨h2b, h2c⟩, h2d⟩, h2e⟩ := h2
        have hpos : ∀ k, k < b.n → 0 < b.m k := by
          intro k hk
          by_cases h0 : b.m k = 0
          · rw [BK.full_false hk h0] at h2a; cases h2a
          · omega
        have hts : ∀ k j, k < b.n → j < b.m k → tsB b (b.t k j) = true := by
          intro k j hk hj
          cases ht : tsB b (b.t k j) with
          | true => rfl
          | false => rw [BK.rowsOk_false hk (BK.rowOk_false hj ht)] at h3; cases h3
        have hts' : ∀ k j, k < b.n → j < b.m k → 0 ≤ (b.t k j).lot ∧ (b.t k j).lot < b.lots ∧ (b.t k j).lo ≤ (b.t k j).hi ∧ -1000 ≤ (b.t k j).lo ∧ (b.t k j).hi ≤ 1000 := by
          intro k j hk hj
          have := hts k j hk hj
          simp only [tsB, wIn, Bool.and_eq_true, decide_eq_true_eq] at this
          omega
        exact ⟨by omega, by omega, by omega, by omega, by omega, by omega, hpos, by omega, fun k j hk hj => (hts' k j hk hj).1, fun k j hk hj => (hts' k j hk hj).2.1, fun k j hk hj => (hts' k j hk hj).2.2.2.1, fun k j hk hj => (hts' k j hk hj).2.2.1, fun k j hk hj => (hts' k j hk hj).2.2.2.2⟩
end Go.Proofs.YtmedkmbfggphdaaDoor
