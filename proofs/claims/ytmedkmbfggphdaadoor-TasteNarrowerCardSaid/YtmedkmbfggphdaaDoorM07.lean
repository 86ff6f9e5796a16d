/- The walk of truth, and of Least and Greatest. The walk of slices.Grow of nil. The walk of slices.Concat of lists of int64s. -/
import Derived.Test.YtmedkmbfggphdaaDoorM06
import Derived.Test.YtmedkmbfggphdaaDoorM00
import Derived.Deep.OwnRows
import Derived.Lib.AppendZeros
import Derived.Laws.AppendOwnNone
set_option linter.unusedSimpArgs false
set_option linter.unusedVariables false
set_option linter.constructorNameAsVariable false
namespace Go.Proofs.YtmedkmbfggphdaaDoor
open Go.RowKit

theorem endLo_any (w : World) (x y : Int) : Calls Tryd.prog 68 #[.agg #[.int .i64 x, .int .i64 y]] w fun e w' => e = .returned (.int .i64 x) ∧ Pure w w' := by
  go_enter Tryd.func68, Tryd.ntmps68
  go_wp2
  go_ret
  exact ⟨rfl, by repeat (first | exact Diff.refl _ | apply Diff.alloc)⟩
theorem endHi_any (w : World) (x y : Int) : Calls Tryd.prog 70 #[.agg #[.int .i64 x, .int .i64 y]] w fun e w' => e = .returned (.int .i64 y) ∧ Pure w w' := by
  go_enter Tryd.func70, Tryd.ntmps70
  go_wp2
  go_ret
  exact ⟨rfl, by repeat (first | exact Diff.refl _ | apply Diff.alloc)⟩

/-- The objects K stand in memory, and all that lay in w. -/
structure Kept (w : World) (K : List (Nat × Obj)) (wr : World) : Prop where
  pw : Pure w wr
  objs : ∀ x ∈ K, wr.heap[x.1]? = some x.2
theorem Kept.pure {w wr wr' : World} {K : List (Nat × Obj)} (h : Kept w K wr) (hp : Pure wr wr') : Kept w K wr' :=
  ⟨h.pw.trans hp, fun x hx => (hp.block _ (Array.getElem?_eq_some_iff.1 (h.objs x hx)).1 (fun h => h)).trans (h.objs x hx)⟩
theorem Kept.set {w wr : World} {K : List (Nat × Obj)} (h : Kept w K wr) {gs o : Nat} {v : Value} (h1 : w.heap.size ≤ gs) (h2 : ∀ x ∈ K, x.1 ≠ gs) : Kept w K (wr.setCell ⟨gs, o, none⟩ v) :=
  ⟨h.pw.setCell (fun hl => absurd hl (by simp; omega)) _, fun x hx => (heap_setCell_other _ _ _ _ (h2 x hx)).trans (h.objs x hx)⟩
theorem rowPure {wr wr' : World} {gs n : Nat} {t : TypeId} {f : Nat → Value} (h : wr.rowIs gs t n f) (hp : Pure wr wr') : wr'.rowIs gs t n f := h.of_block (hp.block _ h.lt (fun h => h))
theorem row_step {wr : World} {gs n k : Nat} {F : Nat → Int} (h : wr.rowIs gs 2 n (fun j => .int .i64 (if j < k then F j else 0))) :
    (wr.setCell ⟨gs, k, none⟩ (.int .i64 (F k))).rowIs gs 2 n (fun j => .int .i64 (if j < k + 1 then F j else 0)) := by
  refine (h.set k (.int .i64 (F k))).congr (fun j _ => ?_)
  by_cases h1 : j = k
  · subst h1; simp
  · by_cases h2 : j < k
    · simp [h1, h2, show j < k + 1 by omega]
    · simp [h1, h2, show ¬ j < k + 1 by omega]

theorem apart_zero (w : World) (f : Nat → Bd) (x : Nat) (hx : x < 19) (hs : ∀ k, -1000000000 ≤ (f k).by' ∧ (f k).by' ≤ 1000000000) :
    Calls Tryd.prog 94 #[.agg (tabV f), .int .i64 x, .int .i64 0] w fun e w' => e = .returned (.agg #[.int .i64 (-(f (x * 19)).by'), .int .i64 (f x).by']) ∧ Pure w w' := by
  refine (apart94_any w f x 0 hx (by omega) hs).mono ?_
  rintro e w' ⟨rfl, hp⟩
  exact ⟨by simp, hp⟩

theorem wantI {c : Prop} [Decidable c] {A B : Prop} (h : c) (x : A) : if c then A else B := by rw [if_pos h]; exact x

/-- The number of a name's range that is picked. -/
def pickT (T : Nat → Bd) (pick : Int → Int → Int) (x : Nat) : Int := pick (-(T (x * 19)).by') (T x).by'
/-- What truth answers. -/
def truthQ (b : BK) (pick : Int → Int → Int) (w : World) (e : Ending) (w' : World) : Prop :=
  if checkB b ≠ 0 then e = .returned (.tuple #[.slice none 0 0, .slice none 0 0, .int .i64 (checkB b)])
  else if noneB b.es = true then e = .returned (.tuple #[.slice none 0 0, .slice none 0 0, .int .i64 17])
  else ∃ g1 g2 L : Nat, b.lots = L ∧ w.heap.size ≤ g1 ∧ w.heap.size ≤ g2 ∧ e = .returned (.tuple #[.slice (some ⟨g1, 0, none⟩) L L, .slice (some ⟨g2, 0, none⟩) b.total b.total, .int .i64 0]) ∧
    w'.rowIs g1 2 L (fun j => .int .i64 (pickT b.T pick (1 + j))) ∧ w'.rowIs g2 2 b.total (fun j => .int .i64 (pickT b.T pick (1 + L + j)))
abbrev bookV (b : BK) (p : Option Addr) (cap : Nat) : Value := .agg #[.int .i64 b.lo, .int .i64 b.hi, .int .i64 b.lots, .slice p b.n cap]
abbrev bookC (b : BK) (p : Option Addr) (cap : Nat) : Array Value := #[.int .i64 b.lo, .int .i64 b.hi, .int .i64 b.lots, .slice p b.n cap]
theorem info2 : (Tryd.prog.info? 2).map (fun i => (i.zero, i.size, i.bytes)) = some (some (.int .i64 0), 1, 8) := by kernel_rfl

set_option maxHeartbeats 4000000 in
theorem truth_any (fe : Nat) (hfe : fe = 68 ∨ fe = 70) (pick : Int → Int → Int) (hE : ∀ w x y, Calls Tryd.prog fe #[.agg #[.int .i64 x, .int .i64 y]] w fun e w' => e = .returned (.int .i64 (pick x y)) ∧ Pure w w')
    (w : World) (b : BK) (p : Option Addr) (cap : Nat) (hs : b.Small) (hb : BookAt w.heap.size w p b) (hg : Gl w) :
    Calls Tryd.prog 67 #[bookV b p cap, .func (.func fe) #[] #[]] w fun e w' => truthQ b pick w e w' ∧ Pure w w' := by
  have hmx : Tryd.prog.follows .mixedOrders = true := by kernel_rfl
  go_enter Tryd.func67, Tryd.ntmps67
  go_wp2_with fail
  have hP0 : Pure w (w.alloc (.cells (bookC b p cap) 26)) := (Diff.refl w).alloc _
  refine (CheckBook_any _ b p cap hs ((hb.diff hP0 (Nat.le_refl _) (fun _ _ => id)).mono hP0.size) (hg.diff hP0 (fun _ _ => id))).mono ?_
  rintro e w1 ⟨rfl, hp1⟩
  have HP1 : Hid (Pure w w1) := hP0.trans hp1
  have hX1 : w1.heap[w.heap.size]? = some (.cells (bookC b p cap) 26 (0, 0)) := (hp1.block _ (by simp) id).trans (World.alloc_heap_new _ _)
  have hBl : w.heap.size < w1.heap.size := (Array.getElem?_eq_some_iff.1 hX1).1
  have hC0 : w1.cell? ⟨w.heap.size, 0, none⟩ = some (.int .i64 b.lo) := by rw [cell_of_row w1 _ _ _ _ _ hX1]; rfl
  have hC1 : w1.cell? ⟨w.heap.size, 1, none⟩ = some (.int .i64 b.hi) := by rw [cell_of_row w1 _ _ _ _ _ hX1]; rfl
  have hC2 : w1.cell? ⟨w.heap.size, 2, none⟩ = some (.int .i64 b.lots) := by rw [cell_of_row w1 _ _ _ _ _ hX1]; rfl
  have hC3 : w1.cell? ⟨w.heap.size, 3, none⟩ = some (.slice p b.n cap) := by rw [cell_of_row w1 _ _ _ _ _ hX1]; rfl
  clear hp1 hX1 hP0
  by_cases hck : checkB b = 0
  · have HB1 : Hid (BookAt w1.heap.size w1 p b) := (hb.diff HP1.out (Nat.le_refl _) (fun _ _ => id)).mono HP1.out.size
    have HG1 : Hid (Gl w1) := hg.diff HP1.out (fun _ _ => id)
    have hv := checkB_valid hck
    have HCK := Lib.hid hck
    rw [hck]
    clear hck
    have hgd := b.netM_good hv
    have hsm : Hid (∀ k, -1000000000 ≤ (b.T k).by' ∧ (b.T k).by' ≤ 1000000000) := tightS_small b.es b.bnN hgd
    go_wp2_with fail
    obtain ⟨X, hX⟩ : ∃ X, w1.alloc (.cells (bookC b p cap) 82) = X := ⟨_, rfl⟩
    have hXd : Pure w1 X := by rw [← hX]; exact (Diff.refl w1).alloc _
    have hBX : X.heap[w1.heap.size]? = some (.cells (bookC b p cap) 82 (0, 0)) := by rw [← hX]; exact World.alloc_heap_new _ _
    rw [hX]
    clear hX
    have hbX := (HB1.out.diff hXd (Nat.le_refl _) (fun _ _ => id)).mono hXd.size
    have hgX := HG1.out.diff hXd (fun _ _ => id)
    refine (net_any X b p cap hv hbX hgX).mono ?_
    rintro e w2 ⟨rfl, hm1, hp2⟩
    have HP2 : Hid (Pure w w2) := (HP1.out.trans hXd).trans hp2
    have hB2 : w2.heap[w1.heap.size]? = some (.cells (bookC b p cap) 82 (0, 0)) := (hp2.block _ (Array.getElem?_eq_some_iff.1 hBX).1 id).trans hBX
    obtain ⟨gB, hgB⟩ : ∃ gB, w1.heap.size = gB := ⟨_, rfl⟩
    rw [hgB] at hB2 hBl ⊢
    clear hbX hgX hXd hp2 hBX HB1 HG1 hC0 hC1 hC2 hC3 HP1 hgB
    go_wp2_with fail
    refine (tighten_any w2 (X.heap.size + 1) b.bnN b.es hm1 hgd).mono ?_
    rintro e w3 ⟨rfl, hp3⟩
    have HP3 : Hid (Pure w w3) := HP2.out.trans hp3
    have hB3 : w3.heap[gB]? = some (.cells (bookC b p cap) 82 (0, 0)) := (hp3.block _ (Array.getElem?_eq_some_iff.1 hB2).1 id).trans hB2
    clear hm1 hB2 hp3 HP2
    go_wp2_with (first | (refine wpList_alloc_table rfl rfl ?_) | (refine wpList_store_table rfl (.tmp 9) (.tmp 23) rfl w3.heap.size b.T (fun _ => bd0) rfl rfl (World.alloc_heap_new _ _) ?_))
    obtain ⟨Y, hY⟩ : ∃ Y, (w3.alloc (.cells tab0 111)).setRow w3.heap.size (tabV b.T) = Y := ⟨_, rfl⟩
    have hTY : TabAt Y w3.heap.size b.T := by rw [← hY]; exact setRow_heap _ _ _ _ _ _ (World.alloc_heap_new _ _)
    have hPY : Pure w3 Y := by rw [← hY]; exact ((Diff.refl w3).alloc _).setRow (fun h => absurd h (Nat.lt_irrefl _)) _
    have hBY : Y.heap[gB]? = some (.cells (bookC b p cap) 82 (0, 0)) := (hPY.block _ (Array.getElem?_eq_some_iff.1 hB3).1 id).trans hB3
    have HPY : Hid (Pure w Y) := HP3.out.trans hPY
    rw [hY]
    have hgBl := (Array.getElem?_eq_some_iff.1 hB3).1
    clear hY hPY hB3 HP3
    obtain ⟨g, hgg⟩ : ∃ g, w3.heap.size = g := ⟨_, rfl⟩
    rw [hgg] at hTY ⊢
    have hgBg : gB < g := hgg ▸ hgBl
    clear hgg
    simp only [Act.put, List.setIfInBounds_toArray, List.set_cons_zero, List.set_cons_succ]
    refine region_none 6 24 25 26 9 _ _ _ _ _ g b.T rfl hTY (by simp) ?_
    intro w4 hp4
    have HP4 : Hid (Pure w w4) := HPY.out.trans hp4
    have hT4 : TabAt w4 g b.T := hTY.diff hp4 (fun h => h)
    have hB4 : w4.heap[gB]? = some (.cells (bookC b p cap) 82 (0, 0)) := (hp4.block _ (Array.getElem?_eq_some_iff.1 hBY).1 id).trans hBY
    clear hTY hBY hp4 HPY
    simp only [Act.put, List.setIfInBounds_toArray, List.set_cons_zero, List.set_cons_succ]
    rw [show tabEq b.T (fun _ => bd0) = noneB b.es from tabEq_none b.es]
    have HT4 := Lib.hid hT4
    have HB4 := Lib.hid hB4
    have HHB := Lib.hid hb
    clear hT4 hB4 hb
    cases hN : noneB b.es with
    | true =>
      go_wp2_with fail
      exact bodyPost_ret (v := .tuple #[.slice none 0 0, .slice none 0 0, .int .i64 17]) (by simp [results, Tryd.results67, go_sem]) rfl ⟨by unfold truthQ; rw [if_neg (by have := HCK.out; omega), if_pos hN], HP4.out⟩
    | false =>
      have HN := Lib.hid hN
      have hc4 : w4.cell? ⟨gB, 2, none⟩ = some (.int .i64 b.lots) := by rw [cell_of_row w4 _ _ _ _ _ HB4.out]; rfl
      obtain ⟨L, hL⟩ := Int.eq_ofNat_of_zero_le (show 0 ≤ b.lots by have := hv.lots1; omega)
      have hL6 : L ≤ 6 := by have := hv.lots6; omega
      have hL1 : 1 ≤ L := by have := hv.lots1; omega
      have HL := Lib.hid hL
      rw [hL] at hc4 ⊢
      clear hN hL
      have hmk := run_make_row' (P := Tryd.prog) 27 2 (.int .i64 0) 8 Tryd.underlying27 info2 rfl .i64 .i64 L (by omega) (by omega)
      go_wp2_with fail
      have hTq0 : Kept w [(gB, .cells (bookC b p cap) 82), (g, .cells (tabV b.T) 111)] (w4.alloc (.cells (madeCells #[.int .i64 0] L) 2)) := by
        refine Kept.pure ⟨HP4.out, ?_⟩ ((Diff.refl _).alloc _)
        intro x hx
        simp only [List.mem_cons, List.mem_nil_iff, or_false] at hx
        rcases hx with rfl | rfl
        · exact HB4.out
        · exact HT4.out
      have hRq0 : (w4.alloc (.cells (madeCells #[.int .i64 0] L) 2)).rowIs w4.heap.size 2 L (fun j => .int .i64 (if j < 0 then (fun j => pickT b.T pick (1 + j)) j else 0)) := World.rowIs_made _ _ _ _
      have hgB4 : gB < w4.heap.size := (Array.getElem?_eq_some_iff.1 HB4.out).1
      have hg4 : g < w4.heap.size := (Array.getElem?_eq_some_iff.1 HT4.out).1
      obtain ⟨gs, hgs⟩ : ∃ gs, w4.heap.size = gs := ⟨_, rfl⟩
      obtain ⟨W5, hW5⟩ : ∃ W5, w4.alloc (.cells (madeCells #[.int .i64 0] L) 2) = W5 := ⟨_, rfl⟩
      rw [hgs] at hRq0 hgB4 hg4
      rw [hW5] at hRq0 hTq0
      rw [hW5, hgs]
      clear hW5 hgs HT4 HB4 HP4 hc4 hmk
      go_loopw [11, 33] (fun _ i wr => ∃ k : Nat, k ≤ L ∧ i = .int .i64 k ∧ Kept w [(gB, .cells (bookC b p cap) 82), (g, .cells (tabV b.T) 111)] wr ∧ wr.rowIs gs 2 L (fun j => .int .i64 (if j < k then (fun j => pickT b.T pick (1 + j)) j else 0))) (fun _ i _ => L - (intOf i).toNat)
      case atStart => exact ⟨0, by omega, rfl, hTq0, hRq0⟩
      case round =>
        obtain ⟨k, hk, rfl, hTq, hRq⟩ := hrel
        clear hTq0 hRq0
        by_cases hkl : k < L
        · go_wp2
          have hki : (k : Int) < L := by omega
          refine reg_invW (fun d a W => a = { tmps := #[bookV b p cap, Value.func (Fn.func fe) #[] #[], Value.pointer (some { block := w.heap.size, off := 0 }), undef, Value.slice none 0 0, Value.slice none 0 0, Value.int IntKind.i64 0, Value.int IntKind.i64 0, Value.pointer (some { block := gB, off := 0 }), Value.pointer (some { block := g, off := 0 }), Value.slice (some { block := gs, off := 0 }) L L, Value.int IntKind.i64 ↑k, undef, undef, Value.agg #[Value.int IntKind.i64 b.lo, Value.int IntKind.i64 b.hi, Value.int IntKind.i64 ↑L, Value.slice p b.n cap], Value.int IntKind.i64 0, Value.int IntKind.i64 0, Value.bool false, undef, Value.agg #[Value.int IntKind.i64 b.lo, Value.int IntKind.i64 b.hi, Value.int IntKind.i64 ↑L, Value.slice p b.n cap], Value.agg #[Value.int IntKind.i64 b.lo, Value.int IntKind.i64 b.hi, Value.int IntKind.i64 ↑L, Value.slice p b.n cap], Value.agg #[Value.int IntKind.i64 b.lo, Value.int IntKind.i64 b.hi, Value.int IntKind.i64 ↑L, Value.slice p b.n cap], Value.map (some (X.heap.size + 1)), Value.agg (tabV (tightS b.es)), Value.agg (tabV b.T), Value.agg tab0, Value.bool false, Value.pointer (some { block := gB, off := 0 }), Value.pointer (some { block := gB, off := 2 }), Value.int IntKind.i64 ↑L, Value.slice (some { block := gs, off := 0 }) L L, Value.slice (some { block := gs, off := 0 }) L L, Value.int IntKind.i64 ↑L, Value.int IntKind.i64 ↑k, Value.bool true, Value.int IntKind.i64 ↑k, (bif d 0 then Value.slice (some { block := gs, off := 0 }) L L else u36), (bif d 1 then Value.int IntKind.i64 ↑k else u37), (bif d 2 then Value.func (Fn.func fe) #[] #[] else u38), (bif d 3 then Value.agg (tabV b.T) else u39), (bif d 4 then Value.agg #[Value.int IntKind.i64 b.lo, Value.int IntKind.i64 b.hi, Value.int IntKind.i64 ↑L, Value.slice p b.n cap] else u40), (bif d 5 then Value.int IntKind.i64 ↑k else u41), (bif d 6 then Value.int IntKind.i64 ((1 + k : Nat) : Int) else u42), (bif d 7 then Value.agg #[Value.int IntKind.i64 (-(b.T ((1 + k) * 19)).by'), Value.int IntKind.i64 (b.T (1 + k)).by'] else u43), (bif d 8 then Value.int IntKind.i64 ((fun j => pickT b.T pick (1 + j)) k) else u44), (bif d 9 then Value.pointer (some { block := gs, off := k }) else u45), u46, undef, undef, undef, undef, undef, undef, undef, undef, undef, undef, undef, undef, undef, undef, undef, undef, undef, undef, undef, undef, undef], defers := [] } ∧ (d 10 = false → Kept w [(gB, .cells (bookC b p cap) 82), (g, .cells (tabV b.T) 111)] W ∧ W.rowIs gs 2 L (fun j => .int .i64 (if j < k then (fun j => pickT b.T pick (1 + j)) j else 0))) ∧ (d 10 = true → Kept w [(gB, .cells (bookC b p cap) 82), (g, .cells (tabV b.T) 111)] W ∧ W.rowIs gs 2 L (fun j => .int .i64 (if j < k + 1 then (fun j => pickT b.T pick (1 + j)) j else 0)))) hmx (by kernel_rfl) ?_ ?_ ?_
          · exact ⟨rfl, fun _ => ⟨hTq.pure (Diff.refl _).drew, rowPure hRq (Diff.refl _).drew⟩, fun h => by cases h⟩
          · refine ⟨?_, ?_, ?_, ?_, ?_, ?_, ?_, ?_, ?_, ?_, ?_, trivial⟩
            · rintro d a W hdi hdep hcl ⟨rfl, hw⟩ K hK
              replace hdi : d 0 = false := hdi
              have f9 : d 9 = false := hcl.neg hdi 9 (by kernel_rfl)
              have f10 : d 10 = false := hcl.neg hdi 10 (by kernel_rfl)
              clear hdep hcl
              go_simp
              exact hK _ _ ⟨by simp [upd, hdi, f9, f10], by simpa [upd] using hw⟩
            · rintro d a W hdi hdep hcl ⟨rfl, hw⟩ K hK
              replace hdi : d 1 = false := hdi
              have f9 : d 9 = false := hcl.neg hdi 9 (by kernel_rfl)
              have f10 : d 10 = false := hcl.neg hdi 10 (by kernel_rfl)
              clear hdep hcl
              go_simp
              exact hK _ _ ⟨by simp [upd, hdi, f9, f10], by simpa [upd] using hw⟩
            · rintro d a W hdi hdep hcl ⟨rfl, hw⟩ K hK
              replace hdi : d 2 = false := hdi
              have f8 : d 8 = false := hcl.neg hdi 8 (by kernel_rfl)
              have f9 : d 9 = false := hcl.neg hdi 9 (by kernel_rfl)
              have f10 : d 10 = false := hcl.neg hdi 10 (by kernel_rfl)
              clear hdep hcl
              go_simp
              exact hK _ _ ⟨by simp [upd, hdi, f8, f9, f10], by simpa [upd] using hw⟩
            · rintro d a W hdi hdep hcl ⟨rfl, hw⟩ K hK
              replace hdi : d 3 = false := hdi
              have f7 : d 7 = false := hcl.neg hdi 7 (by kernel_rfl)
              have f8 : d 8 = false := hcl.neg hdi 8 (by kernel_rfl)
              have f9 : d 9 = false := hcl.neg hdi 9 (by kernel_rfl)
              have f10 : d 10 = false := hcl.neg hdi 10 (by kernel_rfl)
              clear hdep hcl
              have hr := (hw.1 f10).1.objs (g, .cells (tabV b.T) 111) (by simp)
              simp only [Region.wanted, ↓reduceIte]
              set_option maxRecDepth 20000 in refine wp_load_table (.tmp 9) rfl g b.T rfl hr ?_
              exact hK _ _ ⟨by simp [Act.put, upd, hdi, f7, f8, f9, f10], by simpa [upd] using hw⟩
            · rintro d a W hdi hdep hcl ⟨rfl, hw⟩ K hK
              replace hdi : d 4 = false := hdi
              have f6 : d 6 = false := hcl.neg hdi 6 (by kernel_rfl)
              have f7 : d 7 = false := hcl.neg hdi 7 (by kernel_rfl)
              have f8 : d 8 = false := hcl.neg hdi 8 (by kernel_rfl)
              have f9 : d 9 = false := hcl.neg hdi 9 (by kernel_rfl)
              have f10 : d 10 = false := hcl.neg hdi 10 (by kernel_rfl)
              clear hdep hcl
              have hr := (hw.1 f10).1.objs (gB, .cells (bookC b p cap) 82) (by simp)
              have z0 : W.cell? ⟨gB, 0, none⟩ = some (.int .i64 b.lo) := by rw [cell_of_row W _ _ _ _ _ hr]; rfl
              have z1 : W.cell? ⟨gB, 1, none⟩ = some (.int .i64 b.hi) := by rw [cell_of_row W _ _ _ _ _ hr]; rfl
              have z2 : W.cell? ⟨gB, 2, none⟩ = some (.int .i64 L) := by rw [cell_of_row W _ _ _ _ _ hr, ← HL.out]; rfl
              have z3 : W.cell? ⟨gB, 3, none⟩ = some (.slice p b.n cap) := by rw [cell_of_row W _ _ _ _ _ hr]; rfl
              clear hr
              go_simp
              exact hK _ _ ⟨by simp [upd, hdi, f6, f7, f8, f9, f10], by simpa [upd] using hw⟩
            · rintro d a W hdi hdep hcl ⟨rfl, hw⟩ K hK
              replace hdi : d 5 = false := hdi
              have f6 : d 6 = false := hcl.neg hdi 6 (by kernel_rfl)
              have f7 : d 7 = false := hcl.neg hdi 7 (by kernel_rfl)
              have f8 : d 8 = false := hcl.neg hdi 8 (by kernel_rfl)
              have f9 : d 9 = false := hcl.neg hdi 9 (by kernel_rfl)
              have f10 : d 10 = false := hcl.neg hdi 10 (by kernel_rfl)
              clear hdep hcl
              go_simp
              exact hK _ _ ⟨by simp [upd, hdi, f6, f7, f8, f9, f10], by simpa [upd] using hw⟩
            · rintro d a W hdi hdep hcl ⟨rfl, hw⟩ K hK
              replace hdi : d 6 = false := hdi
              have e4 : d 4 = true := hcl.pos 6 rfl hdep 4 29 (by kernel_rfl)
              have e5 : d 5 = true := hcl.pos 6 rfl hdep 5 29 (by kernel_rfl)
              have f7 : d 7 = false := hcl.neg hdi 7 (by kernel_rfl)
              have f8 : d 8 = false := hcl.neg hdi 8 (by kernel_rfl)
              have f9 : d 9 = false := hcl.neg hdi 9 (by kernel_rfl)
              have f10 : d 10 = false := hcl.neg hdi 10 (by kernel_rfl)
              clear hdep hcl
              go_simp
              refine (lotName_any _ _ _ _ _ (k : Int) (by omega) (by omega)).mono ?_
              rintro e w' ⟨rfl, hp⟩
              rw [show (1 : Int) + (k : Int) = ((1 + k : Nat) : Int) by omega]
              exact hK _ _ ⟨by simp [upd, hdi, e4, e5, f7, f8, f9, f10], fun _ => ⟨(hw.1 f10).1.pure hp, rowPure (hw.1 f10).2 hp⟩, by simp [upd, f10]⟩
            · rintro d a W hdi hdep hcl ⟨rfl, hw⟩ K hK
              replace hdi : d 7 = false := hdi
              have e3 : d 3 = true := hcl.pos 7 rfl hdep 3 29 (by kernel_rfl)
              have e4 : d 4 = true := hcl.pos 7 rfl hdep 4 29 (by kernel_rfl)
              have e5 : d 5 = true := hcl.pos 7 rfl hdep 5 29 (by kernel_rfl)
              have e6 : d 6 = true := hcl.pos 7 rfl hdep 6 29 (by kernel_rfl)
              have f8 : d 8 = false := hcl.neg hdi 8 (by kernel_rfl)
              have f9 : d 9 = false := hcl.neg hdi 9 (by kernel_rfl)
              have f10 : d 10 = false := hcl.neg hdi 10 (by kernel_rfl)
              clear hdep hcl
              go_simp
              refine (apart_zero _ b.T (1 + k) (by omega) hsm.out).mono ?_
              rintro e w' ⟨rfl, hp⟩
              exact hK _ _ ⟨by simp [upd, hdi, e3, e4, e5, e6, f8, f9, f10], fun _ => ⟨(hw.1 f10).1.pure hp, rowPure (hw.1 f10).2 hp⟩, by simp [upd, f10]⟩
            · rintro d a W hdi hdep hcl ⟨rfl, hw⟩ K hK
              replace hdi : d 8 = false := hdi
              have e2 : d 2 = true := hcl.pos 8 rfl hdep 2 29 (by kernel_rfl)
              have e3 : d 3 = true := hcl.pos 8 rfl hdep 3 29 (by kernel_rfl)
              have e4 : d 4 = true := hcl.pos 8 rfl hdep 4 29 (by kernel_rfl)
              have e5 : d 5 = true := hcl.pos 8 rfl hdep 5 29 (by kernel_rfl)
              have e6 : d 6 = true := hcl.pos 8 rfl hdep 6 29 (by kernel_rfl)
              have e7 : d 7 = true := hcl.pos 8 rfl hdep 7 29 (by kernel_rfl)
              have f9 : d 9 = false := hcl.neg hdi 9 (by kernel_rfl)
              have f10 : d 10 = false := hcl.neg hdi 10 (by kernel_rfl)
              clear hdep hcl
              rcases hfe with rfl | rfl
              all_goals
                go_simp
                refine (hE _ (-(b.T ((1 + k) * 19)).by') (b.T (1 + k)).by').mono ?_
                rintro e w' ⟨rfl, hp⟩
                exact hK _ _ ⟨by simp [upd, hdi, e2, e3, e4, e5, e6, e7, f9, f10, pickT], fun _ => ⟨(hw.1 f10).1.pure hp, rowPure (hw.1 f10).2 hp⟩, by simp [upd, f10]⟩
            · rintro d a W hdi hdep hcl ⟨rfl, hw⟩ K hK
              replace hdi : d 9 = false := hdi
              have e0 : d 0 = true := hcl.pos 9 rfl hdep 0 29 (by kernel_rfl)
              have e1 : d 1 = true := hcl.pos 9 rfl hdep 1 29 (by kernel_rfl)
              have e2 : d 2 = true := hcl.pos 9 rfl hdep 2 29 (by kernel_rfl)
              have e3 : d 3 = true := hcl.pos 9 rfl hdep 3 29 (by kernel_rfl)
              have e4 : d 4 = true := hcl.pos 9 rfl hdep 4 29 (by kernel_rfl)
              have e5 : d 5 = true := hcl.pos 9 rfl hdep 5 29 (by kernel_rfl)
              have e6 : d 6 = true := hcl.pos 9 rfl hdep 6 29 (by kernel_rfl)
              have e7 : d 7 = true := hcl.pos 9 rfl hdep 7 29 (by kernel_rfl)
              have e8 : d 8 = true := hcl.pos 9 rfl hdep 8 29 (by kernel_rfl)
              have f10 : d 10 = false := hcl.neg hdi 10 (by kernel_rfl)
              clear hdep hcl
              go_simp
              exact hK _ _ ⟨by simp [upd, hdi, e0, e1, e2, e3, e4, e5, e6, e7, e8, f10], by simpa [upd] using hw⟩
            · rintro d a W hdi hdep hcl ⟨rfl, hw⟩ K hK
              replace hdi : d 10 = false := hdi
              have e0 : d 0 = true := hcl.pos 10 rfl hdep 0 29 (by kernel_rfl)
              have e1 : d 1 = true := hcl.pos 10 rfl hdep 1 29 (by kernel_rfl)
              have e2 : d 2 = true := hcl.pos 10 rfl hdep 2 29 (by kernel_rfl)
              have e3 : d 3 = true := hcl.pos 10 rfl hdep 3 29 (by kernel_rfl)
              have e4 : d 4 = true := hcl.pos 10 rfl hdep 4 29 (by kernel_rfl)
              have e5 : d 5 = true := hcl.pos 10 rfl hdep 5 29 (by kernel_rfl)
              have e6 : d 6 = true := hcl.pos 10 rfl hdep 6 29 (by kernel_rfl)
              have e7 : d 7 = true := hcl.pos 10 rfl hdep 7 29 (by kernel_rfl)
              have e8 : d 8 = true := hcl.pos 10 rfl hdep 8 29 (by kernel_rfl)
              have e9 : d 9 = true := hcl.pos 10 rfl hdep 9 29 (by kernel_rfl)
              clear hdep hcl
              have hr := (hw.1 hdi).2
              have y0 : W.cell? ⟨gs, k, none⟩ = some (.int .i64 0) := by rw [hr.cell (by omega)]; simp
              have y1 : W.frozen? ⟨gs, k, none⟩ = false := hr.frozen k
              have hs2 := row_step (F := (fun j => pickT b.T pick (1 + j))) hr
              clear hr
              go_simp
              exact hK _ _ ⟨by simp [upd, hdi, e0, e1, e2, e3, e4, e5, e6, e7, e8, e9], by simp [upd], fun _ => ⟨(hw.1 hdi).1.set (by omega) (by simp; omega), hs2⟩⟩
          · rintro d a W hall ⟨rfl, hw⟩
            simp [List.range_succ] at hall
            obtain ⟨e0, e1, e2, e3, e4, e5, e6, e7, e8, e9, e10⟩ := hall
            simp only [e0, e1, e2, e3, e4, e5, e6, e7, e8, e9, e10, cond_true] at hw ⊢
            clear e0 e1 e2 e3 e4 e5 e6 e7 e8 e9 e10
            have hr := hw.2 trivial
            clear hw
            go_wp2
            go_roundw
            case rel => exact ⟨k + 1, by omega, by go_num, hr⟩
            case measure => simp [intOf]; omega
        · obtain rfl : L = k := by omega
          have hr := hTq.objs (gB, .cells (bookC b p cap) 82) (by simp)
          have z0 : wr.cell? ⟨gB, 0, none⟩ = some (.int .i64 b.lo) := by rw [cell_of_row wr _ _ _ _ _ hr]; rfl
          have z1 : wr.cell? ⟨gB, 1, none⟩ = some (.int .i64 b.hi) := by rw [cell_of_row wr _ _ _ _ _ hr]; rfl
          have z2 : wr.cell? ⟨gB, 2, none⟩ = some (.int .i64 L) := by rw [cell_of_row wr _ _ _ _ _ hr, ← HL.out]; rfl
          have z3 : wr.cell? ⟨gB, 3, none⟩ = some (.slice p b.n cap) := by rw [cell_of_row wr _ _ _ _ _ hr]; rfl
          have HTQ := Lib.hid hTq
          have HRQ := Lib.hid hRq
          clear hr hTq hRq
          go_wp2_with fail
          have htas := tastes_any wr b p cap hs ((HHB.out.diff HTQ.out.pw (Nat.le_refl _) (fun _ _ => id)).mono HTQ.out.pw.size)
          rw [HL.out] at htas
          refine htas.mono ?_
          rintro e w6 ⟨rfl, hp6⟩
          have ht12 := hv.tot
          clear htas z0 z1 z2 z3
          obtain ⟨N, hN⟩ : ∃ N, b.total = N := ⟨_, rfl⟩
          rw [hN] at ht12 ⊢
          have HNT := Lib.hid hN
          clear hN
          have hmk := run_make_row' (P := Tryd.prog) 27 2 (.int .i64 0) 8 Tryd.underlying27 info2 rfl .i64 .i64 N (by omega) (by omega)
          obtain ⟨c1, hc1, hc1n, hc1f⟩ := rowPure HRQ.out hp6
          have hTq0 : Kept w [(gB, .cells (bookC b p cap) 82), (g, .cells (tabV b.T) 111), (gs, .cells c1 2)] (w6.alloc (.cells (madeCells #[.int .i64 0] N) 2)) := by
            have h6 := HTQ.out.pure hp6
            refine Kept.pure ⟨h6.pw, ?_⟩ ((Diff.refl _).alloc _)
            intro x hx
            simp only [List.mem_cons, List.mem_nil_iff, or_false] at hx
            rcases hx with rfl | rfl | rfl
            · exact h6.objs (gB, .cells (bookC b p cap) 82) (by simp)
            · exact h6.objs (g, .cells (tabV b.T) 111) (by simp)
            · exact hc1
          have hRq0 : (w6.alloc (.cells (madeCells #[.int .i64 0] N) 2)).rowIs w6.heap.size 2 N (fun j => .int .i64 (if j < 0 then (fun j => pickT b.T pick (1 + L + j)) j else 0)) := World.rowIs_made _ _ _ _
          have hgs6 : gs < w6.heap.size := (Array.getElem?_eq_some_iff.1 hc1).1
          obtain ⟨gt, hgt⟩ : ∃ gt, w6.heap.size = gt := ⟨_, rfl⟩
          clear hc1 hp6 HTQ HRQ
          go_wp2_with fail
          rw [hgt] at hRq0 hgs6
          obtain ⟨W7, hW7⟩ : ∃ W7, w6.alloc (.cells (madeCells #[.int .i64 0] N) 2) = W7 := ⟨_, rfl⟩
          rw [hW7] at hRq0 hTq0
          rw [hW7]
          try rw [hgt]
          clear hW7 hgt hmk
          go_loopw [13, 52] (fun _ i wr => ∃ k : Nat, k ≤ N ∧ i = .int .i64 k ∧ Kept w [(gB, .cells (bookC b p cap) 82), (g, .cells (tabV b.T) 111), (gs, .cells c1 2)] wr ∧ wr.rowIs gt 2 N (fun j => .int .i64 (if j < k then (fun j => pickT b.T pick (1 + L + j)) j else 0))) (fun _ i _ => N - (intOf i).toNat)
          case atStart => exact ⟨0, by omega, rfl, hTq0, hRq0⟩
          case round =>
            obtain ⟨k, hk, rfl, hTq, hRq⟩ := hrel
            clear hTq0 hRq0
            by_cases hkl : k < N
            · go_wp2
              have hki : (k : Int) < N := by omega
              refine reg_invW (fun d a W => a = { tmps := #[bookV b p cap, Value.func (Fn.func fe) #[] #[], Value.pointer (some { block := w.heap.size, off := 0 }), undef, Value.slice none 0 0, Value.slice none 0 0, Value.int IntKind.i64 0, Value.int IntKind.i64 0, Value.pointer (some { block := gB, off := 0 }), Value.pointer (some { block := g, off := 0 }), Value.slice (some { block := gs, off := 0 }) L L, u11, Value.slice (some { block := gt, off := 0 }) N N, Value.int IntKind.i64 ↑k, Value.agg #[Value.int IntKind.i64 b.lo, Value.int IntKind.i64 b.hi, Value.int IntKind.i64 ↑L, Value.slice p b.n cap], Value.int IntKind.i64 0, Value.int IntKind.i64 0, Value.bool false, undef, Value.agg #[Value.int IntKind.i64 b.lo, Value.int IntKind.i64 b.hi, Value.int IntKind.i64 ↑L, Value.slice p b.n cap], Value.agg #[Value.int IntKind.i64 b.lo, Value.int IntKind.i64 b.hi, Value.int IntKind.i64 ↑L, Value.slice p b.n cap], Value.agg #[Value.int IntKind.i64 b.lo, Value.int IntKind.i64 b.hi, Value.int IntKind.i64 ↑L, Value.slice p b.n cap], Value.map (some (X.heap.size + 1)), Value.agg (tabV (tightS b.es)), Value.agg (tabV b.T), Value.agg tab0, Value.bool false, Value.pointer (some { block := gB, off := 0 }), Value.pointer (some { block := gB, off := 2 }), Value.int IntKind.i64 ↑L, Value.slice (some { block := gs, off := 0 }) L L, Value.slice (some { block := gs, off := 0 }) L L, Value.int IntKind.i64 ↑L, Value.int IntKind.i64 ↑L, Value.bool false, u35, u36, u37, u38, u39, u40, u41, u42, u43, u44, u45, u46, Value.agg #[Value.int IntKind.i64 b.lo, Value.int IntKind.i64 b.hi, Value.int IntKind.i64 ↑L, Value.slice p b.n cap], Value.int IntKind.i64 ↑N, Value.slice (some { block := gt, off := 0 }) N N, Value.slice (some { block := gt, off := 0 }) N N, Value.int IntKind.i64 ↑N, Value.int IntKind.i64 ↑k, Value.bool true, Value.int IntKind.i64 ↑k, (bif d 0 then Value.slice (some { block := gt, off := 0 }) N N else u55), (bif d 1 then Value.int IntKind.i64 ↑k else u56), (bif d 2 then Value.func (Fn.func fe) #[] #[] else u57), (bif d 3 then Value.agg (tabV b.T) else u58), (bif d 4 then Value.agg #[Value.int IntKind.i64 b.lo, Value.int IntKind.i64 b.hi, Value.int IntKind.i64 ↑L, Value.slice p b.n cap] else u59), (bif d 5 then Value.int IntKind.i64 ↑k else u60), (bif d 6 then Value.int IntKind.i64 ((1 + L + k : Nat) : Int) else u61), (bif d 7 then Value.agg #[Value.int IntKind.i64 (-(b.T ((1 + L + k) * 19)).by'), Value.int IntKind.i64 (b.T (1 + L + k)).by'] else u62), (bif d 8 then Value.int IntKind.i64 ((fun j => pickT b.T pick (1 + L + j)) k) else u63), (bif d 9 then Value.pointer (some { block := gt, off := k }) else u64), u65, undef, undef], defers := [] } ∧ (d 10 = false → Kept w [(gB, .cells (bookC b p cap) 82), (g, .cells (tabV b.T) 111), (gs, .cells c1 2)] W ∧ W.rowIs gt 2 N (fun j => .int .i64 (if j < k then (fun j => pickT b.T pick (1 + L + j)) j else 0))) ∧ (d 10 = true → Kept w [(gB, .cells (bookC b p cap) 82), (g, .cells (tabV b.T) 111), (gs, .cells c1 2)] W ∧ W.rowIs gt 2 N (fun j => .int .i64 (if j < k + 1 then (fun j => pickT b.T pick (1 + L + j)) j else 0)))) hmx (by kernel_rfl) ?_ ?_ ?_
              · exact ⟨rfl, fun _ => ⟨hTq.pure (Diff.refl _).drew, rowPure hRq (Diff.refl _).drew⟩, fun h => by cases h⟩
              · refine ⟨?_, ?_, ?_, ?_, ?_, ?_, ?_, ?_, ?_, ?_, ?_, trivial⟩
                · rintro d a W hdi hdep hcl ⟨rfl, hw⟩ K hK
                  replace hdi : d 0 = false := hdi
                  have f9 : d 9 = false := hcl.neg hdi 9 (by kernel_rfl)
                  have f10 : d 10 = false := hcl.neg hdi 10 (by kernel_rfl)
                  clear hdep hcl
                  go_simp
                  exact hK _ _ ⟨by simp [upd, hdi, f9, f10], by simpa [upd] using hw⟩
                · rintro d a W hdi hdep hcl ⟨rfl, hw⟩ K hK
                  replace hdi : d 1 = false := hdi
                  have f9 : d 9 = false := hcl.neg hdi 9 (by kernel_rfl)
                  have f10 : d 10 = false := hcl.neg hdi 10 (by kernel_rfl)
                  clear hdep hcl
                  go_simp
                  exact hK _ _ ⟨by simp [upd, hdi, f9, f10], by simpa [upd] using hw⟩
                · rintro d a W hdi hdep hcl ⟨rfl, hw⟩ K hK
                  replace hdi : d 2 = false := hdi
                  have f8 : d 8 = false := hcl.neg hdi 8 (by kernel_rfl)
                  have f9 : d 9 = false := hcl.neg hdi 9 (by kernel_rfl)
                  have f10 : d 10 = false := hcl.neg hdi 10 (by kernel_rfl)
                  clear hdep hcl
                  go_simp
                  exact hK _ _ ⟨by simp [upd, hdi, f8, f9, f10], by simpa [upd] using hw⟩
                · rintro d a W hdi hdep hcl ⟨rfl, hw⟩ K hK
                  replace hdi : d 3 = false := hdi
                  have f7 : d 7 = false := hcl.neg hdi 7 (by kernel_rfl)
                  have f8 : d 8 = false := hcl.neg hdi 8 (by kernel_rfl)
                  have f9 : d 9 = false := hcl.neg hdi 9 (by kernel_rfl)
                  have f10 : d 10 = false := hcl.neg hdi 10 (by kernel_rfl)
                  clear hdep hcl
                  have hr := (hw.1 f10).1.objs (g, .cells (tabV b.T) 111) (by simp)
                  simp only [Region.wanted, ↓reduceIte]
                  set_option maxRecDepth 20000 in refine wp_load_table (.tmp 9) rfl g b.T rfl hr ?_
                  exact hK _ _ ⟨by simp [Act.put, upd, hdi, f7, f8, f9, f10], by simpa [upd] using hw⟩
                · rintro d a W hdi hdep hcl ⟨rfl, hw⟩ K hK
                  replace hdi : d 4 = false := hdi
                  have f6 : d 6 = false := hcl.neg hdi 6 (by kernel_rfl)
                  have f7 : d 7 = false := hcl.neg hdi 7 (by kernel_rfl)
                  have f8 : d 8 = false := hcl.neg hdi 8 (by kernel_rfl)
                  have f9 : d 9 = false := hcl.neg hdi 9 (by kernel_rfl)
                  have f10 : d 10 = false := hcl.neg hdi 10 (by kernel_rfl)
                  clear hdep hcl
                  have hr := (hw.1 f10).1.objs (gB, .cells (bookC b p cap) 82) (by simp)
                  have z0 : W.cell? ⟨gB, 0, none⟩ = some (.int .i64 b.lo) := by rw [cell_of_row W _ _ _ _ _ hr]; rfl
                  have z1 : W.cell? ⟨gB, 1, none⟩ = some (.int .i64 b.hi) := by rw [cell_of_row W _ _ _ _ _ hr]; rfl
                  have z2 : W.cell? ⟨gB, 2, none⟩ = some (.int .i64 L) := by rw [cell_of_row W _ _ _ _ _ hr, ← HL.out]; rfl
                  have z3 : W.cell? ⟨gB, 3, none⟩ = some (.slice p b.n cap) := by rw [cell_of_row W _ _ _ _ _ hr]; rfl
                  clear hr
                  go_simp
                  exact hK _ _ ⟨by simp [upd, hdi, f6, f7, f8, f9, f10], by simpa [upd] using hw⟩
                · rintro d a W hdi hdep hcl ⟨rfl, hw⟩ K hK
                  replace hdi : d 5 = false := hdi
                  have f6 : d 6 = false := hcl.neg hdi 6 (by kernel_rfl)
                  have f7 : d 7 = false := hcl.neg hdi 7 (by kernel_rfl)
                  have f8 : d 8 = false := hcl.neg hdi 8 (by kernel_rfl)
                  have f9 : d 9 = false := hcl.neg hdi 9 (by kernel_rfl)
                  have f10 : d 10 = false := hcl.neg hdi 10 (by kernel_rfl)
                  clear hdep hcl
                  go_simp
                  exact hK _ _ ⟨by simp [upd, hdi, f6, f7, f8, f9, f10], by simpa [upd] using hw⟩
                · rintro d a W hdi hdep hcl ⟨rfl, hw⟩ K hK
                  replace hdi : d 6 = false := hdi
                  have e4 : d 4 = true := hcl.pos 6 rfl hdep 4 29 (by kernel_rfl)
                  have e5 : d 5 = true := hcl.pos 6 rfl hdep 5 29 (by kernel_rfl)
                  have f7 : d 7 = false := hcl.neg hdi 7 (by kernel_rfl)
                  have f8 : d 8 = false := hcl.neg hdi 8 (by kernel_rfl)
                  have f9 : d 9 = false := hcl.neg hdi 9 (by kernel_rfl)
                  have f10 : d 10 = false := hcl.neg hdi 10 (by kernel_rfl)
                  clear hdep hcl
                  go_simp
                  refine (tasteName_any _ _ _ _ _ (k : Int) (by omega) (by omega) (by omega) (by omega)).mono ?_
                  rintro e w' ⟨rfl, hp⟩
                  rw [show (1 : Int) + (L : Int) + (k : Int) = ((1 + L + k : Nat) : Int) by omega]
                  exact hK _ _ ⟨by simp [upd, hdi, e4, e5, f7, f8, f9, f10], fun _ => ⟨(hw.1 f10).1.pure hp, rowPure (hw.1 f10).2 hp⟩, by simp [upd, f10]⟩
                · rintro d a W hdi hdep hcl ⟨rfl, hw⟩ K hK
                  replace hdi : d 7 = false := hdi
                  have e3 : d 3 = true := hcl.pos 7 rfl hdep 3 29 (by kernel_rfl)
                  have e4 : d 4 = true := hcl.pos 7 rfl hdep 4 29 (by kernel_rfl)
                  have e5 : d 5 = true := hcl.pos 7 rfl hdep 5 29 (by kernel_rfl)
                  have e6 : d 6 = true := hcl.pos 7 rfl hdep 6 29 (by kernel_rfl)
                  have f8 : d 8 = false := hcl.neg hdi 8 (by kernel_rfl)
                  have f9 : d 9 = false := hcl.neg hdi 9 (by kernel_rfl)
                  have f10 : d 10 = false := hcl.neg hdi 10 (by kernel_rfl)
                  clear hdep hcl
                  go_simp
                  refine (apart_zero _ b.T (1 + L + k) (by omega) hsm.out).mono ?_
                  rintro e w' ⟨rfl, hp⟩
                  exact hK _ _ ⟨by simp [upd, hdi, e3, e4, e5, e6, f8, f9, f10], fun _ => ⟨(hw.1 f10).1.pure hp, rowPure (hw.1 f10).2 hp⟩, by simp [upd, f10]⟩
                · rintro d a W hdi hdep hcl ⟨rfl, hw⟩ K hK
                  replace hdi : d 8 = false := hdi
                  have e2 : d 2 = true := hcl.pos 8 rfl hdep 2 29 (by kernel_rfl)
                  have e3 : d 3 = true := hcl.pos 8 rfl hdep 3 29 (by kernel_rfl)
                  have e4 : d 4 = true := hcl.pos 8 rfl hdep 4 29 (by kernel_rfl)
                  have e5 : d 5 = true := hcl.pos 8 rfl hdep 5 29 (by kernel_rfl)
                  have e6 : d 6 = true := hcl.pos 8 rfl hdep 6 29 (by kernel_rfl)
                  have e7 : d 7 = true := hcl.pos 8 rfl hdep 7 29 (by kernel_rfl)
                  have f9 : d 9 = false := hcl.neg hdi 9 (by kernel_rfl)
                  have f10 : d 10 = false := hcl.neg hdi 10 (by kernel_rfl)
                  clear hdep hcl
                  rcases hfe with rfl | rfl
                  all_goals
                    go_simp
                    refine (hE _ (-(b.T ((1 + L + k) * 19)).by') (b.T (1 + L + k)).by').mono ?_
                    rintro e w' ⟨rfl, hp⟩
                    exact hK _ _ ⟨by simp [upd, hdi, e2, e3, e4, e5, e6, e7, f9, f10, pickT], fun _ => ⟨(hw.1 f10).1.pure hp, rowPure (hw.1 f10).2 hp⟩, by simp [upd, f10]⟩
                · rintro d a W hdi hdep hcl ⟨rfl, hw⟩ K hK
                  replace hdi : d 9 = false := hdi
                  have e0 : d 0 = true := hcl.pos 9 rfl hdep 0 29 (by kernel_rfl)
                  have e1 : d 1 = true := hcl.pos 9 rfl hdep 1 29 (by kernel_rfl)
                  have e2 : d 2 = true := hcl.pos 9 rfl hdep 2 29 (by kernel_rfl)
                  have e3 : d 3 = true := hcl.pos 9 rfl hdep 3 29 (by kernel_rfl)
                  have e4 : d 4 = true := hcl.pos 9 rfl hdep 4 29 (by kernel_rfl)
                  have e5 : d 5 = true := hcl.pos 9 rfl hdep 5 29 (by kernel_rfl)
                  have e6 : d 6 = true := hcl.pos 9 rfl hdep 6 29 (by kernel_rfl)
                  have e7 : d 7 = true := hcl.pos 9 rfl hdep 7 29 (by kernel_rfl)
                  have e8 : d 8 = true := hcl.pos 9 rfl hdep 8 29 (by kernel_rfl)
                  have f10 : d 10 = false := hcl.neg hdi 10 (by kernel_rfl)
                  clear hdep hcl
                  go_simp
                  exact hK _ _ ⟨by simp [upd, hdi, e0, e1, e2, e3, e4, e5, e6, e7, e8, f10], by simpa [upd] using hw⟩
                · rintro d a W hdi hdep hcl ⟨rfl, hw⟩ K hK
                  replace hdi : d 10 = false := hdi
                  have e0 : d 0 = true := hcl.pos 10 rfl hdep 0 29 (by kernel_rfl)
                  have e1 : d 1 = true := hcl.pos 10 rfl hdep 1 29 (by kernel_rfl)
                  have e2 : d 2 = true := hcl.pos 10 rfl hdep 2 29 (by kernel_rfl)
                  have e3 : d 3 = true := hcl.pos 10 rfl hdep 3 29 (by kernel_rfl)
                  have e4 : d 4 = true := hcl.pos 10 rfl hdep 4 29 (by kernel_rfl)
                  have e5 : d 5 = true := hcl.pos 10 rfl hdep 5 29 (by kernel_rfl)
                  have e6 : d 6 = true := hcl.pos 10 rfl hdep 6 29 (by kernel_rfl)
                  have e7 : d 7 = true := hcl.pos 10 rfl hdep 7 29 (by kernel_rfl)
                  have e8 : d 8 = true := hcl.pos 10 rfl hdep 8 29 (by kernel_rfl)
                  have e9 : d 9 = true := hcl.pos 10 rfl hdep 9 29 (by kernel_rfl)
                  clear hdep hcl
                  have hr := (hw.1 hdi).2
                  have y0 : W.cell? ⟨gt, k, none⟩ = some (.int .i64 0) := by rw [hr.cell (by omega)]; simp
                  have y1 : W.frozen? ⟨gt, k, none⟩ = false := hr.frozen k
                  have hs2 := row_step (F := (fun j => pickT b.T pick (1 + L + j))) hr
                  clear hr
                  go_simp
                  exact hK _ _ ⟨by simp [upd, hdi, e0, e1, e2, e3, e4, e5, e6, e7, e8, e9], by simp [upd], fun _ => ⟨(hw.1 hdi).1.set (by omega) (by simp; omega), hs2⟩⟩
              · rintro d a W hall ⟨rfl, hw⟩
                simp [List.range_succ] at hall
                obtain ⟨e0, e1, e2, e3, e4, e5, e6, e7, e8, e9, e10⟩ := hall
                simp only [e0, e1, e2, e3, e4, e5, e6, e7, e8, e9, e10, cond_true] at hw ⊢
                clear e0 e1 e2 e3 e4 e5 e6 e7 e8 e9 e10
                have hr := hw.2 trivial
                clear hw
                go_wp2
                go_roundw
                case rel => exact ⟨k + 1, by omega, by go_num, hr⟩
                case measure => simp [intOf]; omega
            · obtain rfl : N = k := by omega
              go_wp2_with fail
              refine bodyPost_ret (v := .tuple #[.slice (some ⟨gs, 0, none⟩) L L, .slice (some ⟨gt, 0, none⟩) N N, .int .i64 0]) (by simp [results, Tryd.results67, go_sem]) rfl ⟨?_, hTq.pw⟩
              unfold truthQ
              rw [if_neg (by have := HCK.out; omega), if_neg (by rw [HN.out]; simp)]
              refine ⟨gs, gt, L, HL.out, by omega, by omega, by rw [HNT.out], ⟨c1, hTq.objs (gs, .cells c1 2) (by simp), hc1n, fun i hi => by rw [hc1f i hi, if_pos hi]⟩, ?_⟩
              rw [HNT.out]
              exact hRq.congr (fun i hi => by rw [if_pos hi])
  · go_wp2_with fail
    exact bodyPost_ret (v := .tuple #[.slice none 0 0, .slice none 0 0, .int .i64 (checkB b)]) (by simp [results, Tryd.results67, go_sem]) rfl ⟨by unfold truthQ; rw [if_pos hck], HP1.out⟩
end Go.Proofs.YtmedkmbfggphdaaDoor

namespace Go.Proofs.YtmedkmbfggphdaaDoor
open Go.RowKit

theorem info2' : ∃ i, Tryd.prog.info? 2 = some i ∧ i.zero = some (.int .i64 0) ∧ i.size = 1 ∧ i.bytes = 8 := by
  have h := info2
  obtain ⟨i, hi, hzz⟩ := Option.map_eq_some_iff.1 h
  simp only [Prod.mk.injEq] at hzz
  exact ⟨i, hi, hzz.1, hzz.2.1, hzz.2.2⟩

set_option maxRecDepth 20000 in
theorem Grow_any (w : World) (n : Nat) (h0 : 0 < n) (hn : n ≤ 1000) :
    Calls Tryd.prog 103 #[.slice none 0 0, .int .i64 n] w fun e w' => ∃ v, e = .returned v ∧ w'.ownsRow w.heap.size 2 1 v 0 [] ∧ v.ownBlock = some w.heap.size ∧ Pure w w' := by
  obtain ⟨i, hi, hz, hsz, hby⟩ := info2'
  have happ := Lib.run_append_nil_zeros (P := Tryd.prog) w 27 3 27 2 i (.int .i64 0) .i64 .i64 Tryd.underlying27 Tryd.underlying3 hi hz n h0 (by omega) (by omega) (by rw [hby]; omega)
  go_enter Tryd.func103, Tryd.ntmps103
  go_wp2_with (at_builtin; refine Lib.wpList_append_run _ rfl _ _ _ _ rfl _ _ rfl rfl _ _ happ ?_)
  have hge := grownCap_ge w n 0 2
  have hle := grownCap_le_maxLen w n 0 2 (by simp only [maxLen]; omega)
  obtain ⟨c, hc⟩ : ∃ c, grownCap w n 0 2 = c := ⟨_, rfl⟩
  rw [hc] at hge hle ⊢
  refine bodyPost_ret (v := .slice (some ⟨w.heap.size, 0, none⟩) 0 c) (by simp [results, Tryd.results103, go_sem]) rfl ⟨_, rfl, ⟨rfl, .inr ⟨w.heap.size, c, _, rfl, Nat.le_refl _, World.alloc_heap_new _ _, by omega, hle, ?_, by simp⟩⟩, rfl, ((Diff.refl _).alloc _).drew⟩
  rw [Array.size_append, size_zeroCells, size_zeroCells]; simp; omega
end Go.Proofs.YtmedkmbfggphdaaDoor

namespace Go.Proofs.YtmedkmbfggphdaaDoor
open Go.RowKit

/-- The cells of a list of int64s. -/
def vals (l : List Int) : List Value := l.map (.int .i64)
theorem vals_append (a b : List Int) : vals (a ++ b) = vals a ++ vals b := by simp [vals]
/-- v is a slice that holds xs, of blocks below B. -/
def SlI (B : Nat) (w : World) (v : Value) (xs : List Int) : Prop :=
  (v = .slice none 0 0 ∧ xs = []) ∨ ∃ b o c, v = .slice (some ⟨b, o, none⟩) xs.length c ∧ b < B ∧ ∀ k u, xs[k]? = some u → w.cell? ⟨b, o + k, none⟩ = some (.int .i64 u)
theorem SlI.pure {B : Nat} {w w' : World} {v : Value} {xs : List Int} (h : SlI B w v xs) (hd : Diff (fun k => B ≤ k) w w') (hB : B ≤ w.heap.size) : SlI B w' v xs := by
  rcases h with h | ⟨b, o, c, h1, h2, h3⟩
  · exact .inl h
  · exact .inr ⟨b, o, c, h1, h2, fun k u hu => (hd.cell (p := ⟨b, o + k, none⟩) (by show b < _; omega) (by show ¬ B ≤ b; omega)).trans (h3 k u hu)⟩
theorem SlI.mono {B B' : Nat} {w : World} {v : Value} {xs : List Int} (h : SlI B w v xs) (hB : B ≤ B') : SlI B' w v xs := by
  rcases h with h | ⟨b, o, c, h1, h2, h3⟩
  · exact .inl h
  · exact .inr ⟨b, o, c, h1, by omega, h3⟩
def catTo (ls : Nat → List Int) : Nat → List Int
  | 0 => []
  | n + 1 => catTo ls n ++ ls n

theorem grown_pure {w wr w2 : World} {row : Option Nat} (h : Pure w wr) (hg : wr.grownBy w2 row) (hr : ∀ k, row = some k → w.heap.size ≤ k) : Pure w w2 :=
  ⟨hg.os.trans h.os, hg.tape.trans h.tape, hg.output.trans h.output, Nat.le_trans h.size hg.size, fun k hk ho => (hg.block k (Nat.lt_of_lt_of_le hk h.size) (fun e => by have := hr k e.symm; omega)).trans (h.block k hk ho)⟩
set_option maxHeartbeats 2000000 in
theorem Concat_any (w : World) (p : Option Addr) (n c : Nat) (v : Nat → Value) (ls : Nat → List Int) (hn : n ≤ 3) (hr : Row w.heap.size w p n v) (hl : ∀ k, k < n → SlI w.heap.size w (v k) (ls k)) (hlen : ∀ k, k < n → (ls k).length ≤ 300) (h0 : 0 < (catTo ls n).length) :
    Calls Tryd.prog 91 #[.slice p n c] w fun e w' => ∃ u, e = .returned u ∧ w'.ownsRow w.heap.size 2 1 u (catTo ls n).length (vals (catTo ls n)) ∧ Pure w w' := by
  have hup : ∀ k, k ≤ n → (catTo ls k).length ≤ 300 * k := by
    intro k
    induction k with
    | zero => intro _; simp [catTo]
    | succ k ih => intro hk; have := ih (by omega); have := hlen k (by omega); simp only [catTo, List.length_append]; omega
  have HUP := Lib.hid hup
  clear hup
  go_enter Tryd.func91, Tryd.ntmps91
  go_wp2
  go_loop [3, 5, 11] (fun s _ i => ∃ k : Nat, k ≤ n ∧ i = .int .i64 k ∧ s = .int .i64 (catTo ls k).length) (fun _ _ i => n - (intOf i).toNat)
  case atStart => exact ⟨0, Nat.zero_le _, rfl, rfl⟩
  case round =>
    obtain ⟨k, hk, rfl, rfl⟩ := hrel
    have hup := HUP.out k hk
    by_cases hlt : k < n
    · obtain ⟨b, o, hpe, hb, hc⟩ := hr k hlt
      have hle := hlen k hlt
      have HS : Hid ((catTo ls (k + 1)).length = (catTo ls k).length + (ls k).length) := by show _ = _; simp [catTo]
      rcases hl k hlt with ⟨hv, hx⟩ | ⟨b1, o1, c1, hv, hb1, h1⟩
      · rw [hv] at hc
        have hx0 : (ls k).length = 0 := by rw [hx]; rfl
        subst hpe
        go_wp2
        go_round
        case rel => exact ⟨k + 1, by omega, by go_num, by rw [HS.out, hx0]; go_num⟩
        case measure => simp [intOf]; omega
      · rw [hv] at hc
        subst hpe
        clear h1
        go_wp2
        go_round
        case rel => exact ⟨k + 1, by omega, by go_num, by rw [HS.out]; go_num⟩
        case measure => simp [intOf]; omega
    · obtain rfl : n = k := by omega
      obtain ⟨N, hN⟩ : ∃ N, (catTo ls n).length = N := ⟨_, rfl⟩
      rw [hN] at h0 hup ⊢
      have HN := Lib.hid hN
      clear hN
      go_wp2_with fail
      refine (Grow_any w N h0 (by omega)).mono ?_
      rintro e w1 ⟨u0, rfl, hown0, hblk, hp1⟩
      go_wp2_with fail
      obtain ⟨i2, hi2, hz2, hsz2, hby2⟩ := info2'
      clear hup
      go_loopw [6, 8, 27] (fun u _ i wr => ∃ k : Nat, k ≤ n ∧ i = .int .i64 k ∧ wr.ownsRow w.heap.size 2 1 u (catTo ls k).length (vals (catTo ls k)) ∧ Pure w wr) (fun _ _ i _ => n - (intOf i).toNat)
      case atStart => exact ⟨0, Nat.zero_le _, rfl, hown0, hp1⟩
      case round =>
        obtain ⟨k, hk, rfl, hown, hpw⟩ := hrel
        clear hown0 hp1 hblk
        have hup := HUP.out k hk
        by_cases hlt : k < n
        · obtain ⟨b, o, hpe, hb, hc0⟩ := hr k hlt
          have hc := ((pcell hpw).1 b (o + k) hb).trans hc0
          have hle := hlen k hlt
          have HS : Hid ((catTo ls (k + 1)).length = (catTo ls k).length + (ls k).length) := by show _ = _; simp [catTo]
          have HV : Hid (vals (catTo ls (k + 1)) = vals (catTo ls k) ++ vals (ls k)) := by show _ = _; simp [catTo, vals_append]
          have HPW := Lib.hid hpw
          have hBs : w.heap.size ≤ wr.heap.size := hpw.size
          clear hc0 hpw
          rcases hl k hlt with ⟨hv, hx⟩ | ⟨b1, o1, c1, hv, hb1, h1⟩
          · rw [hv] at hc
            subst hpe
            go_wp2_with (at_builtin; refine wpList_append_own_none rfl _ _ 27 rfl w.heap.size 2 i2 1 Tryd.underlying27 hi2 _ _ _ rfl hown rfl ?_)
            go_roundw
            case rel => exact ⟨k + 1, by omega, by go_num, by rw [HS.out, HV.out, hx]; simpa [vals] using hown, HPW.out⟩
            case measure => simp [intOf]; omega
          · rw [hv] at hc
            subst hpe
            have hnews : ∀ j u, (vals (ls k))[j]? = some u → wr.cell? ((⟨b1, o1, none⟩ : Addr).add j) = some u := by
              intro j u hj
              have hadd : (⟨b1, o1, none⟩ : Addr).add j = ⟨b1, o1 + j, none⟩ := by unfold Addr.add; split <;> simp_all
              rw [hadd, (pcell HPW.out).1 b1 (o1 + j) hb1]
              simp only [vals, List.getElem?_map, Option.map_eq_some_iff] at hj
              obtain ⟨x, hx, rfl⟩ := hj
              exact h1 j x hx
            have hone : ∀ u ∈ vals (ls k), u.oneCell' = true := by
              intro u hu
              simp only [vals, List.mem_map] at hu
              obtain ⟨x, _, rfl⟩ := hu
              rfl
            go_wp2_with (at_builtin; refine wpList_append_own wr rfl _ _ 27 rfl w.heap.size 2 i2 (.int .i64 0) 1 8 Tryd.underlying27 hi2 hz2 hsz2 hby2 rfl (by omega) _ _ _ rfl hown ⟨b1, o1, none⟩ (ls k).length c1 (vals (ls k)) rfl (by simp [vals]) hnews hone (by simp only [maxLen]; omega) (by omega) hBs ?_)
            intro v2 w2 hown2 hgr2 _
            have HP2 : Hid (Pure w w2) := grown_pure HPW.out hgr2 (fun k hk => (hown.lt k hk).1)
            have HO2 : Hid (w2.ownsRow w.heap.size 2 1 v2 (catTo ls (k + 1)).length (vals (catTo ls (k + 1)))) := by show World.ownsRow _ _ _ _ _ _ _; rw [HS.out, HV.out]; exact hown2
            clear hown2 hgr2 hown hnews h1
            go_wp2_with fail
            go_roundw
            case rel => exact ⟨k + 1, by omega, by go_num, HO2.out, HP2.out⟩
            case measure => simp [intOf]; omega
        · obtain rfl : n = k := by omega
          go_wp2_with fail
          exact bodyPost_ret (by simp [results, Tryd.results91, go_sem]) rfl ⟨_, rfl, hown, hpw⟩
end Go.Proofs.YtmedkmbfggphdaaDoor
