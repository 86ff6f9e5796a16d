/- The walk of Wrong. The reference: Tastes. The reference: Names. What tighten computes, as mathematics: the tightest bounds; there are none just if no numbers keep the net's. No condition. -/
import Derived.Test.YtmedkmbfggphdaaDoorM06
import Derived.Test.YtmedkmbfggphdaaDoorM07
import Derived.Test.YtmedkmbfggphdaaDoorM00
set_option linter.unusedSimpArgs false
set_option linter.unusedVariables false
set_option linter.constructorNameAsVariable false
namespace Go.Proofs.YtmedkmbfggphdaaDoor
open Go.RowKit

theorem GoodM.sub {es es' : List ME} {clock : Nat} (h : GoodM es clock) (hs : es'.Sublist es) : GoodM es' clock :=
  ⟨fun e he => h.lt e (hs.subset he), h.nd.sublist (hs.map _), fun a ha c hc => h.inj a (hs.subset ha) c (hs.subset hc), fun a ha c hc => h.keys a (hs.subset ha) c (hs.subset hc), fun e he => h.small e (hs.subset he)⟩
theorem delM_sub (f t : Int) (es : List ME) : (delM f t es).Sublist es := by
  unfold delM
  split
  · exact List.eraseIdx_sublist _ _
  · exact List.Sublist.refl _
/-- The net without the bounds between taste q and the first i lots. -/
def cutM (L q : Nat) (es : List ME) : Nat → List ME
  | 0 => es
  | i + 1 => delM ((1 + i : Nat) : Int) ((1 + L + q : Nat) : Int) (delM ((1 + L + q : Nat) : Int) ((1 + i : Nat) : Int) (cutM L q es i))
theorem cutM_sub (L q : Nat) (es : List ME) : ∀ i, (cutM L q es i).Sublist es
  | 0 => List.Sublist.refl _
  | i + 1 => (delM_sub _ _ _).trans ((delM_sub _ _ _).trans (cutM_sub L q es i))
/-- The tastes below k one of which can be wrong. -/
def wrongTo (b : BK) (L : Nat) : Nat → List Int
  | 0 => []
  | k + 1 => wrongTo b L k ++ (if noneB (cutM L k b.es L) = true then [] else [(k : Int)])
theorem wrongTo_length (b : BK) (L : Nat) : ∀ k, (wrongTo b L k).length ≤ k
  | 0 => Nat.le_refl _
  | k + 1 => by
    have := wrongTo_length b L k
    simp only [wrongTo, List.length_append]
    split <;> simp <;> omega

theorem own_block {w w' : World} {base : Nat} {e : TypeId} {size : Nat} {v : Value} {n : Nat} {xs : List Value} (h : w.ownsRow base e size v n xs) (hk : ∀ k, v.ownBlock = some k → w'.heap[k]? = w.heap[k]?) : w'.ownsRow base e size v n xs := by
  obtain ⟨h1, h2⟩ := h
  refine ⟨h1, ?_⟩
  rcases h2 with h2 | ⟨g, cap, cur, rfl, a1, a2, a3⟩
  · exact .inl h2
  · exact .inr ⟨g, cap, cur, rfl, a1, (hk g rfl).trans a2, a3⟩
theorem own_pure {w w' : World} {base : Nat} {e : TypeId} {size : Nat} {v : Value} {n : Nat} {xs : List Value} (h : w.ownsRow base e size v n xs) (hp : Pure w w') : w'.ownsRow base e size v n xs :=
  own_block h (fun k hk => hp.block _ (h.lt k hk).2 (fun h => h))

/-- Within a round of Wrong. -/
structure WR (w : World) (bs : Nat) (K : List (Nat × Obj)) (u : Value) (n : Nat) (xs : List Value) (r : Nat) (es : List ME) (clock : Nat) (W : World) : Prop where
  kept : Kept w K W
  own : W.ownsRow bs 3 1 u n xs
  mp : W.heap[r]? = some (mapO es clock)
  far : w.heap.size ≤ r
  offK : ∀ x ∈ K, x.1 ≠ r
  offU : u.ownBlock ≠ some r
theorem WR.pure {w : World} {bs : Nat} {K : List (Nat × Obj)} {u : Value} {n : Nat} {xs : List Value} {r : Nat} {es : List ME} {clock : Nat} {W W' : World} (h : WR w bs K u n xs r es clock W) (hp : Pure W W') : WR w bs K u n xs r es clock W' :=
  ⟨h.kept.pure hp, own_pure h.own hp, (hp.block _ (Array.getElem?_eq_some_iff.1 h.mp).1 (fun h => h)).trans h.mp, h.far, h.offK, h.offU⟩
theorem WR.cut {w : World} {bs : Nat} {K : List (Nat × Obj)} {u : Value} {n : Nat} {xs : List Value} {r : Nat} {es es' : List ME} {clock : Nat} {W W' : World} (h : WR w bs K u n xs r es clock W) (hd : Diff (fun k => k = r) W W') (hm : W'.heap[r]? = some (mapO es' clock)) : WR w bs K u n xs r es' clock W' :=
  ⟨⟨h.kept.pw.trans' (O := fun _ => False) hd (fun k hk hk2 => by have := h.far; omega), fun x hx => (hd.block _ (Array.getElem?_eq_some_iff.1 (h.kept.objs x hx)).1 (h.offK x hx)).trans (h.kept.objs x hx)⟩,
    own_block h.own (fun k hk => hd.block _ (h.own.lt k hk).2 (fun e => h.offU (by rw [hk, e]))), hm, h.far, h.offK, h.offU⟩
theorem info3 : (Tryd.prog.info? 3).map (fun i => (i.zero, i.size, i.bytes)) = some (some (.int .i64 0), 1, 8) := by kernel_rfl
theorem info3' : ∃ i, Tryd.prog.info? 3 = some i ∧ i.zero = some (.int .i64 0) ∧ i.size = 1 ∧ i.bytes = 8 := by
  have h := info3
  obtain ⟨i, hi, hzz⟩ := Option.map_eq_some_iff.1 h
  simp only [Prod.mk.injEq] at hzz
  exact ⟨i, hi, hzz.1, hzz.2.1, hzz.2.2⟩

theorem run_neq_table (w : World) (f g : Nat → Bd) : (binOp .neq 111 (.agg (tabV f)) (.agg (tabV g))).run Tryd.prog w = .ok (.bool (!tabEq f g)) w := by
  have h := run_eql_table w f g
  rw [run_eql_struct] at h
  rw [run_neq_struct]
  cases hq : (Op.equalIn 10000 111 (.agg (tabV f)) (.agg (tabV g))).run Tryd.prog w with
  | ok v w' =>
    rw [hq] at h
    simp only [Result.andThen_ok, Result.ok.injEq, Value.bool.injEq] at h ⊢
    exact ⟨by rw [h.1], h.2⟩
  | halt x w' => rw [hq] at h; simp [Result.andThen] at h
theorem wpList_neq_table {ops : Array Oper} {rest : List Oper} {o : Oper} {a : Act} {w : World} {Q : Exit → Act → World → Prop} (hg : o.guard = none) (x y : Operand) (t : TypeId) (ho : o.op = .binOp .neq 111 x y t) (f g : Nat → Bd)
    (hx : a.eval x = .agg (tabV f)) (hy : a.eval y = .agg (tabV g))
    (h : wpList Tryd.prog ops Q rest (a.put o.dst (.bool (!tabEq f g))) w) : wpList Tryd.prog ops Q (o :: rest) a w :=
  wpList_plain hg fun K hK => by
    have hgd : (eqGuard .neq 111 x y (.agg (tabV f)) (.agg (tabV g))).run Tryd.prog w = .ok () w := run_eqGuard_agg w .neq 111 x y _ _ (by kernel_rfl)
    unfold Oper.wp execOp
    simp only [ho, hx, hy, Sem.run_bind, hgd, run_neq_table, Result.andThen_ok, Sem.run_pure]
    exact hK _ _ h

theorem own_mono {w : World} {base base' : Nat} {e : TypeId} {size : Nat} {v : Value} {n : Nat} {xs : List Value} (h : w.ownsRow base e size v n xs) (hb : base' ≤ base) : w.ownsRow base' e size v n xs := by
  obtain ⟨h1, h2⟩ := h
  refine ⟨h1, ?_⟩
  rcases h2 with h2 | ⟨g, cap, cur, rfl, a1, a2⟩
  · exact .inl h2
  · exact .inr ⟨g, cap, cur, rfl, by omega, a2⟩

set_option maxRecDepth 20000 in
set_option maxHeartbeats 4000000 in
theorem Wrong_any (w : World) (b : BK) (p : Option Addr) (cap : Nat) (hs : b.Small) (hb : BookAt w.heap.size w p b) (hg : Gl w) :
    Calls Tryd.prog 44 #[bookV b p cap] w fun e w' => (if checkB b ≠ 0 then e = .returned (.tuple #[.slice none 0 0, .int .i64 (checkB b)]) else
      ∃ u L, b.lots = (L : Nat) ∧ e = .returned (.tuple #[u, .int .i64 0]) ∧ w'.ownsRow w.heap.size 3 1 u (wrongTo b L b.total).length (vals (wrongTo b L b.total))) ∧ Pure w w' := by
  have hmx : Tryd.prog.follows .mixedOrders = true := by kernel_rfl
  go_enter Tryd.func44, Tryd.ntmps44
  go_wp2_with fail
  have hP0 : Pure w (w.alloc (.cells (bookC b p cap) 26)) := (Diff.refl w).alloc _
  refine (CheckBook_any _ b p cap hs ((hb.diff hP0 (Nat.le_refl _) (fun _ _ => id)).mono hP0.size) (hg.diff hP0 (fun _ _ => id))).mono ?_
  rintro e w1 ⟨rfl, hp1⟩
  have HP1 : Hid (Pure w w1) := hP0.trans hp1
  have hX1 : w1.heap[w.heap.size]? = some (.cells (bookC b p cap) 26 (0, 0)) := (hp1.block _ (by simp) id).trans (World.alloc_heap_new _ _)
  have hBl : w.heap.size < w1.heap.size := (Array.getElem?_eq_some_iff.1 hX1).1
  have hC0 : w1.cell? ⟨w.heap.size, 0, none⟩ = some (.int .i64 b.lo) := by rw [cell_of_row w1 _ _ _ _ _ hX1]; rfl
  have hC1 : w1.cell? ⟨w.heap.size, 1, none⟩ = some (.int .i64 b.hi) := by rw [cell_of_row w1 _ _ _ _ _ hX1]; rfl
  have hC2 : w1.cell? ⟨w.heap.size, 2, none⟩ = some (.int .i64 b.lots) := by rw [cell_of_row w1 _ _ _ _ _ hX1]; rfl
  have hC3 : w1.cell? ⟨w.heap.size, 3, none⟩ = some (.slice p b.n cap) := by rw [cell_of_row w1 _ _ _ _ _ hX1]; rfl
  clear hp1 hX1 hP0
  by_cases hck : checkB b = 0
  · have HHB := Lib.hid hb
    have HG := Lib.hid hg
    have hv := checkB_valid hck
    have hgd := b.netM_good hv
    have HCK := Lib.hid hck
    have h12 := hv.tot
    rw [hck]
    clear hck hb hg
    go_wp2_with fail
    obtain ⟨X, hX⟩ : ∃ X, w1.alloc (.cells (bookC b p cap) 82) = X := ⟨_, rfl⟩
    have hPX : Pure w1 X := by rw [← hX]; exact (Diff.refl w1).alloc _
    have hX1 : X.heap[w1.heap.size]? = some (.cells (bookC b p cap) 82 (0, 0)) := by rw [← hX]; exact World.alloc_heap_new _ _
    have HPX : Pure w X := HP1.out.trans hPX
    rw [hX]
    clear hX hC0 hC1 hC2 hC3 hPX HP1
    refine (tastes_any X b p cap hs ((HHB.out.diff HPX (Nat.le_refl _) (fun _ _ => id)).mono HPX.size)).mono ?_
    rintro e w2 ⟨rfl, hp2⟩
    obtain ⟨gB, hgB⟩ : ∃ gB, w1.heap.size = gB := ⟨_, rfl⟩
    rw [hgB] at hX1 hBl ⊢
    have hX2 := (hp2.block _ (Array.getElem?_eq_some_iff.1 hX1).1 id).trans hX1
    have hKp : Kept w [(gB, .cells (bookC b p cap) 82)] w2 := ⟨HPX.trans hp2, fun x hx => by
      simp only [List.mem_cons, List.mem_nil_iff, or_false] at hx
      subst hx
      exact hX2⟩
    obtain ⟨L, hL⟩ := Int.eq_ofNat_of_zero_le (show 0 ≤ b.lots by have := hv.lots1; omega)
    have hL6 : L ≤ 6 := by have := hv.lots6; omega
    have HL := Lib.hid hL
    clear hX1 hX2 hp2 HPX hgB hL
    obtain ⟨N, hN⟩ : ∃ N, b.total = N := ⟨_, rfl⟩
    have HN := Lib.hid hN
    rw [hN] at h12 ⊢
    clear hN
    obtain ⟨i3, hi3, hz3, hsz3, hby3⟩ := info3'
    go_wp2_with fail
    have HBL := Lib.hid hBl
    go_loopw [6, 7, 8, 9, 19] (fun u _ _ _ i wr => ∃ k : Nat, k ≤ N ∧ i = .int .i64 k ∧ Kept w [(gB, .cells (bookC b p cap) 82)] wr ∧ wr.ownsRow (gB + 1) 3 1 u (wrongTo b L k).length (vals (wrongTo b L k))) (fun _ _ _ _ i _ => N - (intOf i).toNat)
    case atStart => exact ⟨0, Nat.zero_le _, rfl, hKp, World.ownsRow_nil _ _ _ _⟩
    case round =>
      obtain ⟨k, hk, rfl, hK, hown⟩ := hrel
      clear hKp
      by_cases hlt : k < N
      · have hki : (k : Int) < N := by omega
        have hr := hK.objs (gB, .cells (bookC b p cap) 82) (by simp)
        have hgl : gB < wr.heap.size := (Array.getElem?_eq_some_iff.1 hr).1
        have z0 : wr.cell? ⟨gB, 0, none⟩ = some (.int .i64 b.lo) := by rw [cell_of_row wr _ _ _ _ _ hr]; rfl
        have z1 : wr.cell? ⟨gB, 1, none⟩ = some (.int .i64 b.hi) := by rw [cell_of_row wr _ _ _ _ _ hr]; rfl
        have z2 : wr.cell? ⟨gB, 2, none⟩ = some (.int .i64 b.lots) := by rw [cell_of_row wr _ _ _ _ _ hr]; rfl
        have z3 : wr.cell? ⟨gB, 3, none⟩ = some (.slice p b.n cap) := by rw [cell_of_row wr _ _ _ _ _ hr]; rfl
        have hnet := net_any wr b p cap hv ((HHB.out.diff hK.pw (Nat.le_refl _) (fun _ _ => id)).mono hK.pw.size) (HG.out.diff hK.pw (fun _ _ => id))
        have HK := Lib.hid hK
        have HO := Lib.hid hown
        clear hr hK hown
        go_wp2_with fail
        refine hnet.mono ?_
        rintro e w3 ⟨rfl, hm3, hp3⟩
        obtain ⟨r, hrr⟩ : ∃ r, wr.heap.size + 1 = r := ⟨_, rfl⟩
        rw [hrr] at hm3 ⊢
        have hWR0 : WR w (gB + 1) [(gB, .cells (bookC b p cap) 82)] u6 (wrongTo b L k).length (vals (wrongTo b L k)) r b.es b.bnN w3 :=
          ⟨HK.out.pure hp3, own_pure HO.out hp3, hm3, by have := HK.out.pw.size; omega, fun x hx => by
            simp only [List.mem_cons, List.mem_nil_iff, or_false] at hx
            subst hx
            show gB ≠ r
            omega, fun he => by have := (HO.out.lt r he).2; omega⟩
        have hr := hWR0.kept.objs (gB, .cells (bookC b p cap) 82) (by simp)
        have z2 : w3.cell? ⟨gB, 2, none⟩ = some (.int .i64 L) := by rw [cell_of_row w3 _ _ _ _ _ hr, ← HL.out]; rfl
        clear hr z0 z1 z3 hnet hm3 hp3 hrr
        go_wp2_with fail
        go_loopw [9, 27] (fun _ i wr => ∃ j : Nat, j ≤ L ∧ i = .int .i64 j ∧ WR w (gB + 1) [(gB, .cells (bookC b p cap) 82)] u6 (wrongTo b L k).length (vals (wrongTo b L k)) r (cutM L k b.es j) b.bnN wr) (fun _ i _ => L - (intOf i).toNat)
        case atStart => exact ⟨0, Nat.zero_le _, rfl, hWR0⟩
        case round =>
          obtain ⟨j, hj, rfl, hWR⟩ := hrel
          clear hWR0 z2
          by_cases hjl : j < L
          · go_wp2
            have hji : (j : Int) < L := by omega
            refine reg_invW (fun d a W => a = { tmps := #[bookV b p cap, Value.pointer (some { block := w.heap.size, off := 0 }), Value.slice none 0 0, Value.int IntKind.i64 0, Value.int IntKind.i64 0, Value.pointer (some { block := gB, off := 0 }), u6, Value.int IntKind.i64 ↑k, Value.map (some r), Value.int IntKind.i64 ↑j, Value.agg #[Value.int IntKind.i64 b.lo, Value.int IntKind.i64 b.hi, Value.int IntKind.i64 b.lots, Value.slice p b.n cap], Value.int IntKind.i64 0, Value.int IntKind.i64 0, Value.bool false, undef, Value.agg #[Value.int IntKind.i64 b.lo, Value.int IntKind.i64 b.hi, Value.int IntKind.i64 b.lots, Value.slice p b.n cap], Value.agg #[Value.int IntKind.i64 b.lo, Value.int IntKind.i64 b.hi, Value.int IntKind.i64 b.lots, Value.slice p b.n cap], Value.agg #[Value.int IntKind.i64 b.lo, Value.int IntKind.i64 b.hi, Value.int IntKind.i64 b.lots, Value.slice p b.n cap], Value.int IntKind.i64 ↑N, Value.int IntKind.i64 ↑k, Value.bool true, Value.int IntKind.i64 ↑k, Value.agg #[Value.int IntKind.i64 b.lo, Value.int IntKind.i64 b.hi, Value.int IntKind.i64 b.lots, Value.slice p b.n cap], Value.map (some r), Value.pointer (some { block := gB, off := 0 }), Value.pointer (some { block := gB, off := 2 }), Value.int IntKind.i64 ↑L, Value.int IntKind.i64 ↑j, Value.bool true, Value.int IntKind.i64 ↑j, (bif d 0 then Value.map (some r) else u30), (bif d 1 then Value.agg #[Value.int IntKind.i64 b.lo, Value.int IntKind.i64 b.hi, Value.int IntKind.i64 b.lots, Value.slice p b.n cap] else u31), (bif d 2 then Value.int IntKind.i64 ↑k else u32), (bif d 3 then Value.int IntKind.i64 ((1 + L + k : Nat) : Int) else u33), (bif d 4 then Value.agg #[Value.int IntKind.i64 b.lo, Value.int IntKind.i64 b.hi, Value.int IntKind.i64 b.lots, Value.slice p b.n cap] else u34), (bif d 5 then Value.int IntKind.i64 ↑j else u35), (bif d 6 then Value.int IntKind.i64 ((1 + j : Nat) : Int) else u36), (bif d 7 then Value.agg #[Value.int IntKind.i64 ((1 + L + k : Nat) : Int), Value.int IntKind.i64 ((1 + j : Nat) : Int)] else u37), (bif d 8 then Value.tuple #[] else u38), u39, u40, u41, u42, u43, u44, u45, u46, u47, u48, undef], defers := [] } ∧ (d 8 = false → WR w (gB + 1) [(gB, .cells (bookC b p cap) 82)] u6 (wrongTo b L k).length (vals (wrongTo b L k)) r (cutM L k b.es j) b.bnN W) ∧ (d 8 = true → WR w (gB + 1) [(gB, .cells (bookC b p cap) 82)] u6 (wrongTo b L k).length (vals (wrongTo b L k)) r (cutM L k b.es (j + 1)) b.bnN W)) hmx (by kernel_rfl) ?_ ?_ ?_
            · exact ⟨rfl, fun _ => hWR.pure (Diff.refl _).drew, fun h => by cases h⟩
            · refine ⟨?_, ?_, ?_, ?_, ?_, ?_, ?_, ?_, ?_, trivial⟩
              · rintro d a W hdi hdep hcl ⟨rfl, hw⟩ K hK
                replace hdi : d 0 = false := hdi
                have f8 : d 8 = false := hcl.neg hdi 8 (by kernel_rfl)
                clear hdep hcl
                go_simp
                exact hK _ _ ⟨by simp [upd, hdi, f8], by simpa [upd] using hw⟩
              · rintro d a W hdi hdep hcl ⟨rfl, hw⟩ K hK
                replace hdi : d 1 = false := hdi
                have f3 : d 3 = false := hcl.neg hdi 3 (by kernel_rfl)
                have f6 : d 6 = false := hcl.neg hdi 6 (by kernel_rfl)
                have f7 : d 7 = false := hcl.neg hdi 7 (by kernel_rfl)
                have f8 : d 8 = false := hcl.neg hdi 8 (by kernel_rfl)
                clear hdep hcl
                have hr := (hw.1 f8).kept.objs (gB, .cells (bookC b p cap) 82) (by simp)
                have z0 : W.cell? ⟨gB, 0, none⟩ = some (.int .i64 b.lo) := by rw [cell_of_row W _ _ _ _ _ hr]; rfl
                have z1 : W.cell? ⟨gB, 1, none⟩ = some (.int .i64 b.hi) := by rw [cell_of_row W _ _ _ _ _ hr]; rfl
                have z2 : W.cell? ⟨gB, 2, none⟩ = some (.int .i64 b.lots) := by rw [cell_of_row W _ _ _ _ _ hr]; rfl
                have z3 : W.cell? ⟨gB, 3, none⟩ = some (.slice p b.n cap) := by rw [cell_of_row W _ _ _ _ _ hr]; rfl
                clear hr
                go_simp
                exact hK _ _ ⟨by simp [upd, hdi, f3, f6, f7, f8], by simpa [upd] using hw⟩
              · rintro d a W hdi hdep hcl ⟨rfl, hw⟩ K hK
                replace hdi : d 2 = false := hdi
                have f3 : d 3 = false := hcl.neg hdi 3 (by kernel_rfl)
                have f6 : d 6 = false := hcl.neg hdi 6 (by kernel_rfl)
                have f7 : d 7 = false := hcl.neg hdi 7 (by kernel_rfl)
                have f8 : d 8 = false := hcl.neg hdi 8 (by kernel_rfl)
                clear hdep hcl
                go_simp
                exact hK _ _ ⟨by simp [upd, hdi, f3, f6, f7, f8], by simpa [upd] using hw⟩
              · rintro d a W hdi hdep hcl ⟨rfl, hw⟩ K hK
                replace hdi : d 3 = false := hdi
                have e1 : d 1 = true := hcl.pos 3 rfl hdep 1 29 (by kernel_rfl)
                have e2 : d 2 = true := hcl.pos 3 rfl hdep 2 29 (by kernel_rfl)
                have f6 : d 6 = false := hcl.neg hdi 6 (by kernel_rfl)
                have f7 : d 7 = false := hcl.neg hdi 7 (by kernel_rfl)
                have f8 : d 8 = false := hcl.neg hdi 8 (by kernel_rfl)
                clear hdep hcl
                have hl0 : 0 ≤ b.lots := by have := HL.out; omega
                have hl1 : b.lots ≤ 1000 := by have := HL.out; omega
                go_simp
                refine (tasteName_any _ _ _ _ _ (k : Int) (by omega) (by omega) (by omega) (by omega)).mono ?_
                rintro e w' ⟨rfl, hp⟩
                rw [show (1 : Int) + b.lots + (k : Int) = ((1 + L + k : Nat) : Int) by have := HL.out; omega]
                exact hK _ _ ⟨by simp [upd, hdi, e1, e2, f6, f7, f8], fun _ => (hw.1 f8).pure hp, by simp [upd, f8]⟩
              · rintro d a W hdi hdep hcl ⟨rfl, hw⟩ K hK
                replace hdi : d 4 = false := hdi
                have f6 : d 6 = false := hcl.neg hdi 6 (by kernel_rfl)
                have f7 : d 7 = false := hcl.neg hdi 7 (by kernel_rfl)
                have f8 : d 8 = false := hcl.neg hdi 8 (by kernel_rfl)
                clear hdep hcl
                have hr := (hw.1 f8).kept.objs (gB, .cells (bookC b p cap) 82) (by simp)
                have z0 : W.cell? ⟨gB, 0, none⟩ = some (.int .i64 b.lo) := by rw [cell_of_row W _ _ _ _ _ hr]; rfl
                have z1 : W.cell? ⟨gB, 1, none⟩ = some (.int .i64 b.hi) := by rw [cell_of_row W _ _ _ _ _ hr]; rfl
                have z2 : W.cell? ⟨gB, 2, none⟩ = some (.int .i64 b.lots) := by rw [cell_of_row W _ _ _ _ _ hr]; rfl
                have z3 : W.cell? ⟨gB, 3, none⟩ = some (.slice p b.n cap) := by rw [cell_of_row W _ _ _ _ _ hr]; rfl
                clear hr
                go_simp
                exact hK _ _ ⟨by simp [upd, hdi, f6, f7, f8], by simpa [upd] using hw⟩
              · rintro d a W hdi hdep hcl ⟨rfl, hw⟩ K hK
                replace hdi : d 5 = false := hdi
                have f6 : d 6 = false := hcl.neg hdi 6 (by kernel_rfl)
                have f7 : d 7 = false := hcl.neg hdi 7 (by kernel_rfl)
                have f8 : d 8 = false := hcl.neg hdi 8 (by kernel_rfl)
                clear hdep hcl
                go_simp
                exact hK _ _ ⟨by simp [upd, hdi, f6, f7, f8], by simpa [upd] using hw⟩
              · rintro d a W hdi hdep hcl ⟨rfl, hw⟩ K hK
                replace hdi : d 6 = false := hdi
                have e1 : d 1 = true := hcl.pos 6 rfl hdep 1 29 (by kernel_rfl)
                have e2 : d 2 = true := hcl.pos 6 rfl hdep 2 29 (by kernel_rfl)
                have e3 : d 3 = true := hcl.pos 6 rfl hdep 3 29 (by kernel_rfl)
                have e4 : d 4 = true := hcl.pos 6 rfl hdep 4 29 (by kernel_rfl)
                have e5 : d 5 = true := hcl.pos 6 rfl hdep 5 29 (by kernel_rfl)
                have f7 : d 7 = false := hcl.neg hdi 7 (by kernel_rfl)
                have f8 : d 8 = false := hcl.neg hdi 8 (by kernel_rfl)
                clear hdep hcl
                go_simp
                refine (lotName_any _ _ _ _ _ (j : Int) (by omega) (by omega)).mono ?_
                rintro e w' ⟨rfl, hp⟩
                rw [show (1 : Int) + (j : Int) = ((1 + j : Nat) : Int) by omega]
                exact hK _ _ ⟨by simp [upd, hdi, e1, e2, e3, e4, e5, f7, f8], fun _ => (hw.1 f8).pure hp, by simp [upd, f8]⟩
              · rintro d a W hdi hdep hcl ⟨rfl, hw⟩ K hK
                replace hdi : d 7 = false := hdi
                have e1 : d 1 = true := hcl.pos 7 rfl hdep 1 29 (by kernel_rfl)
                have e2 : d 2 = true := hcl.pos 7 rfl hdep 2 29 (by kernel_rfl)
                have e3 : d 3 = true := hcl.pos 7 rfl hdep 3 29 (by kernel_rfl)
                have e4 : d 4 = true := hcl.pos 7 rfl hdep 4 29 (by kernel_rfl)
                have e5 : d 5 = true := hcl.pos 7 rfl hdep 5 29 (by kernel_rfl)
                have e6 : d 6 = true := hcl.pos 7 rfl hdep 6 29 (by kernel_rfl)
                have f8 : d 8 = false := hcl.neg hdi 8 (by kernel_rfl)
                clear hdep hcl
                go_simp
                exact hK _ _ ⟨by simp [upd, hdi, e1, e2, e3, e4, e5, e6, f8], by simpa [upd] using hw⟩
              · rintro d a W hdi hdep hcl ⟨rfl, hw⟩ K hK
                replace hdi : d 8 = false := hdi
                have e0 : d 0 = true := hcl.pos 8 rfl hdep 0 29 (by kernel_rfl)
                have e1 : d 1 = true := hcl.pos 8 rfl hdep 1 29 (by kernel_rfl)
                have e2 : d 2 = true := hcl.pos 8 rfl hdep 2 29 (by kernel_rfl)
                have e3 : d 3 = true := hcl.pos 8 rfl hdep 3 29 (by kernel_rfl)
                have e4 : d 4 = true := hcl.pos 8 rfl hdep 4 29 (by kernel_rfl)
                have e5 : d 5 = true := hcl.pos 8 rfl hdep 5 29 (by kernel_rfl)
                have e6 : d 6 = true := hcl.pos 8 rfl hdep 6 29 (by kernel_rfl)
                have e7 : d 7 = true := hcl.pos 8 rfl hdep 7 29 (by kernel_rfl)
                clear hdep hcl
                have hun := unlink_any W r b.bnN (cutM L k b.es j) ((1 + L + k : Nat) : Int) ((1 + j : Nat) : Int) (hw.1 hdi).mp
                go_simp
                refine hun.mono ?_
                rintro e w' ⟨rfl, hm, hd⟩
                exact hK _ _ ⟨by simp [upd, hdi, e0, e1, e2, e3, e4, e5, e6, e7], by simp [upd], fun _ => (hw.1 hdi).cut hd hm⟩
            · rintro d a W hall ⟨rfl, hw⟩
              simp [List.range_succ] at hall
              obtain ⟨e0, e1, e2, e3, e4, e5, e6, e7, e8⟩ := hall
              simp only [e0, e1, e2, e3, e4, e5, e6, e7, e8, cond_true] at hw ⊢
              clear e0 e1 e2 e3 e4 e5 e6 e7 e8
              have hr := hw.2 trivial
              clear hw
              go_wp2
              go_roundw
              case rel => exact ⟨j + 1, by omega, by go_num, hr⟩
              case measure => simp [intOf]; omega
          · obtain rfl : L = j := by omega
            have HWR := Lib.hid hWR
            have hti := tighten_any wr r b.bnN (cutM L k b.es L) hWR.mp (hgd.sub (cutM_sub L k _ L))
            clear hWR
            go_wp2_with fail
            refine hti.mono ?_
            rintro e w4 ⟨rfl, hp4⟩
            have HW4 := Lib.hid (HWR.out.pure hp4)
            clear hti hp4
            go_wp2_with fail
            refine (none_any w4).mono ?_
            rintro e w5 ⟨rfl, hp5⟩
            have HW5 := Lib.hid (HW4.out.pure hp5)
            clear hp5
            have hs5 : gB < w5.heap.size := (Array.getElem?_eq_some_iff.1 (HW5.out.kept.objs (gB, .cells (bookC b p cap) 82) (by simp))).1
            have hle := wrongTo_length b L k
            have HWS : Hid (wrongTo b L (k + 1) = wrongTo b L k ++ (if noneB (cutM L k b.es L) = true then [] else [(k : Int)])) := rfl
            cases hN : noneB (cutM L k b.es L) with
            | true =>
              have hte : tabEq (tightS (cutM L k b.es L)) (fun _ => bd0) = true := by rw [tabEq_none, hN]
              rw [hN, if_pos rfl, List.append_nil] at HWS
              clear hN
              go_wp2_with (refine wpList_neq_table rfl (.tmp 41) (.tmp 42) 111 rfl (tightS (cutM L k b.es L)) (fun _ => bd0) rfl rfl ?_; rw [hte])
              go_roundw
              case rel => exact ⟨k + 1, by omega, by go_num, HW5.out.kept, by rw [HWS.out]; exact HW5.out.own⟩
              case measure => simp [intOf]; omega
            | false =>
              have hte : tabEq (tightS (cutM L k b.es L)) (fun _ => bd0) = false := by rw [tabEq_none, hN]
              rw [hN, if_neg (by simp)] at HWS
              clear hN
              have hA5 : Pure w5 (w5.alloc (.cells #[.int .i64 k] 3)) := (Diff.refl _).alloc _
              have HO5 := own_pure HW5.out.own hA5
              have hnews : ∀ (j : Nat) (u : Value), [Value.int .i64 (k : Int)][j]? = some u → (w5.alloc (.cells #[.int .i64 k] 3)).cell? ((⟨w5.heap.size, 0, none⟩ : Addr).add j) = some u := by
                intro j u hj
                match j with
                | 0 =>
                  simp at hj
                  subst hj
                  show (w5.alloc (.cells #[.int .i64 k] 3)).cell? ⟨w5.heap.size, 0, none⟩ = _
                  rw [cell_of_row _ _ _ _ _ _ (World.alloc_heap_new w5 _)]; rfl
                | j + 1 => simp at hj
              have hbs : gB + 1 ≤ (w5.alloc (.cells #[.int .i64 k] 3)).heap.size := by simp; omega
              go_wp2_with (first | (refine wpList_neq_table rfl (.tmp 41) (.tmp 42) 111 rfl (tightS (cutM L k b.es L)) (fun _ => bd0) rfl rfl ?_; rw [hte]) | (at_builtin; refine wpList_append_own (w5.alloc (.cells #[.int .i64 k] 3)) rfl _ _ 44 rfl (gB + 1) 3 i3 (.int .i64 0) 1 8 Tryd.underlying44 hi3 hz3 hsz3 hby3 rfl (by omega) _ _ _ rfl HO5 ⟨w5.heap.size, 0, none⟩ 1 1 [.int .i64 (k : Int)] rfl rfl hnews (by simp [Value.oneCell']) (by simp only [maxLen]; omega) (by omega) hbs ?_))
              intro v2 w6 hown2 hgr2 _
              have HK6 : Hid (Kept w [(gB, .cells (bookC b p cap) 82)] w6) := by
                have h5 := HW5.out.kept.pure hA5
                refine ⟨grown_pure h5.pw hgr2 (fun x hx => by have := (HO5.lt x hx).1; have := HBL.out; omega), fun x hx => ?_⟩
                have hx2 := h5.objs x hx
                simp only [List.mem_cons, List.mem_nil_iff, or_false] at hx
                subst hx
                exact (hgr2.block _ (Array.getElem?_eq_some_iff.1 hx2).1 (fun he => by have := (HO5.lt _ he.symm).1; simp only at this; omega)).trans hx2
              have HO6 : Hid (w6.ownsRow (gB + 1) 3 1 v2 (wrongTo b L (k + 1)).length (vals (wrongTo b L (k + 1)))) := by
                show World.ownsRow _ _ _ _ _ _ _
                rw [HWS.out, vals_append, List.length_append]
                exact hown2
              clear hown2 hgr2 hnews HO5
              go_wp2_with fail
              go_roundw
              case rel => exact ⟨k + 1, by omega, by go_num, HK6.out, HO6.out⟩
              case measure => simp [intOf]; omega
      · obtain rfl : N = k := by omega
        have HK := Lib.hid hK
        have HO := Lib.hid hown
        clear hK hown
        go_wp2_with fail
        exact bodyPost_ret (v := .tuple #[u6, .int .i64 0]) (by simp [results, Tryd.results44, go_sem]) rfl ⟨⟨u6, L, HL.out, rfl, by rw [HN.out]; exact own_mono HO.out (by omega)⟩, HK.out.pw⟩
  · go_wp2_with fail
    exact bodyPost_ret (v := .tuple #[.slice none 0 0, .int .i64 (checkB b)]) (by simp [results, Tryd.results44, go_sem]) rfl ⟨by first | rfl | rw [if_pos hck], HP1.out⟩
end Go.Proofs.YtmedkmbfggphdaaDoor

namespace Go.Proofs.YtmedkmbfggphdaaDoor
open Go.RowKit

def BK.rowC (b : BK) (k : Nat) : Nat → List Value
  | 0 => []
  | n + 1 => b.rowC k n ++ [.int .i64 (b.t k n).lot, .int .i64 (b.t k n).lo, .int .i64 (b.t k n).hi]
def BK.allC (b : BK) : Nat → List Value
  | 0 => []
  | n + 1 => b.allC n ++ b.rowC n (b.m n)
theorem BK.rowC_length (b : BK) (k : Nat) : ∀ n, (b.rowC k n).length = n * 3
  | 0 => rfl
  | n + 1 => by simp only [BK.rowC, List.length_append, b.rowC_length k n, List.length_cons, List.length_nil]; omega
theorem BK.rowC_one (b : BK) (k : Nat) : ∀ n, ∀ u ∈ b.rowC k n, u.oneCell' = true
  | 0, u, h => by simp [BK.rowC] at h
  | n + 1, u, h => by
    simp only [BK.rowC, List.mem_append, List.mem_cons, List.mem_nil_iff, or_false] at h
    rcases h with h | rfl | rfl | rfl
    · exact b.rowC_one k n u h
    · rfl
    · rfl
    · rfl
theorem BK.rowC_get (b : BK) (k : Nat) (w : World) (blk o : Nat) : ∀ n, (∀ j, j < n → w.cell? ⟨blk, o + j * 3, none⟩ = some (.int .i64 (b.t k j).lot) ∧ w.cell? ⟨blk, o + j * 3 + 1, none⟩ = some (.int .i64 (b.t k j).lo) ∧ w.cell? ⟨blk, o + j * 3 + 2, none⟩ = some (.int .i64 (b.t k j).hi)) →
    ∀ i u, (b.rowC k n)[i]? = some u → w.cell? ⟨blk, o + i, none⟩ = some u
  | 0, _, i, u, h => by simp [BK.rowC] at h
  | n + 1, hc, i, u, h => by
    simp only [BK.rowC] at h
    by_cases hi : i < n * 3
    · rw [List.getElem?_append_left (by rw [b.rowC_length]; exact hi)] at h
      exact b.rowC_get k w blk o n (fun j hj => hc j (by omega)) i u h
    · rw [List.getElem?_append_right (by rw [b.rowC_length]; omega), b.rowC_length] at h
      obtain ⟨h0, h1, h2⟩ := hc n (by omega)
      obtain ⟨x, hx⟩ : ∃ x, i - n * 3 = x := ⟨_, rfl⟩
      rw [hx] at h
      match x with
      | 0 => simp at h; subst h; rw [show o + i = o + n * 3 by omega]; exact h0
      | 1 => simp at h; subst h; rw [show o + i = o + n * 3 + 1 by omega]; exact h1
      | 2 => simp at h; subst h; rw [show o + i = o + n * 3 + 2 by omega]; exact h2
      | x + 3 => simp at h

theorem info70 : (Tryd.prog.info? 70).map (fun i => (i.zero, i.size, i.bytes)) = some (some (.agg #[.int .i64 0, .int .i64 0, .int .i64 0]), 3, 24) := by kernel_rfl
theorem info70' : ∃ i, Tryd.prog.info? 70 = some i ∧ i.zero = some (.agg #[.int .i64 0, .int .i64 0, .int .i64 0]) ∧ i.size = 3 ∧ i.bytes = 24 := by
  have h := info70
  obtain ⟨i, hi, hzz⟩ := Option.map_eq_some_iff.1 h
  simp only [Prod.mk.injEq] at hzz
  exact ⟨i, hi, hzz.1, hzz.2.1, hzz.2.2⟩

set_option maxHeartbeats 2000000 in
theorem Tastes_any (w : World) (b : BK) (p : Option Addr) (cap : Nat) (hs : b.Small) (hpos : ∀ k, k < b.n → 0 < b.m k) (hb : BookAt w.heap.size w p b) :
    Calls Tryd.prog 50 #[bookV b p cap] w fun e w' => ∃ u, e = .returned u ∧ w'.ownsRow w.heap.size 70 3 u b.total (b.allC b.n) ∧ Pure w w' := by
  have hn := hs.1
  obtain ⟨i7, hi7, hz7, hsz7, hby7⟩ := info70'
  go_enter Tryd.func50, Tryd.ntmps50
  go_wp2_with fail
  obtain ⟨X, hX⟩ : ∃ X, w.alloc (.cells (bookC b p cap) 26) = X := ⟨_, rfl⟩
  have hPX : Kept w [(w.heap.size, .cells (bookC b p cap) 26)] X := ⟨by rw [← hX]; exact (Diff.refl w).alloc _, fun x hx => by
    simp only [List.mem_cons, List.mem_nil_iff, or_false] at hx
    subst hx
    rw [← hX]; exact World.alloc_heap_new _ _⟩
  rw [hX]
  clear hX
  go_loopw [3, 4] (fun u i wr => ∃ k : Nat, k ≤ b.n ∧ i = .int .i64 k ∧ Kept w [(w.heap.size, .cells (bookC b p cap) 26)] wr ∧ wr.ownsRow (w.heap.size + 1) 70 3 u (b.upto k) (b.allC k)) (fun _ i _ => b.n - (intOf i).toNat)
  case atStart => exact ⟨0, Nat.zero_le _, rfl, hPX, World.ownsRow_nil _ _ _ _⟩
  case round =>
    obtain ⟨k, hk, rfl, hK, hown⟩ := hrel
    clear hPX
    have hr := hK.objs (w.heap.size, .cells (bookC b p cap) 26) (by simp)
    have hrl : w.heap.size < wr.heap.size := (Array.getElem?_eq_some_iff.1 hr).1
    have z3 : wr.cell? ⟨w.heap.size, 2 + 1, none⟩ = some (.slice p b.n cap) := by rw [cell_of_row wr _ _ _ _ _ hr]; rfl
    have hu := b.upto_le hs k hk
    have HK := Lib.hid hK
    clear hr hK
    by_cases hlt : k < b.n
    · obtain ⟨blk, o, q, c, rfl, hblk, hc0, hsit⟩ := hb k hlt
      have hc := ((pcell HK.out.pw).1 _ _ hblk).trans hc0
      have hm := hs.2 k hlt
      obtain ⟨b2, o2, rfl, hb2, -⟩ := hsit 0 (hpos k hlt)
      have hnews : ∀ (j : Nat) (u : Value), (b.rowC k (b.m k))[j]? = some u → wr.cell? ((⟨b2, o2, none⟩ : Addr).add j) = some u := by
        intro j u hj
        have hadd : (⟨b2, o2, none⟩ : Addr).add j = ⟨b2, o2 + j, none⟩ := by unfold Addr.add; split <;> simp_all
        rw [hadd, (pcell HK.out.pw).1 _ _ hb2]
        refine b.rowC_get k w b2 o2 (b.m k) (fun j hj => ?_) j u hj
        obtain ⟨b3, o3, he, _, h1, h2, h3⟩ := hsit j hj
        cases he
        exact ⟨h1, h2, h3⟩
      have HU : Hid (b.upto (k + 1) = b.upto k + b.m k) := rfl
      have HA : Hid (b.allC (k + 1) = b.allC k ++ b.rowC k (b.m k)) := rfl
      have hone := b.rowC_one k (b.m k)
      have hlen := b.rowC_length k (b.m k)
      clear hc0 hsit
      go_wp2_with (at_builtin; refine wpList_append_own wr rfl _ _ 59 rfl (w.heap.size + 1) 70 i7 (.agg #[.int .i64 0, .int .i64 0, .int .i64 0]) 3 24 Tryd.underlying59 hi7 hz7 hsz7 hby7 rfl (by omega) _ _ _ rfl hown ⟨b2, o2, none⟩ (b.m k) c (b.rowC k (b.m k)) rfl hlen hnews hone (by simp only [maxLen]; omega) (by omega) hrl ?_)
      intro v2 w2 hown2 hgr2 _
      have HK2 : Hid (Kept w [(w.heap.size, .cells (bookC b (some ⟨blk, o, none⟩) cap) 26)] w2) := by
        refine ⟨grown_pure HK.out.pw hgr2 (fun x hx => by have := (hown.lt x hx).1; omega), fun x hx => ?_⟩
        have hx2 := HK.out.objs x hx
        simp only [List.mem_cons, List.mem_nil_iff, or_false] at hx
        subst hx
        exact (hgr2.block _ (Array.getElem?_eq_some_iff.1 hx2).1 (fun he => by have := (hown.lt _ he.symm).1; simp only at this; omega)).trans hx2
      have HO2 : Hid (w2.ownsRow (w.heap.size + 1) 70 3 v2 (b.upto (k + 1)) (b.allC (k + 1))) := by show World.ownsRow _ _ _ _ _ _ _; rw [HU.out, HA.out]; exact hown2
      clear hown2 hgr2 hnews hown hone
      go_wp2_with fail
      go_roundw
      case rel => exact ⟨k + 1, by omega, by go_num, HK2.out, HO2.out⟩
      case measure => simp [intOf]; omega
    · obtain rfl : k = b.n := by omega
      go_wp2_with fail
      exact bodyPost_ret (by simp [results, Tryd.results50, go_sem]) rfl ⟨_, rfl, own_mono hown (by omega), HK.out.pw⟩
end Go.Proofs.YtmedkmbfggphdaaDoor

namespace Go.Proofs.YtmedkmbfggphdaaDoor
open Go.RowKit

/-- Tastes, of which only the number is told. -/
theorem Tastes_len (w : World) (b : BK) (p : Option Addr) (cap : Nat) (hv : b.Valid) (hb : BookAt w.heap.size w p b) :
    Calls Tryd.prog 50 #[bookV b p cap] w fun e w' => (∃ q c, e = .returned (.slice q b.total c)) ∧ Pure w w' := by
  refine (Tastes_any w b p cap hv.small hv.pos hb).mono ?_
  rintro e w1 ⟨u, rfl, ⟨-, hform⟩, hp1⟩
  refine ⟨?_, hp1⟩
  rcases hform with ⟨rfl, h0⟩ | ⟨g, cp, cur, rfl, -⟩
  · rw [h0]; exact ⟨none, 0, rfl⟩
  · exact ⟨_, _, rfl⟩

theorem Names_any (w : World) (b : BK) (p : Option Addr) (cap : Nat) (hv : b.Valid) (hb : BookAt w.heap.size w p b) :
    Calls Tryd.prog 80 #[.agg #[.int .i64 b.lo, .int .i64 b.hi, .int .i64 b.lots, .slice p b.n cap]] w fun e w' => e = .returned (.int .i64 (1 + b.lots + b.total)) ∧ Pure w w' := by
  have h12 := hv.tot
  have hl6 := hv.lots6
  have hl1 := hv.lots1
  go_enter Tryd.func80, Tryd.ntmps80
  go_wp2_with fail
  obtain ⟨W, HB, hb4, hP⟩ := box4 w (.int .i64 b.lo) (.int .i64 b.hi) (.int .i64 b.lots) (.slice p b.n cap) 26
  have KEY := Lib.hid hb4
  obtain ⟨hc0, hc1, hc2, hc3, hBW, -⟩ := hb4
  rw [HB.out]
  have hp0 : Hid (Pure W W.drew) := (Diff.refl W).drew
  go_region_held3 (fun w' => Box4 w.heap.size (.int .i64 b.lo) (.int .i64 b.hi) (.int .i64 b.lots) (.slice p b.n cap) W w')
    (exact KEY.out.keep (by first | exact hp0.out | exact hp0.out.trans hp1))
    (first | (go_at_call 50; refine (Tastes_len _ b _ _ hv ?_).mono ?_; (exact (hb.diff (hP.out.trans hp0.out) (Nat.le_refl _) (fun _ _ => id)).mono (hP.out.trans hp0.out).size); rintro e w1 ⟨⟨q, c, rfl⟩, hp1⟩))
  go_wp2
  go_ret
  exact ⟨ret_int (by first | rfl | omega | (rw [IntWalk.i64_in _ (by omega)]) | (simp only [IntKind.wrap_i64]; omega)), (hP.out.trans hp0.out).trans hp1⟩
end Go.Proofs.YtmedkmbfggphdaaDoor

namespace Go.Proofs.YtmedkmbfggphdaaDoor

/-- b tells at least as much as o. -/
def Bd.le (b o : Bd) : Prop := o.known = true → b.known = true ∧ b.by' ≤ o.by'
theorem Bd.le_refl (b : Bd) : b.le b := fun h => ⟨h, Int.le_refl _⟩
theorem Bd.le_trans {a b c : Bd} (h : a.le b) (k : b.le c) : a.le c := fun hc => by
  obtain ⟨h1, h2⟩ := k hc
  obtain ⟨h3, h4⟩ := h h1
  exact ⟨h3, Int.le_trans h4 h2⟩
theorem Bd.tighter_cases (b o : Bd) : (b.tighter o = o ∧ o.known = true ∧ (b.known = true → o.by' < b.by')) ∨ (b.tighter o = b ∧ (o.known = true → b.known = true ∧ b.by' ≤ o.by')) := by
  unfold Bd.tighter
  cases ho : o.known
  · right; simp
  · cases hb : b.known
    · left; simp
    · by_cases h : o.by' < b.by'
      · left; simp [h]
      · right; simp [h]; omega
theorem Bd.tighter_le (b o : Bd) : (b.tighter o).le b := by
  rcases b.tighter_cases o with ⟨h, h1, h2⟩ | ⟨h, h1⟩
  · rw [h]; exact fun hb => ⟨h1, by have := h2 hb; omega⟩
  · rw [h]; exact b.le_refl
theorem Bd.tighter_le' (b o : Bd) : (b.tighter o).le o := by
  rcases b.tighter_cases o with ⟨h, h1, h2⟩ | ⟨h, h1⟩
  · rw [h]; exact o.le_refl
  · rw [h]; exact h1
theorem Bd.next_known {b o : Bd} : (b.next o).known = true ↔ b.known = true ∧ o.known = true := by
  unfold Bd.next
  cases b.known <;> cases o.known <;> simp
theorem Bd.next_by {b o : Bd} (h : (b.next o).known = true) : (b.next o).by' = b.by' + o.by' := by
  obtain ⟨h1, h2⟩ := Bd.next_known.1 h
  unfold Bd.next
  simp [h1, h2]
theorem Bd.next_mono {a b c d : Bd} (h : a.le b) (k : c.le d) : (a.next c).le (b.next d) := fun hn => by
  obtain ⟨h1, h2⟩ := Bd.next_known.1 hn
  obtain ⟨h3, h4⟩ := h h1
  obtain ⟨h5, h6⟩ := k h2
  have : (a.next c).known = true := Bd.next_known.2 ⟨h3, h5⟩
  refine ⟨this, ?_⟩
  rw [Bd.next_by this, Bd.next_by hn]; omega

/-- The cell of two names. -/
abbrev ix (a b : Nat) : Nat := a * 19 + b
theorem ix_div {a b : Nat} (h : b < 19) : ix a b / 19 = a := by show (a * 19 + b) / 19 = a; omega
theorem ix_mod {a b : Nat} (h : b < 19) : ix a b % 19 = b := by show (a * 19 + b) % 19 = b; omega
theorem phase_ix (v : Nat) (T : Nat → Bd) {a b : Nat} (h : b < 19) : phase v T (ix a b) = (T (ix a b)).tighter ((T (ix a v)).next (T (ix v b))) := by
  unfold phase
  rw [ix_div h, ix_mod h]
theorem phase_le (v : Nat) (T : Nat → Bd) (k : Nat) : (phase v T k).le (T k) := Bd.tighter_le _ _
theorem fwTo_le {T : Nat → Bd} : ∀ (n : Nat) (T' : Nat → Bd), fwTo n T = some T' → ∀ k, (T' k).le (T k)
  | 0, T', e, k => by cases e; exact Bd.le_refl _
  | n + 1, T', e, k => by
    unfold fwTo at e
    split at e
    · cases e
    · rename_i T'' h2
      split at e
      · cases e
      · cases e
        exact Bd.le_trans (phase_le _ _ _) (fwTo_le n T'' h2 k)

/-- Numbers keep a table. -/
def KeepT (T : Nat → Bd) (x : Nat → Int) : Prop := ∀ a b, a < 19 → b < 19 → (T (ix a b)).known = true → x b - x a ≤ (T (ix a b)).by'
theorem KeepT.phase {T : Nat → Bd} {x : Nat → Int} (h : KeepT T x) (v : Nat) (hv : v < 19) : KeepT (phase v T) x := by
  intro a b ha hb
  rw [phase_ix v T hb]
  rcases (T (ix a b)).tighter_cases ((T (ix a v)).next (T (ix v b))) with ⟨h1, h2, h3⟩ | ⟨h1, h2⟩
  · rw [h1]
    intro hk
    rw [Bd.next_by hk]
    obtain ⟨k1, k2⟩ := Bd.next_known.1 hk
    have := h a v ha hv k1
    have := h v b hv hb k2
    omega
  · rw [h1]; exact h a b ha hb
theorem KeepT.fw {T : Nat → Bd} {x : Nat → Int} (h : KeepT T x) : ∀ (n : Nat) (T' : Nat → Bd), n ≤ 19 → fwTo n T = some T' → KeepT T' x
  | 0, T', _, e => by cases e; exact h
  | n + 1, T', hn, e => by
    unfold fwTo at e
    split at e
    · cases e
    · rename_i T'' h2
      split at e
      · cases e
      · cases e
        exact (KeepT.fw h n T'' (by omega) h2).phase n (by omega)
theorem KeepT.le {T T' : Nat → Bd} {x : Nat → Int} (h : KeepT T' x) (hl : ∀ k, (T' k).le (T k)) : KeepT T x := fun a b ha hb hk => by
  obtain ⟨h1, h2⟩ := hl _ hk
  have := h a b ha hb h1
  omega

/-- What holds of a table when the names below n have been gone through. -/
structure Tri (n : Nat) (T : Nat → Bd) : Prop where
  dk : ∀ a, a < 19 → (T (ix a a)).known = true
  d0 : ∀ a, a < 19 → (T (ix a a)).by' ≤ 0
  dn : ∀ a, a < n → 0 ≤ (T (ix a a)).by'
  tri : ∀ i a b, i < n → a < 19 → b < 19 → (T (ix a b)).le ((T (ix a i)).next (T (ix i b)))

theorem Tri.phase {n : Nat} {T : Nat → Bd} (h : Tri n T) (hn : n < 19) (h0 : 0 ≤ (T (ix n n)).by') : Tri (n + 1) (phase n T) := by
  have hcol : ∀ a, a < 19 → Go.Proofs.YtmedkmbfggphdaaDoor.phase n T (ix a n) = T (ix a n) := fun a ha => by
    rw [phase_ix n T hn]
    rcases (T (ix a n)).tighter_cases ((T (ix a n)).next (T (ix n n))) with ⟨h1, h2, h3⟩ | ⟨h1, -⟩
    · have hk := (Bd.next_known.1 h2).1
      have := h3 hk
      rw [Bd.next_by h2] at this; omega
    · exact h1
  have hrow : ∀ b, b < 19 → Go.Proofs.YtmedkmbfggphdaaDoor.phase n T (ix n b) = T (ix n b) := fun b hb => by
    rw [phase_ix n T hb]
    rcases (T (ix n b)).tighter_cases ((T (ix n n)).next (T (ix n b))) with ⟨h1, h2, h3⟩ | ⟨h1, -⟩
    · have hk := (Bd.next_known.1 h2).2
      have := h3 hk
      rw [Bd.next_by h2] at this; omega
    · exact h1
  refine ⟨fun a ha => (phase_le _ _ _ (h.dk a ha)).1, fun a ha => Int.le_trans (phase_le _ _ _ (h.dk a ha)).2 (h.d0 a ha), fun a ha => ?_, fun i a b hi ha hb => ?_⟩
  · by_cases e : a = n
    · subst e; rw [hcol a hn]; exact h0
    · have han : a < n := by omega
      rw [phase_ix n T (by omega)]
      rcases (T (ix a a)).tighter_cases ((T (ix a n)).next (T (ix n a))) with ⟨h1, h2, -⟩ | ⟨h1, -⟩
      · rw [h1, Bd.next_by h2]
        obtain ⟨k1, k2⟩ := Bd.next_known.1 h2
        have hk : ((T (ix n a)).next (T (ix a n))).known = true := Bd.next_known.2 ⟨k2, k1⟩
        have := (h.tri a n n han hn hn hk).2
        rw [Bd.next_by hk] at this
        omega
      · rw [h1]; exact h.dn a han
  · by_cases e : i = n
    · subst e
      rw [hcol a ha, hrow b hb, phase_ix i T hb]
      exact Bd.tighter_le' _ _
    · have hin : i < n := by omega
      intro hk
      obtain ⟨k1, k2⟩ := Bd.next_known.1 hk
      rw [Bd.next_by hk]
      have hL := phase_ix n T (a := a) (b := i) (by omega)
      have hR := phase_ix n T (a := i) (b := b) hb
      have hA := phase_ix n T (a := a) (b := b) hb
      rw [hL] at k1 ⊢
      rw [hR] at k2 ⊢
      rw [hA]
      have t1 := Bd.tighter_le (T (ix a b)) ((T (ix a n)).next (T (ix n b)))
      have t2 := Bd.tighter_le' (T (ix a b)) ((T (ix a n)).next (T (ix n b)))
      have fin : ∀ {o : Bd} {z : Int}, ((T (ix a b)).tighter ((T (ix a n)).next (T (ix n b)))).le o → o.known = true → o.by' ≤ z →
          ((T (ix a b)).tighter ((T (ix a n)).next (T (ix n b)))).known = true ∧ ((T (ix a b)).tighter ((T (ix a n)).next (T (ix n b)))).by' ≤ z := fun hle ho hz => ⟨(hle ho).1, Int.le_trans (hle ho).2 hz⟩
      rcases (T (ix a i)).tighter_cases ((T (ix a n)).next (T (ix n i))) with ⟨e1, g1, -⟩ | ⟨e1, -⟩ <;>
        rcases (T (ix i b)).tighter_cases ((T (ix i n)).next (T (ix n b))) with ⟨e2, g2, -⟩ | ⟨e2, -⟩
      · rw [e1, e2, Bd.next_by g1, Bd.next_by g2]
        obtain ⟨p1, p2⟩ := Bd.next_known.1 g1
        obtain ⟨p3, p4⟩ := Bd.next_known.1 g2
        have q : ((T (ix n i)).next (T (ix i n))).known = true := Bd.next_known.2 ⟨p2, p3⟩
        have := (h.tri i n n hin hn hn q).2
        rw [Bd.next_by q] at this
        have q2 : ((T (ix a n)).next (T (ix n b))).known = true := Bd.next_known.2 ⟨p1, p4⟩
        refine fin t2 q2 ?_
        rw [Bd.next_by q2]; omega
      · rw [e1, e2, Bd.next_by g1]
        rw [e2] at k2
        obtain ⟨p1, p2⟩ := Bd.next_known.1 g1
        have q : ((T (ix n i)).next (T (ix i b))).known = true := Bd.next_known.2 ⟨p2, k2⟩
        have := h.tri i n b hin hn hb q
        rw [Bd.next_by q] at this
        have q2 : ((T (ix a n)).next (T (ix n b))).known = true := Bd.next_known.2 ⟨p1, this.1⟩
        refine fin t2 q2 ?_
        rw [Bd.next_by q2]; have := this.2; omega
      · rw [e1, e2, Bd.next_by g2]
        rw [e1] at k1
        obtain ⟨p3, p4⟩ := Bd.next_known.1 g2
        have q : ((T (ix a i)).next (T (ix i n))).known = true := Bd.next_known.2 ⟨k1, p3⟩
        have := h.tri i a n hin ha hn q
        rw [Bd.next_by q] at this
        have q2 : ((T (ix a n)).next (T (ix n b))).known = true := Bd.next_known.2 ⟨this.1, p4⟩
        refine fin t2 q2 ?_
        rw [Bd.next_by q2]; have := this.2; omega
      · rw [e1] at k1 ⊢
        rw [e2] at k2 ⊢
        have q : ((T (ix a i)).next (T (ix i b))).known = true := Bd.next_known.2 ⟨k1, k2⟩
        have := h.tri i a b hin ha hb q
        rw [Bd.next_by q] at this
        exact fin t1 this.1 this.2

theorem Tri.fw {T : Nat → Bd} (h : Tri 0 T) : ∀ (n : Nat) (T' : Nat → Bd), n ≤ 19 → fwTo n T = some T' → Tri n T'
  | 0, T', _, e => by cases e; exact h
  | n + 1, T', hn, e => by
    unfold fwTo at e
    split at e
    · cases e
    · rename_i T'' h2
      split at e
      · cases e
      · rename_i h3
        cases e
        exact (Tri.fw h n T'' (by omega) h2).phase (by omega) (by show 0 ≤ (T'' (n * 19 + n)).by'; omega)

/-- Numbers keep a net. -/
def Keep (es : List ME) (x : Nat → Int) : Prop := ∀ e ∈ es, x e.t.toNat - x e.f.toNat ≤ e.v

theorem netT_ix (es : List ME) {a b : Nat} (hb : b < 19) : netT es (ix a b) = match es.find? (fun e => e.is a b) with | some e => ⟨e.v, true⟩ | none => diagT 19 (ix a b) := by
  unfold netT
  rw [ix_div hb, ix_mod hb, ← findM_find _ _ es 0]
  cases findM (a : Int) (b : Int) es 0 <;> rfl
theorem diagT_ix {a b : Nat} (ha : a < 19) (hb : b < 19) : diagT 19 (ix a b) = if a = b then ⟨0, true⟩ else bd0 := by
  unfold diagT
  rw [ix_div hb, ix_mod hb]
  by_cases e : a = b
  · rw [if_pos ⟨e, ha⟩, if_pos e]
  · rw [if_neg (fun h => e h.1), if_neg e]
/-- No bound from a name to itself. -/
def Loose (es : List ME) : Prop := ∀ e ∈ es, e.f ≠ e.t
theorem netT_tri {es : List ME} (hl : Loose es) : Tri 0 (netT es) := by
  have hd : ∀ a, a < 19 → netT es (ix a a) = ⟨0, true⟩ := fun a ha => by
    rw [netT_ix es ha]
    cases hf : es.find? (fun e => e.is (a : Int) (a : Int)) with
    | none => rw [diagT_ix ha ha, if_pos rfl]
    | some e =>
      have h1 := List.mem_of_find?_eq_some hf
      have h2 := List.find?_some hf
      simp only [ME.is, Bool.and_eq_true, beq_iff_eq] at h2
      exact absurd (h2.1.symm.trans h2.2) (hl e h1)
  refine ⟨fun a ha => by rw [hd a ha], fun a ha => by rw [hd a ha]; exact Int.le_refl _, fun a ha => by omega, fun i a b hi => by omega⟩
theorem keep_iff {es : List ME} {clock : Nat} (hg : GoodM es clock) (x : Nat → Int) : Keep es x ↔ KeepT (netT es) x := by
  constructor
  · intro h a b ha hb hk
    rw [netT_ix es hb] at hk ⊢
    cases hf : es.find? (fun e => e.is (a : Int) (b : Int)) with
    | none =>
      rw [hf] at hk
      simp only [diagT_ix ha hb] at hk ⊢
      by_cases e : a = b
      · subst e; simp
      · rw [if_neg e] at hk; cases hk
    | some e =>
      have h1 := h e (List.mem_of_find?_eq_some hf)
      have h2 := List.find?_some hf
      simp only [ME.is, Bool.and_eq_true, beq_iff_eq] at h2
      rw [← h2.1, ← h2.2] at h1
      simpa using h1
  · intro h e he
    obtain ⟨a1, a2, a3, a4, -⟩ := hg.small e he
    have hf : es.find? (fun e' => e'.is (e.f.toNat : Int) (e.t.toNat : Int)) = some e := by
      cases hf : es.find? (fun e' => e'.is (e.f.toNat : Int) (e.t.toNat : Int)) with
      | none =>
        have := List.find?_eq_none.1 hf e he
        simp only [ME.is, Bool.and_eq_true, beq_iff_eq] at this
        exact absurd ⟨by omega, by omega⟩ this
      | some e' =>
        have h2 := List.find?_some hf
        simp only [ME.is, Bool.and_eq_true, beq_iff_eq] at h2
        rw [hg.keys e' (List.mem_of_find?_eq_some hf) e he (by omega) (by omega)]
    have hb : e.t.toNat < 19 := by omega
    have := h e.f.toNat e.t.toNat (by omega) hb
    rw [netT_ix es hb, hf] at this
    exact this rfl

theorem fwTo_stop {T : Nat → Bd} : ∀ (n : Nat), fwTo n T = none → ∃ m T', m < n ∧ fwTo m T = some T' ∧ (T' (ix m m)).by' < 0
  | 0, h => by cases h
  | n + 1, h => by
    unfold fwTo at h
    split at h
    · rename_i h2
      obtain ⟨m, T', hm, h3, h4⟩ := fwTo_stop n h2
      exact ⟨m, T', by omega, h3, h4⟩
    · rename_i T' h2
      split at h
      · rename_i h3
        exact ⟨n, T', by omega, h2, h3⟩
      · cases h
/-- If there are numbers that keep the net, tighten finds bounds. -/
theorem keep_some {es : List ME} {clock : Nat} (hg : GoodM es clock) (hl : Loose es) {x : Nat → Int} (h : Keep es x) : noneB es = false := by
  unfold noneB
  cases hf : fwTo 19 (netT es) with
  | some T => rfl
  | none =>
    obtain ⟨m, T', hm, h1, h2⟩ := fwTo_stop 19 hf
    have ht := (netT_tri hl).fw m T' (by omega) h1
    have hk := ((keep_iff hg x).1 h).fw m T' (by omega) h1
    have := hk m m hm hm (ht.dk m hm)
    omega
/-- What is known of the tightest bounds. -/
structure Tight (es : List ME) (T : Nat → Bd) : Prop where
  d0 : ∀ a, a < 19 → (T (ix a a)).known = true ∧ (T (ix a a)).by' = 0
  tri : ∀ i a b, i < 19 → a < 19 → b < 19 → (T (ix a b)).le ((T (ix a i)).next (T (ix i b)))
  net : ∀ e ∈ es, (T (ix e.f.toNat e.t.toNat)).known = true ∧ (T (ix e.f.toNat e.t.toNat)).by' ≤ e.v
  keep : ∀ x, Keep es x → KeepT T x
theorem tight_of {es : List ME} {clock : Nat} (hg : GoodM es clock) (hl : Loose es) (h : noneB es = false) : Tight es (tightS es) := by
  unfold noneB at h
  unfold tightS
  cases hf : fwTo 19 (netT es) with
  | none => rw [hf] at h; cases h
  | some T =>
    rw [Option.getD_some]
    have ht := (netT_tri hl).fw 19 T (by omega) hf
    have hle := fwTo_le 19 T hf
    refine ⟨fun a ha => ⟨ht.dk a ha, by have := ht.d0 a ha; have := ht.dn a ha; omega⟩, fun i a b hi ha hb => ht.tri i a b hi ha hb, fun e he => ?_, fun x hx => ((keep_iff hg x).1 hx).fw 19 T (by omega) hf⟩
    obtain ⟨a1, a2, a3, a4, -⟩ := hg.small e he
    have hb : e.t.toNat < 19 := by omega
    have hfi : es.find? (fun e' => e'.is (e.f.toNat : Int) (e.t.toNat : Int)) = some e := by
      cases hf : es.find? (fun e' => e'.is (e.f.toNat : Int) (e.t.toNat : Int)) with
      | none =>
        have := List.find?_eq_none.1 hf e he
        simp only [ME.is, Bool.and_eq_true, beq_iff_eq] at this
        exact absurd ⟨by omega, by omega⟩ this
      | some e' =>
        have h2 := List.find?_some hf
        simp only [ME.is, Bool.and_eq_true, beq_iff_eq] at h2
        rw [hg.keys e' (List.mem_of_find?_eq_some hf) e he (by omega) (by omega)]
    have := hle (ix e.f.toNat e.t.toNat)
    rw [netT_ix es hb, hfi] at this
    exact this rfl
/-- The bounds from one name, and those to it, are numbers that keep the net, if all names of it are bound to it. -/
theorem Tight.from {es : List ME} {T : Nat → Bd} (h : Tight es T) {clock : Nat} (hg : GoodM es clock) (a : Nat) (ha : a < 19) (hk : ∀ e ∈ es, (T (ix a e.f.toNat)).known = true) : Keep es (fun b => (T (ix a b)).by') := by
  intro e he
  obtain ⟨a1, a2, a3, a4, -⟩ := hg.small e he
  obtain ⟨h1, h2⟩ := h.net e he
  have hn : ((T (ix a e.f.toNat)).next (T (ix e.f.toNat e.t.toNat))).known = true := Bd.next_known.2 ⟨hk e he, h1⟩
  have := (h.tri e.f.toNat a e.t.toNat (by omega) ha (by omega) hn).2
  rw [Bd.next_by hn] at this
  show (T (ix a e.t.toNat)).by' - (T (ix a e.f.toNat)).by' ≤ e.v
  omega
theorem Tight.to {es : List ME} {T : Nat → Bd} (h : Tight es T) {clock : Nat} (hg : GoodM es clock) (a : Nat) (ha : a < 19) (hk : ∀ e ∈ es, (T (ix e.t.toNat a)).known = true) : Keep es (fun b => -(T (ix b a)).by') := by
  intro e he
  obtain ⟨a1, a2, a3, a4, -⟩ := hg.small e he
  obtain ⟨h1, h2⟩ := h.net e he
  have hn : ((T (ix e.f.toNat e.t.toNat)).next (T (ix e.t.toNat a))).known = true := Bd.next_known.2 ⟨h1, hk e he⟩
  have := (h.tri e.t.toNat e.f.toNat a (by omega) (by omega) ha hn).2
  rw [Bd.next_by hn] at this
  show -(T (ix e.t.toNat a)).by' - -(T (ix e.f.toNat a)).by' ≤ e.v
  omega
end Go.Proofs.YtmedkmbfggphdaaDoor
