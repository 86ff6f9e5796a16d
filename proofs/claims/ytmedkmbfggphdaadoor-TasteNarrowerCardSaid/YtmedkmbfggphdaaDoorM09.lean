/- The walk of allows. The walk of CheckTruth. The walk of different. -/
import Derived.Test.YtmedkmbfggphdaaDoorM07
import Derived.Test.YtmedkmbfggphdaaDoorM05
set_option linter.unusedSimpArgs false
set_option linter.unusedVariables false
set_option linter.constructorNameAsVariable false
namespace Go.Proofs.YtmedkmbfggphdaaDoor
open Go.RowKit Go.Shelf
attribute [local go_sem] Oper.semAt_some

/-- Between two rounds of a range over a function: the objects K, all of blocks below S, stand; X holds. -/
structure NI (w : World) (K : List (Nat × Obj)) (S : Nat) (X : Prop) (O : Nat → Prop) (W : World) : Prop where
  kept : Kept w K W
  own : ∀ k, O k → S ≤ k
  low : ∀ x ∈ K, x.1 < S
  big : S ≤ W.heap.size
  ok : X
theorem NI.stable {w : World} {K : List (Nat × Obj)} {S : Nat} {X : Prop} (hS : w.heap.size ≤ S) : Stable (NI w K S X) := by
  intro O O' x y h hd hO
  refine ⟨⟨h.kept.pw.trans' (O' := O) hd (fun k hk ho => by have := h.own k ho; omega), fun z hz => (hd.block _ (Array.getElem?_eq_some_iff.1 (h.kept.objs z hz)).1 (fun ho => by have := h.own _ ho; have := h.low z hz; omega)).trans (h.kept.objs z hz)⟩, ?_, h.low, Nat.le_trans h.big hd.size, h.ok⟩
  intro k hk
  rcases hO k hk with h' | h'
  · exact h.own k h'
  · have := h.big; omega
theorem NI.pure {w : World} {K : List (Nat × Obj)} {S : Nat} {X : Prop} {O : Nat → Prop} {W W' : World} (h : NI w K S X O W) (hp : Pure W W') : NI w K S X O W' :=
  ⟨h.kept.pure hp, h.own, h.low, Nat.le_trans h.big hp.size, h.ok⟩

/-- The numbers of all names. -/
def numsL (xs ys : List Int) : List Int := 0 :: xs ++ ys
def numOf (xs ys : List Int) (i : Int) : Int := (numsL xs ys).getD i.toNat 0
def allowsTo (b : BK) (xs ys : List Int) (n : Nat) : Bool := (List.range n).all fun i => wIn (b.rg i).lo (b.rg i).hi (IntKind.i64.wrap (numOf xs ys (b.rg i).t - numOf xs ys (b.rg i).f))
theorem allowsTo_succ (b : BK) (xs ys : List Int) (n : Nat) : allowsTo b xs ys (n + 1) = (allowsTo b xs ys n && wIn (b.rg n).lo (b.rg n).hi (IntKind.i64.wrap (numOf xs ys (b.rg n).t - numOf xs ys (b.rg n).f))) := by
  simp [allowsTo, List.range_succ]
theorem allowsTo_false {b : BK} {xs ys : List Int} {n k : Nat} (hk : k < n) (h : wIn (b.rg k).lo (b.rg k).hi (IntKind.i64.wrap (numOf xs ys (b.rg k).t - numOf xs ys (b.rg k).f)) = false) : allowsTo b xs ys n = false := by
  simp only [allowsTo, List.all_eq_false, List.mem_range]
  exact ⟨k, hk, by rw [h]; simp⟩

theorem SlI.form {B : Nat} {w : World} {v : Value} {xs : List Int} (h : SlI B w v xs) : ∃ p c, v = .slice p xs.length c := by
  rcases h with ⟨rfl, rfl⟩ | ⟨b, o, c, h, _⟩
  · exact ⟨none, 0, rfl⟩
  · exact ⟨_, c, h⟩

set_option maxHeartbeats 2000000 in
theorem allows_any (w : World) (b : BK) (p : Option Addr) (cap : Nat) (sv tv : Value) (xs ys : List Int) (hv : b.Valid) (hb : BookAt w.heap.size w p b) (hg : Gl w) (hxs : SlI w.heap.size w sv xs) (hys : SlI w.heap.size w tv ys)
    (hL : b.lots = xs.length) (hT : b.total = ys.length) :
    Calls Tryd.prog 65 #[bookV b p cap, sv, tv] w fun e w' => e = .returned (.bool (allowsTo b xs ys b.rgN)) ∧ Pure w w' := by
  refine (callsIn_wide (n := 0)).1 ?_
  have hro : Fence.wide.round = none := rfl
  have hmx : Tryd.prog.follows .mixedOrders = true := by kernel_rfl
  refine callsIn_of_wp_marks (n := 0) Tryd.func65 rfl trivial ?_ hro
  simp only [Tryd.ntmps65, List.size_toArray, List.length_cons, List.length_nil, Nat.reduceAdd, Nat.reduceSub, Array.replicate_succ, Array.replicate_zero, List.push_toArray, List.append_toArray, List.nil_append, List.cons_append]
  have h12 := hv.tot
  have hl6 := hv.lots6
  obtain ⟨sp, sc, rfl⟩ := hxs.form
  obtain ⟨tp, tc, rfl⟩ := hys.form
  have HL := Lib.hid hL
  have HT := Lib.hid hT
  have hxl : xs.length ≤ 6 := by omega
  have hyl : ys.length ≤ 12 := by omega
  clear hL hT
  gi_wp2_with fail
  obtain ⟨X, hX⟩ : ∃ X, (((w.alloc (.cells (bookC b p cap) 82)).alloc (.cells #[.bool false] 4)).alloc (.cells #[.int .i64 0] 2)).alloc (.cells #[.slice (some ⟨w.heap.size + 2, 0, none⟩) 1 1, .slice sp xs.length sc, .slice tp ys.length tc] 27) = X := ⟨_, rfl⟩
  have hXs : X.heap.size = w.heap.size + 4 := by rw [← hX]; simp
  have hXd : Pure w X := by rw [← hX]; exact ((((Diff.refl w).alloc _).alloc _).alloc _).alloc _
  have hX0 : X.heap[w.heap.size]? = some (.cells (bookC b p cap) 82 (0, 0)) := by
    rw [← hX]
    exact (Below.heap_alloc _ _ _ (by simp; omega)).trans ((Below.heap_alloc _ _ _ (by simp; omega)).trans ((Below.heap_alloc _ _ _ (by simp)).trans (World.alloc_heap_new _ _)))
  have hX1 : X.heap[w.heap.size + 1]? = some (.cells #[.bool false] 4 (0, 0)) := by
    rw [← hX]
    refine (Below.heap_alloc _ _ _ (by simp)).trans ((Below.heap_alloc _ _ _ (by simp)).trans ?_)
    have := World.alloc_heap_new (w.alloc (.cells (bookC b p cap) 82)) (.cells #[.bool false] 4)
    rwa [World.size_alloc] at this
  have hX2 : X.heap[w.heap.size + 2]? = some (.cells #[.int .i64 0] 2 (0, 0)) := by
    rw [← hX]
    refine (Below.heap_alloc _ _ _ (by simp)).trans ?_
    have := World.alloc_heap_new ((w.alloc (.cells (bookC b p cap) 82)).alloc (.cells #[.bool false] 4)) (.cells #[.int .i64 0] 2)
    rwa [World.size_alloc, World.size_alloc] at this
  have hX3 : X.heap[w.heap.size + 3]? = some (.cells #[.slice (some ⟨w.heap.size + 2, 0, none⟩) 1 1, .slice sp xs.length sc, .slice tp ys.length tc] 27 (0, 0)) := by
    rw [← hX]
    have := World.alloc_heap_new (((w.alloc (.cells (bookC b p cap) 82)).alloc (.cells #[.bool false] 4)).alloc (.cells #[.int .i64 0] 2)) (.cells #[.slice (some ⟨w.heap.size + 2, 0, none⟩) 1 1, .slice sp xs.length sc, .slice tp ys.length tc] 27)
    rwa [World.size_alloc, World.size_alloc, World.size_alloc] at this
  have hcat : catTo (fun k => if k = 0 then [0] else if k = 1 then xs else ys) 3 = numsL xs ys := by simp [catTo, numsL]
  have hcc := Concat_any X (some ⟨w.heap.size + 3, 0, none⟩) 3 3 (fun k => if k = 0 then .slice (some ⟨w.heap.size + 2, 0, none⟩) 1 1 else if k = 1 then .slice sp xs.length sc else .slice tp ys.length tc) (fun k => if k = 0 then [0] else if k = 1 then xs else ys) (Nat.le_refl _)
    (fun k hk => ⟨w.heap.size + 3, 0, rfl, by omega, by rw [cell_of_row X _ _ _ _ _ hX3]; match k, hk with | 0, _ => rfl | 1, _ => rfl | 2, _ => rfl⟩)
    (fun k hk => by
      match k, hk with
      | 0, _ => exact .inr ⟨w.heap.size + 2, 0, 1, rfl, by omega, fun j u hj => by
          rw [cell_of_row X _ _ _ _ _ hX2]
          match j with
          | 0 => simp at hj; subst hj; rfl
          | j + 1 => simp at hj⟩
      | 1, _ => exact (hxs.pure (hXd.mono (fun _ _ h => h.elim)) (Nat.le_refl _)).mono (by omega)
      | 2, _ => exact (hys.pure (hXd.mono (fun _ _ h => h.elim)) (Nat.le_refl _)).mono (by omega))
    (fun k hk => by match k, hk with | 0, _ => simp | 1, _ => (show xs.length ≤ 300; omega) | 2, _ => (show ys.length ≤ 300; omega))
    (by rw [hcat]; simp [numsL])
  rw [hcat] at hcc
  rw [hX]
  clear hX hxs hys hX2 hX3
  refine ⟨trivial, rfl, callsIn_wide.2 (hcc.mono ?_)⟩
  rintro e w1 ⟨u, rfl, hown, hp1⟩
  obtain ⟨hlenN, hform⟩ := hown
  rcases hform with ⟨-, h0⟩ | ⟨gN, capN, cur, rfl, hgN, hcur, hcapN, -, hcsz, htake⟩
  · simp [numsL] at h0
  have hX0' := (hp1.block _ (Array.getElem?_eq_some_iff.1 hX0).1 id).trans hX0
  have hX1' := (hp1.block _ (Array.getElem?_eq_some_iff.1 hX1).1 id).trans hX1
  have HP1 : Hid (Pure w w1) := hXd.trans hp1
  have hgl : gN < w1.heap.size := (Array.getElem?_eq_some_iff.1 hcur).1
  have hgs := hp1.size
  have HX0 := Lib.hid hX0'
  have hcb0 : w1.cell? ⟨w.heap.size, 0, none⟩ = some (.int .i64 b.lo) := by rw [cell_of_row w1 _ _ _ _ _ hX0']; rfl
  have hcb1 : w1.cell? ⟨w.heap.size, 1, none⟩ = some (.int .i64 b.hi) := by rw [cell_of_row w1 _ _ _ _ _ hX0']; rfl
  have hcb2 : w1.cell? ⟨w.heap.size, 2, none⟩ = some (.int .i64 b.lots) := by rw [cell_of_row w1 _ _ _ _ _ hX0']; rfl
  have hcb3 : w1.cell? ⟨w.heap.size, 3, none⟩ = some (.slice p b.n cap) := by rw [cell_of_row w1 _ _ _ _ _ hX0']; rfl
  have hbl : w.heap.size < w1.heap.size := by omega
  clear hX0 hX1 hX0' hp1 hXd hcc hcat
  gi_wp2_with fail
  obtain ⟨BN, hBN⟩ : ∃ BN, w1.heap.size = BN := ⟨_, rfl⟩
  obtain ⟨NL, hNL⟩ : ∃ NL, (numsL xs ys).length = NL := ⟨_, rfl⟩
  have HNL := Lib.hid hNL
  obtain ⟨W5, hW5⟩ : ∃ W5, w1.alloc (.cells #[.slice (some ⟨gN, 0, none⟩) (numsL xs ys).length capN] 27) = W5 := ⟨_, rfl⟩
  have hN5 : W5.heap[BN]? = some (.cells #[.slice (some ⟨gN, 0, none⟩) NL capN] 27 (0, 0)) := by rw [← hW5, ← hBN, ← hNL]; exact World.alloc_heap_new _ _
  have hP5 : Pure w1 W5 := by rw [← hW5]; exact (Diff.refl w1).alloc _
  have hS5 : W5.heap.size = BN + 1 := by rw [← hW5, ← hBN]; simp
  have hX5 := (hP5.block _ (Array.getElem?_eq_some_iff.1 hX1').1 id).trans hX1'
  have hc5 := (hP5.block _ hgl id).trans hcur
  have HPW5 : Pure w W5 := HP1.out.trans hP5
  rw [hW5, hBN, hNL]
  rw [hBN] at hgl hgs
  rw [hNL] at hcapN htake
  clear hW5 hP5 hX1' hcur HX0 hcb0 hcb1 hcb2 hcb3 hbl hlenN hNL
  have hNum : Hid (∀ i : Int, 0 ≤ i → i.toNat < NL → cur[i.toNat]? = some (.int .i64 (numOf xs ys i))) := fun i h0 hi => by
    have h1 : (cur.toList.take (NL * 1))[i.toNat]? = (vals (numsL xs ys))[i.toNat]? := by rw [htake]
    rw [List.getElem?_take, if_pos (by omega)] at h1
    rw [← Array.getElem?_toList, h1]
    have h2 : i.toNat < (numsL xs ys).length := by rw [HNL.out]; exact hi
    simp [vals, numOf, h2]
  refine range_law (f := 92) (A := fun y => #[.agg #[.int .i64 b.lo, .int .i64 b.hi, .int .i64 b.lots, .slice p b.n cap], y]) (n := b.rgN) (es := fun i => (b.rg i).e) (R := fun k => k < w.heap.size) (W0 := w)
    ?call (ranges_iter w b p cap w.heap.size hv hb (Nat.le_refl _) hg hg.sz) (fun _ hk => hk) (HPW5.mono (fun _ _ h => h.elim)) (fun _ _ => rfl)
    (fun i => NI w [(w.heap.size + 1, .cells #[.bool false] 4), (gN, .cells cur 2), (BN, .cells #[.slice (some ⟨gN, 0, none⟩) NL capN] 27)] (BN + 1) (allowsTo b xs ys i = true)) (NI w [(w.heap.size + 1, .cells #[.bool false] 4)] (BN + 1) (allowsTo b xs ys b.rgN = false)) (fun i => NI.stable (by omega)) (NI.stable (by omega)) ?start
    (fun i W1 a' W' => a' = { tmps := #[.agg #[.int .i64 b.lo, .int .i64 b.hi, .int .i64 b.lots, .slice p b.n cap], .slice sp xs.length sc, .slice tp ys.length tc, .pointer (some ⟨w.heap.size, 0, none⟩), undef, undef, .pointer (some ⟨w.heap.size + 1, 0, none⟩), .pointer (some ⟨BN, 0, none⟩), .pointer (some ⟨W1.heap.size, 0, none⟩), .pointer (some ⟨W1.heap.size + 1, 0, none⟩), .slice (some ⟨w.heap.size + 1 + 1, 0, none⟩) 1 1, .slice sp xs.length sc, .slice tp ys.length tc, .slice (some ⟨w.heap.size + 1 + 1 + 1, 0, none⟩) 3 3, .slice (some ⟨gN, 0, none⟩) NL capN, .agg #[.int .i64 b.lo, .int .i64 b.hi, .int .i64 b.lots, .slice p b.n cap], .func (.func 92) #[.agg #[.int .i64 b.lo, .int .i64 b.hi, .int .i64 b.lots, .slice p b.n cap]] #[], .agg #[.int .i64 (b.rg i).f, .int .i64 (b.rg i).t], .agg #[.int .i64 (b.rg i).lo, .int .i64 (b.rg i).hi], undef, undef, undef, undef, undef, undef, undef, undef, undef, undef, undef, undef, undef, undef, undef], defers := [] } ∧
      W'.heap[W1.heap.size]? = some (.cells #[.int .i64 (b.rg i).f, .int .i64 (b.rg i).t] 106 (0, 0)) ∧ W'.heap[W1.heap.size + 1]? = some (.cells #[.int .i64 (b.rg i).lo, .int .i64 (b.rg i).hi] 23 (0, 0)))
    ?bx ?assign ?body ?done ?stop
  case call =>
    intro l' W'
    exact ⟨{ target := .fn (.func 92) #[], args := #[.agg #[.int .i64 b.lo, .int .i64 b.hi, .int .i64 b.lots, .slice p b.n cap], .func (.yield l') #[] #[]] }, by simp only [resolve]; simp [go_sem], by simp [invoke, go_sem, enters_of Tryd.func92 (by kernel_rfl) rfl]⟩
  case start =>
    refine ⟨⟨HPW5, ?_⟩, fun _ h => h.elim, ?_, by omega, rfl⟩
    · intro x hx
      simp only [List.mem_cons, List.mem_nil_iff, or_false] at hx
      rcases hx with rfl | rfl | rfl
      · exact hX5
      · exact hc5
      · exact hN5
    · intro x hx
      simp only [List.mem_cons, List.mem_nil_iff, or_false] at hx
      rcases hx with rfl | rfl | rfl <;> simp only <;> omega
  case bx =>
    rintro i W1 a' W' L o ⟨h1, h2, h3⟩ hL
    have := (Array.getElem?_eq_some_iff.1 h3).1
    exact ⟨h1, (World.putObj_heap_other (by omega)).trans h2, (World.putObj_heap_other (by omega)).trans h3⟩
  case assign =>
    intro l' i O W1 hi hI
    gi_wp2
    refine ⟨((Diff.refl _).alloc _).alloc _, by first | rfl | trivial, (Below.heap_alloc _ _ _ (by simp)).trans (World.alloc_heap_new _ _), ?_⟩
    have := World.alloc_heap_new (W1.alloc (.cells #[.int .i64 (b.rg i).f, .int .i64 (b.rg i).t] 106)) (.cells #[.int .i64 (b.rg i).lo, .int .i64 (b.rg i).hi] 23)
    rwa [World.size_alloc] at this
  case body =>
    rintro l' i O W1 a' W' hi hI hdo hOb hs1 hs2 ⟨rfl, hcp, hcr⟩
    have hN := NI.stable (by omega) O O _ _ hI hdo (fun _ h => .inl h)
    have hk0 := hN.kept.objs (w.heap.size + 1, .cells #[.bool false] 4) (by simp)
    have hk1 := hN.kept.objs (gN, .cells cur 2) (by simp)
    have hk2 := hN.kept.objs (BN, .cells #[.slice (some ⟨gN, 0, none⟩) NL capN] 27) (by simp)
    obtain ⟨Bp, hBp⟩ : ∃ Bp, W1.heap.size = Bp := ⟨_, rfl⟩
    rw [hBp] at hcp hcr ⊢
    have hf0 : 0 ≤ (b.rg i).f ∧ (b.rg i).f < NL ∧ 0 ≤ (b.rg i).t ∧ (b.rg i).t < NL := by
      have h1 := HNL.out
      simp only [numsL, List.length_cons, List.length_append] at h1
      have h2 := HT.out
      rcases b.rg_kind hv xs.length HL.out i hi with ⟨a1, a2, a3⟩ | ⟨q, a1, a2, a3, a4⟩ | ⟨q, a1, a2, a3, a4, a5⟩ <;> omega
    obtain ⟨fn, hfn⟩ := Int.eq_ofNat_of_zero_le hf0.1
    obtain ⟨tn, htn⟩ := Int.eq_ofNat_of_zero_le hf0.2.2.1
    have hfl : fn < NL := by omega
    have htl : tn < NL := by omega
    have ha0 := hNum.out (b.rg i).t hf0.2.2.1 (by omega)
    have hb0 := hNum.out (b.rg i).f hf0.1 (by omega)
    obtain ⟨A, hA⟩ : ∃ A, numOf xs ys (b.rg i).t = A := ⟨_, rfl⟩
    obtain ⟨B, hB⟩ : ∃ B, numOf xs ys (b.rg i).f = B := ⟨_, rfl⟩
    have HA := Lib.hid hA
    have HB := Lib.hid hB
    rw [hA, htn, Int.toNat_natCast] at ha0
    rw [hB, hfn, Int.toNat_natCast] at hb0
    rw [hfn, htn] at hcp ⊢
    obtain ⟨DIF, hDIF⟩ : ∃ D, IntKind.i64.wrap (A - B) = D := ⟨_, rfl⟩
    obtain ⟨OKV, hOKV⟩ : ∃ D, wIn (b.rg i).lo (b.rg i).hi DIF = D := ⟨_, rfl⟩
    have HDIF := Lib.hid hDIF
    have HOKV : Hid (wAll (b.rg i).lo (b.rg i).hi (fun _ => DIF) 1 = OKV) := by show _ = _; rw [← hOKV]; simp [wAll]
    have HSTEP : Hid (∀ g, OKV = g → wIn (b.rg i).lo (b.rg i).hi (IntKind.i64.wrap (numOf xs ys (b.rg i).t - numOf xs ys (b.rg i).f)) = g) := fun g hg => by rw [HA.out, HB.out, hDIF, hOKV, hg]
    have ha : W'.cell? ⟨gN, tn, none⟩ = some (.int .i64 A) := by rw [cell_of_row W' _ _ _ _ _ hk1]; exact ha0
    have hb' : W'.cell? ⟨gN, fn, none⟩ = some (.int .i64 B) := by rw [cell_of_row W' _ _ _ _ _ hk1]; exact hb0
    have hn0 : W'.cell? ⟨BN, 0, none⟩ = some (.slice (some ⟨gN, 0, none⟩) NL capN) := by rw [cell_of_row W' _ _ _ _ _ hk2]; rfl
    have hp0 : W'.cell? ⟨Bp, 0, none⟩ = some (.int .i64 fn) := by rw [cell_of_row W' _ _ _ _ _ hcp]; rfl
    have hp1' : W'.cell? ⟨Bp, 1, none⟩ = some (.int .i64 tn) := by rw [cell_of_row W' _ _ _ _ _ hcp]; rfl
    have hr0 : W'.cell? ⟨Bp + 1, 0, none⟩ = some (.int .i64 (b.rg i).lo) := by rw [cell_of_row W' _ _ _ _ _ hcr]; rfl
    have hr1 : W'.cell? ⟨Bp + 1, 1, none⟩ = some (.int .i64 (b.rg i).hi) := by rw [cell_of_row W' _ _ _ _ _ hcr]; rfl
    have hlp : Bp < W'.heap.size := (Array.getElem?_eq_some_iff.1 hcp).1
    have hlr : Bp + 1 < W'.heap.size := (Array.getElem?_eq_some_iff.1 hcr).1
    have hln : BN < W'.heap.size := (Array.getElem?_eq_some_iff.1 hk2).1
    have hlg : gN < W'.heap.size := (Array.getElem?_eq_some_iff.1 hk1).1
    have HN := Lib.hid hN
    clear ha0 hb0 hA hB hDIF hOKV hk0 hk1 hk2 hcp hcr hBp hI hdo hs1 hs2 hN hf0
    gi_wp2
    refine reg_inv (fun d a W2 => ∃ g1 : Nat, a = { tmps := #[Value.agg #[Value.int IntKind.i64 b.lo, Value.int IntKind.i64 b.hi, Value.int IntKind.i64 b.lots, Value.slice p b.n cap], Value.slice sp xs.length sc, Value.slice tp ys.length tc, Value.pointer (some { block := w.heap.size, off := 0 }), undef, undef, Value.pointer (some { block := w.heap.size + 1, off := 0 }), Value.pointer (some { block := BN, off := 0 }), Value.pointer (some { block := Bp, off := 0 }), Value.pointer (some { block := (Bp + 1), off := 0 }), Value.slice (some { block := w.heap.size + 1 + 1, off := 0 }) 1 1, Value.slice sp xs.length sc, Value.slice tp ys.length tc, Value.slice (some { block := w.heap.size + 1 + 1 + 1, off := 0 }) 3 3, Value.slice (some { block := gN, off := 0 }) NL capN, Value.agg #[Value.int IntKind.i64 b.lo, Value.int IntKind.i64 b.hi, Value.int IntKind.i64 b.lots, Value.slice p b.n cap], Value.func (Fn.func 92) #[Value.agg #[Value.int IntKind.i64 b.lo, Value.int IntKind.i64 b.hi, Value.int IntKind.i64 b.lots, Value.slice p b.n cap]] #[], Value.agg #[Value.int IntKind.i64 ↑fn, Value.int IntKind.i64 ↑tn], Value.agg #[Value.int IntKind.i64 (b.rg i).lo, Value.int IntKind.i64 (b.rg i).hi], (bif d 0 then Value.agg #[Value.int IntKind.i64 (b.rg i).lo, Value.int IntKind.i64 (b.rg i).hi] else undef), (bif d 1 then Value.slice (some { block := gN, off := 0 }) NL capN else undef), (bif d 2 then Value.pointer (some { block := Bp, off := 1 }) else undef), (bif d 3 then Value.int IntKind.i64 ↑tn else undef), (bif d 4 then Value.pointer (some { block := gN, off := tn }) else undef), (bif d 5 then Value.int IntKind.i64 A else undef), (bif d 6 then Value.slice (some { block := gN, off := 0 }) NL capN else undef), (bif d 7 then Value.pointer (some { block := Bp, off := 0 }) else undef), (bif d 8 then Value.int IntKind.i64 ↑fn else undef), (bif d 9 then Value.pointer (some { block := gN, off := fn }) else undef), (bif d 10 then Value.int IntKind.i64 B else undef), (bif d 11 then Value.int IntKind.i64 DIF else undef), (bif d 12 then Value.slice (some { block := g1, off := 0 }) 1 1 else undef), (bif d 13 then Value.bool OKV else undef), (bif d 14 then Value.bool !OKV else undef)], defers := [] } ∧ Pure W' W2 ∧ (d 12 = true → W2.cell? ⟨g1, 0, none⟩ = some (.int .i64 DIF) ∧ g1 < W2.heap.size)) hmx (by kernel_rfl) ?_ ?_ ?_
    · exact ⟨0, rfl, (Diff.refl _).drew, fun h => by cases h⟩
    · refine ⟨?_, ?_, ?_, ?_, ?_, ?_, ?_, ?_, ?_, ?_, ?_, ?_, ?_, ?_, ?_, trivial⟩
      · rintro d a W2 hdi hdep hcl ⟨g1, rfl, hw⟩ K hK
        replace hdi : d 0 = false := hdi
        have f13 : d 13 = false := hcl.neg hdi 13 (by kernel_rfl)
        have f14 : d 14 = false := hcl.neg hdi 14 (by kernel_rfl)
        clear hdep hcl
        obtain ⟨dc, -⟩ := pcell hw.1
        have z0 := (dc _ 0 hlr).trans hr0
        have z1 := (dc _ 1 hlr).trans hr1
        clear dc
        go_simp
        exact hK _ _ ⟨g1, by simp [upd, hdi, f13, f14], by simpa [upd] using hw⟩
      · rintro d a W2 hdi hdep hcl ⟨g1, rfl, hw⟩ K hK
        replace hdi : d 1 = false := hdi
        have f4 : d 4 = false := hcl.neg hdi 4 (by kernel_rfl)
        have f5 : d 5 = false := hcl.neg hdi 5 (by kernel_rfl)
        have f11 : d 11 = false := hcl.neg hdi 11 (by kernel_rfl)
        have f12 : d 12 = false := hcl.neg hdi 12 (by kernel_rfl)
        have f13 : d 13 = false := hcl.neg hdi 13 (by kernel_rfl)
        have f14 : d 14 = false := hcl.neg hdi 14 (by kernel_rfl)
        clear hdep hcl
        obtain ⟨dc, -⟩ := pcell hw.1
        have z0 := (dc _ 0 hln).trans hn0
        clear dc
        go_simp
        exact hK _ _ ⟨g1, by simp [upd, hdi, f4, f5, f11, f12, f13, f14], by simpa [upd] using hw⟩
      · rintro d a W2 hdi hdep hcl ⟨g1, rfl, hw⟩ K hK
        replace hdi : d 2 = false := hdi
        have f3 : d 3 = false := hcl.neg hdi 3 (by kernel_rfl)
        have f4 : d 4 = false := hcl.neg hdi 4 (by kernel_rfl)
        have f5 : d 5 = false := hcl.neg hdi 5 (by kernel_rfl)
        have f11 : d 11 = false := hcl.neg hdi 11 (by kernel_rfl)
        have f12 : d 12 = false := hcl.neg hdi 12 (by kernel_rfl)
        have f13 : d 13 = false := hcl.neg hdi 13 (by kernel_rfl)
        have f14 : d 14 = false := hcl.neg hdi 14 (by kernel_rfl)
        clear hdep hcl
        go_simp
        exact hK _ _ ⟨g1, by simp [upd, hdi, f3, f4, f5, f11, f12, f13, f14], by simpa [upd] using hw⟩
      · rintro d a W2 hdi hdep hcl ⟨g1, rfl, hw⟩ K hK
        replace hdi : d 3 = false := hdi
        have e2 : d 2 = true := hcl.pos 3 rfl hdep 2 29 (by kernel_rfl)
        have f4 : d 4 = false := hcl.neg hdi 4 (by kernel_rfl)
        have f5 : d 5 = false := hcl.neg hdi 5 (by kernel_rfl)
        have f11 : d 11 = false := hcl.neg hdi 11 (by kernel_rfl)
        have f12 : d 12 = false := hcl.neg hdi 12 (by kernel_rfl)
        have f13 : d 13 = false := hcl.neg hdi 13 (by kernel_rfl)
        have f14 : d 14 = false := hcl.neg hdi 14 (by kernel_rfl)
        clear hdep hcl
        obtain ⟨dc, -⟩ := pcell hw.1
        have z0 := (dc _ 1 hlp).trans hp1'
        clear dc
        go_simp
        exact hK _ _ ⟨g1, by simp [upd, hdi, e2, f4, f5, f11, f12, f13, f14], by simpa [upd] using hw⟩
      · rintro d a W2 hdi hdep hcl ⟨g1, rfl, hw⟩ K hK
        replace hdi : d 4 = false := hdi
        have e1 : d 1 = true := hcl.pos 4 rfl hdep 1 29 (by kernel_rfl)
        have e2 : d 2 = true := hcl.pos 4 rfl hdep 2 29 (by kernel_rfl)
        have e3 : d 3 = true := hcl.pos 4 rfl hdep 3 29 (by kernel_rfl)
        have f5 : d 5 = false := hcl.neg hdi 5 (by kernel_rfl)
        have f11 : d 11 = false := hcl.neg hdi 11 (by kernel_rfl)
        have f12 : d 12 = false := hcl.neg hdi 12 (by kernel_rfl)
        have f13 : d 13 = false := hcl.neg hdi 13 (by kernel_rfl)
        have f14 : d 14 = false := hcl.neg hdi 14 (by kernel_rfl)
        clear hdep hcl
        go_simp
        exact hK _ _ ⟨g1, by simp [upd, hdi, e1, e2, e3, f5, f11, f12, f13, f14], by simpa [upd] using hw⟩
      · rintro d a W2 hdi hdep hcl ⟨g1, rfl, hw⟩ K hK
        replace hdi : d 5 = false := hdi
        have e1 : d 1 = true := hcl.pos 5 rfl hdep 1 29 (by kernel_rfl)
        have e2 : d 2 = true := hcl.pos 5 rfl hdep 2 29 (by kernel_rfl)
        have e3 : d 3 = true := hcl.pos 5 rfl hdep 3 29 (by kernel_rfl)
        have e4 : d 4 = true := hcl.pos 5 rfl hdep 4 29 (by kernel_rfl)
        have f11 : d 11 = false := hcl.neg hdi 11 (by kernel_rfl)
        have f12 : d 12 = false := hcl.neg hdi 12 (by kernel_rfl)
        have f13 : d 13 = false := hcl.neg hdi 13 (by kernel_rfl)
        have f14 : d 14 = false := hcl.neg hdi 14 (by kernel_rfl)
        clear hdep hcl
        obtain ⟨dc, -⟩ := pcell hw.1
        have z0 := (dc _ tn hlg).trans ha
        clear dc
        go_simp
        exact hK _ _ ⟨g1, by simp [upd, hdi, e1, e2, e3, e4, f11, f12, f13, f14], by simpa [upd] using hw⟩
      · rintro d a W2 hdi hdep hcl ⟨g1, rfl, hw⟩ K hK
        replace hdi : d 6 = false := hdi
        have f9 : d 9 = false := hcl.neg hdi 9 (by kernel_rfl)
        have f10 : d 10 = false := hcl.neg hdi 10 (by kernel_rfl)
        have f11 : d 11 = false := hcl.neg hdi 11 (by kernel_rfl)
        have f12 : d 12 = false := hcl.neg hdi 12 (by kernel_rfl)
        have f13 : d 13 = false := hcl.neg hdi 13 (by kernel_rfl)
        have f14 : d 14 = false := hcl.neg hdi 14 (by kernel_rfl)
        clear hdep hcl
        obtain ⟨dc, -⟩ := pcell hw.1
        have z0 := (dc _ 0 hln).trans hn0
        clear dc
        go_simp
        exact hK _ _ ⟨g1, by simp [upd, hdi, f9, f10, f11, f12, f13, f14], by simpa [upd] using hw⟩
      · rintro d a W2 hdi hdep hcl ⟨g1, rfl, hw⟩ K hK
        replace hdi : d 7 = false := hdi
        have f8 : d 8 = false := hcl.neg hdi 8 (by kernel_rfl)
        have f9 : d 9 = false := hcl.neg hdi 9 (by kernel_rfl)
        have f10 : d 10 = false := hcl.neg hdi 10 (by kernel_rfl)
        have f11 : d 11 = false := hcl.neg hdi 11 (by kernel_rfl)
        have f12 : d 12 = false := hcl.neg hdi 12 (by kernel_rfl)
        have f13 : d 13 = false := hcl.neg hdi 13 (by kernel_rfl)
        have f14 : d 14 = false := hcl.neg hdi 14 (by kernel_rfl)
        clear hdep hcl
        go_simp
        exact hK _ _ ⟨g1, by simp [upd, hdi, f8, f9, f10, f11, f12, f13, f14], by simpa [upd] using hw⟩
      · rintro d a W2 hdi hdep hcl ⟨g1, rfl, hw⟩ K hK
        replace hdi : d 8 = false := hdi
        have e7 : d 7 = true := hcl.pos 8 rfl hdep 7 29 (by kernel_rfl)
        have f9 : d 9 = false := hcl.neg hdi 9 (by kernel_rfl)
        have f10 : d 10 = false := hcl.neg hdi 10 (by kernel_rfl)
        have f11 : d 11 = false := hcl.neg hdi 11 (by kernel_rfl)
        have f12 : d 12 = false := hcl.neg hdi 12 (by kernel_rfl)
        have f13 : d 13 = false := hcl.neg hdi 13 (by kernel_rfl)
        have f14 : d 14 = false := hcl.neg hdi 14 (by kernel_rfl)
        clear hdep hcl
        obtain ⟨dc, -⟩ := pcell hw.1
        have z0 := (dc _ 0 hlp).trans hp0
        clear dc
        go_simp
        exact hK _ _ ⟨g1, by simp [upd, hdi, e7, f9, f10, f11, f12, f13, f14], by simpa [upd] using hw⟩
      · rintro d a W2 hdi hdep hcl ⟨g1, rfl, hw⟩ K hK
        replace hdi : d 9 = false := hdi
        have e6 : d 6 = true := hcl.pos 9 rfl hdep 6 29 (by kernel_rfl)
        have e7 : d 7 = true := hcl.pos 9 rfl hdep 7 29 (by kernel_rfl)
        have e8 : d 8 = true := hcl.pos 9 rfl hdep 8 29 (by kernel_rfl)
        have f10 : d 10 = false := hcl.neg hdi 10 (by kernel_rfl)
        have f11 : d 11 = false := hcl.neg hdi 11 (by kernel_rfl)
        have f12 : d 12 = false := hcl.neg hdi 12 (by kernel_rfl)
        have f13 : d 13 = false := hcl.neg hdi 13 (by kernel_rfl)
        have f14 : d 14 = false := hcl.neg hdi 14 (by kernel_rfl)
        clear hdep hcl
        go_simp
        exact hK _ _ ⟨g1, by simp [upd, hdi, e6, e7, e8, f10, f11, f12, f13, f14], by simpa [upd] using hw⟩
      · rintro d a W2 hdi hdep hcl ⟨g1, rfl, hw⟩ K hK
        replace hdi : d 10 = false := hdi
        have e6 : d 6 = true := hcl.pos 10 rfl hdep 6 29 (by kernel_rfl)
        have e7 : d 7 = true := hcl.pos 10 rfl hdep 7 29 (by kernel_rfl)
        have e8 : d 8 = true := hcl.pos 10 rfl hdep 8 29 (by kernel_rfl)
        have e9 : d 9 = true := hcl.pos 10 rfl hdep 9 29 (by kernel_rfl)
        have f11 : d 11 = false := hcl.neg hdi 11 (by kernel_rfl)
        have f12 : d 12 = false := hcl.neg hdi 12 (by kernel_rfl)
        have f13 : d 13 = false := hcl.neg hdi 13 (by kernel_rfl)
        have f14 : d 14 = false := hcl.neg hdi 14 (by kernel_rfl)
        clear hdep hcl
        obtain ⟨dc, -⟩ := pcell hw.1
        have z0 := (dc _ fn hlg).trans hb'
        clear dc
        go_simp
        exact hK _ _ ⟨g1, by simp [upd, hdi, e6, e7, e8, e9, f11, f12, f13, f14], by simpa [upd] using hw⟩
      · rintro d a W2 hdi hdep hcl ⟨g1, rfl, hw⟩ K hK
        replace hdi : d 11 = false := hdi
        have e1 : d 1 = true := hcl.pos 11 rfl hdep 1 29 (by kernel_rfl)
        have e2 : d 2 = true := hcl.pos 11 rfl hdep 2 29 (by kernel_rfl)
        have e3 : d 3 = true := hcl.pos 11 rfl hdep 3 29 (by kernel_rfl)
        have e4 : d 4 = true := hcl.pos 11 rfl hdep 4 29 (by kernel_rfl)
        have e5 : d 5 = true := hcl.pos 11 rfl hdep 5 29 (by kernel_rfl)
        have e6 : d 6 = true := hcl.pos 11 rfl hdep 6 29 (by kernel_rfl)
        have e7 : d 7 = true := hcl.pos 11 rfl hdep 7 29 (by kernel_rfl)
        have e8 : d 8 = true := hcl.pos 11 rfl hdep 8 29 (by kernel_rfl)
        have e9 : d 9 = true := hcl.pos 11 rfl hdep 9 29 (by kernel_rfl)
        have e10 : d 10 = true := hcl.pos 11 rfl hdep 10 29 (by kernel_rfl)
        have f12 : d 12 = false := hcl.neg hdi 12 (by kernel_rfl)
        have f13 : d 13 = false := hcl.neg hdi 13 (by kernel_rfl)
        have f14 : d 14 = false := hcl.neg hdi 14 (by kernel_rfl)
        clear hdep hcl
        go_simp
        rw [HDIF.out]
        exact hK _ _ ⟨g1, by simp [upd, hdi, e1, e2, e3, e4, e5, e6, e7, e8, e9, e10, f12, f13, f14], by simpa [upd] using hw⟩
      · rintro d a W2 hdi hdep hcl ⟨g1, rfl, hw⟩ K hK
        replace hdi : d 12 = false := hdi
        have e1 : d 1 = true := hcl.pos 12 rfl hdep 1 29 (by kernel_rfl)
        have e2 : d 2 = true := hcl.pos 12 rfl hdep 2 29 (by kernel_rfl)
        have e3 : d 3 = true := hcl.pos 12 rfl hdep 3 29 (by kernel_rfl)
        have e4 : d 4 = true := hcl.pos 12 rfl hdep 4 29 (by kernel_rfl)
        have e5 : d 5 = true := hcl.pos 12 rfl hdep 5 29 (by kernel_rfl)
        have e6 : d 6 = true := hcl.pos 12 rfl hdep 6 29 (by kernel_rfl)
        have e7 : d 7 = true := hcl.pos 12 rfl hdep 7 29 (by kernel_rfl)
        have e8 : d 8 = true := hcl.pos 12 rfl hdep 8 29 (by kernel_rfl)
        have e9 : d 9 = true := hcl.pos 12 rfl hdep 9 29 (by kernel_rfl)
        have e10 : d 10 = true := hcl.pos 12 rfl hdep 10 29 (by kernel_rfl)
        have e11 : d 11 = true := hcl.pos 12 rfl hdep 11 29 (by kernel_rfl)
        have f13 : d 13 = false := hcl.neg hdi 13 (by kernel_rfl)
        have f14 : d 14 = false := hcl.neg hdi 14 (by kernel_rfl)
        clear hdep hcl
        go_simp
        exact hK _ _ ⟨W2.heap.size, by simp [upd, hdi, e1, e2, e3, e4, e5, e6, e7, e8, e9, e10, e11, f13, f14], hw.1.trans ((Diff.refl _).alloc _), fun _ => ⟨by simp [go_sem], by simp⟩⟩
      · rintro d a W2 hdi hdep hcl ⟨g1, rfl, hw⟩ K hK
        replace hdi : d 13 = false := hdi
        have e0 : d 0 = true := hcl.pos 13 rfl hdep 0 29 (by kernel_rfl)
        have e1 : d 1 = true := hcl.pos 13 rfl hdep 1 29 (by kernel_rfl)
        have e2 : d 2 = true := hcl.pos 13 rfl hdep 2 29 (by kernel_rfl)
        have e3 : d 3 = true := hcl.pos 13 rfl hdep 3 29 (by kernel_rfl)
        have e4 : d 4 = true := hcl.pos 13 rfl hdep 4 29 (by kernel_rfl)
        have e5 : d 5 = true := hcl.pos 13 rfl hdep 5 29 (by kernel_rfl)
        have e6 : d 6 = true := hcl.pos 13 rfl hdep 6 29 (by kernel_rfl)
        have e7 : d 7 = true := hcl.pos 13 rfl hdep 7 29 (by kernel_rfl)
        have e8 : d 8 = true := hcl.pos 13 rfl hdep 8 29 (by kernel_rfl)
        have e9 : d 9 = true := hcl.pos 13 rfl hdep 9 29 (by kernel_rfl)
        have e10 : d 10 = true := hcl.pos 13 rfl hdep 10 29 (by kernel_rfl)
        have e11 : d 11 = true := hcl.pos 13 rfl hdep 11 29 (by kernel_rfl)
        have e12 : d 12 = true := hcl.pos 13 rfl hdep 12 29 (by kernel_rfl)
        have f14 : d 14 = false := hcl.neg hdi 14 (by kernel_rfl)
        clear hdep hcl
        have hq := hw.2 e12
        go_simp
        refine ⟨trivial, rfl, CallsIn.mono (CallsIn.inRound l' (callsIn_wide.2 (within_any _ (b.rg i).lo (b.rg i).hi (some ⟨g1, 0, none⟩) 1 1 (fun _ => DIF) (by omega) (fun k hk => ⟨g1, 0, rfl, hq.2, by cases k with | zero => exact hq.1 | succ k => omega⟩)))) ?_⟩
        rintro e w' ⟨rfl, hp⟩
        rw [HOKV.out]
        exact hK _ _ ⟨g1, by simp [upd, hdi, e0, e1, e2, e3, e4, e5, e6, e7, e8, e9, e10, e11, e12, f14], hw.1.trans hp, fun _ => ⟨((pcell hp).1 _ _ hq.2).trans hq.1, Nat.lt_of_lt_of_le hq.2 hp.size⟩⟩
      · rintro d a W2 hdi hdep hcl ⟨g1, rfl, hw⟩ K hK
        replace hdi : d 14 = false := hdi
        have e0 : d 0 = true := hcl.pos 14 rfl hdep 0 29 (by kernel_rfl)
        have e1 : d 1 = true := hcl.pos 14 rfl hdep 1 29 (by kernel_rfl)
        have e2 : d 2 = true := hcl.pos 14 rfl hdep 2 29 (by kernel_rfl)
        have e3 : d 3 = true := hcl.pos 14 rfl hdep 3 29 (by kernel_rfl)
        have e4 : d 4 = true := hcl.pos 14 rfl hdep 4 29 (by kernel_rfl)
        have e5 : d 5 = true := hcl.pos 14 rfl hdep 5 29 (by kernel_rfl)
        have e6 : d 6 = true := hcl.pos 14 rfl hdep 6 29 (by kernel_rfl)
        have e7 : d 7 = true := hcl.pos 14 rfl hdep 7 29 (by kernel_rfl)
        have e8 : d 8 = true := hcl.pos 14 rfl hdep 8 29 (by kernel_rfl)
        have e9 : d 9 = true := hcl.pos 14 rfl hdep 9 29 (by kernel_rfl)
        have e10 : d 10 = true := hcl.pos 14 rfl hdep 10 29 (by kernel_rfl)
        have e11 : d 11 = true := hcl.pos 14 rfl hdep 11 29 (by kernel_rfl)
        have e12 : d 12 = true := hcl.pos 14 rfl hdep 12 29 (by kernel_rfl)
        have e13 : d 13 = true := hcl.pos 14 rfl hdep 13 29 (by kernel_rfl)
        clear hdep hcl
        go_simp
        exact hK _ _ ⟨g1, by simp [upd, hdi, e0, e1, e2, e3, e4, e5, e6, e7, e8, e9, e10, e11, e12, e13], by simpa [upd] using hw⟩
    · rintro d a W2 hall ⟨g1, rfl, hw⟩
      simp [List.range_succ] at hall
      obtain ⟨e0, e1, e2, e3, e4, e5, e6, e7, e8, e9, e10, e11, e12, e13, e14⟩ := hall
      simp only [e0, e1, e2, e3, e4, e5, e6, e7, e8, e9, e10, e11, e12, e13, e14, cond_true] at hw ⊢
      clear e0 e1 e2 e3 e4 e5 e6 e7 e8 e9 e10 e11 e12 e13 e14
      have hN2 := HN.out.pure hw.1
      have hO1 : ¬ O (w.heap.size + 1) := fun h => by have := HN.out.own _ h; omega
      cases OKV
      · have hr := hN2.kept.objs (w.heap.size + 1, .cells #[.bool false] 4) (by simp)
        have z0 : W2.cell? ⟨w.heap.size + 1, 0, none⟩ = some (.bool false) := by rw [cell_of_row W2 _ _ _ _ _ hr]; rfl
        have y0 : W2.frozen? ⟨w.heap.size + 1, 0, none⟩ = false := frozen_of_row W2 _ _ _ _ hr
        have HN2 := Lib.hid hN2
        have HR := Lib.hid hr
        have HPW := Lib.hid hw.1
        clear hr hN2 hw
        gi_wp2
        refine ⟨(HPW.out.mono (fun _ _ h => h.elim)).setCell (fun _ => ⟨by simp, hO1⟩) _, ⟨⟨HN2.out.kept.pw.setCell (fun h => absurd h (by simp)) _, ?_⟩, HN2.out.own, ?_, by simpa using HN2.out.big, allowsTo_false hi (HSTEP.out _ rfl)⟩⟩
        · intro x hx
          simp only [List.mem_cons, List.mem_nil_iff, or_false] at hx
          subst hx
          exact (heap_setCell_same W2 (w.heap.size + 1) 0 #[.bool false] 4 (.bool false) HR.out)
        · intro x hx
          exact HN2.out.low x (by simp only [List.mem_cons, List.mem_nil_iff, or_false] at hx ⊢; exact .inl hx)
      · have HN2 := Lib.hid hN2
        have HPW := Lib.hid hw.1
        clear hN2 hw
        gi_wp2
        exact ⟨HPW.out.mono (fun _ _ h => h.elim), ⟨HN2.out.kept, HN2.out.own, HN2.out.low, HN2.out.big, by rw [allowsTo_succ, HN2.out.ok, HSTEP.out _ rfl]; rfl⟩⟩
  case done =>
    rintro O D W hN hOD hDs hDd
    have hr := hN.kept.objs (w.heap.size + 1, .cells #[.bool false] 4) (by simp)
    have z0 : W.cell? ⟨w.heap.size + 1, 0, none⟩ = some (.bool false) := by rw [cell_of_row W _ _ _ _ _ hr]; rfl
    have y0 : W.frozen? ⟨w.heap.size + 1, 0, none⟩ = false := frozen_of_row W _ _ _ _ hr
    have HP := Lib.hid hN.kept.pw
    have HOK := Lib.hid hN.ok
    have hDO : BN + 1 ≤ D := hN.own _ hOD
    have hDne : D ≠ w.heap.size + 1 := by omega
    have hDw : ¬ D < w.heap.size := by omega
    clear hr hN
    gi_wp2
    have hDd2 : (W.setCell ⟨w.heap.size + 1, 0, none⟩ (.bool true)).heap[D]? = some (.deferred (some [])) := (heap_setCell_other _ _ _ _ hDne).trans hDd
    refine ⟨by simp, .inl ⟨_, _, rfl, run_takeDeferred hDd2, ?_⟩⟩
    have z1 : ((W.setCell ⟨w.heap.size + 1, 0, none⟩ (.bool true)).putObj D (.deferred none)).cell? ⟨w.heap.size + 1, 0, none⟩ = some (.bool true) :=
      (World.cell?_of_block (World.putObj_heap_other (Ne.symm hDne))).trans (World.cell?_setCell_same _ _ _ z0)
    exact ⟨.bool true, by simp [results, Tryd.results65, go_sem, z1], by rw [HOK.out], (HP.out.setCell (fun h => absurd h (by simp)) _).putObj (fun h => absurd h hDw) _⟩
  case stop =>
    rintro O D W hN hOD hDs hDd
    have hr := hN.kept.objs (w.heap.size + 1, .cells #[.bool false] 4) (by simp)
    have z0 : W.cell? ⟨w.heap.size + 1, 0, none⟩ = some (.bool false) := by rw [cell_of_row W _ _ _ _ _ hr]; rfl
    have HP := Lib.hid hN.kept.pw
    have HOK := Lib.hid hN.ok
    have hDO : BN + 1 ≤ D := hN.own _ hOD
    have hDne : D ≠ w.heap.size + 1 := by omega
    have hDw : ¬ D < w.heap.size := by omega
    clear hr hN
    gi_wp2
    refine ⟨by simp, .inl ⟨_, _, rfl, run_takeDeferred hDd, ?_⟩⟩
    have z1 : (W.putObj D (.deferred none)).cell? ⟨w.heap.size + 1, 0, none⟩ = some (.bool false) := (World.cell?_of_block (World.putObj_heap_other (Ne.symm hDne))).trans z0
    exact ⟨.bool false, by simp [results, Tryd.results65, go_sem, z1], by rw [HOK.out], HP.out.putObj (fun h => absurd h hDw) _⟩
end Go.Proofs.YtmedkmbfggphdaaDoor

namespace Go.Proofs.YtmedkmbfggphdaaDoor
open Go.RowKit

def truthC (b : BK) (xs ys : List Int) : Int :=
  if checkB b ≠ 0 then checkB b else if b.lots ≠ xs.length ∨ b.total ≠ ys.length then 15 else if allowsTo b xs ys b.rgN = false then 17 else 0

set_option maxHeartbeats 2000000 in
theorem CheckTruth_any (w : World) (b : BK) (p : Option Addr) (cap : Nat) (sv tv : Value) (xs ys : List Int) (hs : b.Small) (hb : BookAt w.heap.size w p b) (hg : Gl w) (hxs : SlI w.heap.size w sv xs) (hys : SlI w.heap.size w tv ys) :
    Calls Tryd.prog 25 #[bookV b p cap, sv, tv] w fun e w' => e = .returned (.int .i64 (truthC b xs ys)) ∧ Pure w w' := by
  obtain ⟨sp, sc, rfl⟩ := hxs.form
  obtain ⟨tp, tc, rfl⟩ := hys.form
  go_enter Tryd.func25, Tryd.ntmps25
  go_wp2_with fail
  have hP0 : Pure w (w.alloc (.cells (bookC b p cap) 26)) := (Diff.refl w).alloc _
  refine (CheckBook_any _ b p cap hs ((hb.diff hP0 (Nat.le_refl _) (fun _ _ => id)).mono hP0.size) (hg.diff hP0 (fun _ _ => id))).mono ?_
  rintro e w1 ⟨rfl, hp1⟩
  have HP1 : Hid (Pure w w1) := hP0.trans hp1
  have hX1 : w1.heap[w.heap.size]? = some (.cells (bookC b p cap) 26 (0, 0)) := (hp1.block _ (by simp) id).trans (World.alloc_heap_new _ _)
  have hBl : w.heap.size < w1.heap.size := (Array.getElem?_eq_some_iff.1 hX1).1
  have hC0 : w1.cell? ⟨w.heap.size, 0, none⟩ = some (.int .i64 b.lo) := by rw [cell_of_row w1 _ _ _ _ _ hX1]; rfl
  have hC1 : w1.cell? ⟨w.heap.size, 1, none⟩ = some (.int .i64 b.hi) := by rw [cell_of_row w1 _ _ _ _ _ hX1]; rfl
  have hC2 : w1.cell? ⟨w.heap.size, 2, none⟩ = some (.int .i64 b.lots) := by rw [cell_of_row w1 _ _ _ _ _ hX1]; rfl
  have hC3 : w1.cell? ⟨w.heap.size, 3, none⟩ = some (.slice p b.n cap) := by rw [cell_of_row w1 _ _ _ _ _ hX1]; rfl
  clear hp1 hX1 hP0
  by_cases hck : checkB b = 0
  · have HHB := Lib.hid hb
    have HG := Lib.hid hg
    have HXS := Lib.hid hxs
    have HYS := Lib.hid hys
    have hv := checkB_valid hck
    have HCK := Lib.hid hck
    rw [hck]
    clear hck hb hg hxs hys
    by_cases h1 : (xs.length : Int) = b.lots
    · go_wp2_with fail
      obtain ⟨X, hX⟩ : ∃ X, w1.alloc (.cells (bookC b p cap) 82) = X := ⟨_, rfl⟩
      have hPX : Pure w1 X := by rw [← hX]; exact (Diff.refl w1).alloc _
      have hX1 : X.heap[w1.heap.size]? = some (.cells (bookC b p cap) 82 (0, 0)) := by rw [← hX]; exact World.alloc_heap_new _ _
      have HPX : Pure w X := HP1.out.trans hPX
      rw [hX]
      clear hX hC0 hC1 hC2 hC3 hPX HP1
      refine (tastes_any X b p cap hs ((HHB.out.diff HPX (Nat.le_refl _) (fun _ _ => id)).mono HPX.size)).mono ?_
      rintro e w2 ⟨rfl, hp2⟩
      obtain ⟨gB, hgB⟩ : ∃ gB, w1.heap.size = gB := ⟨_, rfl⟩
      rw [hgB] at hX1 ⊢
      have hX2 := (hp2.block _ (Array.getElem?_eq_some_iff.1 hX1).1 id).trans hX1
      have hB2 : gB < w2.heap.size := (Array.getElem?_eq_some_iff.1 hX2).1
      have hC0 : w2.cell? ⟨gB, 0, none⟩ = some (.int .i64 b.lo) := by rw [cell_of_row w2 _ _ _ _ _ hX2]; rfl
      have hC1 : w2.cell? ⟨gB, 1, none⟩ = some (.int .i64 b.hi) := by rw [cell_of_row w2 _ _ _ _ _ hX2]; rfl
      have hC2 : w2.cell? ⟨gB, 2, none⟩ = some (.int .i64 b.lots) := by rw [cell_of_row w2 _ _ _ _ _ hX2]; rfl
      have hC3 : w2.cell? ⟨gB, 3, none⟩ = some (.slice p b.n cap) := by rw [cell_of_row w2 _ _ _ _ _ hX2]; rfl
      have HP2 := Lib.hid (HPX.trans hp2)
      clear hX1 hX2 hp2 HPX hgB
      have HL := Lib.hid h1
      clear h1
      by_cases h2 : (ys.length : Int) = b.total
      · have HB2 := (HHB.out.diff HP2.out (Nat.le_refl _) (fun _ _ => id)).mono HP2.out.size
        have HG2 := HG.out.diff HP2.out (fun _ _ => id)
        have hxs2 := (HXS.out.pure (HP2.out.mono (fun _ _ h => h.elim)) (Nat.le_refl _)).mono HP2.out.size
        have hys2 := (HYS.out.pure (HP2.out.mono (fun _ _ h => h.elim)) (Nat.le_refl _)).mono HP2.out.size
        have hT : b.total = ys.length := by omega
        have hal := allows_any w2 b p cap _ _ xs ys hv HB2 HG2 hxs2 hys2 HL.out.symm hT
        have HT := Lib.hid hT
        clear HB2 HG2 hxs2 hys2 hT
        go_wp2_with fail
        refine hal.mono ?_
        rintro e w3 ⟨rfl, hp3⟩
        have HP3 := Lib.hid (HP2.out.trans hp3)
        clear hal hp3
        cases hA : allowsTo b xs ys b.rgN
        · go_wp2_with fail
          exact bodyPost_ret (v := .int .i64 17) (by simp [results, Tryd.results25, go_sem]) rfl ⟨by unfold truthC; rw [if_neg (by have := HCK.out; omega), if_neg (by have := HL.out; have := HT.out; omega), if_pos hA], HP3.out⟩
        · go_wp2_with fail
          exact bodyPost_ret (v := .int .i64 0) (by simp [results, Tryd.results25, go_sem]) rfl ⟨by unfold truthC; rw [if_neg (by have := HCK.out; omega), if_neg (by have := HL.out; have := HT.out; omega), if_neg (by rw [hA]; simp)], HP3.out⟩
      · go_wp2_with fail
        exact bodyPost_ret (v := .int .i64 15) (by simp [results, Tryd.results25, go_sem]) rfl ⟨by unfold truthC; rw [if_neg (by have := HCK.out; omega), if_pos (.inr (by omega))], HP2.out⟩
    · go_wp2_with fail
      exact bodyPost_ret (v := .int .i64 15) (by simp [results, Tryd.results25, go_sem]) rfl ⟨by unfold truthC; rw [if_neg (by have := HCK.out; omega), if_pos (.inl (Ne.symm h1))], HP1.out.trans (by repeat (first | exact Diff.refl _ | apply Diff.alloc))⟩
  · go_wp2_with fail
    exact bodyPost_ret (v := .int .i64 (checkB b)) (by simp [results, Tryd.results25, go_sem]) rfl ⟨by unfold truthC; rw [if_pos hck], HP1.out⟩
end Go.Proofs.YtmedkmbfggphdaaDoor

namespace Go.Proofs.YtmedkmbfggphdaaDoor
open Go.RowKit

def dOk (N : Nat) (f : Nat → Int) (k : Nat) : Bool := decide (0 ≤ f k) && (decide (f k < N) && !((List.range k).any fun j => f j == f k))
def diffTo (N : Nat) (f : Nat → Int) (n : Nat) : Bool := (List.range n).all (dOk N f)
theorem diffTo_succ (N : Nat) (f : Nat → Int) (n : Nat) : diffTo N f (n + 1) = (diffTo N f n && dOk N f n) := by simp [diffTo, List.range_succ]
theorem diffTo_false {N : Nat} {f : Nat → Int} {n k : Nat} (hk : k < n) (h : dOk N f k = false) : diffTo N f n = false := by
  simp only [diffTo, List.all_eq_false, List.mem_range]
  exact ⟨k, hk, by rw [h]; simp⟩
def seenB (f : Nat → Int) (k : Nat) (x : Nat) : Bool := (List.range k).any fun j => f j == x
theorem seenB_succ (f : Nat → Int) (k x y : Nat) (h : f k = y) : seenB f (k + 1) x = if x = y then true else seenB f k x := by
  unfold seenB
  rw [List.range_succ, List.any_append]
  by_cases e : x = y
  · subst e; simp [h]
  · simp [h, e]; intro he; omega

set_option maxHeartbeats 2000000 in
theorem different_any (w : World) (b : BK) (p q : Option Addr) (cap n c : Nat) (f : Nat → Int) (hv : b.Valid) (hb : BookAt w.heap.size w p b) (hn : n ≤ 1000) (hr : Row w.heap.size w q n fun k => .int .i64 (f k)) :
    Calls Tryd.prog 77 #[bookV b p cap, .slice q n c] w fun e w' => e = .returned (.bool (diffTo (1 + b.lots.toNat + b.total) f n)) ∧ Pure w w' := by
  go_enter Tryd.func77, Tryd.ntmps77
  go_wp2_with fail
  obtain ⟨X, hX⟩ : ∃ X, (w.alloc (.cells (bookC b p cap) 82)).alloc (.cells #[.bool false, .bool false, .bool false, .bool false, .bool false, .bool false, .bool false, .bool false, .bool false, .bool false, .bool false, .bool false, .bool false, .bool false, .bool false, .bool false, .bool false, .bool false, .bool false] 120) = X := ⟨_, rfl⟩
  have hK0 : Kept w [(w.heap.size, .cells (bookC b p cap) 82)] X := by
    refine ⟨by rw [← hX]; exact ((Diff.refl w).alloc _).alloc _, fun x hx => ?_⟩
    simp only [List.mem_cons, List.mem_nil_iff, or_false] at hx
    subst hx
    rw [← hX]
    exact (Below.heap_alloc _ _ _ (by simp)).trans (World.alloc_heap_new _ _)
  have hR0 : X.rowIs (w.heap.size + 1) 120 19 (fun x => .bool (seenB f 0 x)) := by
    rw [← hX]
    have := World.rowIs_alloc (w.alloc (.cells (bookC b p cap) 82)) #[.bool false, .bool false, .bool false, .bool false, .bool false, .bool false, .bool false, .bool false, .bool false, .bool false, .bool false, .bool false, .bool false, .bool false, .bool false, .bool false, .bool false, .bool false, .bool false] 120 (fun _ => .bool false) (fun i hi => by rw [show (#[.bool false, .bool false, .bool false, .bool false, .bool false, .bool false, .bool false, .bool false, .bool false, .bool false, .bool false, .bool false, .bool false, .bool false, .bool false, .bool false, .bool false, .bool false, .bool false] : Array Value) = Array.replicate 19 (.bool false) from rfl] at hi ⊢; simp at hi; simp [hi])
    rw [World.size_alloc] at this
    exact this
  rw [hX]
  clear hX
  go_loopw [7, 10] (fun _ i wr => ∃ k : Nat, k ≤ n ∧ i = .int .i64 k ∧ diffTo (1 + b.lots.toNat + b.total) f k = true ∧ Kept w [(w.heap.size, .cells (bookC b p cap) 82)] wr ∧ wr.rowIs (w.heap.size + 1) 120 19 (fun x => .bool (seenB f k x))) (fun _ i _ => n - (intOf i).toNat)
  case atStart => exact ⟨0, Nat.zero_le _, rfl, rfl, hK0, hR0⟩
  case round =>
    obtain ⟨k, hk, rfl, hall, hK, hR⟩ := hrel
    have HA := Lib.hid hall
    have HK := Lib.hid hK
    have HR := Lib.hid hR
    have hl6 := hv.lots6
    have hl1 := hv.lots1
    have h12 := hv.tot
    obtain ⟨N, hN⟩ : ∃ N : Nat, 1 + b.lots.toNat + b.total = N := ⟨_, rfl⟩
    have hNi : 1 + b.lots + b.total = (N : Int) := by omega
    have hN19 : N ≤ 19 := by omega
    rw [hN] at HA
    have HN := Lib.hid hN
    clear hK0 hR0 hall hK hR hN
    by_cases hlt : k < n
    · obtain ⟨blk, o, rfl, hblk, hc0⟩ := hr k hlt
      have hc : wr.cell? ⟨blk, o + k, none⟩ = some (.int .i64 (f k)) := ((pcell HK.out.pw).1 _ _ hblk).trans hc0
      clear hc0
      by_cases h1 : f k < 0
      · have HF : Hid (diffTo N f n = false) := diffTo_false hlt (by simp [dOk]; omega)
        go_wp2_with fail
        exact bodyPost_ret (v := .bool false) (by simp [results, Tryd.results77, go_sem]) rfl ⟨by rw [HN.out, HF.out], HK.out.pw⟩
      · have hB := HK.out.objs (w.heap.size, .cells (bookC b p cap) 82) (by simp)
        have hBl : w.heap.size < wr.heap.size := (Array.getElem?_eq_some_iff.1 hB).1
        have hC0 : wr.cell? ⟨w.heap.size, 0, none⟩ = some (.int .i64 b.lo) := by rw [cell_of_row wr _ _ _ _ _ hB]; rfl
        have hC1 : wr.cell? ⟨w.heap.size, 1, none⟩ = some (.int .i64 b.hi) := by rw [cell_of_row wr _ _ _ _ _ hB]; rfl
        have hC2 : wr.cell? ⟨w.heap.size, 2, none⟩ = some (.int .i64 b.lots) := by rw [cell_of_row wr _ _ _ _ _ hB]; rfl
        have hC3 : wr.cell? ⟨w.heap.size, 3, none⟩ = some (.slice p b.n cap) := by rw [cell_of_row wr _ _ _ _ _ hB]; rfl
        have hnm := names_any wr b p cap hv.small ((hb.diff HK.out.pw (Nat.le_refl _) (fun _ _ => id)).mono HK.out.pw.size) (by omega) (by omega)
        rw [hNi] at hnm
        clear hB
        go_wp2_with fail
        refine hnm.mono ?_
        rintro e w2 ⟨rfl, hp2⟩
        have HK2 := Lib.hid (HK.out.pure hp2)
        have HR2 := Lib.hid (rowPure HR.out hp2)
        clear hC0 hC1 hC2 hC3 hp2 hnm hc
        obtain ⟨x, hx⟩ := Int.eq_ofNat_of_zero_le (show 0 ≤ f k by omega)
        have HX := Lib.hid hx
        rw [hx]
        clear hx h1
        by_cases h2 : x < N
        · have z0 : w2.cell? ⟨w.heap.size + 1, x, none⟩ = some (.bool (seenB f k x)) := HR2.out.cell (by omega)
          have y0 : w2.frozen? ⟨w.heap.size + 1, x, none⟩ = false := HR2.out.frozen x
          have hx19 : x < 19 := by omega
          cases hsn : seenB f k x
          · have HS : Hid (diffTo N f (k + 1) = true) := by
              show _ = true
              rw [diffTo_succ, HA.out]
              unfold seenB at hsn
              simp only [dOk, HX.out, hsn]
              simp; omega
            have HRS : Hid ((w2.setCell ⟨w.heap.size + 1, x, none⟩ (.bool true)).rowIs (w.heap.size + 1) 120 19 (fun z => .bool (seenB f (k + 1) z))) :=
              (HR2.out.set x (.bool true)).congr (fun z _ => by rw [seenB_succ f k z x HX.out]; split <;> rfl)
            rw [hsn] at z0
            go_wp2_with fail
            go_roundw
            case rel => exact ⟨k + 1, by omega, by go_num, by rw [HN.out]; exact HS.out, HK2.out.set (by omega) (by simp), HRS.out⟩
            case measure => simp [intOf]; omega
          · have HF : Hid (diffTo N f n = false) := diffTo_false hlt (by unfold seenB at hsn; simp only [dOk, HX.out, hsn]; simp)
            rw [hsn] at z0
            go_wp2_with fail
            exact bodyPost_ret (v := .bool false) (by simp [results, Tryd.results77, go_sem]) rfl ⟨by rw [HN.out, HF.out], HK2.out.pw⟩
        · have HF : Hid (diffTo N f n = false) := diffTo_false hlt (by simp only [dOk, HX.out]; simp; omega)
          go_wp2_with fail
          exact bodyPost_ret (v := .bool false) (by simp [results, Tryd.results77, go_sem]) rfl ⟨by rw [HN.out, HF.out], HK2.out.pw⟩
    · obtain rfl : n = k := by omega
      go_wp2_with fail
      exact bodyPost_ret (v := .bool true) (by simp [results, Tryd.results77, go_sem]) rfl ⟨by rw [HN.out, HA.out], HK.out.pw⟩
end Go.Proofs.YtmedkmbfggphdaaDoor
