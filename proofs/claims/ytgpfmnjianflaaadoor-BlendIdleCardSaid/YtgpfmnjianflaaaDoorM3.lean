/- Walks of greatest and taken, and neighbours as an iterator. The iterator neighbours. Walk of tariff. Walk of Cheapest. Walks of taken, Corners and Last. Walks of taken, Corners and CheckBlend. -/
import Derived.Test.YtgpfmnjianflaaaDoorM2
import Derived.Shelf.Abstract
import Derived.Shelf.RegionOpen
import Derived.OwnWalkIn
import Derived.TacticsInMore
import Derived.LoopNIn
import Derived.LoopIn
import Derived.Laws.CopyOwn
set_option linter.unusedSimpArgs false
set_option linter.unusedVariables false
set_option linter.constructorNameAsVariable false
namespace Go.Proofs.YtgpfmnjianflaaaDoor
open Go.RowKit

theorem greatest_any (w : World) (L : LT) (p q : Option Addr) (cap c : Nat) (hok : L.Ok) (hl : LotsAt w.heap.size w p L) (hq : RowN w q L.corners) :
    Calls Tryd.prog 82 #[.agg #[.slice p L.n cap, .slice q L.corners.length c]] w fun e w' => e = .returned (.int .i64 (L.s (nthN L.corners (L.corners.length - 1)))) ∧ Pure w w' := by
  have hmx : Tryd.prog.follows .mixedOrders = true := by kernel_rfl
  have hn1 := hok.n0
  have hn8 := hok.n8
  have hpos := corners_pos L (by omega)
  have hle := corners_length L
  obtain ⟨m, hm⟩ : ∃ m, L.corners.length = m := ⟨_, rfl⟩
  obtain ⟨j, hj⟩ : ∃ j, m = j + 1 := ⟨m - 1, by omega⟩
  obtain ⟨y, hy⟩ : ∃ y, nthN L.corners j = y := ⟨_, rfl⟩
  obtain ⟨bq, oq, rfl, hbq, hcq⟩ := hq.at (k := j) (by omega) hy
  have hyn : y < L.n := by rw [← hy]; exact (corner_chain L (by omega)).mem j (by omega)
  obtain ⟨bl, ol, rfl, hbl, hs, -⟩ := hl y hyn
  have HE : Hid (L.s (nthN L.corners (L.corners.length - 1)) = L.s y) := by show _ = _; rw [hm, hj, Nat.add_sub_cancel, hy]
  rw [HE.out, hm]
  have i1 : (y : Int) < (L.n : Int) := by omega
  have i2 : (j : Int) < (m : Int) := by omega
  have w1 : IntKind.i64.wrap ((m : Int) - 1) = (j : Int) := by rw [show (m : Int) - 1 = (j : Int) by omega]; exact IntWalk.i64_in _ (by omega)
  clear hm hj hy hpos hle hok hl hq
  go_enter Tryd.func82, Tryd.ntmps82
  go_wp2
  go_region
  go_wp2
  go_ret
  exact ⟨rfl, ((Diff.refl _).alloc _).drew⟩
end Go.Proofs.YtgpfmnjianflaaaDoor
namespace Go.Proofs.YtgpfmnjianflaaaDoor
open Go.RowKit Go.Shelf
attribute [local go_sem] Oper.semAt_some

/-- What holds between two rounds: i pairs have been yielded; O are the iterator's own blocks, among them its box. -/
def RC (B : Nat) (W : World) (bx : Array Value) (J : Nat → (Nat → Prop) → World → Prop) (i : Nat) (O : Nat → Prop) (wr : World) : Prop :=
  J i O wr ∧ O W.heap.size ∧ (∀ x, O x → W.heap.size ≤ x ∧ x < wr.heap.size) ∧ Blk W.heap.size 89 bx wr ∧ Diff (fun x => B ≤ x) W wr
/-- A round has said no. -/
def RX (B : Nat) (W : World) (Jx : (Nat → Prop) → World → Prop) (O : Nat → Prop) (wr : World) : Prop :=
  Jx O wr ∧ (∀ x, O x → W.heap.size ≤ x ∧ x < wr.heap.size) ∧ Diff (fun x => B ≤ x) W wr
theorem RC.round {B : Nat} {W : World} {bx : Array Value} {J : Nat → (Nat → Prop) → World → Prop} {i : Nat} {O : Nat → Prop} {w w' : World} (h : RC B W bx J i O w)
    (hd : Diff (fun k => ¬ k < B ∧ ¬ O k) w w') (hj : J (i + 1) O w') : RC B W bx J (i + 1) O w' := by
  obtain ⟨h1, h2, h3, h4, h5⟩ := h
  exact ⟨hj, h2, fun x hx => ⟨(h3 x hx).1, Nat.lt_of_lt_of_le (h3 x hx).2 hd.size⟩, h4.diff hd (fun h => h.2 h2), h5.trans (hd.mono (fun k _ h => by have := h.1; omega))⟩
theorem RC.roundX {B : Nat} {W : World} {bx : Array Value} {J : Nat → (Nat → Prop) → World → Prop} {Jx : (Nat → Prop) → World → Prop} {i : Nat} {O : Nat → Prop} {w w' : World} (h : RC B W bx J i O w)
    (hd : Diff (fun k => ¬ k < B ∧ ¬ O k) w w') (hj : Jx O w') : RX B W Jx O w' := by
  obtain ⟨h1, h2, h3, h4, h5⟩ := h
  exact ⟨hj, fun x hx => ⟨(h3 x hx).1, Nat.lt_of_lt_of_le (h3 x hx).2 hd.size⟩, h5.trans (hd.mono (fun k _ h => by have := h.1; omega))⟩

set_option maxHeartbeats 4000000 in
theorem neighbours_iter (W0 : World) (v0 : Value) (q : Option Addr) (C : List Nat) (m c B : Nat) (hm : C.length = m) (hm1 : 1 ≤ m) (hm8 : m ≤ 1000) (hq : Row B W0 q m fun k => .int .i64 (nthN C k : Int)) (hB : B ≤ W0.heap.size) (hv0 : ∃ p n cap, v0 = .slice p n cap) :
    Iter Tryd.prog 87 (fun y => #[.agg #[v0, .slice q m c], y]) m (fun i => #[.int .i64 (nthN C (i - 1) : Int), .int .i64 (nthN C i : Int)]) (fun k => k < B) W0 := by
  obtain ⟨p, n, cap, rfl⟩ := hv0
  intro l J Jx W hR hD hJ hJx hY h0
  have hro : Fence.wide.round = none := rfl
  refine callsIn_of_wp Tryd.func87 rfl trivial ?_ hro
  simp only [Tryd.ntmps87, List.size_toArray, List.length_cons, List.length_nil, Nat.reduceAdd, Nat.reduceSub, Array.replicate_succ, Array.replicate_zero, List.push_toArray, List.append_toArray, List.nil_append, List.cons_append]
  have hBW : B ≤ W.heap.size := Nat.le_trans hB hD.size
  have hqW : Row B W q m fun k => .int .i64 (nthN C k : Int) := hq.diff hD hB (fun k hk h => h hk)
  obtain ⟨bq, oq, hqq, hbq, hc0⟩ := hqW 0 (by omega)
  subst hqq
  have hm0 : (0 : Int) < (m : Int) := by omega
  have d0 : (W.alloc (.cells #[.slice p n cap, .slice (some ⟨bq, oq, none⟩) m c] 89)).cell? ⟨bq, oq, none⟩ = some (.int .i64 (nthN C 0 : Int)) := by
    refine (((Diff.refl (O := fun _ => False) W).alloc _).cell (p := ⟨bq, oq, none⟩) (by show bq < _; omega) id).trans ?_
    rw [← Nat.add_zero oq]; exact hc0
  have HQW := Lib.hid hqW
  have HY := Lib.hid hY
  clear hq hqW hY hc0
  gi_wp2
  obtain ⟨X, hX⟩ : ∃ V, W.alloc (.cells #[.slice p n cap, .slice (some ⟨bq, oq, none⟩) m c] 89) = V := ⟨_, rfl⟩
  have hRC : Hid (RC B W #[.slice p n cap, .slice (some ⟨bq, oq, none⟩) m c] J 0 (fun k => k = W.heap.size) X) := by
    rw [← hX]
    exact ⟨hJ 0 _ _ _ _ h0 ((Diff.refl W).alloc _) (fun x hx => .inr (by omega)), rfl, fun x hx => by subst hx; exact ⟨Nat.le_refl _, by simp⟩, Blk.new _ _ _, (Diff.refl W).alloc _⟩
  rw [hX]
  clear hX d0 h0
  gi_loopw [4, 14] (fun lv i wr => ∃ (k : Nat) (O : Nat → Prop), k ≤ m ∧ lv = .int .i64 (nthN C (k - 1) : Int) ∧ i = .int .i64 k ∧ Hid (RC B W #[.slice p n cap, .slice (some ⟨bq, oq, none⟩) m c] J k O wr)) (fun _ i _ => m - (intOf i).toNat)
  case atStart => exact ⟨0, _, Nat.zero_le _, rfl, rfl, hRC.out⟩
  case round =>
    obtain ⟨k, O, hk, rfl, rfl, HRC⟩ := hrel
    by_cases hlt : k < m
    · obtain ⟨b', o', hq', -, hck⟩ := HQW.out k hlt
      cases hq'
      have c2 : wr.cell? ⟨bq, oq + k, none⟩ = some (.int .i64 (nthN C k : Int)) := (HRC.out.2.2.2.2.cell (p := ⟨bq, oq + k, none⟩) (by show bq < _; omega) (by show ¬ B ≤ bq; omega)).trans hck
      have hki : (k : Int) < (m : Int) := by omega
      obtain ⟨fn, tmps, assign, body, hy, hRd⟩ := HY.out k O wr hlt HRC.out.1 HRC.out.2.2.1 HRC.out.2.2.2.2.size
      clear hck
      gi_wp2_with fail
      refine ⟨rfl, RoundIn.mono hRd ?_⟩
      rintro e W' ⟨hdf, (⟨rfl, hj⟩ | ⟨rfl, hj⟩)⟩
      · have HRC2 := Lib.hid (HRC.out.round hdf hj)
        clear hRd hy hdf hj c2
        gi_wp2
        go_roundw
        case rel => exact ⟨k + 1, O, by omega, rfl, by go_num, HRC2.out⟩
        case measure => simp [intOf]; omega
      · have HRX := Lib.hid (HRC.out.roundX hdf hj)
        clear hRd hy hdf hj c2
        gi_wp2
        exact bodyPost_ret (results_none rfl _ _ _) rfl ⟨⟨_, rfl⟩, O, fun x hx => (HRX.out.2.1 x hx).1, .inr HRX.out.1⟩
    · obtain rfl : k = m := by omega
      gi_wp2
      refine bodyPost_end (results_none rfl _ _ _) rfl ?_
      exact ⟨⟨_, rfl⟩, O, fun x hx => (HRC.out.2.2.1 x hx).1, .inl HRC.out.1⟩
end Go.Proofs.YtgpfmnjianflaaaDoor
namespace Go.Proofs.YtgpfmnjianflaaaDoor
open Go.RowKit Go.Shelf
attribute [local go_sem] Oper.semAt_some

/-- The objects K stand in memory, and all that lay in w. -/
structure Kept (w : World) (K : List (Nat × Obj)) (wr : World) : Prop where
  pw : Pure w wr
  objs : ∀ x ∈ K, wr.heap[x.1]? = some x.2
theorem Kept.pure {w wr wr' : World} {K : List (Nat × Obj)} (h : Kept w K wr) (hp : Pure wr wr') : Kept w K wr' :=
  ⟨h.pw.trans hp, fun x hx => (hp.block _ (Array.getElem?_eq_some_iff.1 (h.objs x hx)).1 (fun h => h)).trans (h.objs x hx)⟩
theorem Kept.set {w wr : World} {K : List (Nat × Obj)} (h : Kept w K wr) {gs o : Nat} {v : Value} (h1 : w.heap.size ≤ gs) (h2 : ∀ x ∈ K, x.1 ≠ gs) : Kept w K (wr.setCell ⟨gs, o, none⟩ v) :=
  ⟨h.pw.setCell (fun hl => absurd hl (by simp; omega)) _, fun x hx => (heap_setCell_other _ _ _ _ (h2 x hx)).trans (h.objs x hx)⟩
/-- Between two rounds of a range over a function: the objects K, all of blocks below S, stand; X holds. -/
structure NI (w : World) (K : List (Nat × Obj)) (S : Nat) (X : Prop) (O : Nat → Prop) (W : World) : Prop where
  kept : Kept w K W
  own : ∀ k, O k → S ≤ k
  low : ∀ x ∈ K, x.1 < S
  big : S ≤ W.heap.size
  ok : X
theorem NI.stable {w : World} {K : List (Nat × Obj)} {S : Nat} {X : Prop} (hS : w.heap.size ≤ S) : Stable (NI w K S X) := by
  intro O O' x y h hd hO
  refine ⟨⟨h.kept.pw.trans' (O' := O) hd (fun k hk ho => by have := h.own k ho; omega), fun z hz => (hd.block _ (Array.getElem?_eq_some_iff.1 (h.kept.objs z hz)).1 (fun ho => by have := h.own _ ho; have := h.low z hz; omega)).trans (h.kept.objs z hz)⟩, ?_, h.low, Nat.le_trans h.big hd.size, h.ok⟩
  intro k hk
  rcases hO k hk with h' | h'
  · exact h.own k h'
  · have := h.big; omega
theorem NI.pure {w : World} {K : List (Nat × Obj)} {S : Nat} {X : Prop} {O : Nat → Prop} {W W' : World} (h : NI w K S X O W) (hp : Pure W W') : NI w K S X O W' :=
  ⟨h.kept.pure hp, h.own, h.low, Nat.le_trans h.big hp.size, h.ok⟩


/-- What the line through two lots is at a sharpness. -/
def lineAt (L : LT) (l r : Nat) (t : Nat) : Int × Int :=
  (redN (thX (L.s l) (L.p l) (L.s r) (L.p r) + (L.p r - L.p l) * (t : Int)) (thD (L.s l) (L.s r)), redD (thX (L.s l) (L.p l) (L.s r) (L.p r) + (L.p r - L.p l) * (t : Int)) (thD (L.s l) (L.s r)))
/-- The tariff when the line through two lots has been laid up to a sharpness. -/
def laidTo (L : LT) (l r : Nat) (f : Nat → Int × Int) (u : Int) : Nat → Int × Int := fun t => if L.s l ≤ (t : Int) ∧ (t : Int) < u then lineAt L l r t else f t
/-- The tariff behind i corners. -/
def tarTo (L : LT) (C : List Nat) : Nat → Nat → Int × Int
  | 0 => fun _ => pr0
  | i + 1 => laidTo L (nthN C (i - 1)) (nthN C i) (tarTo L C i) (L.s (nthN C i) + 1)
theorem laidTo_start (L : LT) (l r : Nat) (f : Nat → Int × Int) : laidTo L l r f (L.s l) = f := by
  funext t; unfold laidTo; rw [if_neg (by omega)]
theorem laidTo_step (L : LT) (l r : Nat) (f : Nat → Int × Int) (u : Nat) (h : L.s l ≤ (u : Int)) : setF (laidTo L l r f u) u (lineAt L l r u) = laidTo L l r f ((u : Int) + 1) := by
  funext t
  unfold setF laidTo
  by_cases e : t = u
  · subst e; rw [if_pos rfl, if_pos ⟨h, by omega⟩]
  · rw [if_neg e]
    by_cases h2 : L.s l ≤ (t : Int) ∧ (t : Int) < u
    · rw [if_pos h2, if_pos ⟨h2.1, by omega⟩]
    · rw [if_neg h2, if_neg (by omega)]

theorem zero85 : Tryd.zeroCells85 = tab0 := by kernel_rfl
set_option maxRecDepth 20000 in
set_option maxHeartbeats 4000000 in
theorem tariff_any (w : World) (L : LT) (p q : Option Addr) (cap c : Nat) (hok : L.Ok) (hl : LotsAt w.heap.size w p L) (hq : RowN w q L.corners) :
    Calls Tryd.prog 66 #[.agg #[.slice p L.n cap, .slice q L.corners.length c]] w fun e w' => e = .returned (.agg (tabV (tarTo L L.corners L.corners.length))) ∧ Pure w w' := by
  obtain ⟨C, hC⟩ : ∃ C, L.corners = C := ⟨_, rfl⟩
  have hch := corner_chain L (by have := hok.n0; omega)
  have hpos := corners_pos L (by have := hok.n0; omega)
  have hle := corners_length L
  have hn8 := hok.n8
  rw [hC] at hq hch hpos hle ⊢
  obtain ⟨m, hm⟩ : ∃ m, C.length = m := ⟨_, rfl⟩
  rw [hm] at hch hpos hle ⊢
  have HM := Lib.hid hm
  have HL := Lib.hid hl
  have HQ := Lib.hid hq
  have HOK := Lib.hid hok
  have HCH := Lib.hid hch
  clear hC hm hl hq hok hch
  refine (callsIn_wide (n := 0)).1 ?_
  have hro : Fence.wide.round = none := rfl
  refine callsIn_of_wp_marks (n := 0) Tryd.func66 rfl trivial ?_ hro
  simp only [Tryd.ntmps66, List.size_toArray, List.length_cons, List.length_nil, Nat.reduceAdd, Nat.reduceSub, Array.replicate_succ, Array.replicate_zero, List.push_toArray, List.append_toArray, List.nil_append, List.cons_append]
  refine wpIn_seq (wpIn_wide.2 ?_)
  go_wp2_with fail
  obtain ⟨X, hX⟩ : ∃ V : World, (w.alloc (.cells #[.slice p L.n cap, .slice q m c] 89)).alloc (.cells Tryd.zeroCells85 85) = V := ⟨_, rfl⟩
  have k0 : Blk w.heap.size 89 #[.slice p L.n cap, .slice q m c] X := by rw [← hX]; exact (Blk.new _ _ _).alloc _
  have k1 : TabAt (w.heap.size + 1) (fun _ => pr0) X := by
    rw [← hX, zero85]
    have := Blk.new (w.alloc (.cells #[.slice p L.n cap, .slice q m c] 89)) 85 tab0
    rwa [World.size_alloc] at this
  have hP : Pure w X := by rw [← hX]; exact ((Diff.refl _).alloc _).alloc _
  rw [hX]
  clear hX
  refine wpIn_seq (wpIn_wide.2 ?_)
  go_wp2_with fail
  refine (none_any X).mono ?_
  rintro e w1 ⟨rfl, hp1⟩
  go_wp2_with (first | (refine wpList_alloc_table rfl rfl ?_) | (refine wpList_store_table rfl (.tmp 3) (.tmp 8) rfl w1.heap.size (fun _ => pr0) (fun _ => pr0) rfl rfl (World.alloc_heap_new _ _) ?_))
  obtain ⟨Y, hY⟩ : ∃ V : World, (w1.alloc (.cells tab0 85)).setRow w1.heap.size (tabV fun _ => pr0) = V := ⟨_, rfl⟩
  have hs1 : w.heap.size + 2 ≤ w1.heap.size := by have := k1.lt; have := hp1.size; omega
  have hpY : Pure w1 Y := by rw [← hY]; exact ((Diff.refl w1).alloc _).setRow (fun h => by omega) _
  have kY : TabAt w1.heap.size (fun _ => pr0) Y := by rw [← hY]; exact setRow_heap _ _ _ _ _ _ (World.alloc_heap_new _ _)
  rw [hY]
  clear hY
  have K0 : Hid (Blk w.heap.size 89 #[.slice p L.n cap, .slice q m c] Y) := (k0.to hp1).to hpY
  have K1 : Hid (TabAt (w.heap.size + 1) (fun _ => pr0) Y) := (k1.to hp1).to hpY
  have HP : Hid (Pure w Y) := (hP.trans hp1).trans hpY
  have HY := Lib.hid kY
  have HS1 := Lib.hid hs1
  obtain ⟨G2, hG2⟩ : ∃ G, w1.heap.size = G := ⟨_, rfl⟩
  rw [hG2] at HY HS1 ⊢
  obtain ⟨G1, hG1⟩ : ∃ G, w.heap.size + 1 = G := ⟨_, rfl⟩
  have HG1 : Hid (w.heap.size + 1 = G1) := hG1
  rw [hG1] at K1 ⊢
  generalize tab0 = t8
  clear hG1 hG2 hs1 kY hpY k0 k1 hP hp1
  have c0 := K0.out.at 0
  have c1 := K0.out.at 1
  have l0 := K0.out.lt
  simp only [Act.put, List.setIfInBounds_toArray, List.set_cons_zero, List.set_cons_succ]
  gi_wp2_with fail
  rename_i Q9 K9 hK9
  have hRow : Row w.heap.size Y q m fun k => .int .i64 (nthN C k : Int) := by have := HQ.out; unfold RowN at this; rw [HM.out] at this; exact this.diff HP.out (Nat.le_refl _) (fun _ _ => id)
  refine range_law (f := 87) (A := fun y => #[.agg #[.slice p L.n cap, .slice q m c], y]) (n := m) (es := fun i => #[.int .i64 (nthN C (i - 1) : Int), .int .i64 (nthN C i : Int)]) (R := fun k => k < w.heap.size) (W0 := Y)
    ?call (neighbours_iter Y (.slice p L.n cap) q C m c w.heap.size HM.out (by omega) (by omega) hRow HP.out.size ⟨_, _, _, rfl⟩) (fun k hk => Nat.lt_of_lt_of_le hk HP.out.size) (Diff.refl _) (fun _ _ => rfl)
    (fun i => NI w [(w.heap.size, .cells #[.slice p L.n cap, .slice q m c] 89), (G1, .cells (tabV fun _ => pr0) 85), (G2, .cells (tabV (tarTo L C i)) 85)] (G2 + 1) True) (fun _ _ => False) (fun i => NI.stable (by have := HS1.out; omega)) (fun _ _ _ _ h _ _ => h) ?start
    (fun i W1 a' W' => a' = { tmps := #[Value.agg #[Value.slice p L.n cap, Value.slice q m c], Value.pointer (some { block := w.heap.size, off := 0 }), Value.pointer (some { block := G1, off := 0 }), Value.pointer (some { block := G2, off := 0 }), Value.int IntKind.i64 (nthN C (i - 1) : Int), Value.int IntKind.i64 (nthN C i : Int), undef, undef, Value.agg t8, Value.agg #[Value.slice p L.n cap, Value.slice q m c], Value.func (Fn.func 87) #[Value.agg #[Value.slice p L.n cap, Value.slice q m c]] #[], Value.int IntKind.i64 (nthN C (i - 1) : Int), Value.int IntKind.i64 (nthN C i : Int), undef, undef, undef, undef, undef, undef, undef, undef, undef, undef, undef, undef, undef, undef, undef, undef, undef, undef, undef, undef, undef, undef, undef, undef, undef, undef, undef, undef, undef, undef, undef, undef, undef, undef, undef, undef, undef, undef], defers := [] })
    ?bx ?assign ?body ?done ?stop
  case call =>
    intro l' W'
    exact ⟨{ target := .fn (.func 87) #[], args := #[.agg #[.slice p L.n cap, .slice q m c], .func (.yield l') #[] #[]] }, by simp only [resolve, rangeCall]; simp [go_sem], by simp [invoke, go_sem, enters_of Tryd.func87 (by kernel_rfl) rfl]⟩
  case start =>
    refine ⟨⟨HP.out, ?_⟩, fun _ h => h.elim, ?_, HY.out.lt, trivial⟩
    · intro x hx
      simp only [List.mem_cons, List.mem_nil_iff, or_false] at hx
      rcases hx with rfl | rfl | rfl
      · exact K0.out
      · exact K1.out
      · exact HY.out
    · intro x hx
      have := HS1.out
      have := HG1.out
      simp only [List.mem_cons, List.mem_nil_iff, or_false] at hx
      rcases hx with rfl | rfl | rfl <;> simp only <;> omega
  case bx =>
    rintro i W1 a' W' L o h hL
    exact h
  case assign =>
    intro l' i O W1 hi hI
    gi_wp2
    exact ⟨Diff.refl _, by first | rfl | trivial⟩
  case body =>
    rintro l' i O W1 a' V hi hI hdo hOb hs1' hs2 rfl
    have hN := NI.stable (by have := HS1.out; omega) O O _ _ hI hdo (fun _ h => .inl h)
    have HN := Lib.hid hN
    have HCH1 := HCH.out
    obtain ⟨x0, hx0⟩ : ∃ x, nthN C (i - 1) = x := ⟨_, rfl⟩
    obtain ⟨x1, hx1⟩ : ∃ x, nthN C i = x := ⟨_, rfl⟩
    have hn0 : x0 < L.n := by rw [← hx0]; exact HCH1.mem (i - 1) (by omega)
    have hn1 : x1 < L.n := by rw [← hx1]; exact HCH1.mem i (by omega)
    have hle01 : L.s x0 ≤ L.s x1 := by rw [← hx0, ← hx1]; exact HCH1.mono (by omega) (by omega)
    have HX : Hid (nthN C (i - 1) = x0 ∧ nthN C i = x1) := ⟨hx0, hx1⟩
    rw [hx0, hx1]
    have hpw := hN.kept.pw
    obtain ⟨bl, ol, hpl, hbl, hs0, hp0⟩ := HL.out x0 hn0
    subst hpl
    obtain ⟨bl', ol', hpl, -, hs1, hp1⟩ := HL.out x1 hn1
    cases hpl
    have e1 := ((pcell hpw).1 _ _ hbl).trans hs0
    have e2 := ((pcell hpw).1 _ _ hbl).trans hp0
    have e3 := ((pcell hpw).1 _ _ hbl).trans hs1
    have e4 := ((pcell hpw).1 _ _ hbl).trans hp1
    have kV : Blk w.heap.size 89 #[.slice (some { block := bl, off := ol }) L.n cap, .slice q m c] V := hN.kept.objs (w.heap.size, .cells #[.slice (some { block := bl, off := ol }) L.n cap, .slice q m c] 89) (by simp)
    have e0 : V.cell? ⟨w.heap.size, 0, none⟩ = some (.slice (some { block := bl, off := ol }) L.n cap) := kV.at 0
    have lV := kV.lt
    have lB : bl < V.heap.size := Nat.lt_of_lt_of_le hbl hpw.size
    have hn0i : (x0 : Int) < (L.n : Int) := by omega
    have hn1i : (x1 : Int) < (L.n : Int) := by omega
    have hmx : Tryd.prog.follows .mixedOrders = true := by kernel_rfl
    clear hx0 hx1 hN hI hdo hs0 hp0 hs1 hp1 hpw kV HCH1 hRow c0 c1 l0
    gi_wp2
    refine reg_inv (fun d a W => a = { tmps := #[Value.agg #[Value.slice (some { block := bl, off := ol }) L.n cap, Value.slice q m c], Value.pointer (some { block := w.heap.size, off := 0 }), Value.pointer (some { block := G1, off := 0 }), Value.pointer (some { block := G2, off := 0 }), Value.int IntKind.i64 (x0 : Int), Value.int IntKind.i64 (x1 : Int), (bif d 14 then Value.func (Fn.func 77) #[Value.agg #[Value.int IntKind.i64 (thD (L.s x0) (L.s x1)), Value.int IntKind.i64 (thX (L.s x0) (L.p x0) (L.s x1) (L.p x1)), Value.int IntKind.i64 (L.p x1 - L.p x0)]] #[] else undef), undef, Value.agg t8, Value.agg #[Value.slice (some { block := bl, off := ol }) L.n cap, Value.slice q m c], Value.func (Fn.func 87) #[Value.agg #[Value.slice (some { block := bl, off := ol }) L.n cap, Value.slice q m c]] #[], Value.int IntKind.i64 (x0 : Int), Value.int IntKind.i64 (x1 : Int), (bif d 0 then Value.pointer (some { block := w.heap.size, off := 0 }) else undef), (bif d 1 then Value.pointer (some { block := w.heap.size, off := 0 }) else undef), (bif d 2 then Value.slice (some { block := bl, off := ol }) L.n cap else undef), (bif d 3 then Value.int IntKind.i64 (x0 : Int) else undef), (bif d 4 then Value.pointer (some { block := bl, off := ol + x0 * 2 }) else undef), (bif d 5 then Value.agg #[Value.int IntKind.i64 (L.s x0), Value.int IntKind.i64 (L.p x0)] else undef), (bif d 6 then Value.pointer (some { block := w.heap.size, off := 0 }) else undef), (bif d 7 then Value.pointer (some { block := w.heap.size, off := 0 }) else undef), (bif d 8 then Value.slice (some { block := bl, off := ol }) L.n cap else undef), (bif d 9 then Value.int IntKind.i64 (x1 : Int) else undef), (bif d 10 then Value.pointer (some { block := bl, off := ol + x1 * 2 }) else undef), (bif d 11 then Value.agg #[Value.int IntKind.i64 (L.s x1), Value.int IntKind.i64 (L.p x1)] else undef), (bif d 12 then Value.agg #[Value.int IntKind.i64 (thD (L.s x0) (L.s x1)), Value.int IntKind.i64 (thX (L.s x0) (L.p x0) (L.s x1) (L.p x1)), Value.int IntKind.i64 (L.p x1 - L.p x0)] else undef), (bif d 13 then Value.func (Fn.func 77) #[Value.agg #[Value.int IntKind.i64 (thD (L.s x0) (L.s x1)), Value.int IntKind.i64 (thX (L.s x0) (L.p x0) (L.s x1) (L.p x1)), Value.int IntKind.i64 (L.p x1 - L.p x0)]] #[] else undef), undef, undef, undef, undef, undef, undef, undef, undef, undef, undef, undef, undef, undef, undef, undef, undef, undef, undef, undef, undef, undef, undef, undef, undef], defers := [] } ∧ Hid (Pure V W)) hmx (by kernel_rfl) ?_ ?_ ?_
    · exact ⟨rfl, (Diff.refl V).drew⟩
    · refine ⟨?_, ?_, ?_, ?_, ?_, ?_, ?_, ?_, ?_, ?_, ?_, ?_, ?_, ?_, ?_, trivial⟩
      · rintro d a W hdi hdep hcl ⟨rfl, hw⟩ K hK
        have E := hcl.facts 0 hdi rfl hdep [] [1, 2, 4, 5, 12, 13, 14] (by kernel_rfl) (by kernel_rfl)
        simp only [AllT, AllF] at E
        clear hdi hdep hcl
        go_simp
        exact hK _ _ ⟨by simp [upd, E], hw⟩
      · rintro d a W hdi hdep hcl ⟨rfl, hw⟩ K hK
        have E := hcl.facts 1 hdi rfl hdep [0] [2, 4, 5, 12, 13, 14] (by kernel_rfl) (by kernel_rfl)
        simp only [AllT, AllF] at E
        clear hdi hdep hcl
        go_simp
        exact hK _ _ ⟨by simp [upd, E], hw⟩
      · rintro d a W hdi hdep hcl ⟨rfl, hw⟩ K hK
        have E := hcl.facts 2 hdi rfl hdep [0, 1] [4, 5, 12, 13, 14] (by kernel_rfl) (by kernel_rfl)
        simp only [AllT, AllF] at E
        clear hdi hdep hcl
        have z0 := ((pcell hw.out).1 _ _ lV).trans e0
        go_simp
        exact hK _ _ ⟨by simp [upd, E], hw⟩
      · rintro d a W hdi hdep hcl ⟨rfl, hw⟩ K hK
        have E := hcl.facts 3 hdi rfl hdep [] [4, 5, 12, 13, 14] (by kernel_rfl) (by kernel_rfl)
        simp only [AllT, AllF] at E
        clear hdi hdep hcl
        go_simp
        exact hK _ _ ⟨by simp [upd, E], hw⟩
      · rintro d a W hdi hdep hcl ⟨rfl, hw⟩ K hK
        have E := hcl.facts 4 hdi rfl hdep [0, 1, 2, 3] [5, 12, 13, 14] (by kernel_rfl) (by kernel_rfl)
        simp only [AllT, AllF] at E
        clear hdi hdep hcl
        go_simp
        exact hK _ _ ⟨by simp [upd, E], hw⟩
      · rintro d a W hdi hdep hcl ⟨rfl, hw⟩ K hK
        have E := hcl.facts 5 hdi rfl hdep [0, 1, 2, 3, 4] [12, 13, 14] (by kernel_rfl) (by kernel_rfl)
        simp only [AllT, AllF] at E
        clear hdi hdep hcl
        have z1 := ((pcell hw.out).1 _ _ lB).trans e1
        have z2 := ((pcell hw.out).1 _ _ lB).trans e2
        go_simp
        exact hK _ _ ⟨by simp [upd, E], hw⟩
      · rintro d a W hdi hdep hcl ⟨rfl, hw⟩ K hK
        have E := hcl.facts 6 hdi rfl hdep [] [7, 8, 10, 11, 12, 13, 14] (by kernel_rfl) (by kernel_rfl)
        simp only [AllT, AllF] at E
        clear hdi hdep hcl
        go_simp
        exact hK _ _ ⟨by simp [upd, E], hw⟩
      · rintro d a W hdi hdep hcl ⟨rfl, hw⟩ K hK
        have E := hcl.facts 7 hdi rfl hdep [6] [8, 10, 11, 12, 13, 14] (by kernel_rfl) (by kernel_rfl)
        simp only [AllT, AllF] at E
        clear hdi hdep hcl
        go_simp
        exact hK _ _ ⟨by simp [upd, E], hw⟩
      · rintro d a W hdi hdep hcl ⟨rfl, hw⟩ K hK
        have E := hcl.facts 8 hdi rfl hdep [6, 7] [10, 11, 12, 13, 14] (by kernel_rfl) (by kernel_rfl)
        simp only [AllT, AllF] at E
        clear hdi hdep hcl
        have z0 := ((pcell hw.out).1 _ _ lV).trans e0
        go_simp
        exact hK _ _ ⟨by simp [upd, E], hw⟩
      · rintro d a W hdi hdep hcl ⟨rfl, hw⟩ K hK
        have E := hcl.facts 9 hdi rfl hdep [] [10, 11, 12, 13, 14] (by kernel_rfl) (by kernel_rfl)
        simp only [AllT, AllF] at E
        clear hdi hdep hcl
        go_simp
        exact hK _ _ ⟨by simp [upd, E], hw⟩
      · rintro d a W hdi hdep hcl ⟨rfl, hw⟩ K hK
        have E := hcl.facts 10 hdi rfl hdep [6, 7, 8, 9] [11, 12, 13, 14] (by kernel_rfl) (by kernel_rfl)
        simp only [AllT, AllF] at E
        clear hdi hdep hcl
        go_simp
        exact hK _ _ ⟨by simp [upd, E], hw⟩
      · rintro d a W hdi hdep hcl ⟨rfl, hw⟩ K hK
        have E := hcl.facts 11 hdi rfl hdep [6, 7, 8, 9, 10] [12, 13, 14] (by kernel_rfl) (by kernel_rfl)
        simp only [AllT, AllF] at E
        clear hdi hdep hcl
        have z1 := ((pcell hw.out).1 _ _ lB).trans e3
        have z2 := ((pcell hw.out).1 _ _ lB).trans e4
        go_simp
        exact hK _ _ ⟨by simp [upd, E], hw⟩
      · rintro d a W hdi hdep hcl ⟨rfl, hw⟩ K hK
        have E := hcl.facts 12 hdi rfl hdep [0, 1, 2, 3, 4, 5, 6, 7, 8, 9, 10, 11] [13, 14] (by kernel_rfl) (by kernel_rfl)
        simp only [AllT, AllF] at E
        clear hdi hdep hcl
        go_simp
        refine ⟨trivial, rfl, callsIn_wide.2 ((through_any W (L.s x0) (L.p x0) (L.s x1) (L.p x1) hle01 ⟨HOK.out.s0 x0 hn0, HOK.out.s1 x0 hn0⟩ ⟨HOK.out.s0 x1 hn1, HOK.out.s1 x1 hn1⟩ ⟨HOK.out.p0 x0 hn0, HOK.out.p1 x0 hn0⟩ ⟨HOK.out.p0 x1 hn1, HOK.out.p1 x1 hn1⟩).mono ?_)⟩
        rintro e w9 ⟨rfl, hp9⟩
        exact hK _ _ ⟨by simp [upd, E], hw.out.trans hp9⟩
      · rintro d a W hdi hdep hcl ⟨rfl, hw⟩ K hK
        have E := hcl.facts 13 hdi rfl hdep [0, 1, 2, 3, 4, 5, 6, 7, 8, 9, 10, 11, 12] [14] (by kernel_rfl) (by kernel_rfl)
        simp only [AllT, AllF] at E
        clear hdi hdep hcl
        go_simp
        exact hK _ _ ⟨by simp [upd, E], hw⟩
      · rintro d a W hdi hdep hcl ⟨rfl, hw⟩ K hK
        have E := hcl.facts 14 hdi rfl hdep [0, 1, 2, 3, 4, 5, 6, 7, 8, 9, 10, 11, 12, 13] [] (by kernel_rfl) (by kernel_rfl)
        simp only [AllT, AllF] at E
        clear hdi hdep hcl
        go_simp
        exact hK _ _ ⟨by simp [upd, E], hw⟩
    · rintro d a W hall ⟨rfl, hw⟩
      have E := AllT.all hall [0, 1, 2, 3, 4, 5, 6, 7, 8, 9, 10, 11, 12, 13, 14] (by kernel_rfl)
      simp only [AllT] at E
      simp only [E, cond_true] at hw ⊢
      clear E hall
      have hpV := hw.out
      have HPV := Lib.hid hw.out
      have HNV := Lib.hid (HN.out.pure hpV)
      have z0 := ((pcell hpV).1 _ _ lV).trans e0
      have z1 := ((pcell hpV).1 _ _ lB).trans e1
      have z3 := ((pcell hpV).1 _ _ lB).trans e3
      have lVW : w.heap.size < W.heap.size := Nat.lt_of_lt_of_le lV hpV.size
      clear hw hpV e0 e1 e2 e3 e4
      gi_wp2
      have hMW : Diff (fun k => ¬ k < w.heap.size ∧ ¬ O k) V W := HPV.out.mono fun _ _ h => h.elim
      have HMW := Lib.hid hMW
      have hd0 : 1 ≤ thD (L.s x0) (L.s x1) ∧ thD (L.s x0) (L.s x1) ≤ 100 := by unfold thD; have := HOK.out.s0 x0 hn0; have := HOK.out.s1 x1 hn1; split <;> omega
      have hxb : -1048576 ≤ thX (L.s x0) (L.p x0) (L.s x1) (L.p x1) ∧ thX (L.s x0) (L.p x0) (L.s x1) (L.p x1) ≤ 1048576 := by
        have a1 := mul_bnd (a := L.p x0) (b := thD (L.s x0) (L.s x1)) 1000 100 (by have := HOK.out.p0 x0 hn0; omega) (HOK.out.p1 x0 hn0) (by omega) hd0.2
        have a2 := mul_bnd (a := L.p x1 - L.p x0) (b := L.s x0) 1000 100 (by have := HOK.out.p1 x0 hn0; have := HOK.out.p0 x1 hn1; omega) (by have := HOK.out.p0 x0 hn0; have := HOK.out.p1 x1 hn1; omega) (by have := HOK.out.s0 x0 hn0; omega) (HOK.out.s1 x0 hn0)
        unfold thX; omega
      have hyb : -1048576 ≤ L.p x1 - L.p x0 ∧ L.p x1 - L.p x0 ≤ 1048576 := by have := HOK.out.p0 x0 hn0; have := HOK.out.p1 x0 hn0; have := HOK.out.p0 x1 hn1; have := HOK.out.p1 x1 hn1; omega
      have HDB := Lib.hid hd0
      have HXB := Lib.hid hxb
      have HYB := Lib.hid hyb
      have hs00 := HOK.out.s0 x0 hn0
      have hs11 := HOK.out.s1 x1 hn1
      clear hMW hd0 hxb hyb
      gi_loopw [7] (fun iv wr => ∃ u : Nat, iv = .int .i64 (u : Int) ∧ L.s x0 ≤ (u : Int) ∧ (u : Int) ≤ L.s x1 + 1 ∧ Hid (NI w [(w.heap.size, .cells #[.slice (some { block := bl, off := ol }) L.n cap, .slice q m c] 89), (G1, .cells (tabV fun _ => pr0) 85), (G2, .cells (tabV (laidTo L x0 x1 (tarTo L C i) (u : Int))) 85)] (G2 + 1) True O wr) ∧ Hid (Diff (fun k => ¬ k < w.heap.size ∧ ¬ O k) V wr)) (fun iv _ => (L.s x1 + 1 - intOf iv).toNat)
      case atStart =>
        obtain ⟨u, hu⟩ := Int.eq_ofNat_of_zero_le hs00
        exact ⟨u, by rw [hu], by omega, by omega, by
          have e := laidTo_start L x0 x1 (tarTo L C i)
          rw [hu] at e
          show NI w [(w.heap.size, .cells #[.slice (some { block := bl, off := ol }) L.n cap, .slice q m c] 89), (G1, .cells (tabV fun _ => pr0) 85), (G2, .cells (tabV (laidTo L x0 x1 (tarTo L C i) (u : Int))) 85)] (G2 + 1) True O W
          have e' : laidTo L x0 x1 (tarTo L C i) (u : Int) = tarTo L C i := e
          rw [e']; exact HNV.out, HMW.out⟩
      case round =>
        obtain ⟨u, rfl, hu0, hu1, HNU, HDU⟩ := hrel
        have hkp := HNU.out.kept
        have kW : Blk w.heap.size 89 #[.slice (some { block := bl, off := ol }) L.n cap, .slice q m c] wr := hkp.objs (w.heap.size, .cells #[.slice (some { block := bl, off := ol }) L.n cap, .slice q m c] 89) (by simp)
        have kT : TabAt G2 (laidTo L x0 x1 (tarTo L C i) u) wr := hkp.objs (G2, .cells (tabV (laidTo L x0 x1 (tarTo L C i) u)) 85) (by simp)
        have a0 : wr.cell? ⟨w.heap.size, 0, none⟩ = some (.slice (some { block := bl, off := ol }) L.n cap) := kW.at 0
        have a1 := (HDU.out.cell (p := ⟨bl, ol + x1 * 2, none⟩) (by show bl < _; exact lB) (fun h => h.1 hbl)).trans (((HPV.out.cell (p := ⟨bl, ol + x1 * 2, none⟩) (by show bl < _; exact lB) id).symm).trans z3)
        have al := kW.lt
        have KT := Lib.hid kT
        clear kW kT hkp z0 z1 z3
        by_cases hlt : (u : Int) ≤ L.s x1
        · have hu101 : u < 101 := by omega
          have hui : (u : Int) < 101 := by omega
          gi_wp2_with fail
          refine ⟨trivial, rfl, callsIn_wide.2 ((at_any wr _ _ _ (u : Int) ⟨by have := HDB.out; omega, HDB.out.2⟩ HXB.out HYB.out (by omega)).mono ?_)⟩
          rintro e w9 ⟨rfl, hp9⟩
          have HNU9 := Lib.hid (HNU.out.pure hp9)
          have HDU9 : Hid (Diff (fun k => ¬ k < w.heap.size ∧ ¬ O k) V w9) := HDU.out.trans (hp9.mono fun _ _ h => h.elim)
          have KT9 := Lib.hid (KT.out.to hp9)
          have b0 := KT9.out.cell hu101 (show u * 2 = 2 * u by omega)
          have b1 := KT9.out.cell1 hu101 (show u * 2 + 1 = 2 * u + 1 by omega)
          have bf := fun o => Blk.fz KT9.out o
          have bl2 := KT9.out.lt
          have HST := Lib.hid (laidTo_step L x0 x1 (tarTo L C i) u hu0)
          clear hp9 a0 a1 al
          gi_wp2
          go_roundw
          case rel =>
            refine ⟨u + 1, by go_num, by omega, by omega, ?_, ?_⟩
            · have e1 := KT9.out.set (o := u * 2) (k := u) hu101 (by omega) (lineAt L x0 x1 u)
              rw [HST.out] at e1
              obtain ⟨⟨g1, g2⟩, g3, g4, g5, g6⟩ := HNU9.out
              have hG2 := HS1.out
              have hG1 := HG1.out
              have hpS : Pure w ((w9.setCell ⟨G2, u * 2, none⟩ (.int .i64 (lineAt L x0 x1 u).1)).setCell ⟨G2, u * 2 + 1, none⟩ (.int .i64 (lineAt L x0 x1 u).2)) :=
                (g1.setCell (p := ⟨G2, u * 2, none⟩) (fun h => by have h' : G2 < w.heap.size := h; omega) _).setCell (p := ⟨G2, u * 2 + 1, none⟩) (fun h => by have h' : G2 < w.heap.size := h; omega) _
              refine ⟨⟨hpS, ?_⟩, g3, ?_, by simpa [World.setCell] using g5, trivial⟩
              · intro x hx
                simp only [List.mem_cons, List.mem_nil_iff, or_false] at hx
                rcases hx with rfl | rfl | rfl
                · exact (heap_setCell_other _ _ _ _ (by show w.heap.size ≠ G2; omega)).trans ((heap_setCell_other _ _ _ _ (by show w.heap.size ≠ G2; omega)).trans (g2 _ (by simp)))
                · exact (heap_setCell_other _ _ _ _ (by show G1 ≠ G2; omega)).trans ((heap_setCell_other _ _ _ _ (by show G1 ≠ G2; omega)).trans (g2 (G1, .cells (tabV fun _ => pr0) 85) (by simp)))
                · have e2 : ((u + 1 : Nat) : Int) = (u : Int) + 1 := by omega
                  show TabAt G2 (laidTo L x0 x1 (tarTo L C i) ((u + 1 : Nat) : Int)) _
                  rw [e2]; exact e1
              · intro x hx
                simp only [List.mem_cons, List.mem_nil_iff, or_false] at hx
                rcases hx with rfl | rfl | rfl <;> simp only <;> omega
            · have hno : ¬ O G2 := fun h => by have := HNU9.out.own _ h; omega
              exact (HDU9.out.setCell (p := ⟨G2, u * 2, none⟩) (fun _ => ⟨by have := HS1.out; show ¬ G2 < w.heap.size; omega, hno⟩) _).setCell (p := ⟨G2, u * 2 + 1, none⟩) (fun _ => ⟨by have := HS1.out; show ¬ G2 < w.heap.size; omega, hno⟩) _
          case measure => simp [intOf]; omega
        · have hue : (u : Int) = L.s x1 + 1 := by omega
          gi_wp2
          refine ⟨HDU.out.mono fun k _ h => ⟨by omega, h.2⟩, ?_⟩
          have e : laidTo L x0 x1 (tarTo L C i) (u : Int) = tarTo L C (i + 1) := by
            show _ = laidTo L (nthN C (i - 1)) (nthN C i) (tarTo L C i) (L.s (nthN C i) + 1)
            rw [HX.out.1, HX.out.2, hue]
          rw [← e]
          exact HNU.out
  case done =>
    rintro O D W hN hOD hDs hDd
    have hkp := hN.kept
    have kT2 : TabAt G2 (tarTo L C m) W := hkp.objs (G2, .cells (tabV (tarTo L C m)) 85) (by simp)
    have kT1 : TabAt G1 (fun _ => pr0) W := hkp.objs (G1, .cells (tabV fun _ => pr0) 85) (by simp)
    have hDO : G2 + 1 ≤ D := hN.own _ hOD
    have hG1 := HG1.out
    have hG2 := HS1.out
    have hpw := hkp.pw
    refine hK9 _ _ (wpIn_seq (wpIn_wide.2 ?_))
    refine wp_region_lit (wpList_load_table rfl (.tmp 3) rfl G2 (tarTo L C m) rfl kT2 ?_)
    refine wpList_store_table rfl (.tmp 2) (.tmp 50) rfl G1 (tarTo L C m) (fun _ => pr0) rfl rfl kT1 ?_
    refine wpList_nil ?_
    refine wpIn_ret ?_
    have hDd2 : (W.setRow G1 (tabV (tarTo L C m))).heap[D]? = some (.deferred (some [])) := (setRow_other _ _ _ _ (by omega)).trans hDd
    refine ⟨by simp [Act.put], .inl ⟨_, _, rfl, run_takeDeferred hDd2, ?_⟩⟩
    have z1 : TabAt G1 (tarTo L C m) ((W.setRow G1 (tabV (tarTo L C m))).putObj D (.deferred none)) :=
      (World.putObj_heap_other (by omega)).trans (setRow_heap _ _ _ _ _ _ kT1)
    exact ⟨.agg (tabV (tarTo L C m)), results_cell_row Tryd.results66 _ _ G1 85 (tabV (tarTo L C m)) (0, 0) _ rfl z1 Tryd.underlying85 rfl (by rw [tab_size]; exact size_table), rfl, (hpw.setRow (fun h => by omega) _).putObj (fun h => by omega) _⟩
  case stop =>
    rintro O D W hN hOD hDs hDd
    exact hN.elim
end Go.Proofs.YtgpfmnjianflaaaDoor
namespace Go.Proofs.YtgpfmnjianflaaaDoor
open Go.RowKit

theorem tarTo_is (L : LT) (C : List Nat) (r : Nat) (h : Chain L (nthN C) r) : ∀ i, i ≤ r → ∀ t : Nat, (L.s (nthN C 0) ≤ (t : Int) ∧ (t : Int) ≤ L.s (nthN C i) → ∃ a b, Cheap L t a b ∧ tarTo L C (i + 1) t = (redN a b, redD a b)) ∧
    (¬ (L.s (nthN C 0) ≤ (t : Int) ∧ (t : Int) ≤ L.s (nthN C i)) → tarTo L C (i + 1) t = pr0)
  | 0, _, t => by
    have e : tarTo L C (0 + 1) t = if L.s (nthN C 0) ≤ (t : Int) ∧ (t : Int) < L.s (nthN C 0) + 1 then lineAt L (nthN C 0) (nthN C 0) t else pr0 := rfl
    refine ⟨fun hh => ?_, fun hh => ?_⟩
    · rw [if_pos (by omega)] at e
      have hc := corner_cheap h (Nat.zero_le r)
      have ht : (t : Int) = L.s (nthN C 0) := by omega
      rw [← ht] at hc
      refine ⟨_, _, hc, ?_⟩
      rw [e]
      unfold lineAt thX thD
      rw [if_neg (by omega)]
      simp
    · rw [if_neg (by omega)] at e
      exact e
  | i + 1, hi, t => by
    have e : tarTo L C (i + 1 + 1) t = if L.s (nthN C i) ≤ (t : Int) ∧ (t : Int) < L.s (nthN C (i + 1)) + 1 then lineAt L (nthN C i) (nthN C (i + 1)) t else tarTo L C (i + 1) t := rfl
    obtain ⟨ih1, ih2⟩ := tarTo_is L C r h i (by omega) t
    have hinc := h.inc i (by omega)
    have h0 := h.mono (Nat.zero_le i) (by omega)
    refine ⟨fun hh => ?_, fun hh => ?_⟩
    · by_cases hc : L.s (nthN C i) ≤ (t : Int)
      · rw [if_pos (by omega)] at e
        refine ⟨_, _, edge_cheap h (show i < r by omega) hc hh.2, ?_⟩
        rw [e]
        unfold lineAt thX thD
        rw [if_pos hinc]
      · rw [if_neg (by omega)] at e
        rw [e]
        exact ih1 (by omega)
    · rw [if_neg (by omega)] at e
      rw [e]
      exact ih2 (by omega)
/-- What the tariff says at a sharpness. -/
def LT.tar (L : LT) : Nat → Int × Int := tarTo L L.corners L.corners.length
theorem tar_is (L : LT) (hn : 0 < L.n) (t : Nat) : (CanB L t → ∃ a b, Cheap L t a b ∧ L.tar t = (redN a b, redD a b)) ∧ (¬ CanB L t → L.tar t = pr0) := by
  have hch := corner_chain L hn
  have hpos := corners_pos L hn
  have h := tarTo_is L L.corners (L.corners.length - 1) hch (L.corners.length - 1) (Nat.le_refl _) t
  have e : L.corners.length - 1 + 1 = L.corners.length := by omega
  rw [e] at h
  have hcan := hch.can t
  exact ⟨fun hc => h.1 (hcan.2 hc), fun hc => h.2 (fun hh => hc (hcan.1 hh))⟩
theorem tar_has (L : LT) (hn : 0 < L.n) (t : Nat) : hasB (L.tar t).1 (L.tar t).2 = true ↔ CanB L t := by
  obtain ⟨h1, h2⟩ := tar_is L hn t
  constructor
  · intro h
    rcases Classical.em (CanB L t) with hc | hc
    · exact hc
    · rw [h2 hc] at h; simp [hasB] at h
  · intro hc
    obtain ⟨a, b, h3, h4⟩ := h1 hc
    rw [h4]
    have := redD_pos (a := a) h3.den
    unfold hasB
    simp
    omega
/-- What Cheapest returns: its price, and its error. -/
def cheapP (L : LT) (t : Int) : Int × Int := if sharpE L t = 0 then L.tar t.toNat else pr0
def cheapE (L : LT) (t : Int) : Int := if sharpE L t = 0 then (if hasB (L.tar t.toNat).1 (L.tar t.toNat).2 = true then 0 else 19) else sharpE L t
theorem sharpE_ok {L : LT} {t : Int} : sharpE L t = 0 ↔ L.Ok ∧ 0 ≤ t ∧ t ≤ 100 := by
  unfold sharpE
  by_cases h : checkL L = 0
  · rw [if_neg (by rw [h]; simp)]
    have hk := checkL_ok.1 h
    by_cases h2 : wIn 0 100 t = false
    · rw [if_pos h2]
      constructor
      · intro h3; omega
      · rintro ⟨_, h3, h4⟩
        simp only [wIn, Bool.and_eq_false_iff, decide_eq_false_iff_not] at h2
        omega
    · rw [if_neg h2]
      have h2' : wIn 0 100 t = true := by simpa using h2
      simp only [wIn, Bool.and_eq_true, decide_eq_true_eq] at h2'
      exact ⟨fun _ => ⟨hk, h2'⟩, fun _ => rfl⟩
  · rw [if_pos h]
    exact ⟨fun h2 => (h h2).elim, fun h2 => (h (checkL_ok.2 h2.1)).elim⟩
theorem hasB_pr {x : Int × Int} (h : hasB x.1 x.2 = false) : x = pr0 := by
  obtain ⟨a, b⟩ := x
  simp only [hasB, Bool.not_eq_false', Bool.and_eq_true, decide_eq_true_eq] at h
  obtain ⟨rfl, rfl⟩ := h
  rfl
set_option maxRecDepth 20000 in
set_option maxHeartbeats 4000000 in
theorem Cheapest_any (w : World) (L : LT) (p : Option Addr) (cap : Nat) (t : Int) (hn : L.n ≤ 1000) (hl : LotsAt w.heap.size w p L) (hg : Gl w) :
    Calls Tryd.prog 26 #[.slice p L.n cap, .int .i64 t] w fun e w' => e = .returned (.tuple #[.agg #[.int .i64 (cheapP L t).1, .int .i64 (cheapP L t).2], .int .i64 (cheapE L t)]) ∧ Pure w w' := by
  have HG := Lib.hid hg
  have HL := Lib.hid hl
  clear hl hg
  go_enter Tryd.func26, Tryd.ntmps26
  go_wp2_with fail
  obtain ⟨X, hX⟩ : ∃ V : World, w.alloc (.cells #[.int .i64 0, .int .i64 0] 29) = V := ⟨_, rfl⟩
  have k0 : Blk w.heap.size 29 #[.int .i64 0, .int .i64 0] X := by rw [← hX]; exact Blk.new _ _ _
  have hP : Pure w X := by rw [← hX]; exact (Diff.refl _).alloc _
  rw [hX]
  clear hX
  refine (checkSharp_any X L p cap t hn (HL.out.to hP) (HG.out.to hP)).mono ?_
  rintro e w1 ⟨rfl, hp1⟩
  have HP1 := Lib.hid (hP.trans hp1)
  have K1 := Lib.hid (k0.to hp1)
  have c0 := K1.out.at 0
  have c1 := K1.out.at 1
  have fz := fun o => K1.out.fz o
  have l0 := K1.out.lt
  clear hP hp1 k0
  obtain ⟨c, hc⟩ : ∃ c, sharpE L t = c := ⟨_, rfl⟩
  have HC := Lib.hid hc
  rw [hc]
  clear hc
  by_cases h0 : c = 0
  · subst h0
    obtain ⟨hok, ht0, ht1⟩ := sharpE_ok.1 HC.out
    have HOK := Lib.hid hok
    have hn8 := hok.n8
    clear hok
    go_wp2_with fail
    refine (shelved_any w1 L p cap HOK.out (HL.out.to HP1.out)).mono ?_
    rintro e w2 ⟨⟨q, qc, rfl, hq⟩, hp2⟩
    have HQ := Lib.hid hq
    have HP2 := Lib.hid (HP1.out.trans hp2)
    have K2 := Lib.hid (K1.out.to hp2)
    clear hq hp2 c0 c1 fz l0
    go_wp2_with fail
    refine (tariff_any w2 L p q cap qc HOK.out (HL.out.to HP2.out) HQ.out).mono ?_
    rintro e w3 ⟨rfl, hp3⟩
    have HP3 := Lib.hid (HP2.out.trans hp3)
    have K3 := Lib.hid (K2.out.to hp3)
    clear hp3
    obtain ⟨f, hf⟩ : ∃ f, tarTo L L.corners L.corners.length = f := ⟨_, rfl⟩
    have HF : Hid (L.tar = f) := hf
    rw [hf]
    clear hf
    go_wp2_with (refine wpList_index_table rfl (.tmp 17) (.tmp 18) rfl f t ht0 (by omega) rfl rfl ?_)
    obtain ⟨tv, htv⟩ : ∃ tv, tabV f = tv := ⟨_, rfl⟩
    rw [htv]
    clear htv
    obtain ⟨x, hx⟩ : ∃ x, (f t.toNat).1 = x := ⟨_, rfl⟩
    obtain ⟨y, hy⟩ : ∃ y, (f t.toNat).2 = y := ⟨_, rfl⟩
    have HXY : Hid (L.tar t.toNat = (x, y)) := by show _ = _; rw [HF.out, ← hx, ← hy]
    rw [hx, hy]
    clear hx hy
    obtain ⟨Z, hZ⟩ : ∃ V : World, w3.alloc (.cells #[.int .i64 x, .int .i64 y] 29) = V := ⟨_, rfl⟩
    have q0 : Blk w3.heap.size 29 #[.int .i64 x, .int .i64 y] Z := by rw [← hZ]; exact Blk.new _ _ _
    have hPZ : Pure w3 Z := by rw [← hZ]; exact (Diff.refl _).alloc _
    rw [hZ]
    clear hZ
    refine (has_any Z x y).mono ?_
    rintro e w4 ⟨rfl, hp4⟩
    have HP4 := Lib.hid (HP3.out.trans (hPZ.trans hp4))
    have K4 := Lib.hid (K3.out.to (hPZ.trans hp4))
    have Q4 := Lib.hid (q0.to hp4)
    have c0 := K4.out.at 0
    have c1 := K4.out.at 1
    have fz := fun o => K4.out.fz o
    have l0 := K4.out.lt
    have c2 := Q4.out.at 0
    have c3 := Q4.out.at 1
    have l2 := Q4.out.lt
    clear hp4 hPZ q0
    cases hv : hasB x y with
    | false =>
      have HE : Hid (cheapE L t = 19 ∧ cheapP L t = pr0) := by
        unfold cheapE cheapP
        rw [if_pos HC.out, if_pos HC.out, HXY.out, if_neg (by simp [hv])]
        exact ⟨rfl, hasB_pr hv⟩
      clear hv
      go_wp2
      rw [HE.out.1, HE.out.2]
      have z := K4.out.set2 (Value.int IntKind.i64 0) (Value.int IntKind.i64 0)
      have HPZ := HP4.out.set2 (g := w.heap.size) (by omega) (Value.int IntKind.i64 0) (Value.int IntKind.i64 0)
      obtain ⟨Y, hY⟩ : ∃ Y, (w4.setCell { block := w.heap.size, off := 0 } (Value.int IntKind.i64 0)).setCell { block := w.heap.size, off := 1 } (Value.int IntKind.i64 0) = Y := ⟨_, rfl⟩
      first | rw [hY] at z HPZ HR9 ⊢ | rw [hY] at z HPZ ⊢
      clear hY
      exact bodyPost_ret (v := .tuple #[.agg #[.int .i64 0, .int .i64 0], .int .i64 19]) (by simp [results, Tryd.results26, go_sem, z.at 0, z.at 1]) rfl ⟨rfl, HPZ⟩
    | true =>
      have HE : Hid (cheapE L t = 0 ∧ cheapP L t = (x, y)) := by
        unfold cheapE cheapP
        rw [if_pos HC.out, if_pos HC.out, HXY.out, if_pos hv]
        exact ⟨rfl, rfl⟩
      clear hv
      go_wp2
      rw [HE.out.1, HE.out.2]
      have z := K4.out.set2 (Value.int IntKind.i64 x) (Value.int IntKind.i64 y)
      have HPZ := HP4.out.set2 (g := w.heap.size) (by omega) (Value.int IntKind.i64 x) (Value.int IntKind.i64 y)
      obtain ⟨Y, hY⟩ : ∃ Y, (w4.setCell { block := w.heap.size, off := 0 } (Value.int IntKind.i64 x)).setCell { block := w.heap.size, off := 1 } (Value.int IntKind.i64 y) = Y := ⟨_, rfl⟩
      first | rw [hY] at z HPZ HR9 ⊢ | rw [hY] at z HPZ ⊢
      clear hY
      exact bodyPost_ret (v := .tuple #[.agg #[.int .i64 x, .int .i64 y], .int .i64 0]) (by simp [results, Tryd.results26, go_sem, z.at 0, z.at 1]) rfl ⟨rfl, HPZ⟩
  · have hb : (c != 0) = true := by simpa using h0
    have HE : Hid (cheapE L t = c ∧ cheapP L t = pr0) := by
      unfold cheapE cheapP
      rw [if_neg (by rw [HC.out]; exact h0), if_neg (by rw [HC.out]; exact h0), HC.out]; exact ⟨rfl, rfl⟩
    go_wp2
    rw [HE.out.1, HE.out.2]
    have z := K1.out.set2 (Value.int IntKind.i64 0) (Value.int IntKind.i64 0)
    have HPZ := HP1.out.set2 (g := w.heap.size) (by omega) (Value.int IntKind.i64 0) (Value.int IntKind.i64 0)
    obtain ⟨Y, hY⟩ : ∃ Y, (w1.setCell { block := w.heap.size, off := 0 } (Value.int IntKind.i64 0)).setCell { block := w.heap.size, off := 1 } (Value.int IntKind.i64 0) = Y := ⟨_, rfl⟩
    first | rw [hY] at z HPZ HR9 ⊢ | rw [hY] at z HPZ ⊢
    clear hY
    exact bodyPost_ret (v := .tuple #[.agg #[.int .i64 0, .int .i64 0], .int .i64 c]) (by simp [results, Tryd.results26, go_sem, z.at 0, z.at 1]) rfl ⟨rfl, HPZ⟩
end Go.Proofs.YtgpfmnjianflaaaDoor
namespace Go.Proofs.YtgpfmnjianflaaaDoor
open Go.RowKit

def lastE (L : LT) (t l : Int) : Int := if sharpE L t = 0 then (if wIn 1 100 l = false then 3 else if L.s (nthN L.corners (L.corners.length - 1)) < t then 19 else 0) else sharpE L t
def lastV (L : LT) (t l : Int) : Int := if lastE L t l = 0 then (L.s (nthN L.corners (L.corners.length - 1)) - t) / l else 0
set_option maxRecDepth 20000 in
theorem Last_any (w : World) (L : LT) (p : Option Addr) (cap : Nat) (t l : Int) (hn : L.n ≤ 1000) (hl : LotsAt w.heap.size w p L) (hg : Gl w) :
    Calls Tryd.prog 42 #[.slice p L.n cap, .int .i64 t, .int .i64 l] w fun e w' => e = .returned (.tuple #[.int .i64 (lastV L t l), .int .i64 (lastE L t l)]) ∧ Pure w w' := by
  have HG := Lib.hid hg
  have HL := Lib.hid hl
  clear hl hg
  go_enter Tryd.func42, Tryd.ntmps42
  go_wp2_with fail
  refine (checkSharp_any w L p cap t hn HL.out HG.out).mono ?_
  rintro e w1 ⟨rfl, hp1⟩
  have HP1 := Lib.hid hp1
  have HG1 := Lib.hid (HG.out.to hp1)
  have g0 := HG1.out.l3
  have g1 := HG1.out.h3
  have gs : 3 < w1.heap.size := by have := HG1.out.sz; omega
  clear hp1
  obtain ⟨c, hc⟩ : ∃ c, sharpE L t = c := ⟨_, rfl⟩
  have HC := Lib.hid hc
  rw [hc]
  clear hc
  by_cases h0 : c = 0
  · subst h0
    obtain ⟨hok, ht0, ht1⟩ := sharpE_ok.1 HC.out
    have HOK := Lib.hid hok
    clear hok
    go_wp2_with fail
    refine (within1 w1 1 100 l _ rfl).mono ?_
    rintro e w2 ⟨rfl, hp2⟩
    have HP2 := Lib.hid (HP1.out.trans hp2)
    clear hp2 g0 g1 gs
    cases hv : wIn 1 100 l with
    | false =>
      have HE : Hid (lastE L t l = 3) := by show _ = _; unfold lastE; rw [if_pos HC.out, if_pos hv]
      have HV : Hid (lastV L t l = 0) := by show _ = _; unfold lastV; rw [if_neg (by rw [HE.out]; decide)]
      clear hv
      go_wp2
      rw [HE.out, HV.out]
      exact bodyPost_ret (v := .tuple #[.int .i64 0, .int .i64 3]) (by simp [results, Tryd.results42, go_sem]) rfl ⟨rfl, HP2.out⟩
    | true =>
      have HW := Lib.hid hv
      have hl0 : 1 ≤ l ∧ l ≤ 100 := by simp only [wIn, Bool.and_eq_true, decide_eq_true_eq] at hv; exact hv
      clear hv
      go_wp2_with fail
      refine (shelved_any w2 L p cap HOK.out (HL.out.to HP2.out)).mono ?_
      rintro e w3 ⟨⟨q, qc, rfl, hq⟩, hp3⟩
      have HQ := Lib.hid hq
      have HP3 := Lib.hid (HP2.out.trans hp3)
      clear hq hp3
      go_wp2_with fail
      refine (greatest_any w3 L p q cap qc HOK.out (HL.out.to HP3.out) HQ.out).mono ?_
      rintro e w4 ⟨rfl, hp4⟩
      have HP4 := Lib.hid (HP3.out.trans hp4)
      clear hp4
      have hgb : 0 ≤ L.s (nthN L.corners (L.corners.length - 1)) ∧ L.s (nthN L.corners (L.corners.length - 1)) ≤ 100 := by
        have hn1 := HOK.out.n0
        have hm := (corner_chain L (by omega)).mem (L.corners.length - 1) (Nat.le_refl _)
        exact ⟨HOK.out.s0 _ hm, HOK.out.s1 _ hm⟩
      obtain ⟨g, hg⟩ : ∃ g, L.s (nthN L.corners (L.corners.length - 1)) = g := ⟨_, rfl⟩
      have HGG := Lib.hid hg
      rw [hg] at hgb ⊢
      clear hg
      have hw1 : IntKind.i64.wrap (g - t) = g - t := IntWalk.i64_in _ (by omega)
      by_cases hs : g < t
      · have hs2 : g - t < 0 := by omega
        have HE : Hid (lastE L t l = 19) := by show _ = _; unfold lastE; rw [if_pos HC.out, if_neg (by rw [HW.out]; simp), HGG.out, if_pos hs]
        have HV : Hid (lastV L t l = 0) := by show _ = _; unfold lastV; rw [if_neg (by rw [HE.out]; decide)]
        go_wp2
        rw [HE.out, HV.out]
        exact bodyPost_ret (v := .tuple #[.int .i64 0, .int .i64 19]) (by simp [results, Tryd.results42, go_sem]) rfl ⟨rfl, HP4.out⟩
      · have hs2 : ¬ g - t < 0 := by omega
        have HE : Hid (lastE L t l = 0) := by show _ = _; unfold lastE; rw [if_pos HC.out, if_neg (by rw [HW.out]; simp), HGG.out, if_neg hs]
        have HV : Hid (lastV L t l = (g - t) / l) := by show _ = _; unfold lastV; rw [if_pos HE.out, HGG.out]
        have hl2 : ¬ l = 0 := by omega
        have hdv : 0 ≤ (g - t) / l ∧ (g - t) / l ≤ 100 := ⟨Int.ediv_nonneg (by omega) (by omega), by have := Int.ediv_le_self l (show 0 ≤ g - t by omega); omega⟩
        have hq : IntKind.i64.wrap ((g - t).tdiv l) = (g - t) / l := by rw [Int.tdiv_eq_ediv_of_nonneg (by omega)]; exact IntWalk.i64_in _ (by omega)
        go_wp2
        rw [HE.out, HV.out]
        exact bodyPost_ret (v := .tuple #[.int .i64 ((g - t) / l), .int .i64 0]) (by simp [results, Tryd.results42, go_sem]) rfl ⟨rfl, HP4.out⟩
  · have hb : (c != 0) = true := by simpa using h0
    have HE : Hid (lastE L t l = c) := by show _ = _; unfold lastE; rw [if_neg (by rw [HC.out]; exact h0), HC.out]
    have HV : Hid (lastV L t l = 0) := by show _ = _; unfold lastV; rw [if_neg (by rw [HE.out]; exact h0)]
    go_wp2
    rw [HE.out, HV.out]
    exact bodyPost_ret (v := .tuple #[.int .i64 0, .int .i64 c]) (by simp [results, Tryd.results42, go_sem]) rfl ⟨rfl, HP1.out⟩
end Go.Proofs.YtgpfmnjianflaaaDoor
namespace Go.Proofs.YtgpfmnjianflaaaDoor
open Go.RowKit

theorem size3 : (Tryd.prog.info? 3).map (·.size) = some 1 := by kernel_rfl
theorem RowN.of_blk {w : World} {g : Nat} {l : List Nat} (h : Blk g 3 (arrN l) w) : RowN w (some ⟨g, 0, none⟩) l := fun k hk => ⟨g, 0, rfl, h.lt, by rw [Nat.zero_add]; exact arrN_cell h hk⟩
set_option maxRecDepth 20000 in
theorem taken_any (w : World) (q : Option Addr) (c : Nat) (xs : List Nat) (hn : xs.length ≤ 1000) (hpos : 0 < xs.length) (hr : RowN w q xs) :
    Calls Tryd.prog 79 #[.slice q xs.length c] w fun e w' => e = .returned (.slice (some ⟨w.heap.size, 0, none⟩) xs.length xs.length) ∧ Blk w.heap.size 3 (arrN xs) w' ∧ Pure w w' := by
  obtain ⟨qb, qo, rfl, hqb, -⟩ := hr.at hpos rfl
  obtain ⟨n, hl⟩ : ∃ n, xs.length = n := ⟨_, rfl⟩
  rw [hl] at hn ⊢
  have hmk := run_make_row' (P := Tryd.prog) 51 3 (.int .i64 0) 8 Tryd.underlying51 info3 rfl .i64 .i64 n (by omega) (by omega)
  have hnew : (w.alloc (.cells (madeCells #[.int .i64 0] n) 3)).heap[w.heap.size]? = some (.cells (madeCells #[.int .i64 0] n) 3 (0, 0)) := World.alloc_heap_new _ _
  have hsz : (madeCells #[.int .i64 0] n).size = n := size_madeCells _ _
  have hd : Pure w (w.alloc (.cells (madeCells #[.int .i64 0] n) 3)) := (Diff.refl w).alloc _
  have hsrc : ∀ (j : Nat) (v : Value), (valsN xs)[j]? = some v → (w.alloc (.cells (madeCells #[.int .i64 0] n) 3)).cell? ((⟨qb, qo, none⟩ : Addr).add j) = some v := fun j v hj => by
    have e : xs.take n = xs := List.take_of_length_le (by omega)
    exact RowN.adds hr hd n _ rfl j v (by rw [e]; exact hj)
  have hone : ∀ v ∈ valsN xs, v.oneCell' = true := by
    intro u hu
    simp only [valsN, List.mem_map] at hu
    obtain ⟨x, _, rfl⟩ := hu
    rfl
  have hvl : (valsN xs).length = n := by simp [valsN, hl]
  have hmin : (valsN xs).length = Nat.min n n := hvl.trans (Nat.min_self n).symm
  have hfit : 0 + (valsN xs).length ≤ (madeCells #[Value.int .i64 0] n).size := by rw [hsz, hvl]; omega
  go_enter Tryd.func79, Tryd.ntmps79
  go_wp2_with (refine wpList_copy_own rfl _ _ 51 51 rfl 3 Tryd.underlying51 size3 w.heap.size 0 n n ⟨qb, qo, none⟩ n c rfl rfl _ _ hnew (valsN xs) hmin hsrc hfit hone ?_)
  refine bodyPost_ret (v := .slice (some ⟨w.heap.size, 0, none⟩) n n) (by simp [results, Tryd.results79, go_sem]) rfl ⟨rfl, ?_, ?_⟩
  · refine (setRow_heap _ _ _ _ _ _ hnew).trans ?_
    have : ((madeCells #[.int .i64 0] n).toList.drop n) = ([] : List Value) := by
      apply List.drop_eq_nil_of_le; rw [Array.length_toList, hsz]; exact Nat.le_refl _
    rw [this, List.append_nil]
    rfl
  · exact hd.setRow (fun h => absurd h (Nat.lt_irrefl _)) _
theorem field89 (p q : Option Addr) (n m c d : Nat) (w : World) : (Instr.field 89 (.agg #[.slice p n c, .slice q m d]) 1).run Tryd.prog w = .ok (.slice q m d) w := by kernel_rfl
/-- The corners of lots that may not be valid. -/
def LT.cornersE (L : LT) : List Nat := if checkL L = 0 then L.corners else []
set_option maxRecDepth 20000 in
theorem Corners_any (w : World) (L : LT) (p : Option Addr) (cap : Nat) (hn : L.n ≤ 1000) (hl : LotsAt w.heap.size w p L) (hg : Gl w) :
    Calls Tryd.prog 38 #[.slice p L.n cap] w fun e w' => (∃ q c, e = .returned (.tuple #[.slice q L.cornersE.length c, .int .i64 (checkL L)]) ∧ RowN w' q L.cornersE) ∧ Pure w w' := by
  have HG := Lib.hid hg
  have HL := Lib.hid hl
  clear hl hg
  go_enter Tryd.func38, Tryd.ntmps38
  go_wp2_with fail
  refine (CheckLots_any w L p cap hn HL.out HG.out).mono ?_
  rintro e w1 ⟨rfl, hp1⟩
  have HP1 := Lib.hid hp1
  clear hp1
  obtain ⟨c, hc⟩ : ∃ c, checkL L = c := ⟨_, rfl⟩
  have HC := Lib.hid hc
  rw [hc]
  clear hc
  by_cases h0 : c = 0
  · subst h0
    have hok := checkL_ok.1 HC.out
    have HOK := Lib.hid hok
    have HE : Hid (L.cornersE = L.corners) := if_pos HC.out
    have hcl : L.corners.length ≤ 1000 := by have := corners_length L; omega
    have hcp := corners_pos L (by have := hok.n0; omega)
    clear hok
    go_wp2_with fail
    refine (shelved_any w1 L p cap HOK.out (HL.out.to HP1.out)).mono ?_
    rintro e w2 ⟨⟨q, qc, rfl, hq⟩, hp2⟩
    have HQ := Lib.hid hq
    have HP2 := Lib.hid (HP1.out.trans hp2)
    clear hq hp2
    have hfd := field89 p q L.n L.corners.length cap qc
    go_wp2_with fail
    refine (taken_any w2 q qc L.corners hcl hcp HQ.out).mono ?_
    rintro e w3 ⟨rfl, hb3, hp3⟩
    have HB3 := Lib.hid hb3
    have HP3 := Lib.hid (HP2.out.trans hp3)
    clear hb3 hp3
    go_wp2
    refine bodyPost_ret (v := .tuple #[.slice (some ⟨w2.heap.size, 0, none⟩) L.corners.length L.corners.length, .int .i64 0]) (by simp [results, Tryd.results38, go_sem]) rfl ⟨⟨_, _, by rw [HE.out, HC.out], ?_⟩, HP3.out⟩
    rw [HE.out]
    exact RowN.of_blk HB3.out
  · have hb : (c != 0) = true := by simpa using h0
    have HE : Hid (L.cornersE = []) := if_neg (by rw [HC.out]; exact h0)
    go_wp2
    refine bodyPost_ret (v := .tuple #[.slice none 0 0, .int .i64 c]) (by simp [results, Tryd.results38, go_sem]) rfl ⟨⟨none, 0, by rw [HE.out, HC.out]; rfl, ?_⟩, HP1.out⟩
    rw [HE.out]
    exact fun k hk => by simp at hk

end Go.Proofs.YtgpfmnjianflaaaDoor
