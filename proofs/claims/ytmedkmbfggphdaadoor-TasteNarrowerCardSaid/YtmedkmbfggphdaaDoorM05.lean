/- Plain facts: the bounds that bounds yields, and that no two of them have the same names. The iterator bounds of package taste. The walk of net: the map of the bounds. -/
import Derived.Test.YtmedkmbfggphdaaDoorM00
import Derived.Test.YtmedkmbfggphdaaDoorK4
import Derived.Test.YtmedkmbfggphdaaDoorW5
import Derived.Test.YtmedkmbfggphdaaDoorM01
set_option linter.unusedSimpArgs false
set_option linter.unusedVariables false
set_option linter.constructorNameAsVariable false
namespace Go.Proofs.YtmedkmbfggphdaaDoor

theorem BK.split (b : BK) : ∀ (n q : Nat), q < b.upto n → ∃ s j, s < n ∧ j < b.m s ∧ q = b.upto s + j
  | 0, q, h => by simp [BK.upto] at h
  | n + 1, q, h => by
    by_cases hq : q < b.upto n
    · obtain ⟨s, j, h1, h2, h3⟩ := BK.split b n q hq
      exact ⟨s, j, by omega, h2, h3⟩
    · simp only [BK.upto] at h
      exact ⟨n, q - b.upto n, by omega, by omega, by omega⟩

/-- The kinds of pairs. -/
theorem BK.rg_kind (b : BK) (hv : b.Valid) (L : Nat) (hL : b.lots = L) (i : Nat) (hi : i < b.rgN) :
    (i < L ∧ (b.rg i).f = 0 ∧ (b.rg i).t = 1 + i) ∨
    (∃ q : Nat, q < b.total ∧ i = L + 2 * q ∧ (b.rg i).t = 1 + L + q ∧ ((b.rg i).f = 0 ∨ (1 ≤ q ∧ (b.rg i).f = L + q))) ∨
    (∃ q : Nat, q < b.total ∧ i = L + 2 * q + 1 ∧ (b.rg i).f = 1 + L + q ∧ 1 ≤ (b.rg i).t ∧ (b.rg i).t ≤ L) := by
  have hN : b.rgN = L + 2 * b.total := by unfold BK.rgN; rw [hL]; simp
  by_cases h : i < L
  · exact .inl ⟨h, by rw [b.rg_lot L i hL h], by rw [b.rg_lot L i hL h]⟩
  · have hq : (i - L) / 2 < b.total := by omega
    obtain ⟨s, j, hs, hj, he⟩ := b.split b.n _ hq
    by_cases h2 : (i - L) % 2 = 0
    · have hi' : i = L + 2 * (b.upto s + j) := by omega
      have hr := b.rg_one L s j hL hs hj
      rw [← hi'] at hr
      refine .inr (.inl ⟨b.upto s + j, by omega, hi', by rw [hr]; simp; omega, ?_⟩)
      rw [hr]
      by_cases h0 : j = 0
      · exact .inl (by simp [lstN, h0])
      · exact .inr ⟨by omega, by simp [lstN, h0]; omega⟩
    · have hi' : i = L + 2 * (b.upto s + j) + 1 := by omega
      have hr := b.rg_two L s j hL hs hj
      rw [← hi'] at hr
      have h3 := hv.lot0 s j hs hj
      have h4 := hv.lot1 s j hs hj
      exact .inr (.inr ⟨b.upto s + j, by omega, hi', by rw [hr]; simp; omega, by rw [hr]; simp; omega, by rw [hr]; simp; omega⟩)

structure Bn where
  f : Int
  t : Int
  by' : Int
/-- The i-th bound that bounds yields. -/
def BK.bn (b : BK) (i : Nat) : Bn :=
  let r := b.rg (i / 2)
  if i % 2 = 0 then ⟨r.f, r.t, r.hi⟩ else ⟨r.t, r.f, - r.lo⟩
abbrev Bn.e (x : Bn) : Array Value := #[.agg #[.int .i64 x.f, .int .i64 x.t], .int .i64 x.by']
def BK.bnN (b : BK) : Nat := 2 * b.rgN
theorem BK.bn_even (b : BK) (i : Nat) : b.bn (2 * i) = ⟨(b.rg i).f, (b.rg i).t, (b.rg i).hi⟩ := by
  unfold BK.bn; simp
theorem BK.bn_odd (b : BK) (i : Nat) : b.bn (2 * i + 1) = ⟨(b.rg i).t, (b.rg i).f, - (b.rg i).lo⟩ := by
  unfold BK.bn
  have e : (2 * i + 1) / 2 = i := by omega
  simp [e]

theorem BK.rg_inj (b : BK) (hv : b.Valid) {i j : Nat} (hi : i < b.rgN) (hj : j < b.rgN) (h1 : (b.rg i).f = (b.rg j).f) (h2 : (b.rg i).t = (b.rg j).t) : i = j := by
  obtain ⟨L, hL⟩ : ∃ L : Nat, b.lots = L := ⟨b.lots.toNat, by have := hv.lots1; omega⟩
  have ki := b.rg_kind hv L hL i hi
  have kj := b.rg_kind hv L hL j hj
  rcases ki with ⟨a1, a2, a3⟩ | ⟨q, a1, a2, a3, a4⟩ | ⟨q, a1, a2, a3, a4, a5⟩ <;> rcases kj with ⟨c1, c2, c3⟩ | ⟨q', c1, c2, c3, c4⟩ | ⟨q', c1, c2, c3, c4, c5⟩ <;> omega
theorem BK.rg_cross (b : BK) (hv : b.Valid) {i j : Nat} (hi : i < b.rgN) (hj : j < b.rgN) (h1 : (b.rg i).f = (b.rg j).t) (h2 : (b.rg i).t = (b.rg j).f) : False := by
  obtain ⟨L, hL⟩ : ∃ L : Nat, b.lots = L := ⟨b.lots.toNat, by have := hv.lots1; omega⟩
  have hL1 := hv.lots1
  have ki := b.rg_kind hv L hL i hi
  have kj := b.rg_kind hv L hL j hj
  rcases ki with ⟨a1, a2, a3⟩ | ⟨q, a1, a2, a3, a4⟩ | ⟨q, a1, a2, a3, a4, a5⟩ <;> rcases kj with ⟨c1, c2, c3⟩ | ⟨q', c1, c2, c3, c4⟩ | ⟨q', c1, c2, c3, c4, c5⟩ <;> omega
theorem BK.bn_inj (b : BK) (hv : b.Valid) {i j : Nat} (hi : i < b.bnN) (hj : j < b.bnN) (h1 : (b.bn i).f = (b.bn j).f) (h2 : (b.bn i).t = (b.bn j).t) : i = j := by
  unfold BK.bnN at hi hj
  rcases Nat.mod_two_eq_zero_or_one i with ei | ei <;> rcases Nat.mod_two_eq_zero_or_one j with ej | ej
  · obtain ⟨x, rfl⟩ : ∃ x, i = 2 * x := ⟨i / 2, by omega⟩
    obtain ⟨y, rfl⟩ : ∃ y, j = 2 * y := ⟨j / 2, by omega⟩
    rw [b.bn_even, b.bn_even] at h1 h2
    have := b.rg_inj hv (by omega) (by omega) h1 h2
    omega
  · obtain ⟨x, rfl⟩ : ∃ x, i = 2 * x := ⟨i / 2, by omega⟩
    obtain ⟨y, rfl⟩ : ∃ y, j = 2 * y + 1 := ⟨j / 2, by omega⟩
    rw [b.bn_even, b.bn_odd] at h1 h2
    exact (b.rg_cross hv (by omega) (by omega) h1 h2).elim
  · obtain ⟨x, rfl⟩ : ∃ x, i = 2 * x + 1 := ⟨i / 2, by omega⟩
    obtain ⟨y, rfl⟩ : ∃ y, j = 2 * y := ⟨j / 2, by omega⟩
    rw [b.bn_even, b.bn_odd] at h1 h2
    exact (b.rg_cross hv (by omega) (by omega) h2 h1).elim
  · obtain ⟨x, rfl⟩ : ∃ x, i = 2 * x + 1 := ⟨i / 2, by omega⟩
    obtain ⟨y, rfl⟩ : ∃ y, j = 2 * y + 1 := ⟨j / 2, by omega⟩
    rw [b.bn_odd, b.bn_odd] at h1 h2
    have := b.rg_inj hv (by omega) (by omega) h2 h1
    omega
/-- The names and the bounds are small. -/
theorem BK.bn_small (b : BK) (hv : b.Valid) (i : Nat) (hi : i < b.bnN) : 0 ≤ (b.bn i).f ∧ (b.bn i).f < 19 ∧ 0 ≤ (b.bn i).t ∧ (b.bn i).t < 19 := by
  obtain ⟨L, hL⟩ : ∃ L : Nat, b.lots = L := ⟨b.lots.toNat, by have := hv.lots1; omega⟩
  have h6 := hv.lots6
  have h12 := hv.tot
  unfold BK.bnN at hi
  have ki := b.rg_kind hv L hL (i / 2) (by omega)
  unfold BK.bn
  rcases ki with ⟨a1, a2, a3⟩ | ⟨q, a1, a2, a3, a4⟩ | ⟨q, a1, a2, a3, a4, a5⟩ <;> simp only <;> split <;> simp only <;> omega
theorem BK.rg_hi (b : BK) (hv : b.Valid) (i : Nat) : -1000 ≤ (b.rg i).hi ∧ (b.rg i).hi ≤ 1000 ∧ (b.rg i).lo ≤ (b.rg i).hi := by
  have h := b.at_ok hv ((i - b.lots.toNat) / 2)
  have h1 := hv.lo0
  have h2 := hv.lohi
  have h3 := hv.hi50
  have h4 := h.lo
  have h5 := h.le
  have h6 := h.hi
  unfold BK.rg
  split
  · simp
  · simp only
    split
    · split <;> simp <;> omega
    · simp only; omega
theorem BK.bn_by (b : BK) (hv : b.Valid) (i : Nat) : -1000 ≤ (b.bn i).by' ∧ (b.bn i).by' ≤ 1000 := by
  have h1 := b.rg_lo hv (i / 2)
  have h2 := b.rg_hi hv (i / 2)
  unfold BK.bn
  simp only
  split <;> simp only <;> omega
end Go.Proofs.YtmedkmbfggphdaaDoor

namespace Go.Proofs.YtmedkmbfggphdaaDoor
open Go.RowKit Go.Shelf
attribute [local go_sem] Oper.semAt_some

/-- Between two rounds of the loop over ranges: s is where its own frame's heap ended. -/
def BC (W : World) (bk yv : Value) (J : (Nat → Prop) → World → Prop) (O : Nat → Prop) (w : World) : Prop :=
  J (fun k => O k ∨ k = W.heap.size ∨ k = W.heap.size + 1) w ∧ (∀ k, O k → W.heap.size + 2 ≤ k) ∧ W.heap.size + 2 ≤ w.heap.size ∧
    w.heap[W.heap.size]? = some (.cells bk.cells 82 (0, 0)) ∧ w.heap[W.heap.size + 1]? = some (.cells #[yv] 130 (0, 0))

theorem BC.stable {W : World} {bk yv : Value} {J : (Nat → Prop) → World → Prop} (hJ : Stable J) : Stable (BC W bk yv J) := by
  intro O O' w w' ⟨h1, h2, h3, h4, h5⟩ hd hO
  refine ⟨hJ _ _ _ _ h1 (hd.mono (fun _ _ h => .inl h)) ?_, ?_, Nat.le_trans h3 hd.size, ?_, ?_⟩
  · rintro k (h | h)
    · rcases hO k h with h | h
      · exact .inl (.inl h)
      · exact .inr h
    · exact .inl (.inr h)
  · intro k hk
    rcases hO k hk with h | h
    · exact h2 k h
    · omega
  · exact (hd.block _ (by omega) (fun h => by have := h2 _ h; omega)).trans h4
  · exact (hd.block _ (by omega) (fun h => by have := h2 _ h; omega)).trans h5

theorem Own.cell1 {O : Nat → Prop} {x T : Nat} {v0 : Value} {w : World} (h : Own O x #[v0] T w) : w.cell? ⟨x, 0, none⟩ = some v0 := cell_of_row w x 0 _ T _ h.2
/-- Within a round: both boxes of the function, both of the round. -/
def BT (B : Nat) (W Wb : World) (bk yv : Value) (Bp : Nat) (cp : Array Value) (Br : Nat) (cr : Array Value) (J : (Nat → Prop) → World → Prop) (O : Nat → Prop) (w : World) : Prop :=
  J O w ∧ Own O W.heap.size bk.cells 82 w ∧ Own O (W.heap.size + 1) #[yv] 130 w ∧ Own O Bp cp 106 w ∧ Own O Br cr 23 w ∧ (∀ k, O k → W.heap.size ≤ k ∧ k < w.heap.size) ∧ Diff (fun k => ¬ k < B ∧ ¬ O k) Wb w
section
variable {B : Nat} {W Wb w w' : World} {bk yv : Value} {Bp Br : Nat} {cp cr : Array Value} {J J' : (Nat → Prop) → World → Prop} {O : Nat → Prop}
theorem BT.pure (h : BT B W Wb bk yv Bp cp Br cr J O w) (hJ : Stable J) (hp : Pure w w') : BT B W Wb bk yv Bp cp Br cr J O w' := by
  obtain ⟨h1, h2, h3, h4, h5, h6, h7⟩ := h
  exact ⟨hJ _ _ _ _ h1 (hp.mono (fun _ _ h => h.elim)) (fun _ h => .inl h), h2.pure hp, h3.pure hp, h4.pure hp, h5.pure hp, fun k hk => ⟨(h6 k hk).1, Nat.lt_of_lt_of_le (h6 k hk).2 hp.size⟩, h7.trans (hp.mono (fun _ _ h => h.elim))⟩
theorem BT.round (h : BT B W Wb bk yv Bp cp Br cr J O w) (hd : Diff (fun k => ¬ k < B ∧ ¬ O k) w w') (hj : J' O w') : BT B W Wb bk yv Bp cp Br cr J' O w' := by
  obtain ⟨h1, h2, h3, h4, h5, h6, h7⟩ := h
  exact ⟨hj, h2.round hd, h3.round hd, h4.round hd, h5.round hd, fun k hk => ⟨(h6 k hk).1, Nat.lt_of_lt_of_le (h6 k hk).2 hd.size⟩, h7.trans hd⟩
theorem BT.back {Oi : Nat → Prop} (h : BT B W Wb bk yv Bp cp Br cr J O w) (hJ : Stable J) (hO : ∀ k, Oi k → W.heap.size + 2 ≤ k) (hO2 : ∀ k, (Oi k ∨ k = W.heap.size ∨ k = W.heap.size + 1) → O k) :
    Diff (fun k => ¬ k < B ∧ ¬ Oi k) Wb w ∧ BC W bk yv J Oi w := by
  obtain ⟨h1, h2, h3, h4, h5, h6, h7⟩ := h
  exact ⟨h7.mono (fun k _ h => ⟨h.1, fun ho => h.2 (hO2 k (.inl ho))⟩), hJ _ _ _ _ h1 (Diff.refl _) (fun k hk => .inl (hO2 k hk)), hO, by have := h3.lt; omega, h2.2, h3.2⟩
end

set_option maxHeartbeats 4000000 in
theorem bounds_iter (W0 : World) (b : BK) (p : Option Addr) (cap B : Nat) (hv : b.Valid) (hb : BookAt B W0 p b) (hB : B ≤ W0.heap.size) (hg : Gl W0) (h4 : 4 ≤ B) :
    Iter Tryd.prog 95 (fun y => #[.agg #[.int .i64 b.lo, .int .i64 b.hi, .int .i64 b.lots, .slice p b.n cap], y]) b.bnN (fun i => (b.bn i).e) (fun k => k < B) W0 := by
  intro l J Jx W hR hD hJ hJx hY h0
  have hro : Fence.wide.round = none := rfl
  have hmx : Tryd.prog.follows .mixedOrders = true := by kernel_rfl
  have hBW : B ≤ W.heap.size := Nat.le_trans hB hD.size
  have hbW : BookAt B W p b := hb.diff hD hB (fun k hk h => h hk)
  have hgW : Gl W := hg.diff hD (fun k hk h => h (by omega))
  refine callsIn_of_wp_marks Tryd.func95 rfl trivial ?_ hro
  simp only [Tryd.ntmps95, List.size_toArray, List.length_cons, List.length_nil, Nat.reduceAdd, Nat.reduceSub, Array.replicate_succ, Array.replicate_zero, List.push_toArray, List.append_toArray, List.nil_append, List.cons_append]
  gi_wp2
  obtain ⟨X, hX⟩ : ∃ X, (W.alloc (.cells #[.int .i64 b.lo, .int .i64 b.hi, .int .i64 b.lots, .slice p b.n cap] 82)).alloc (.cells #[.func (.yield l) #[] #[]] 130) = X := ⟨_, rfl⟩
  have hXs : X.heap.size = W.heap.size + 2 := by rw [← hX]; simp
  have hXd : Diff (fun _ => False) W X := by rw [← hX]; exact ((Diff.refl W).alloc _).alloc _
  have hX1 : X.heap[W.heap.size]? = some (.cells #[.int .i64 b.lo, .int .i64 b.hi, .int .i64 b.lots, .slice p b.n cap] 82 (0, 0)) := by rw [← hX]; exact (Below.heap_alloc _ _ _ (by simp)).trans (World.alloc_heap_new _ _)
  have hX2 : X.heap[W.heap.size + 1]? = some (.cells #[.func (.yield l) #[] #[]] 130 (0, 0)) := by
    rw [← hX]
    have := World.alloc_heap_new (W.alloc (.cells #[.int .i64 b.lo, .int .i64 b.hi, .int .i64 b.lots, .slice p b.n cap] 82)) (.cells #[.func (.yield l) #[] #[]] 130)
    rwa [World.size_alloc] at this
  rw [hX]
  clear hX
  refine range_law (f := 92) (A := fun y => #[.agg #[.int .i64 b.lo, .int .i64 b.hi, .int .i64 b.lots, .slice p b.n cap], y]) (n := b.rgN) (es := fun i => (b.rg i).e) (R := fun k => k < B) (W0 := W)
    ?call (ranges_iter W b p cap B hv hbW hBW hgW h4) (fun k hk => by show k < _; omega) (hXd.mono (fun _ _ h => h.elim)) (fun _ _ => rfl)
    (fun i => BC W (.agg #[.int .i64 b.lo, .int .i64 b.hi, .int .i64 b.lots, .slice p b.n cap]) (.func (.yield l) #[] #[]) (J (2 * i)))
    (BC W (.agg #[.int .i64 b.lo, .int .i64 b.hi, .int .i64 b.lots, .slice p b.n cap]) (.func (.yield l) #[] #[]) Jx)
    (fun i => BC.stable (hJ _)) (BC.stable hJx) ?start
    (fun i W1 a' W' => a' = { tmps := #[.agg #[.int .i64 b.lo, .int .i64 b.hi, .int .i64 b.lots, .slice p b.n cap], .func (.yield l) #[] #[], .pointer (some ⟨W.heap.size, 0, none⟩), .pointer (some ⟨W.heap.size + 1, 0, none⟩), .pointer (some ⟨W1.heap.size, 0, none⟩), .pointer (some ⟨W1.heap.size + 1, 0, none⟩), .agg #[.int .i64 b.lo, .int .i64 b.hi, .int .i64 b.lots, .slice p b.n cap], .func (.func 92) #[.agg #[.int .i64 b.lo, .int .i64 b.hi, .int .i64 b.lots, .slice p b.n cap]] #[], .agg #[.int .i64 (b.rg i).f, .int .i64 (b.rg i).t], .agg #[.int .i64 (b.rg i).lo, .int .i64 (b.rg i).hi], undef, undef, undef, undef, undef, undef, undef, undef, undef, undef, undef, undef, undef, undef, undef, undef], defers := [] } ∧
      W'.heap[W1.heap.size]? = some (.cells #[.int .i64 (b.rg i).f, .int .i64 (b.rg i).t] 106 (0, 0)) ∧ W'.heap[W1.heap.size + 1]? = some (.cells #[.int .i64 (b.rg i).lo, .int .i64 (b.rg i).hi] 23 (0, 0)))
    ?bx ?assign ?body ?done ?stop
  case call =>
    intro l' W'
    exact ⟨{ target := .fn (.func 92) #[], args := #[.agg #[.int .i64 b.lo, .int .i64 b.hi, .int .i64 b.lots, .slice p b.n cap], .func (.yield l') #[] #[]] }, by simp only [resolve, rangeCall]; simp [go_sem], by simp [invoke, go_sem, enters_of Tryd.func92 (by kernel_rfl) rfl]⟩
  case start =>
    refine ⟨hJ _ _ _ _ _ h0 (hXd.mono (fun _ _ h => h.elim)) ?_, fun _ h => h.elim, by omega, hX1, hX2⟩
    rintro k (h | h | h)
    · exact h.elim
    · exact .inr (by omega)
    · exact .inr (by omega)
  case bx =>
    rintro i W1 a' W' L o ⟨h1, h2, h3⟩ hL
    exact ⟨h1, (World.putObj_heap_other (by omega)).trans h2, (World.putObj_heap_other (by omega)).trans h3⟩
  case assign =>
    intro l' i O W1 hi hI
    gi_wp2
    refine ⟨((Diff.refl _).alloc _).alloc _, by first | rfl | trivial, (Below.heap_alloc _ _ _ (by simp)).trans (World.alloc_heap_new _ _), ?_⟩
    have := World.alloc_heap_new (W1.alloc (.cells #[.int .i64 (b.rg i).f, .int .i64 (b.rg i).t] 106)) (.cells #[.int .i64 (b.rg i).lo, .int .i64 (b.rg i).hi] 23)
    rwa [World.size_alloc] at this
  case body =>
    rintro l' i O W1 a' W' hi hI hdo hOb hs1 hs2 ⟨rfl, hcp, hcr⟩
    have hI0 := hI
    obtain ⟨hj, hO2, hsz, hb1, hb2⟩ := hI
    have HB1 : Hid (b.bn (2 * i) = ⟨(b.rg i).f, (b.rg i).t, (b.rg i).hi⟩) := b.bn_even i
    have HB2 : Hid (b.bn (2 * i + 1) = ⟨(b.rg i).t, (b.rg i).f, -(b.rg i).lo⟩) := b.bn_odd i
    have hN1 : 2 * i < b.bnN := by unfold BK.bnN; omega
    have hN2 : 2 * i + 1 < b.bnN := by unfold BK.bnN; omega
    obtain ⟨hlo1, hlo2⟩ := b.rg_lo hv i
    have hlt2 : W1.heap.size + 1 < W'.heap.size := (Array.getElem?_eq_some_iff.1 hcr).1
    have hbt : BT B W W' (.agg #[.int .i64 b.lo, .int .i64 b.hi, .int .i64 b.lots, .slice p b.n cap]) (.func (.yield l) #[] #[]) W1.heap.size #[.int .i64 (b.rg i).f, .int .i64 (b.rg i).t] (W1.heap.size + 1) #[.int .i64 (b.rg i).lo, .int .i64 (b.rg i).hi] (J (2 * i))
        (fun k => O k ∨ k = W.heap.size ∨ k = W.heap.size + 1 ∨ k = W1.heap.size ∨ k = W1.heap.size + 1) W' := by
      refine ⟨hJ _ _ _ _ _ hj (hdo.mono (fun _ _ h => .inl h)) ?_, ⟨.inr (.inl rfl), (hdo.block _ (by omega) (fun h => by have := hO2 _ h; omega)).trans hb1⟩, ⟨.inr (.inr (.inl rfl)), (hdo.block _ (by omega) (fun h => by have := hO2 _ h; omega)).trans hb2⟩,
        ⟨.inr (.inr (.inr (.inl rfl))), hcp⟩, ⟨.inr (.inr (.inr (.inr rfl))), hcr⟩, ?_, Diff.refl _⟩
      · rintro k (h | h | h | h | h)
        · exact .inl (.inl h)
        · exact .inl (.inr (.inl h))
        · exact .inl (.inr (.inr h))
        · exact .inr (by omega)
        · exact .inr (by omega)
      · rintro k (h | h | h | h | h)
        · have := hO2 k h; have := hOb k h; omega
        · omega
        · omega
        · omega
        · omega
    have hO2b : ∀ k, (O k ∨ k = W.heap.size ∨ k = W.heap.size + 1) → (fun k => O k ∨ k = W.heap.size ∨ k = W.heap.size + 1 ∨ k = W1.heap.size ∨ k = W1.heap.size + 1) k := by
      rintro k (h | h | h)
      · exact .inl h
      · exact .inr (.inl h)
      · exact .inr (.inr (.inl h))
    obtain ⟨O2, hO2e⟩ : ∃ O2, (fun k => O k ∨ k = W.heap.size ∨ k = W.heap.size + 1 ∨ k = W1.heap.size ∨ k = W1.heap.size + 1) = O2 := ⟨_, rfl⟩
    rw [hO2e] at hbt hO2b
    clear hO2e hcp hcr hj hb1 hb2 hdo hI0
    have hI0 : True ∧ (∀ k, O k → W.heap.size + 2 ≤ k) ∧ True := ⟨trivial, hO2, trivial⟩
    obtain ⟨Bp, hBp⟩ : ∃ Bp, W1.heap.size = Bp := ⟨_, rfl⟩
    obtain ⟨Br, hBr⟩ : ∃ Br, W1.heap.size + 1 = Br := ⟨_, rfl⟩
    rw [hBr] at hbt ⊢
    rw [hBp] at hbt ⊢
    clear hBr hBp hlt2 hs2 hs1 hOb
    gi_wp2
    refine reg_inv (fun d a w => ∃ r1 r2 : Bool, a = { tmps := #[Value.agg #[Value.int IntKind.i64 b.lo, Value.int IntKind.i64 b.hi, Value.int IntKind.i64 b.lots, Value.slice p b.n cap], Value.func (Fn.yield l) #[] #[], Value.pointer (some { block := W.heap.size, off := 0 }), Value.pointer (some { block := (W.heap.size + 1), off := 0 }), Value.pointer (some { block := Bp, off := 0 }), Value.pointer (some { block := Br, off := 0 }), Value.agg #[Value.int IntKind.i64 b.lo, Value.int IntKind.i64 b.hi, Value.int IntKind.i64 b.lots, Value.slice p b.n cap], Value.func (Fn.func 92) #[Value.agg #[Value.int IntKind.i64 b.lo, Value.int IntKind.i64 b.hi, Value.int IntKind.i64 b.lots, Value.slice p b.n cap]] #[], Value.agg #[Value.int IntKind.i64 (b.rg i).f, Value.int IntKind.i64 (b.rg i).t], Value.agg #[Value.int IntKind.i64 (b.rg i).lo, Value.int IntKind.i64 (b.rg i).hi], (bif d 0 then Value.func (Fn.yield l) #[] #[] else undef), (bif d 1 then Value.agg #[Value.int IntKind.i64 (b.rg i).f, Value.int IntKind.i64 (b.rg i).t] else undef), (bif d 2 then Value.pointer (some { block := Br, off := 1 }) else undef), (bif d 3 then Value.int IntKind.i64 (b.rg i).hi else undef), (bif d 4 then Value.bool r1 else undef), (bif d 5 then Value.bool !r1 else undef), (bif d 6 then Value.bool !r1 else undef), (bif d 7 then (bif r1 then Value.func (Fn.yield l) #[] #[] else undef) else undef), (bif d 8 then (bif r1 then Value.agg #[Value.int IntKind.i64 (b.rg i).f, Value.int IntKind.i64 (b.rg i).t] else undef) else undef), (bif d 9 then (bif r1 then Value.agg #[Value.int IntKind.i64 (b.rg i).t, Value.int IntKind.i64 (b.rg i).f] else undef) else undef), (bif d 10 then (bif r1 then Value.pointer (some { block := Br, off := 0 }) else undef) else undef), (bif d 11 then (bif r1 then Value.int IntKind.i64 (b.rg i).lo else undef) else undef), (bif d 12 then (bif r1 then Value.int IntKind.i64 (-(b.rg i).lo) else undef) else undef), (bif d 13 then (bif r1 then Value.bool r2 else undef) else undef), (bif d 14 then (bif r1 then Value.bool !r2 else undef) else undef), (bif d 15 then (bif r1 then Value.bool !r2 else Value.bool true) else undef)], defers := [] } ∧ G14 (BT B W W' (.agg #[.int .i64 b.lo, .int .i64 b.hi, .int .i64 b.lots, .slice p b.n cap]) (.func (.yield l) #[] #[]) Bp #[.int .i64 (b.rg i).f, .int .i64 (b.rg i).t] Br #[.int .i64 (b.rg i).lo, .int .i64 (b.rg i).hi] (J (2 * i)) O2) (BT B W W' (.agg #[.int .i64 b.lo, .int .i64 b.hi, .int .i64 b.lots, .slice p b.n cap]) (.func (.yield l) #[] #[]) Bp #[.int .i64 (b.rg i).f, .int .i64 (b.rg i).t] Br #[.int .i64 (b.rg i).lo, .int .i64 (b.rg i).hi] (J (2 * i + 1)) O2) (BT B W W' (.agg #[.int .i64 b.lo, .int .i64 b.hi, .int .i64 b.lots, .slice p b.n cap]) (.func (.yield l) #[] #[]) Bp #[.int .i64 (b.rg i).f, .int .i64 (b.rg i).t] Br #[.int .i64 (b.rg i).lo, .int .i64 (b.rg i).hi] (J (2 * i + 1 + 1)) O2) (BT B W W' (.agg #[.int .i64 b.lo, .int .i64 b.hi, .int .i64 b.lots, .slice p b.n cap]) (.func (.yield l) #[] #[]) Bp #[.int .i64 (b.rg i).f, .int .i64 (b.rg i).t] Br #[.int .i64 (b.rg i).lo, .int .i64 (b.rg i).hi] Jx O2) (d 4) (d 13) r1 r2 w) hmx (by kernel_rfl) ?_ ?_ ?_
    · exact ⟨true, true, rfl, hbt.pure (hJ _) (Diff.refl _).drew⟩
    · refine ⟨?_, ?_, ?_, ?_, ?_, ?_, ?_, ?_, ?_, ?_, ?_, ?_, ?_, ?_, ?_, ?_, trivial⟩
      · rintro d a w hdi hdep hcl ⟨r1, r2, rfl, hw⟩ K hK
        replace hdi : d 0 = false := hdi
        obtain ⟨-, -, f4, f5, f6, f7, f8, f9, f10, f11, f12, f13, f14, f15, -⟩ := hcl.facts 0 hdi rfl hdep [] [4, 5, 6, 7, 8, 9, 10, 11, 12, 13, 14, 15] (by kernel_rfl) (by kernel_rfl)
        clear hdep hcl
        have hr : BT B W W' (.agg #[.int .i64 b.lo, .int .i64 b.hi, .int .i64 b.lots, .slice p b.n cap]) (.func (.yield l) #[] #[]) Bp #[.int .i64 (b.rg i).f, .int .i64 (b.rg i).t] Br #[.int .i64 (b.rg i).lo, .int .i64 (b.rg i).hi] (J (2 * i)) O2 w := by rw [f4] at hw; exact hw
        have z0 := hr.2.2.1.cell1
        go_simp
        exact hK _ _ ⟨r1, r2, by simp [upd, hdi, f4, f5, f6, f7, f8, f9, f10, f11, f12, f13, f14, f15], hw⟩
      · rintro d a w hdi hdep hcl ⟨r1, r2, rfl, hw⟩ K hK
        replace hdi : d 1 = false := hdi
        obtain ⟨-, -, f4, f5, f6, f7, f8, f9, f10, f11, f12, f13, f14, f15, -⟩ := hcl.facts 1 hdi rfl hdep [] [4, 5, 6, 7, 8, 9, 10, 11, 12, 13, 14, 15] (by kernel_rfl) (by kernel_rfl)
        clear hdep hcl
        have hr : BT B W W' (.agg #[.int .i64 b.lo, .int .i64 b.hi, .int .i64 b.lots, .slice p b.n cap]) (.func (.yield l) #[] #[]) Bp #[.int .i64 (b.rg i).f, .int .i64 (b.rg i).t] Br #[.int .i64 (b.rg i).lo, .int .i64 (b.rg i).hi] (J (2 * i)) O2 w := by rw [f4] at hw; exact hw
        obtain ⟨z0, z1⟩ := hr.2.2.2.1.cells2
        go_simp
        exact hK _ _ ⟨r1, r2, by simp [upd, hdi, f4, f5, f6, f7, f8, f9, f10, f11, f12, f13, f14, f15], hw⟩
      · rintro d a w hdi hdep hcl ⟨r1, r2, rfl, hw⟩ K hK
        replace hdi : d 2 = false := hdi
        obtain ⟨-, -, f3, f4, f5, f6, f7, f8, f9, f10, f11, f12, f13, f14, f15, -⟩ := hcl.facts 2 hdi rfl hdep [] [3, 4, 5, 6, 7, 8, 9, 10, 11, 12, 13, 14, 15] (by kernel_rfl) (by kernel_rfl)
        clear hdep hcl
        go_simp
        exact hK _ _ ⟨r1, r2, by simp [upd, hdi, f3, f4, f5, f6, f7, f8, f9, f10, f11, f12, f13, f14, f15], hw⟩
      · rintro d a w hdi hdep hcl ⟨r1, r2, rfl, hw⟩ K hK
        replace hdi : d 3 = false := hdi
        obtain ⟨-, ⟨e2, -⟩, f4, f5, f6, f7, f8, f9, f10, f11, f12, f13, f14, f15, -⟩ := hcl.facts 3 hdi rfl hdep [2] [4, 5, 6, 7, 8, 9, 10, 11, 12, 13, 14, 15] (by kernel_rfl) (by kernel_rfl)
        clear hdep hcl
        have hr : BT B W W' (.agg #[.int .i64 b.lo, .int .i64 b.hi, .int .i64 b.lots, .slice p b.n cap]) (.func (.yield l) #[] #[]) Bp #[.int .i64 (b.rg i).f, .int .i64 (b.rg i).t] Br #[.int .i64 (b.rg i).lo, .int .i64 (b.rg i).hi] (J (2 * i)) O2 w := by rw [f4] at hw; exact hw
        obtain ⟨z0, z1⟩ := hr.2.2.2.2.1.cells2
        go_simp
        exact hK _ _ ⟨r1, r2, by simp [upd, hdi, e2, f4, f5, f6, f7, f8, f9, f10, f11, f12, f13, f14, f15], hw⟩
      · rintro d a w hdi hdep hcl ⟨r1, r2, rfl, hw⟩ K hK
        replace hdi : d 4 = false := hdi
        obtain ⟨-, ⟨e0, e1, e2, e3, -⟩, f5, f6, f7, f8, f9, f10, f11, f12, f13, f14, f15, -⟩ := hcl.facts 4 hdi rfl hdep [0, 1, 2, 3] [5, 6, 7, 8, 9, 10, 11, 12, 13, 14, 15] (by kernel_rfl) (by kernel_rfl)
        clear hdep hcl
        have hr : BT B W W' (.agg #[.int .i64 b.lo, .int .i64 b.hi, .int .i64 b.lots, .slice p b.n cap]) (.func (.yield l) #[] #[]) Bp #[.int .i64 (b.rg i).f, .int .i64 (b.rg i).t] Br #[.int .i64 (b.rg i).lo, .int .i64 (b.rg i).hi] (J (2 * i)) O2 w := by rw [hdi] at hw; exact hw
        have hsW : W.heap.size ≤ w.heap.size := by have := (hr.2.2.2.2.2.1 _ hr.2.1.1).2; omega
        obtain ⟨fn, tmps, assign, body, hy, hRd⟩ := hY (2 * i) O2 w hN1 hr.1 hr.2.2.2.2.2.1 hsW
        rw [HB1.out] at hy
        go_simp
        refine ⟨rfl, RoundIn.mono (F := Fence.wide.inRound l') hRd ?_⟩
        rintro e W3 ⟨hdf, (⟨rfl, hj'⟩ | ⟨rfl, hj'⟩)⟩
        · exact hK _ _ ⟨true, true, by simp [upd, hdi, e0, e1, e2, e3, f5, f6, f7, f8, f9, f10, f11, f12, f13, f14, f15], by rw [show upd d 4 4 = true from rfl, show upd d 4 13 = false from f13]; exact hr.round hdf hj'⟩
        · exact hK _ _ ⟨false, true, by simp [upd, hdi, e0, e1, e2, e3, f5, f6, f7, f8, f9, f10, f11, f12, f13, f14, f15], by rw [show upd d 4 4 = true from rfl, show upd d 4 13 = false from f13]; exact hr.round hdf hj'⟩
      · rintro d a w hdi hdep hcl ⟨r1, r2, rfl, hw⟩ K hK
        replace hdi : d 5 = false := hdi
        obtain ⟨-, ⟨e0, e1, e2, e3, e4, -⟩, f6, f7, f8, f9, f10, f11, f12, f13, f14, f15, -⟩ := hcl.facts 5 hdi rfl hdep [0, 1, 2, 3, 4] [6, 7, 8, 9, 10, 11, 12, 13, 14, 15] (by kernel_rfl) (by kernel_rfl)
        clear hdep hcl
        go_simp
        exact hK _ _ ⟨r1, r2, by simp [upd, hdi, e0, e1, e2, e3, e4, f6, f7, f8, f9, f10, f11, f12, f13, f14, f15], hw⟩
      · rintro d a w hdi hdep hcl ⟨r1, r2, rfl, hw⟩ K hK
        replace hdi : d 6 = false := hdi
        obtain ⟨-, ⟨e0, e1, e2, e3, e4, e5, -⟩, f7, f8, f9, f10, f11, f12, f13, f14, f15, -⟩ := hcl.facts 6 hdi rfl hdep [0, 1, 2, 3, 4, 5] [7, 8, 9, 10, 11, 12, 13, 14, 15] (by kernel_rfl) (by kernel_rfl)
        clear hdep hcl
        go_simp
        exact hK _ _ ⟨r1, r2, by simp [upd, hdi, e0, e1, e2, e3, e4, e5, f7, f8, f9, f10, f11, f12, f13, f14, f15], hw⟩
      · rintro d a w hdi hdep hcl ⟨r1, r2, rfl, hw⟩ K hK
        replace hdi : d 7 = false := hdi
        obtain ⟨-, ⟨e0, e1, e2, e3, e4, e5, e6, -⟩, f13, f14, f15, -⟩ := hcl.facts 7 hdi rfl hdep [0, 1, 2, 3, 4, 5, 6] [13, 14, 15] (by kernel_rfl) (by kernel_rfl)
        clear hdep hcl
        cases r1
        · go_simp
          first | exact hK _ _ ⟨false, r2, by simp [upd, hdi, e0, e1, e2, e3, e4, e5, e6, f13, f14, f15], hw⟩ | exact ⟨fun _ _ => trivial, hK _ _ ⟨false, r2, by simp [upd, hdi, e0, e1, e2, e3, e4, e5, e6, f13, f14, f15], hw⟩⟩ | exact ⟨trivial, hK _ _ ⟨false, r2, by simp [upd, hdi, e0, e1, e2, e3, e4, e5, e6, f13, f14, f15], hw⟩⟩ | exact hK _ _ ⟨false, r2, by simp [upd, hdi, e0, e1, e2, e3, e4, e5, e6, f13, f14, f15], (by rw [e4] at hw; rw [show upd d 13 4 = true from e4]; exact hw)⟩ | exact ⟨fun _ _ => trivial, hK _ _ ⟨false, r2, by simp [upd, hdi, e0, e1, e2, e3, e4, e5, e6, f13, f14, f15], (by rw [e4] at hw; rw [show upd d 13 4 = true from e4]; exact hw)⟩⟩
        · have hr : BT B W W' (.agg #[.int .i64 b.lo, .int .i64 b.hi, .int .i64 b.lots, .slice p b.n cap]) (.func (.yield l) #[] #[]) Bp #[.int .i64 (b.rg i).f, .int .i64 (b.rg i).t] Br #[.int .i64 (b.rg i).lo, .int .i64 (b.rg i).hi] (J (2 * i + 1)) O2 w := by rw [e4, f13] at hw; exact hw
          have z0 := hr.2.2.1.cell1
          go_simp
          exact hK _ _ ⟨true, r2, by simp [upd, hdi, e0, e1, e2, e3, e4, e5, e6, f13, f14, f15], hw⟩
      · rintro d a w hdi hdep hcl ⟨r1, r2, rfl, hw⟩ K hK
        replace hdi : d 8 = false := hdi
        obtain ⟨-, ⟨e0, e1, e2, e3, e4, e5, e6, -⟩, f9, f13, f14, f15, -⟩ := hcl.facts 8 hdi rfl hdep [0, 1, 2, 3, 4, 5, 6] [9, 13, 14, 15] (by kernel_rfl) (by kernel_rfl)
        clear hdep hcl
        cases r1
        · go_simp
          first | exact hK _ _ ⟨false, r2, by simp [upd, hdi, e0, e1, e2, e3, e4, e5, e6, f9, f13, f14, f15], hw⟩ | exact ⟨fun _ _ => trivial, hK _ _ ⟨false, r2, by simp [upd, hdi, e0, e1, e2, e3, e4, e5, e6, f9, f13, f14, f15], hw⟩⟩ | exact ⟨trivial, hK _ _ ⟨false, r2, by simp [upd, hdi, e0, e1, e2, e3, e4, e5, e6, f9, f13, f14, f15], hw⟩⟩ | exact hK _ _ ⟨false, r2, by simp [upd, hdi, e0, e1, e2, e3, e4, e5, e6, f9, f13, f14, f15], (by rw [e4] at hw; rw [show upd d 13 4 = true from e4]; exact hw)⟩ | exact ⟨fun _ _ => trivial, hK _ _ ⟨false, r2, by simp [upd, hdi, e0, e1, e2, e3, e4, e5, e6, f9, f13, f14, f15], (by rw [e4] at hw; rw [show upd d 13 4 = true from e4]; exact hw)⟩⟩
        · have hr : BT B W W' (.agg #[.int .i64 b.lo, .int .i64 b.hi, .int .i64 b.lots, .slice p b.n cap]) (.func (.yield l) #[] #[]) Bp #[.int .i64 (b.rg i).f, .int .i64 (b.rg i).t] Br #[.int .i64 (b.rg i).lo, .int .i64 (b.rg i).hi] (J (2 * i + 1)) O2 w := by rw [e4, f13] at hw; exact hw
          obtain ⟨z0, z1⟩ := hr.2.2.2.1.cells2
          go_simp
          exact hK _ _ ⟨true, r2, by simp [upd, hdi, e0, e1, e2, e3, e4, e5, e6, f9, f13, f14, f15], hw⟩
      · rintro d a w hdi hdep hcl ⟨r1, r2, rfl, hw⟩ K hK
        replace hdi : d 9 = false := hdi
        obtain ⟨-, ⟨e0, e1, e2, e3, e4, e5, e6, e8, -⟩, f13, f14, f15, -⟩ := hcl.facts 9 hdi rfl hdep [0, 1, 2, 3, 4, 5, 6, 8] [13, 14, 15] (by kernel_rfl) (by kernel_rfl)
        clear hdep hcl
        cases r1
        · go_simp
          first | exact hK _ _ ⟨false, r2, by simp [upd, hdi, e0, e1, e2, e3, e4, e5, e6, e8, f13, f14, f15], hw⟩ | exact ⟨fun _ _ => trivial, hK _ _ ⟨false, r2, by simp [upd, hdi, e0, e1, e2, e3, e4, e5, e6, e8, f13, f14, f15], hw⟩⟩ | exact ⟨trivial, hK _ _ ⟨false, r2, by simp [upd, hdi, e0, e1, e2, e3, e4, e5, e6, e8, f13, f14, f15], hw⟩⟩ | exact hK _ _ ⟨false, r2, by simp [upd, hdi, e0, e1, e2, e3, e4, e5, e6, e8, f13, f14, f15], (by rw [e4] at hw; rw [show upd d 13 4 = true from e4]; exact hw)⟩ | exact ⟨fun _ _ => trivial, hK _ _ ⟨false, r2, by simp [upd, hdi, e0, e1, e2, e3, e4, e5, e6, e8, f13, f14, f15], (by rw [e4] at hw; rw [show upd d 13 4 = true from e4]; exact hw)⟩⟩
        · have hr : BT B W W' (.agg #[.int .i64 b.lo, .int .i64 b.hi, .int .i64 b.lots, .slice p b.n cap]) (.func (.yield l) #[] #[]) Bp #[.int .i64 (b.rg i).f, .int .i64 (b.rg i).t] Br #[.int .i64 (b.rg i).lo, .int .i64 (b.rg i).hi] (J (2 * i + 1)) O2 w := by rw [e4, f13] at hw; exact hw
          go_simp
          refine ⟨trivial, rfl, CallsIn.mono (CallsIn.inRound l' (callsIn_wide.2 (back_any _ _ _))) ?_⟩
          rintro e w' ⟨rfl, hp⟩
          exact hK _ _ ⟨true, r2, by simp [upd, hdi, e0, e1, e2, e3, e4, e5, e6, e8, f13, f14, f15], by rw [show upd d 9 4 = true from e4, show upd d 9 13 = false from f13]; exact hr.pure (hJ _) hp⟩
      · rintro d a w hdi hdep hcl ⟨r1, r2, rfl, hw⟩ K hK
        replace hdi : d 10 = false := hdi
        obtain ⟨-, ⟨e0, e1, e2, e3, e4, e5, e6, -⟩, f11, f12, f13, f14, f15, -⟩ := hcl.facts 10 hdi rfl hdep [0, 1, 2, 3, 4, 5, 6] [11, 12, 13, 14, 15] (by kernel_rfl) (by kernel_rfl)
        clear hdep hcl
        cases r1
        · go_simp
          first | exact hK _ _ ⟨false, r2, by simp [upd, hdi, e0, e1, e2, e3, e4, e5, e6, f11, f12, f13, f14, f15], hw⟩ | exact ⟨fun _ _ => trivial, hK _ _ ⟨false, r2, by simp [upd, hdi, e0, e1, e2, e3, e4, e5, e6, f11, f12, f13, f14, f15], hw⟩⟩ | exact ⟨trivial, hK _ _ ⟨false, r2, by simp [upd, hdi, e0, e1, e2, e3, e4, e5, e6, f11, f12, f13, f14, f15], hw⟩⟩ | exact hK _ _ ⟨false, r2, by simp [upd, hdi, e0, e1, e2, e3, e4, e5, e6, f11, f12, f13, f14, f15], (by rw [e4] at hw; rw [show upd d 13 4 = true from e4]; exact hw)⟩ | exact ⟨fun _ _ => trivial, hK _ _ ⟨false, r2, by simp [upd, hdi, e0, e1, e2, e3, e4, e5, e6, f11, f12, f13, f14, f15], (by rw [e4] at hw; rw [show upd d 13 4 = true from e4]; exact hw)⟩⟩
        · go_simp
          exact hK _ _ ⟨true, r2, by simp [upd, hdi, e0, e1, e2, e3, e4, e5, e6, f11, f12, f13, f14, f15], hw⟩
      · rintro d a w hdi hdep hcl ⟨r1, r2, rfl, hw⟩ K hK
        replace hdi : d 11 = false := hdi
        obtain ⟨-, ⟨e0, e1, e2, e3, e4, e5, e6, e10, -⟩, f12, f13, f14, f15, -⟩ := hcl.facts 11 hdi rfl hdep [0, 1, 2, 3, 4, 5, 6, 10] [12, 13, 14, 15] (by kernel_rfl) (by kernel_rfl)
        clear hdep hcl
        cases r1
        · go_simp
          first | exact hK _ _ ⟨false, r2, by simp [upd, hdi, e0, e1, e2, e3, e4, e5, e6, e10, f12, f13, f14, f15], hw⟩ | exact ⟨fun _ _ => trivial, hK _ _ ⟨false, r2, by simp [upd, hdi, e0, e1, e2, e3, e4, e5, e6, e10, f12, f13, f14, f15], hw⟩⟩ | exact ⟨trivial, hK _ _ ⟨false, r2, by simp [upd, hdi, e0, e1, e2, e3, e4, e5, e6, e10, f12, f13, f14, f15], hw⟩⟩ | exact hK _ _ ⟨false, r2, by simp [upd, hdi, e0, e1, e2, e3, e4, e5, e6, e10, f12, f13, f14, f15], (by rw [e4] at hw; rw [show upd d 13 4 = true from e4]; exact hw)⟩ | exact ⟨fun _ _ => trivial, hK _ _ ⟨false, r2, by simp [upd, hdi, e0, e1, e2, e3, e4, e5, e6, e10, f12, f13, f14, f15], (by rw [e4] at hw; rw [show upd d 13 4 = true from e4]; exact hw)⟩⟩
        · have hr : BT B W W' (.agg #[.int .i64 b.lo, .int .i64 b.hi, .int .i64 b.lots, .slice p b.n cap]) (.func (.yield l) #[] #[]) Bp #[.int .i64 (b.rg i).f, .int .i64 (b.rg i).t] Br #[.int .i64 (b.rg i).lo, .int .i64 (b.rg i).hi] (J (2 * i + 1)) O2 w := by rw [e4, f13] at hw; exact hw
          obtain ⟨z0, z1⟩ := hr.2.2.2.2.1.cells2
          go_simp
          exact hK _ _ ⟨true, r2, by simp [upd, hdi, e0, e1, e2, e3, e4, e5, e6, e10, f12, f13, f14, f15], hw⟩
      · rintro d a w hdi hdep hcl ⟨r1, r2, rfl, hw⟩ K hK
        replace hdi : d 12 = false := hdi
        obtain ⟨-, ⟨e0, e1, e2, e3, e4, e5, e6, e10, e11, -⟩, f13, f14, f15, -⟩ := hcl.facts 12 hdi rfl hdep [0, 1, 2, 3, 4, 5, 6, 10, 11] [13, 14, 15] (by kernel_rfl) (by kernel_rfl)
        clear hdep hcl
        cases r1
        · go_simp
          first | exact hK _ _ ⟨false, r2, by simp [upd, hdi, e0, e1, e2, e3, e4, e5, e6, e10, e11, f13, f14, f15], hw⟩ | exact ⟨fun _ _ => trivial, hK _ _ ⟨false, r2, by simp [upd, hdi, e0, e1, e2, e3, e4, e5, e6, e10, e11, f13, f14, f15], hw⟩⟩ | exact ⟨trivial, hK _ _ ⟨false, r2, by simp [upd, hdi, e0, e1, e2, e3, e4, e5, e6, e10, e11, f13, f14, f15], hw⟩⟩ | exact hK _ _ ⟨false, r2, by simp [upd, hdi, e0, e1, e2, e3, e4, e5, e6, e10, e11, f13, f14, f15], (by rw [e4] at hw; rw [show upd d 13 4 = true from e4]; exact hw)⟩ | exact ⟨fun _ _ => trivial, hK _ _ ⟨false, r2, by simp [upd, hdi, e0, e1, e2, e3, e4, e5, e6, e10, e11, f13, f14, f15], (by rw [e4] at hw; rw [show upd d 13 4 = true from e4]; exact hw)⟩⟩
        · have HWR := Lib.hid (IntWalk.i64_in (-(b.rg i).lo) (by omega))
          go_simp
          exact hK _ _ ⟨true, r2, by simp [upd, hdi, e0, e1, e2, e3, e4, e5, e6, e10, e11, f13, f14, f15, HWR.out], hw⟩
      · rintro d a w hdi hdep hcl ⟨r1, r2, rfl, hw⟩ K hK
        replace hdi : d 13 = false := hdi
        obtain ⟨-, ⟨e0, e1, e2, e3, e4, e5, e6, e7, e8, e9, e10, e11, e12, -⟩, f14, f15, -⟩ := hcl.facts 13 hdi rfl hdep [0, 1, 2, 3, 4, 5, 6, 7, 8, 9, 10, 11, 12] [14, 15] (by kernel_rfl) (by kernel_rfl)
        clear hdep hcl
        cases r1
        · go_simp
          first | exact hK _ _ ⟨false, r2, by simp [upd, hdi, e0, e1, e2, e3, e4, e5, e6, e7, e8, e9, e10, e11, e12, f14, f15], hw⟩ | exact ⟨fun _ _ => trivial, hK _ _ ⟨false, r2, by simp [upd, hdi, e0, e1, e2, e3, e4, e5, e6, e7, e8, e9, e10, e11, e12, f14, f15], hw⟩⟩ | exact ⟨trivial, hK _ _ ⟨false, r2, by simp [upd, hdi, e0, e1, e2, e3, e4, e5, e6, e7, e8, e9, e10, e11, e12, f14, f15], hw⟩⟩ | exact hK _ _ ⟨false, r2, by simp [upd, hdi, e0, e1, e2, e3, e4, e5, e6, e7, e8, e9, e10, e11, e12, f14, f15], (by rw [e4] at hw; rw [show upd d 13 4 = true from e4]; exact hw)⟩ | exact ⟨fun _ _ => trivial, hK _ _ ⟨false, r2, by simp [upd, hdi, e0, e1, e2, e3, e4, e5, e6, e7, e8, e9, e10, e11, e12, f14, f15], (by rw [e4] at hw; rw [show upd d 13 4 = true from e4]; exact hw)⟩⟩
        · have hr : BT B W W' (.agg #[.int .i64 b.lo, .int .i64 b.hi, .int .i64 b.lots, .slice p b.n cap]) (.func (.yield l) #[] #[]) Bp #[.int .i64 (b.rg i).f, .int .i64 (b.rg i).t] Br #[.int .i64 (b.rg i).lo, .int .i64 (b.rg i).hi] (J (2 * i + 1)) O2 w := by rw [e4, hdi] at hw; exact hw
          have hsW : W.heap.size ≤ w.heap.size := by have := (hr.2.2.2.2.2.1 _ hr.2.1.1).2; omega
          obtain ⟨fn, tmps, assign, body, hy, hRd⟩ := hY (2 * i + 1) O2 w hN2 hr.1 hr.2.2.2.2.2.1 hsW
          rw [HB2.out] at hy
          go_simp
          refine ⟨rfl, RoundIn.mono (F := Fence.wide.inRound l') hRd ?_⟩
          rintro e W3 ⟨hdf, (⟨rfl, hj'⟩ | ⟨rfl, hj'⟩)⟩
          · exact hK _ _ ⟨true, true, by simp [upd, hdi, e0, e1, e2, e3, e4, e5, e6, e7, e8, e9, e10, e11, e12, f14, f15], by rw [show upd d 13 4 = true from e4, show upd d 13 13 = true from rfl]; exact hr.round hdf hj'⟩
          · exact hK _ _ ⟨true, false, by simp [upd, hdi, e0, e1, e2, e3, e4, e5, e6, e7, e8, e9, e10, e11, e12, f14, f15], by rw [show upd d 13 4 = true from e4, show upd d 13 13 = true from rfl]; exact hr.round hdf hj'⟩
      · rintro d a w hdi hdep hcl ⟨r1, r2, rfl, hw⟩ K hK
        replace hdi : d 14 = false := hdi
        obtain ⟨-, ⟨e0, e1, e2, e3, e4, e5, e6, e7, e8, e9, e10, e11, e12, e13, -⟩, f15, -⟩ := hcl.facts 14 hdi rfl hdep [0, 1, 2, 3, 4, 5, 6, 7, 8, 9, 10, 11, 12, 13] [15] (by kernel_rfl) (by kernel_rfl)
        clear hdep hcl
        cases r1
        · go_simp
          first | exact hK _ _ ⟨false, r2, by simp [upd, hdi, e0, e1, e2, e3, e4, e5, e6, e7, e8, e9, e10, e11, e12, e13, f15], hw⟩ | exact ⟨fun _ _ => trivial, hK _ _ ⟨false, r2, by simp [upd, hdi, e0, e1, e2, e3, e4, e5, e6, e7, e8, e9, e10, e11, e12, e13, f15], hw⟩⟩ | exact ⟨trivial, hK _ _ ⟨false, r2, by simp [upd, hdi, e0, e1, e2, e3, e4, e5, e6, e7, e8, e9, e10, e11, e12, e13, f15], hw⟩⟩ | exact hK _ _ ⟨false, r2, by simp [upd, hdi, e0, e1, e2, e3, e4, e5, e6, e7, e8, e9, e10, e11, e12, e13, f15], (by rw [e4] at hw; rw [show upd d 13 4 = true from e4]; exact hw)⟩ | exact ⟨fun _ _ => trivial, hK _ _ ⟨false, r2, by simp [upd, hdi, e0, e1, e2, e3, e4, e5, e6, e7, e8, e9, e10, e11, e12, e13, f15], (by rw [e4] at hw; rw [show upd d 13 4 = true from e4]; exact hw)⟩⟩
        · go_simp
          exact hK _ _ ⟨true, r2, by simp [upd, hdi, e0, e1, e2, e3, e4, e5, e6, e7, e8, e9, e10, e11, e12, e13, f15], hw⟩
      · rintro d a w hdi hdep hcl ⟨r1, r2, rfl, hw⟩ K hK
        replace hdi : d 15 = false := hdi
        obtain ⟨-, ⟨e0, e1, e2, e3, e4, e5, e6, e7, e8, e9, e10, e11, e12, e13, e14, -⟩, -⟩ := hcl.facts 15 hdi rfl hdep [0, 1, 2, 3, 4, 5, 6, 7, 8, 9, 10, 11, 12, 13, 14] [] (by kernel_rfl) (by kernel_rfl)
        clear hdep hcl
        cases r1
        · go_simp
          exact hK _ _ ⟨false, r2, by simp [upd, hdi, e0, e1, e2, e3, e4, e5, e6, e7, e8, e9, e10, e11, e12, e13, e14], hw⟩
        · go_simp
          exact hK _ _ ⟨true, r2, by simp [upd, hdi, e0, e1, e2, e3, e4, e5, e6, e7, e8, e9, e10, e11, e12, e13, e14], hw⟩
    · rintro d a w hall ⟨r1, r2, rfl, hw⟩
      simp [List.range_succ] at hall
      obtain ⟨e0, e1, e2, e3, e4, e5, e6, e7, e8, e9, e10, e11, e12, e13, e14, e15⟩ := hall
      simp only [e0, e1, e2, e3, e4, e5, e6, e7, e8, e9, e10, e11, e12, e13, e14, e15, cond_true] at hw ⊢
      clear e0 e1 e2 e3 e4 e5 e6 e7 e8 e9 e10 e11 e12 e13 e14 e15
      clear hY
      cases r1
      · have hx : BT B W W' (.agg #[.int .i64 b.lo, .int .i64 b.hi, .int .i64 b.lots, .slice p b.n cap]) (.func (.yield l) #[] #[]) Bp #[.int .i64 (b.rg i).f, .int .i64 (b.rg i).t] Br #[.int .i64 (b.rg i).lo, .int .i64 (b.rg i).hi] Jx O2 w := hw
        gi_wp2
        exact hx.back hJx hI0.2.1 hO2b
      · cases r2
        · have hx : BT B W W' (.agg #[.int .i64 b.lo, .int .i64 b.hi, .int .i64 b.lots, .slice p b.n cap]) (.func (.yield l) #[] #[]) Bp #[.int .i64 (b.rg i).f, .int .i64 (b.rg i).t] Br #[.int .i64 (b.rg i).lo, .int .i64 (b.rg i).hi] Jx O2 w := hw
          gi_wp2
          exact hx.back hJx hI0.2.1 hO2b
        · have hx : BT B W W' (.agg #[.int .i64 b.lo, .int .i64 b.hi, .int .i64 b.lots, .slice p b.n cap]) (.func (.yield l) #[] #[]) Bp #[.int .i64 (b.rg i).f, .int .i64 (b.rg i).t] Br #[.int .i64 (b.rg i).lo, .int .i64 (b.rg i).hi] (J (2 * i + 1 + 1)) O2 w := hw
          gi_wp2
          exact hx.back (hJ (2 * (i + 1))) hI0.2.1 hO2b
  case done =>
    rintro O D w ⟨hj, hO, hsz, _⟩ hOD hDs hDd
    gi_wp2
    refine ⟨by simp, .inl ⟨_, _, rfl, run_takeDeferred hDd, ?_⟩⟩
    refine ⟨_, results_none rfl _ _ _, ⟨_, rfl⟩, fun k => O k ∨ k = W.heap.size ∨ k = W.heap.size + 1, ?_, .inl (hJ _ _ _ _ _ hj ((Diff.refl _).putObj (fun _ => .inl hOD) _) (fun k h => .inl h))⟩
    rintro k (h | h | h)
    · have := hO k h; omega
    · omega
    · omega
  case stop =>
    rintro O D w ⟨hj, hO, hsz, _⟩ hOD hDs hDd
    gi_wp2
    refine ⟨by simp, .inl ⟨_, _, rfl, run_takeDeferred hDd, ?_⟩⟩
    refine ⟨_, results_none rfl _ _ _, ⟨_, rfl⟩, fun k => O k ∨ k = W.heap.size ∨ k = W.heap.size + 1, ?_, .inr (hJx _ _ _ _ hj ((Diff.refl _).putObj (fun _ => .inl hOD) _) (fun k h => .inl h))⟩
    rintro k (h | h | h)
    · have := hO k h; omega
    · omega
    · omega
end Go.Proofs.YtmedkmbfggphdaaDoor

namespace Go.Proofs.YtmedkmbfggphdaaDoor
open Go.RowKit Go.Shelf
attribute [local go_sem] Oper.semAt_some

/-- The first n entries of the net. -/
def BK.netM (b : BK) (n : Nat) : List ME := (List.range n).map fun i => ⟨(b.bn i).f, (b.bn i).t, (b.bn i).by', i⟩
theorem BK.netM_succ (b : BK) (n : Nat) : b.netM (n + 1) = b.netM n ++ [⟨(b.bn n).f, (b.bn n).t, (b.bn n).by', n⟩] := by simp [BK.netM, List.range_succ]
theorem BK.netM_fresh (b : BK) (hv : b.Valid) (n : Nat) (hn : n < b.bnN) : ∀ e ∈ b.netM n, e.is (b.bn n).f (b.bn n).t = false := by
  intro e he
  simp only [BK.netM, List.mem_map, List.mem_range] at he
  obtain ⟨j, hj, rfl⟩ := he
  cases h : ME.is (b.bn n).f (b.bn n).t ⟨(b.bn j).f, (b.bn j).t, (b.bn j).by', j⟩ with
  | false => rfl
  | true =>
    simp [ME.is] at h
    have := b.bn_inj hv hn (by omega) h.1 h.2
    omega

/-- Between two rounds: S is where the function's own heap began. -/
def NC (w : World) (b : BK) (i : Nat) (O : Nat → Prop) (w' : World) : Prop :=
  w'.heap[w.heap.size + 1]? = some (mapO (b.netM i) i) ∧ w'.heap[w.heap.size + 2]? = some (.cells #[.map (some (w.heap.size + 1))] 94 (0, 0)) ∧ Diff (fun k => w.heap.size ≤ k) w w' ∧ (∀ k, O k → w.heap.size + 3 ≤ k) ∧ w.heap.size + 3 ≤ w'.heap.size

theorem NC.stable (w : World) (b : BK) (i : Nat) : Stable (NC w b i) := by
  intro O O' x y ⟨h1, h2, h3, h4, h5⟩ hd hO
  refine ⟨(hd.block _ (by omega) (fun h => by have := h4 _ h; omega)).trans h1, (hd.block _ (by omega) (fun h => by have := h4 _ h; omega)).trans h2, ?_, ?_, Nat.le_trans h5 hd.size⟩
  · exact h3.trans (hd.mono (fun k _ h => by have := h4 _ h; omega))
  · intro k hk
    rcases hO k hk with h | h
    · exact h4 k h
    · omega

set_option maxHeartbeats 2000000 in
theorem net_any (w : World) (b : BK) (p : Option Addr) (cap : Nat) (hv : b.Valid) (hb : BookAt w.heap.size w p b) (hg : Gl w) :
    Calls Tryd.prog 76 #[.agg #[.int .i64 b.lo, .int .i64 b.hi, .int .i64 b.lots, .slice p b.n cap]] w fun e w' => e = .returned (.map (some (w.heap.size + 1))) ∧ w'.heap[w.heap.size + 1]? = some (mapO (b.netM b.bnN) b.bnN) ∧ Pure w w' := by
  refine (callsIn_wide (n := 0)).1 ?_
  have hro : Fence.wide.round = none := rfl
  refine callsIn_of_wp_marks (n := 0) Tryd.func76 rfl trivial ?_ hro
  simp only [Tryd.ntmps76, List.size_toArray, List.length_cons, List.length_nil, Nat.reduceAdd, Nat.reduceSub, Array.replicate_succ, Array.replicate_zero, List.push_toArray, List.append_toArray, List.nil_append, List.cons_append]
  have hmm := @run_makeMap Tryd.prog
  gi_wp2
  obtain ⟨X, hX⟩ : ∃ X, ((w.alloc (.cells #[.int .i64 b.lo, .int .i64 b.hi, .int .i64 b.lots, .slice p b.n cap] 82)).alloc (.map #[] 0)).alloc (.cells #[.map (some (w.heap.size + 1))] 94) = X := ⟨_, rfl⟩
  have hXs : X.heap.size = w.heap.size + 3 := by rw [← hX]; simp
  have hXd : Diff (fun _ => False) w X := by rw [← hX]; exact (((Diff.refl w).alloc _).alloc _).alloc _
  have hX1 : X.heap[w.heap.size + 1]? = some (.map #[] 0) := by
    rw [← hX]
    refine (Below.heap_alloc _ _ _ (by simp)).trans ?_
    have := World.alloc_heap_new (w.alloc (.cells #[.int .i64 b.lo, .int .i64 b.hi, .int .i64 b.lots, .slice p b.n cap] 82)) (.map #[] 0)
    rwa [World.size_alloc] at this
  have hX2 : X.heap[w.heap.size + 2]? = some (.cells #[.map (some (w.heap.size + 1))] 94 (0, 0)) := by
    rw [← hX]
    have := World.alloc_heap_new ((w.alloc (.cells #[.int .i64 b.lo, .int .i64 b.hi, .int .i64 b.lots, .slice p b.n cap] 82)).alloc (.map #[] 0)) (.cells #[.map (some (w.heap.size + 1))] 94)
    rwa [World.size_alloc, World.size_alloc] at this
  rw [hX]
  clear hX hmm
  refine range_law (f := 95) (A := fun y => #[.agg #[.int .i64 b.lo, .int .i64 b.hi, .int .i64 b.lots, .slice p b.n cap], y]) (n := b.bnN) (es := fun i => (b.bn i).e) (R := fun k => k < w.heap.size) (W0 := w)
    ?call (bounds_iter w b p cap w.heap.size hv hb (Nat.le_refl _) hg hg.sz) (fun _ hk => hk) (hXd.mono (fun _ _ h => h.elim)) (fun _ _ => rfl)
    (fun i => NC w b i) (fun _ _ => False) (fun i => NC.stable w b i) (fun _ _ _ _ h _ _ => h.elim) ?start
    (fun i W1 a' W' => a' = { tmps := #[.agg #[.int .i64 b.lo, .int .i64 b.hi, .int .i64 b.lots, .slice p b.n cap], .pointer (some ⟨w.heap.size, 0, none⟩), .map none, .pointer (some ⟨w.heap.size + 1 + 1, 0, none⟩), .pointer (some ⟨W1.heap.size, 0, none⟩), .int .i64 (b.bn i).by', .map (some (w.heap.size + 1)), .agg #[.int .i64 b.lo, .int .i64 b.hi, .int .i64 b.lots, .slice p b.n cap], .func (.func 95) #[.agg #[.int .i64 b.lo, .int .i64 b.hi, .int .i64 b.lots, .slice p b.n cap]] #[], .agg #[.int .i64 (b.bn i).f, .int .i64 (b.bn i).t], .int .i64 (b.bn i).by', undef, undef, undef, undef], defers := [] } ∧
      W'.heap[W1.heap.size]? = some (.cells #[.int .i64 (b.bn i).f, .int .i64 (b.bn i).t] 106 (0, 0)))
    ?bx ?assign ?body ?done (fun _ _ _ h => h.elim)
  case call =>
    intro l' W'
    exact ⟨{ target := .fn (.func 95) #[], args := #[.agg #[.int .i64 b.lo, .int .i64 b.hi, .int .i64 b.lots, .slice p b.n cap], .func (.yield l') #[] #[]] }, by simp only [resolve]; simp [go_sem], by simp [invoke, go_sem, enters_of Tryd.func95 (by kernel_rfl) rfl]⟩
  case start => exact ⟨hX1, hX2, hXd.mono (fun _ _ h => h.elim), fun _ h => h.elim, by omega⟩
  case bx =>
    rintro i W1 a' W' L o ⟨h1, h2⟩ hL
    exact ⟨h1, (World.putObj_heap_other (by omega)).trans h2⟩
  case assign =>
    intro l' i O W1 hi hI
    gi_wp2
    exact ⟨(Diff.refl _).alloc _, by first | rfl | trivial, World.alloc_heap_new _ _⟩
  case body =>
    rintro l' i O W1 a' W' hi hI hdo hOb hs1 hs2 ⟨rfl, hcp⟩
    obtain ⟨h1, h2, h3, h4, h5⟩ := NC.stable w b i O O _ _ hI hdo (fun _ h => .inl h)
    have hlt2 : W1.heap.size < W'.heap.size := (Array.getElem?_eq_some_iff.1 hcp).1
    have z0 : W'.cell? ⟨w.heap.size + 1 + 1, 0, none⟩ = some (.map (some (w.heap.size + 1))) := cell_of_row W' (w.heap.size + 2) 0 _ 94 _ h2
    obtain ⟨Bp, hBp⟩ : ∃ Bp, W1.heap.size = Bp := ⟨_, rfl⟩
    have z1 : W'.cell? ⟨Bp, 0, none⟩ = some (.int .i64 (b.bn i).f) := by rw [← hBp]; exact cell_of_row W' _ 0 _ 106 _ hcp
    have z2 : W'.cell? ⟨Bp, 1, none⟩ = some (.int .i64 (b.bn i).t) := by rw [← hBp]; exact cell_of_row W' _ 1 _ 106 _ hcp
    have hmu := run_mapUpdate_fresh W' (w.heap.size + 1) (b.netM i) i (b.bn i).f (b.bn i).t (b.bn i).by' h1 (b.netM_fresh hv i hi)
    rw [← b.netM_succ] at hmu
    rw [hBp]
    have H1 : Hid (W'.heap[w.heap.size + 1]? = some (mapO (b.netM i) i)) := h1
    have H2 : Hid (W'.heap[w.heap.size + 2]? = some (.cells #[.map (some (w.heap.size + 1))] 94 (0, 0))) := h2
    have hlt1 : w.heap.size + 1 < W'.heap.size := by omega
    clear h1 h2 hcp hBp hlt2 hs2 hs1 hOb hdo hI
    gi_wp2
    have hO1 : ¬ O (w.heap.size + 1) := fun h => by have := h4 _ h; omega
    exact ⟨(Diff.refl _).putObj (fun _ => ⟨by omega, hO1⟩) _, World.putObj_heap_same hlt1, (World.putObj_heap_other (by omega)).trans H2.out, h3.trans ((Diff.refl _).putObj (fun _ => by omega) _), h4, by simpa using h5⟩
  case done =>
    rintro O D W ⟨h1, h2, h3, h4, h5⟩ hOD hDs hDd
    have z0 : W.cell? ⟨w.heap.size + 1 + 1, 0, none⟩ = some (.map (some (w.heap.size + 1))) := cell_of_row W (w.heap.size + 2) 0 _ 94 _ h2
    have H1 : Hid (W.heap[w.heap.size + 1]? = some (mapO (b.netM b.bnN) b.bnN)) := h1
    have hDO := h4 _ hOD
    clear h1 h2
    gi_wp2
    refine ⟨by simp, .inl ⟨_, _, rfl, run_takeDeferred hDd, ?_⟩⟩
    exact ⟨_, results_tmp rfl _ _ _, rfl, (World.putObj_heap_other (by omega)).trans H1.out, (h3.mono (fun k hk h => by omega)).putObj (fun h => by omega) _⟩
end Go.Proofs.YtmedkmbfggphdaaDoor
