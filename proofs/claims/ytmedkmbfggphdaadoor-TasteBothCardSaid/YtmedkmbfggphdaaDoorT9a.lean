/- Two lists of numbers side by side: what TasteBoth's loops carry. No condition. -/
import Derived.Test.YtmedkmbfggphdaaDoorN3
set_option linter.unusedSimpArgs false
set_option linter.unusedVariables false
set_option linter.constructorNameAsVariable false
namespace Go.Proofs.YtmedkmbfggphdaaDoor
open Go.RowKit

/-- One value more behind an own row of numbers; the value lies in a block of its own. -/
theorem push_at {W : World} {B n : Nat} {u : Value} {xs : List Value} (h : W.ownsRow B 2 1 u n xs) (hn : n ≤ 1000) (hB : B ≤ W.heap.size) (x : Int) (sb : Nat) (hs : W.heap[sb]? = some (.cells #[.int .i64 x] 2 (0, 0))) :
    ∃ v' w', (Builtin.append_ #[27, 27] 27 #[u, .slice (some ⟨sb, 0, none⟩) 1 1]).run Tryd.prog W = .ok v' w' ∧ w'.ownsRow B 2 1 v' (n + 1) (xs ++ [.int .i64 x]) ∧
      Diff (fun k => some k = u.ownBlock) W w' ∧ (v'.ownBlock = u.ownBlock ∨ v'.ownBlock = some W.heap.size) ∧ ∃ g c, v' = .slice (some ⟨g, 0, none⟩) (n + 1) c := by
  obtain ⟨i9, hi9, hzz⟩ := Option.map_eq_some_iff.1 info2
  simp only [Prod.mk.injEq] at hzz
  obtain ⟨hz9, hsz9, hby9⟩ := hzz
  obtain ⟨v', w', hr2, o2, g2, -, own2⟩ := run_append_own_at (P := Tryd.prog) W B 27 27 2 i9 (.int .i64 0) 1 8 Tryd.underlying27 hi9 hz9 hsz9 hby9 rfl (by omega) u n xs h
    ⟨sb, 0, none⟩ 1 1 [.int .i64 x] rfl (fun j y hj => by
      have hadd : (⟨sb, 0, none⟩ : Addr).add j = ⟨sb, j, none⟩ := by unfold Addr.add; split <;> simp_all
      rw [hadd, cell_of_row _ _ _ _ _ _ hs]
      match j with
      | 0 => simpa using hj
      | j + 1 => simp at hj) (by simp [Value.oneCell']) (by simp only [maxLen]; omega) (by omega) (by omega)
  refine ⟨v', w', hr2, o2, ⟨g2.os, g2.tape, g2.output, g2.size, fun k hk ho => g2.block k hk ho⟩, by simpa using own2, ?_⟩
  rcases o2.2 with ⟨_, h0⟩ | ⟨g, c, cur, he, _⟩
  · omega
  · exact ⟨g, c, he⟩

structure ZI (V0 : World) (f g : Nat → Int) (n m : Nat) (lo hi : Value) (W : World) : Prop where
  pw : Pure V0 W
  o1 : W.ownsRow V0.heap.size 2 1 lo n (vals ((List.range n).map f))
  o2 : W.ownsRow V0.heap.size 2 1 hi m (vals ((List.range m).map g))
  ap : ApartV lo hi
theorem ZI.start (V0 : World) (f g : Nat → Int) : ZI V0 f g 0 0 (.slice none 0 0) (.slice none 0 0) V0 :=
  ⟨Diff.refl _, World.ownsRow_nil _ _ _ _, World.ownsRow_nil _ _ _ _, fun k h => by simp [Value.ownBlock] at h⟩
theorem ZI.alloc {V0 : World} {f g : Nat → Int} {n m : Nat} {lo hi : Value} {W : World} (h : ZI V0 f g n m lo hi W) (blk : Obj) : ZI V0 f g n m lo hi (W.alloc blk) :=
  ⟨h.pw.alloc _, h.o1.alloc _, h.o2.alloc _, h.ap⟩
theorem ZI.swap {V0 : World} {f g : Nat → Int} {n m : Nat} {lo hi : Value} {W : World} (h : ZI V0 f g n m lo hi W) : ZI V0 g f m n hi lo W := ⟨h.pw, h.o2, h.o1, h.ap.symm⟩
theorem ZI.push {V0 : World} {f g : Nat → Int} {n m : Nat} {lo hi : Value} {W : World} (h : ZI V0 f g n m lo hi W) (hn : n ≤ 1000) (sb : Nat) (hs : W.heap[sb]? = some (.cells #[.int .i64 (f n)] 2 (0, 0))) :
    ∃ v' w', (Builtin.append_ #[27, 27] 27 #[lo, .slice (some ⟨sb, 0, none⟩) 1 1]).run Tryd.prog W = .ok v' w' ∧ ZI V0 f g (n + 1) m v' hi w' ∧
      Diff (fun k => some k = lo.ownBlock) W w' ∧ ∃ g c, v' = .slice (some ⟨g, 0, none⟩) (n + 1) c := by
  obtain ⟨v', w', hr, hown, hd, hob, hform⟩ := push_at h.o1 hn h.pw.size (f n) sb hs
  refine ⟨v', w', hr, ⟨h.pw.trans' hd (fun x hx hh => by have := (h.o1.lt x hh.symm).1; omega), ?_, own_diff h.o2 hd (fun x hx hh => h.ap x hh.symm hx), ?_⟩, hd, hform⟩
  · rw [← min_snoc]; exact hown
  · intro k h1 h2
    rcases hob with hu | hu
    · exact h.ap k (hu.symm.trans h1) h2
    · rw [hu] at h1
      have := (h.o2.lt k h2).2
      have := Option.some.inj h1
      omega
theorem Wider.refl (b : BK) : Wider b b := ⟨rfl, rfl, rfl, rfl, rfl, fun _ _ => rfl, fun _ _ => Int.le_refl _, fun _ _ => Int.le_refl _⟩
theorem ZI.pure {V0 : World} {f g : Nat → Int} {n m : Nat} {lo hi : Value} {W W' : World} (h : ZI V0 f g n m lo hi W) (hp : Pure W W') : ZI V0 f g n m lo hi W' :=
  ⟨h.pw.trans hp, own_pure h.o1 hp, own_pure h.o2 hp, h.ap⟩
/-- Within a round of a loop: x, y say which of the two lists has grown. -/
structure ZR (V0 : World) (f g : Nat → Int) (j : Nat) (lv lw v1 v2 : Value) (x y : Bool) (V W : World) : Prop where
  z : ZI V0 f g (bif x then j + 1 else j) (bif y then j + 1 else j) (bif x then v1 else lv) (bif y then v2 else lw) W
  l1 : ∀ k, lv.ownBlock = some k → k < V.heap.size
  l2 : ∀ k, lw.ownBlock = some k → k < V.heap.size
  f1 : x = true → ∃ g c, v1 = .slice (some ⟨g, 0, none⟩) (j + 1) c
  f2 : y = true → ∃ g c, v2 = .slice (some ⟨g, 0, none⟩) (j + 1) c
  sz : V.heap.size ≤ W.heap.size
theorem ZR.start {V0 : World} {f g : Nat → Int} {j : Nat} {lv lw : Value} {V : World} (h : ZI V0 f g j j lv lw V) (v1 v2 : Value) : ZR V0 f g j lv lw v1 v2 false false V V.drew :=
  ⟨h.pure (Diff.refl V).drew, fun k hk => (h.o1.lt k hk).2, fun k hk => (h.o2.lt k hk).2, fun h => (Bool.false_ne_true h).elim, fun h => (Bool.false_ne_true h).elim, Nat.le_refl _⟩
theorem ZR.alloc {V0 : World} {f g : Nat → Int} {j : Nat} {lv lw v1 v2 : Value} {x y : Bool} {V W : World} (h : ZR V0 f g j lv lw v1 v2 x y V W) (blk : Obj) : ZR V0 f g j lv lw v1 v2 x y V (W.alloc blk) :=
  ⟨h.z.pure ((Diff.refl W).alloc blk), h.l1, h.l2, h.f1, h.f2, Nat.le_trans h.sz ((Diff.refl (O := fun _ => False) W).alloc blk).size⟩
theorem ZR.push1 {V0 : World} {f g : Nat → Int} {j : Nat} {lv lw v1 v2 : Value} {V W : World} (h : ZR V0 f g j lv lw v1 v2 false false V W) (hj : j ≤ 1000) (sb : Nat) (z : Int) (hz : f j = z) (hs : W.heap[sb]? = some (.cells #[.int .i64 z] 2 (0, 0))) :
    ∃ v' w', (Builtin.append_ #[27, 27] 27 #[lv, .slice (some ⟨sb, 0, none⟩) 1 1]).run Tryd.prog W = .ok v' w' ∧ ZR V0 f g j lv lw v' v2 true false V w' ∧ ∀ s o, V.heap.size ≤ s → W.heap[s]? = some o → w'.heap[s]? = some o := by
  subst hz
  obtain ⟨v', w', hr, hz, hd, hform⟩ := h.z.push hj sb hs
  refine ⟨v', w', hr, ⟨hz, h.l1, h.l2, fun _ => hform, h.f2, Nat.le_trans h.sz hd.size⟩, fun s o hs ho => ?_⟩
  rw [hd.block s (Array.getElem?_eq_some_iff.1 ho).1 (fun hh => by have := h.l1 s hh.symm; omega)]
  exact ho
theorem ZR.push2 {V0 : World} {f g : Nat → Int} {j : Nat} {lv lw v1 v2 : Value} {V W : World} (h : ZR V0 f g j lv lw v1 v2 true false V W) (hj : j ≤ 1000) (sb : Nat) (z : Int) (hz : g j = z) (hs : W.heap[sb]? = some (.cells #[.int .i64 z] 2 (0, 0))) :
    ∃ v' w', (Builtin.append_ #[27, 27] 27 #[lw, .slice (some ⟨sb, 0, none⟩) 1 1]).run Tryd.prog W = .ok v' w' ∧ ZR V0 f g j lv lw v1 v' true true V w' := by
  subst hz
  obtain ⟨v', w', hr, hz, hd, hform⟩ := h.z.swap.push hj sb hs
  exact ⟨v', w', hr, ⟨hz.swap, h.l1, h.l2, h.f1, fun _ => hform, Nat.le_trans h.sz hd.size⟩⟩
theorem ZR.fin {V0 : World} {f g : Nat → Int} {j : Nat} {lv lw v1 v2 : Value} {V W : World} (h : ZR V0 f g j lv lw v1 v2 true true V W) : ZI V0 f g (j + 1) (j + 1) v1 v2 W := h.z

def minI (x y : Int) : Int := if y < x then y else x
def maxI (x y : Int) : Int := if x < y then y else x
theorem minI_eq (x y : Int) : minI x y = min x y := by unfold minI; split <;> omega
theorem maxI_eq (x y : Int) : maxI x y = max x y := by unfold maxI; split <;> omega
/-- The truths that the law asks for. -/
theorem both_facts {b ba bb : BK} {u1 u2 : Nat → Int} (hv : b.Valid) (hva : ba.Valid) (ea : heldB b u1 = ba) (eb : heldB ba u2 = bb) (hc : checkB bb = 0) :
    truthC bb (hXs ba u2) (hYs ba u2) = 0 ∧ truthC bb (hXs bb u1) (hYs bb u1) = 0 ∧
      (∀ f : Int → Int → Int, (∀ x y, f x y = min x y) ∨ (∀ x y, f x y = max x y) → truthC bb (zipM f (hXs ba u2) (hXs bb u1) b.lots.toNat) (zipM f (hYs ba u2) (hYs bb u1) b.total) = 0) ∧
      (hXs ba u2).length = b.lots.toNat ∧ (hXs bb u1).length = b.lots.toNat ∧ (hYs ba u2).length = b.total ∧ (hYs bb u1).length = b.total := by
  have wa : Wider b ba := by rw [← ea]; exact held_wider b u1
  have wb : Wider ba bb := by rw [← eb]; exact held_wider ba u2
  have wab := wa.trans wb
  have e1 : hXs bb u1 = hXs b u1 := wab.hXs u1
  have e2 : hYs bb u1 = hYs b u1 := wab.hYs u1
  have l1 : (hXs ba u2).length = b.lots.toNat := by rw [hXs_length, wa.lots]
  have l2 : (hXs bb u1).length = b.lots.toNat := by rw [hXs_length, wab.lots]
  have l3 : (hYs ba u2).length = b.total := by rw [hYs_length, wa.total]
  have l4 : (hYs bb u1).length = b.total := by rw [hYs_length, wab.total]
  have t1 : truthC bb (hXs ba u2) (hYs ba u2) = 0 := held_truthC ba hva u2 bb (by rw [eb]; exact Wider.refl bb) hc
  have t2 : truthC bb (hXs bb u1) (hYs bb u1) = 0 := by rw [e1, e2]; exact held_truthC b hv u1 bb (by rw [ea]; exact wb) hc
  refine ⟨t1, t2, fun f hf => ?_, l1, l2, l3, l4⟩
  have hl := hv.lots1
  have h := zip_truthC f hf bb hc (hXs ba u2) (hYs ba u2) (hXs bb u1) (hYs bb u1) (by rw [l1, wab.lots]; omega) (by rw [l3, wab.total]) (by rw [l1, l2]) (by rw [l3, l4]) (hXs_in ba u2) (hYs_in ba hva u2) (by rw [e1]; exact hXs_in b u1) (by rw [e2]; exact hYs_in b hv u1) t1 t2
  rw [l1, l3] at h
  exact h
theorem SlI.row' {B : Nat} {w : World} {q : Option Addr} {n c : Nat} {xs : List Int} (h : SlI B w (.slice q n c) xs) : n = xs.length ∧ Row B w q n fun k => .int .i64 (nthI xs k) := by
  obtain ⟨q', c', he, hr⟩ := h.row
  cases he
  exact ⟨rfl, hr⟩
theorem ZI.forms {V0 : World} {f g : Nat → Int} {n : Nat} {lo hi : Value} {W : World} (h : ZI V0 f g n n lo hi W) : (∃ q c, lo = .slice q n c) ∧ ∃ q c, hi = .slice q n c := by
  obtain ⟨q, c, h1, -⟩ := slice_of_own h.o1
  obtain ⟨q', c', h2, -⟩ := slice_of_own h.o2
  exact ⟨⟨q, c, h1⟩, q', c', h2⟩
theorem ZI.lists {V0 : World} {f g : Nat → Int} {n : Nat} {lo hi : Value} {W : World} (h : ZI V0 f g n n lo hi W) : SlI W.heap.size W lo ((List.range n).map f) ∧ SlI W.heap.size W hi ((List.range n).map g) :=
  ⟨SlI.of_own2 h.o1 (by simp), SlI.of_own2 h.o2 (by simp)⟩
end Go.Proofs.YtmedkmbfggphdaaDoor
