/- Plain helpers: what a list of numbers, and lots, are in memory; own rows. No condition. Walks of the small functions of package blend: within, has, ratio. Walks of the checks of package blend. Walks of through, at and cheaper of package blend. The tariff, an array of 101 prices, in memory. Walks of none, from and best (of prices) of package blend. Walk of from of package blend: the front of a tariff is cleared. -/
import Derived.Test.YtgpfmnjianflaaaDoorMA
import Derived.Test.YtgpfmnjianflaaaDoorMB
import Derived.Lib.Hide
import Derived.Maps.AppendAt
import Derived.Deep.OwnRows
import Derived.Laws.AppendOwnNone
import Derived.Test.YtgpfmnjianflaaaDoorProg
import Derived.BigQuiet
import Derived.Deep.QuietTactic
import Derived.Laws.StructEq
import Derived.Lib.SliceRun
set_option linter.unusedSimpArgs false
set_option linter.unusedVariables false
set_option linter.constructorNameAsVariable false
namespace Go.Proofs.YtgpfmnjianflaaaDoor
open Go.RowKit

/-- p is the start of n cells, of blocks below B, that hold f. -/
def Row (B : Nat) (w : World) (p : Option Addr) (n : Nat) (f : Nat → Value) : Prop :=
  ∀ k, k < n → ∃ b o, p = some ⟨b, o, none⟩ ∧ b < B ∧ w.cell? ⟨b, o + k, none⟩ = some (f k)

theorem Row.diff {O : Nat → Prop} {B n : Nat} {w w' : World} {p : Option Addr} {f : Nat → Value} (h : Row B w p n f) (hd : Diff O w w') (hB : B ≤ w.heap.size) (hO : ∀ k, k < B → ¬ O k) : Row B w' p n f := by
  intro k hk
  obtain ⟨b, o, hp, hb, hc⟩ := h k hk
  exact ⟨b, o, hp, hb, (hd.cell (p := ⟨b, o + k, none⟩) (by show b < _; omega) (hO b hb)).trans hc⟩
theorem Row.mono {B B' n : Nat} {w : World} {p : Option Addr} {f : Nat → Value} (h : Row B w p n f) (hB : B ≤ B') : Row B' w p n f := by
  intro k hk
  obtain ⟨b, o, hp, hb, hc⟩ := h k hk
  exact ⟨b, o, hp, by omega, hc⟩
theorem own_block {w w' : World} {base : Nat} {e : TypeId} {size : Nat} {v : Value} {n : Nat} {xs : List Value} (h : w.ownsRow base e size v n xs) (hk : ∀ k, v.ownBlock = some k → w'.heap[k]? = w.heap[k]?) : w'.ownsRow base e size v n xs := by
  obtain ⟨h1, h2⟩ := h
  refine ⟨h1, ?_⟩
  rcases h2 with h2 | ⟨g, cap, cur, rfl, a1, a2, a3⟩
  · exact .inl h2
  · exact .inr ⟨g, cap, cur, rfl, a1, (hk g rfl).trans a2, a3⟩
theorem own_pure {w w' : World} {base : Nat} {e : TypeId} {size : Nat} {v : Value} {n : Nat} {xs : List Value} (h : w.ownsRow base e size v n xs) (hp : Pure w w') : w'.ownsRow base e size v n xs :=
  own_block h (fun k hk => hp.block _ (h.lt k hk).2 (fun h => h))

theorem own_mono {w : World} {base base' : Nat} {e : TypeId} {size : Nat} {v : Value} {n : Nat} {xs : List Value} (h : w.ownsRow base e size v n xs) (hb : base' ≤ base) : w.ownsRow base' e size v n xs := by
  obtain ⟨h1, h2⟩ := h
  refine ⟨h1, ?_⟩
  rcases h2 with h2 | ⟨g, cap, cur, rfl, a1, a2⟩
  · exact .inl h2
  · exact .inr ⟨g, cap, cur, rfl, by omega, a2⟩

/-- The cells of a list of int64s. -/
def vals (l : List Int) : List Value := l.map (.int .i64)
theorem vals_append (a b : List Int) : vals (a ++ b) = vals a ++ vals b := by simp [vals]
/-- v is a slice that holds xs, of blocks below B. -/
def SlI (B : Nat) (w : World) (v : Value) (xs : List Int) : Prop :=
  (v = .slice none 0 0 ∧ xs = []) ∨ ∃ b o c, v = .slice (some ⟨b, o, none⟩) xs.length c ∧ b < B ∧ ∀ k u, xs[k]? = some u → w.cell? ⟨b, o + k, none⟩ = some (.int .i64 u)
theorem SlI.pure {B : Nat} {w w' : World} {v : Value} {xs : List Int} (h : SlI B w v xs) (hd : Diff (fun k => B ≤ k) w w') (hB : B ≤ w.heap.size) : SlI B w' v xs := by
  rcases h with h | ⟨b, o, c, h1, h2, h3⟩
  · exact .inl h
  · exact .inr ⟨b, o, c, h1, h2, fun k u hu => (hd.cell (p := ⟨b, o + k, none⟩) (by show b < _; omega) (by show ¬ B ≤ b; omega)).trans (h3 k u hu)⟩
theorem SlI.mono {B B' : Nat} {w : World} {v : Value} {xs : List Int} (h : SlI B w v xs) (hB : B ≤ B') : SlI B' w v xs := by
  rcases h with h | ⟨b, o, c, h1, h2, h3⟩
  · exact .inl h
  · exact .inr ⟨b, o, c, h1, by omega, h3⟩
/-- One value more behind an own row of cells. -/
theorem push_one (t e : TypeId) (z : Value) (bytes : Nat) (ht : Tryd.prog.underlying t = some (.slice e)) (hinfo : (Tryd.prog.info? e).map (fun i => (i.zero, i.size, i.bytes)) = some (some z, 1, bytes)) (hz1 : z.cells.size = 1) (hby : bytes ≤ 24)
    {W : World} {B n : Nat} {u : Value} {xs : List Value} (h : W.ownsRow B e 1 u n xs) (hn : n ≤ 1000) (hB : B ≤ W.heap.size) (x : Value) (hx : x.oneCell' = true) :
    ∃ v' w', (Builtin.append_ #[t, t] t #[u, .slice (some ⟨W.heap.size, 0, none⟩) 1 1]).run Tryd.prog (W.alloc (.cells #[x] e)) = .ok v' w' ∧ w'.ownsRow B e 1 v' (n + 1) (xs ++ [x]) ∧
      Diff (fun k => some k = u.ownBlock) W w' ∧ (v'.ownBlock = u.ownBlock ∨ v'.ownBlock = some (W.heap.size + 1)) ∧ ∃ g c, v' = .slice (some ⟨g, 0, none⟩) (n + 1) c := by
  obtain ⟨i9, hi9, hzz⟩ := Option.map_eq_some_iff.1 hinfo
  simp only [Prod.mk.injEq] at hzz
  obtain ⟨hz9, hsz9, hby9⟩ := hzz
  have hown2 : (W.alloc (.cells #[x] e)).ownsRow B e 1 u n xs := h.alloc _
  have hW3 : (W.alloc (.cells #[x] e)).heap[W.heap.size]? = some (.cells #[x] e (0, 0)) := World.alloc_heap_new _ _
  obtain ⟨v', w', hr2, o2, g2, -, own2⟩ := run_append_own_at (P := Tryd.prog) (W.alloc (.cells #[x] e)) B t t e i9 z 1 bytes ht hi9 hz9 hsz9 hby9 hz1 (by omega) u n xs hown2
    ⟨W.heap.size, 0, none⟩ 1 1 [x] rfl (fun j y hj => by
      have hadd : (⟨W.heap.size, 0, none⟩ : Addr).add j = ⟨W.heap.size, j, none⟩ := by unfold Addr.add; split <;> simp_all
      rw [hadd, cell_of_row _ _ _ _ _ _ hW3]
      match j with
      | 0 => simpa using hj
      | j + 1 => simp at hj) (by simpa using hx) (by simp only [maxLen]; omega) (by
        have : (n + 1) * bytes ≤ 1001 * 24 := Nat.mul_le_mul (by omega) hby
        omega) (by simp; omega)
  refine ⟨v', w', hr2, o2, ?_, by simpa using own2, ?_⟩
  · have hsz := g2.size
    rw [World.size_alloc] at hsz
    exact ⟨g2.os, g2.tape, g2.output, by omega, fun k hk ho => (g2.block k (by simp; omega) ho).trans (Below.heap_alloc _ _ _ hk)⟩
  · rcases o2.2 with ⟨_, h0⟩ | ⟨g, c, cur, he, _⟩
    · omega
    · exact ⟨g, c, he⟩
theorem own_diff {O : Nat → Prop} {w w' : World} {base : Nat} {e : TypeId} {size : Nat} {v : Value} {n : Nat} {xs : List Value} (h : w.ownsRow base e size v n xs) (hd : Diff O w w') (ho : ∀ k, v.ownBlock = some k → ¬ O k) : w'.ownsRow base e size v n xs :=
  own_block h (fun k hk => hd.block k (h.lt k hk).2 (ho k hk))
/-- Two values have no block in common. -/
def ApartV (u v : Value) : Prop := ∀ k, u.ownBlock = some k → v.ownBlock ≠ some k
theorem ApartV.symm {u v : Value} (h : ApartV u v) : ApartV v u := fun k h1 h2 => h k h2 h1
theorem ApartV.push {W : World} {u v u' : Value} {B n : Nat} {e : TypeId} {s : Nat} {xs : List Value} (h : ApartV u v) (hv : W.ownsRow B e s v n xs) (hu : u'.ownBlock = u.ownBlock ∨ u'.ownBlock = some (W.heap.size + 1)) : ApartV u' v := fun k h1 h2 => by
  rcases hu with hu | hu
  · exact h k (hu.symm.trans h1) h2
  · rw [hu] at h1
    have := (hv.lt k h2).2
    have := Option.some.inj h1
    omega
theorem slice_of_own {W : World} {B n : Nat} {e : TypeId} {u : Value} {xs : List Value} (h : W.ownsRow B e 1 u n xs) : ∃ q c, u = .slice q n c ∧ ∀ k, k < n → ∃ g, q = some ⟨g, 0, none⟩ ∧ g < W.heap.size ∧ W.cell? ⟨g, k, none⟩ = xs[k]? := by
  rcases h.2 with ⟨rfl, rfl⟩ | ⟨g, c, cur, rfl, h1, h2, h3⟩
  · exact ⟨none, 0, rfl, fun k hk => by omega⟩
  · exact ⟨_, c, rfl, fun k hk => ⟨g, rfl, (Array.getElem?_eq_some_iff.1 h2).1, World.ownsRow.cellAt h k (by omega)⟩⟩
theorem row_of_own {W : World} {B n : Nat} {e : TypeId} {u : Value} {f : Nat → Int} (h : W.ownsRow B e 1 u n (vals ((List.range n).map f))) : ∃ q c, u = .slice q n c ∧ Row W.heap.size W q n fun k => .int .i64 (f k) := by
  obtain ⟨q, c, rfl, hc⟩ := slice_of_own h
  refine ⟨q, c, rfl, fun k hk => ?_⟩
  obtain ⟨g, rfl, hg, hx⟩ := hc k hk
  exact ⟨g, 0, rfl, hg, by rw [Nat.zero_add, hx]; simp [vals, hk]⟩

theorem row_new (w : World) (xs : Array Value) (E : TypeId) (n b : Nat) (f : Nat → Value) (hb : b = w.heap.size) (h : ∀ k, k < n → xs[k]? = some (f k)) :
    Row (w.alloc (.cells xs E)).heap.size (w.alloc (.cells xs E)) (some ⟨b, 0, none⟩) n f := by
  subst hb
  intro k hk
  refine ⟨w.heap.size, 0, rfl, by simp, ?_⟩
  rw [← h k hk]
  have := World.alloc_heap_new w (.cells xs E)
  simp only [World.cell?, this]
  simp


/-- Lots at p, in blocks below B. -/
def LotsAt (B : Nat) (w : World) (p : Option Addr) (L : LT) : Prop :=
  ∀ j, j < L.n → ∃ b o, p = some ⟨b, o, none⟩ ∧ b < B ∧ w.cell? ⟨b, o + j * 2, none⟩ = some (.int .i64 (L.s j)) ∧ w.cell? ⟨b, o + j * 2 + 1, none⟩ = some (.int .i64 (L.p j))
theorem LotsAt.diff {O : Nat → Prop} {B : Nat} {w w' : World} {p : Option Addr} {L : LT} (h : LotsAt B w p L) (hd : Diff O w w') (hB : B ≤ w.heap.size) (hO : ∀ k, k < B → ¬ O k) : LotsAt B w' p L := by
  intro k hk
  obtain ⟨b, o, hp, hb, h1, h2⟩ := h k hk
  exact ⟨b, o, hp, hb, (hd.cell (p := ⟨b, _, none⟩) (by show b < _; omega) (hO b hb)).trans h1, (hd.cell (p := ⟨b, _, none⟩) (by show b < _; omega) (hO b hb)).trans h2⟩
theorem LotsAt.mono {B B' : Nat} {w : World} {p : Option Addr} {L : LT} (h : LotsAt B w p L) (hB : B ≤ B') : LotsAt B' w p L := by
  intro k hk
  obtain ⟨b, o, hp, hb, hc⟩ := h k hk
  exact ⟨b, o, hp, by omega, hc⟩
theorem LotsAt.to {w w' : World} {p : Option Addr} {L : LT} (h : LotsAt w.heap.size w p L) (hp : Pure w w') : LotsAt w'.heap.size w' p L := (h.diff hp (Nat.le_refl _) (fun _ _ => id)).mono hp.size
theorem Row.to {w w' : World} {p : Option Addr} {n : Nat} {f : Nat → Value} (h : Row w.heap.size w p n f) (hp : Pure w w') : Row w'.heap.size w' p n f := (h.diff hp (Nat.le_refl _) (fun _ _ => id)).mono hp.size
/-- The seven package-level ranges. -/
structure Gl (w : World) : Prop where
  l0 : w.cell? ⟨0, 0, none⟩ = some (.int .i64 0)
  h0 : w.cell? ⟨0, 1, none⟩ = some (.int .i64 1000)
  l1 : w.cell? ⟨1, 0, none⟩ = some (.int .i64 1)
  h1 : w.cell? ⟨1, 1, none⟩ = some (.int .i64 8)
  l2 : w.cell? ⟨2, 0, none⟩ = some (.int .i64 (-1048576))
  h2 : w.cell? ⟨2, 1, none⟩ = some (.int .i64 1048576)
  l3 : w.cell? ⟨3, 0, none⟩ = some (.int .i64 1)
  h3 : w.cell? ⟨3, 1, none⟩ = some (.int .i64 100)
  l4 : w.cell? ⟨4, 0, none⟩ = some (.int .i64 0)
  h4 : w.cell? ⟨4, 1, none⟩ = some (.int .i64 100)
  l5 : w.cell? ⟨5, 0, none⟩ = some (.int .i64 0)
  h5 : w.cell? ⟨5, 1, none⟩ = some (.int .i64 1000)
  l6 : w.cell? ⟨6, 0, none⟩ = some (.int .i64 1)
  h6 : w.cell? ⟨6, 1, none⟩ = some (.int .i64 100)
  sz : 7 ≤ w.heap.size
theorem Gl.diff {O : Nat → Prop} {w w' : World} (h : Gl w) (hd : Diff O w w') (hO : ∀ k, k < 7 → ¬ O k) : Gl w' := by
  have hs := h.sz
  have c : ∀ b o, b < 7 → w'.cell? ⟨b, o, none⟩ = w.cell? ⟨b, o, none⟩ := fun b o hb => hd.cell (p := ⟨b, o, none⟩) (by show b < _; omega) (hO b hb)
  exact ⟨(c _ _ (by omega)).trans h.l0, (c _ _ (by omega)).trans h.h0, (c _ _ (by omega)).trans h.l1, (c _ _ (by omega)).trans h.h1, (c _ _ (by omega)).trans h.l2, (c _ _ (by omega)).trans h.h2, (c _ _ (by omega)).trans h.l3, (c _ _ (by omega)).trans h.h3, (c _ _ (by omega)).trans h.l4, (c _ _ (by omega)).trans h.h4, (c _ _ (by omega)).trans h.l5, (c _ _ (by omega)).trans h.h5, (c _ _ (by omega)).trans h.l6, (c _ _ (by omega)).trans h.h6, Nat.le_trans hs hd.size⟩
theorem Gl.to {w w' : World} (h : Gl w) (hp : Pure w w') : Gl w' := h.diff hp (fun _ _ => id)
/-- A block of two cells, of three. -/
def Blk (g : Nat) (T : TypeId) (c : Array Value) (W : World) : Prop := W.heap[g]? = some (.cells c T (0, 0))
theorem Blk.new (w : World) (T : TypeId) (c : Array Value) : Blk w.heap.size T c (w.alloc (.cells c T)) := World.alloc_heap_new _ _
theorem Blk.lt {g : Nat} {T : TypeId} {c : Array Value} {W : World} (h : Blk g T c W) : g < W.heap.size := (Array.getElem?_eq_some_iff.1 h).1
theorem Blk.fz {g : Nat} {T : TypeId} {c : Array Value} {W : World} (h : Blk g T c W) (o : Nat) : W.frozen? ⟨g, o, none⟩ = false := frozen_of_row W _ o _ _ h
theorem Blk.at {g : Nat} {T : TypeId} {c : Array Value} {W : World} (h : Blk g T c W) (o : Nat) : W.cell? ⟨g, o, none⟩ = c[o]? := by rw [cell_of_row W _ _ _ _ _ h]
theorem Blk.to {g : Nat} {T : TypeId} {c : Array Value} {W W' : World} (h : Blk g T c W) (hp : Pure W W') : Blk g T c W' := (hp.block g h.lt id).trans h
theorem Blk.diff {O : Nat → Prop} {g : Nat} {T : TypeId} {c : Array Value} {W W' : World} (h : Blk g T c W) (hp : Diff O W W') (ho : ¬ O g) : Blk g T c W' := (hp.block g h.lt ho).trans h
theorem Blk.alloc {g : Nat} {T : TypeId} {c : Array Value} {W : World} (h : Blk g T c W) (o : Obj) : Blk g T c (W.alloc o) := h.to ((Diff.refl _).alloc o)
theorem Blk.drew {g : Nat} {T : TypeId} {c : Array Value} {W : World} (h : Blk g T c W) : Blk g T c W.drew := h
theorem Blk.set {g : Nat} {T : TypeId} {c : Array Value} {W : World} (h : Blk g T c W) (o : Nat) (v : Value) : Blk g T (c.setIfInBounds o v) (W.setCell ⟨g, o, none⟩ v) := by
  unfold Blk World.setCell
  show (W.heap.modify g _)[g]? = _
  rw [Array.getElem?_modify, if_pos rfl, h]
  rfl
theorem Blk.set2 {g : Nat} {T : TypeId} {x y : Value} {W : World} (h : Blk g T #[x, y] W) (u v : Value) : Blk g T #[u, v] ((W.setCell ⟨g, 0, none⟩ u).setCell ⟨g, 1, none⟩ v) := (h.set 0 u).set 1 v
theorem Blk.set3 {g : Nat} {T : TypeId} {x y z : Value} {W : World} (h : Blk g T #[x, y, z] W) (u v a : Value) : Blk g T #[u, v, a] (((W.setCell ⟨g, 0, none⟩ u).setCell ⟨g, 1, none⟩ v).setCell ⟨g, 2, none⟩ a) := ((h.set 0 u).set 1 v).set 2 a
theorem Diff.set2 {O : Nat → Prop} {w W : World} {g : Nat} (h : Diff O w W) (hg : w.heap.size ≤ g) (u v : Value) : Diff O w ((W.setCell ⟨g, 0, none⟩ u).setCell ⟨g, 1, none⟩ v) :=
  (h.setCell (p := ⟨g, 0, none⟩) (fun h => by have h' : g < w.heap.size := h; omega) _).setCell (p := ⟨g, 1, none⟩) (fun h => by have h' : g < w.heap.size := h; omega) _
theorem Diff.set3 {O : Nat → Prop} {w W : World} {g : Nat} (h : Diff O w W) (hg : w.heap.size ≤ g) (u v a : Value) : Diff O w (((W.setCell ⟨g, 0, none⟩ u).setCell ⟨g, 1, none⟩ v).setCell ⟨g, 2, none⟩ a) :=
  (h.set2 hg u v).setCell (p := ⟨g, 2, none⟩) (fun h => by have h' : g < w.heap.size := h; omega) _
theorem Diff.set2' {O : Nat → Prop} {w W : World} {g : Nat} (h : Diff O w W) (hg : O g) (u v : Value) : Diff O w ((W.setCell ⟨g, 0, none⟩ u).setCell ⟨g, 1, none⟩ v) :=
  (h.setCell (p := ⟨g, 0, none⟩) (fun _ => hg) _).setCell (p := ⟨g, 1, none⟩) (fun _ => hg) _
theorem Diff.set3' {O : Nat → Prop} {w W : World} {g : Nat} (h : Diff O w W) (hg : O g) (u v a : Value) : Diff O w (((W.setCell ⟨g, 0, none⟩ u).setCell ⟨g, 1, none⟩ v).setCell ⟨g, 2, none⟩ a) :=
  (h.set2' hg u v).setCell (p := ⟨g, 2, none⟩) (fun _ => hg) _
end Go.Proofs.YtgpfmnjianflaaaDoor
namespace Go.Proofs.YtgpfmnjianflaaaDoor
open Go.RowKit

def wIn (lo hi x : Int) : Bool := decide (lo ≤ x) && decide (x ≤ hi)
def wAll (lo hi : Int) (f : Nat → Int) (n : Nat) : Bool := (List.range n).all fun k => wIn lo hi (f k)
theorem wAll_succ (lo hi : Int) (f : Nat → Int) (n : Nat) : wAll lo hi f (n + 1) = (wAll lo hi f n && wIn lo hi (f n)) := by
  simp [wAll, List.range_succ]
theorem wAll_false {lo hi : Int} {f : Nat → Int} {n k : Nat} (hk : k < n) (h : wIn lo hi (f k) = false) : wAll lo hi f n = false := by
  simp only [wAll, List.all_eq_false, List.mem_range]
  exact ⟨k, hk, by simp [h]⟩

theorem within_any (w : World) (lo hi : Int) (p : Option Addr) (n cap : Nat) (f : Nat → Int) (hn : n ≤ 1000) (hr : Row w.heap.size w p n fun k => .int .i64 (f k)) :
    Calls Tryd.prog 61 #[.agg #[.int .i64 lo, .int .i64 hi], .slice p n cap] w fun e w' => e = .returned (.bool (wAll lo hi f n)) ∧ Pure w w' := by
  go_enter Tryd.func61, Tryd.ntmps61
  go_wp2
  go_loop [6, 9] (fun _ i => ∃ k : Nat, k ≤ n ∧ i = .int .i64 k ∧ wAll lo hi f k = true) (fun _ i => n - (intOf i).toNat)
  case atStart => exact ⟨0, Nat.zero_le _, rfl, rfl⟩
  case round =>
    obtain ⟨k, hk, rfl, hall⟩ := hrel
    have HA := Lib.hid hall
    clear hall
    by_cases hlt : k < n
    · obtain ⟨b, o, rfl, hb, hc⟩ := hr k hlt
      by_cases h1 : f k < lo
      · have HF : Hid (wAll lo hi f n = false) := wAll_false hlt (by simp [wIn]; omega)
        go_wp2
        go_ret
        exact ⟨by rw [HF.out]; rfl, by repeat (first | exact Diff.refl _ | apply Diff.alloc)⟩
      · by_cases h2 : hi < f k
        · have HF : Hid (wAll lo hi f n = false) := wAll_false hlt (by simp [wIn]; omega)
          go_wp2
          go_ret
          exact ⟨by rw [HF.out]; rfl, by repeat (first | exact Diff.refl _ | apply Diff.alloc)⟩
        · have HS : Hid (wAll lo hi f (k + 1) = true) := by show _ = true; rw [wAll_succ, HA.out]; simp [wIn]; omega
          go_wp2
          go_round
          case rel => exact ⟨k + 1, by omega, by go_num, HS.out⟩
          case measure => simp [intOf]; omega
    · obtain rfl : k = n := by omega
      go_wp2
      go_ret
      exact ⟨by rw [HA.out]; rfl, by repeat (first | exact Diff.refl _ | apply Diff.alloc)⟩

theorem within1 (w : World) (lo hi x : Int) (g : Nat) (hg : g = w.heap.size) :
    Calls Tryd.prog 61 #[.agg #[.int .i64 lo, .int .i64 hi], .slice (some ⟨g, 0, none⟩) 1 1] (w.alloc (.cells #[.int .i64 x] 2)) fun e w' => e = .returned (.bool (wIn lo hi x)) ∧ Pure w w' := by
  subst hg
  refine (within_any (w.alloc (.cells #[.int .i64 x] 2)) lo hi _ 1 1 (fun _ => x) (by omega) (row_new _ _ _ _ _ _ rfl fun k hk => ?_)).mono ?_
  · obtain rfl : k = 0 := by omega
    rfl
  · rintro e w' ⟨rfl, hp⟩
    exact ⟨by simp [wAll], ((Diff.refl w).alloc _).trans hp⟩
theorem within2 (w : World) (lo hi x y : Int) (g : Nat) (hg : g = w.heap.size) :
    Calls Tryd.prog 61 #[.agg #[.int .i64 lo, .int .i64 hi], .slice (some ⟨g, 0, none⟩) 2 2] (w.alloc (.cells #[.int .i64 x, .int .i64 y] 2)) fun e w' => e = .returned (.bool (wIn lo hi x && wIn lo hi y)) ∧ Pure w w' := by
  subst hg
  refine (within_any (w.alloc (.cells #[.int .i64 x, .int .i64 y] 2)) lo hi _ 2 2 (fun k => if k = 0 then x else y) (by omega) (row_new _ _ _ _ _ _ rfl fun k hk => ?_)).mono ?_
  · have : k = 0 ∨ k = 1 := by omega
    rcases this with rfl | rfl <;> rfl
  · rintro e w' ⟨rfl, hp⟩
    exact ⟨by simp [wAll, List.range_succ], ((Diff.refl w).alloc _).trans hp⟩

/-- A price that is there. -/
def hasB (a b : Int) : Bool := !(decide (a = 0) && decide (b = 0))
theorem has_any (w : World) (a b : Int) : Calls Tryd.prog 67 #[.agg #[.int .i64 a, .int .i64 b]] w fun e w' => e = .returned (.bool (hasB a b)) ∧ Pure w w' := by
  go_enter Tryd.func67, Tryd.ntmps67
  by_cases h1 : a = 0
  · by_cases h2 : b = 0
    · subst h1; subst h2
      go_wp2
      go_ret
      exact ⟨rfl, by repeat (first | exact Diff.refl _ | apply Diff.alloc)⟩
    · subst h1
      have HF : Hid (hasB 0 b = true) := by show _ = _; simp [hasB, h2]
      have hb : (b == 0) = false := by simpa using h2
      go_wp2
      go_ret
      exact ⟨by rw [HF.out]; rfl, by repeat (first | exact Diff.refl _ | apply Diff.alloc)⟩
  · have HF : Hid (hasB a b = true) := by show _ = _; simp [hasB, h1]
    have hb : (a == 0) = false := by simpa using h1
    go_wp2
    go_ret
    exact ⟨by rw [HF.out]; rfl, by repeat (first | exact Diff.refl _ | apply Diff.alloc)⟩

theorem gcd_step (c r : Int) (hc : 0 < c) (_hr : 0 < r) : Int.gcd r (c % r) = Int.gcd c r := by
  have h : Int.gcd (c % r) r = Int.gcd c r := by
    obtain ⟨n, rfl⟩ := Int.eq_ofNat_of_zero_le (Int.le_of_lt hc)
    obtain ⟨m, rfl⟩ := Int.eq_ofNat_of_zero_le (Int.le_of_lt _hr)
    show Nat.gcd (((n : Int) % (m : Int)).natAbs) m = Nat.gcd n m
    have : ((n : Int) % (m : Int)).natAbs = n % m := by omega
    rw [this, Nat.gcd_comm n m, Nat.gcd_rec m n]
  rw [Int.gcd_comm]; exact h
theorem red_tdiv (a b : Int) : a.tdiv (Int.gcd a b) = redN a b ∧ b.tdiv (Int.gcd a b) = redD a b :=
  ⟨Int.tdiv_eq_ediv_of_dvd (Int.gcd_dvd_left a b), Int.tdiv_eq_ediv_of_dvd (Int.gcd_dvd_right a b)⟩
/-- A fraction in least terms. -/
theorem ratio_any (w : World) (a b : Int) (ha : -1000000000000 ≤ a ∧ a ≤ 1000000000000) (hb : 0 < b ∧ b ≤ 1000000000000) :
    Calls Tryd.prog 62 #[.int .i64 a, .int .i64 b] w fun e w' => e = .returned (.agg #[.int .i64 (redN a b), .int .i64 (redD a b)]) ∧ Pure w w' := by
  have hmx : Tryd.prog.follows .mixedOrders = true := by kernel_rfl
  have hw : IntKind.i64.wrap (-a) = -a := IntWalk.i64_in _ (by omega)
  have hrl := red_le a hb.1
  have hrp := redD_pos (a := a) hb.1
  by_cases hs : -a ≤ a
  · go_enter Tryd.func62, Tryd.ntmps62
    go_wp2
    go_loopw [5, 6, 12, 13, 14, 15, 16, 17] (fun c r _ _ _ _ _ _ wr => ∃ x y : Int, c = .int .i64 x ∧ r = .int .i64 y ∧ 0 < x ∧ 0 ≤ y ∧ x ≤ 1000000000000 ∧ y ≤ 1000000000000 ∧ Hid (Int.gcd x y = Int.gcd a b) ∧ Hid (wr.heap[w.heap.size]? = some (.cells #[.int .i64 0, .int .i64 0] 29 (0, 0))) ∧ Hid (Pure w wr)) (fun _ r _ _ _ _ _ _ _ => (intOf r).toNat)
    case atStart => exact ⟨b, a, rfl, rfl, by omega, by omega, by omega, by omega, Int.gcd_comm b a, World.alloc_heap_new _ _, (Diff.refl _).alloc _⟩
    case round =>
      obtain ⟨x, y, rfl, rfl, hx, hy, hx1, hy1, HX, HBL, HP⟩ := hrel
      by_cases hy0 : y = 0
      · subst hy0
        have hg : x = (Int.gcd a b : Int) := by have := HX.out; rw [Int.gcd_zero_right] at this; omega
        obtain ⟨r1, r2⟩ := red_tdiv a b
        rw [← hg] at r1 r2
        have hxn : ¬ x = 0 := by omega
        have hN : IntKind.i64.wrap (a.tdiv x) = redN a b := by rw [r1]; exact IntWalk.i64_in _ (by omega)
        have hD : IntKind.i64.wrap (b.tdiv x) = redD a b := by rw [r2]; exact IntWalk.i64_in _ (by omega)
        have HE : Hid (a / x = redN a b ∧ b / x = redD a b) := by unfold redN redD; rw [← hg]; exact ⟨rfl, rfl⟩
        have hfz : ∀ o, wr.frozen? ⟨w.heap.size, o, none⟩ = false := fun o => frozen_of_row wr _ _ _ _ HBL.out
        have hc0 : wr.cell? ⟨w.heap.size, 0, none⟩ = some (.int .i64 0) := by rw [cell_of_row wr _ _ _ _ _ HBL.out]; rfl
        have hc1 : wr.cell? ⟨w.heap.size, 1, none⟩ = some (.int .i64 0) := by rw [cell_of_row wr _ _ _ _ _ HBL.out]; rfl
        have HPF : Hid (w.heap.size < w.heap.size → False) := fun h => by omega
        clear hg r1 r2 hrl hrp
        go_wp2
        go_region
        obtain ⟨W, hW⟩ : ∃ W, (wr.setCell { block := w.heap.size, off := 0 } (Value.int IntKind.i64 (redN a b))).setCell { block := w.heap.size, off := 1 } (Value.int IntKind.i64 (redD a b)) = W := ⟨_, rfl⟩
        have hbl : Blk w.heap.size 29 #[.int .i64 (redN a b), .int .i64 (redD a b)] W := by rw [← hW]; exact Blk.set2 HBL.out _ _
        have HPW : Hid (Pure w W) := by rw [← hW]; exact HP.out.set2 (Nat.le_refl _) _ _
        rw [hW]
        clear hW hfz hc0 hc1
        have hc0 := hbl.at 0
        have hc1 := hbl.at 1
        clear hbl
        go_wp2
        exact bodyPost_ret (v := .agg #[.int .i64 (redN a b), .int .i64 (redD a b)]) (by simp [results, Tryd.results62, go_sem, hc0, hc1]) rfl ⟨rfl, HPW.out.drew⟩
      · have hyn : ¬ y = 0 := hy0
        have hb1 : (y == 0) = false := by simpa using hy0
        have hlt := Int.emod_lt_of_pos x (show 0 < y by omega)
        have hge := Int.emod_nonneg x hyn
        have hte : x.tmod y = x % y := Int.tmod_eq_emod_of_nonneg (by omega)
        have hwr : IntKind.i64.wrap (x.tmod y) = x % y := by rw [hte]; exact IntWalk.i64_in _ (by omega)
        go_wp2
        go_region
        go_wp2
        go_roundw
        case rel => exact ⟨y, x % y, rfl, rfl, by omega, hge, hy1, by omega, (gcd_step x y hx (by omega)).trans HX.out, HBL.out, HP.out.drew⟩
        case measure => simp [intOf]; omega
  · go_enter Tryd.func62, Tryd.ntmps62
    go_wp2
    go_loopw [5, 6, 12, 13, 14, 15, 16, 17] (fun c r _ _ _ _ _ _ wr => ∃ x y : Int, c = .int .i64 x ∧ r = .int .i64 y ∧ 0 < x ∧ 0 ≤ y ∧ x ≤ 1000000000000 ∧ y ≤ 1000000000000 ∧ Hid (Int.gcd x y = Int.gcd a b) ∧ Hid (wr.heap[w.heap.size]? = some (.cells #[.int .i64 0, .int .i64 0] 29 (0, 0))) ∧ Hid (Pure w wr)) (fun _ r _ _ _ _ _ _ _ => (intOf r).toNat)
    case atStart => exact ⟨b, -a, rfl, rfl, by omega, by omega, by omega, by omega, (Int.gcd_comm b (-a)).trans Int.neg_gcd, World.alloc_heap_new _ _, (Diff.refl _).alloc _⟩
    case round =>
      obtain ⟨x, y, rfl, rfl, hx, hy, hx1, hy1, HX, HBL, HP⟩ := hrel
      by_cases hy0 : y = 0
      · subst hy0
        have hg : x = (Int.gcd a b : Int) := by have := HX.out; rw [Int.gcd_zero_right] at this; omega
        obtain ⟨r1, r2⟩ := red_tdiv a b
        rw [← hg] at r1 r2
        have hxn : ¬ x = 0 := by omega
        have hN : IntKind.i64.wrap (a.tdiv x) = redN a b := by rw [r1]; exact IntWalk.i64_in _ (by omega)
        have hD : IntKind.i64.wrap (b.tdiv x) = redD a b := by rw [r2]; exact IntWalk.i64_in _ (by omega)
        have HE : Hid (a / x = redN a b ∧ b / x = redD a b) := by unfold redN redD; rw [← hg]; exact ⟨rfl, rfl⟩
        have hfz : ∀ o, wr.frozen? ⟨w.heap.size, o, none⟩ = false := fun o => frozen_of_row wr _ _ _ _ HBL.out
        have hc0 : wr.cell? ⟨w.heap.size, 0, none⟩ = some (.int .i64 0) := by rw [cell_of_row wr _ _ _ _ _ HBL.out]; rfl
        have hc1 : wr.cell? ⟨w.heap.size, 1, none⟩ = some (.int .i64 0) := by rw [cell_of_row wr _ _ _ _ _ HBL.out]; rfl
        have HPF : Hid (w.heap.size < w.heap.size → False) := fun h => by omega
        clear hg r1 r2 hrl hrp
        go_wp2
        go_region
        obtain ⟨W, hW⟩ : ∃ W, (wr.setCell { block := w.heap.size, off := 0 } (Value.int IntKind.i64 (redN a b))).setCell { block := w.heap.size, off := 1 } (Value.int IntKind.i64 (redD a b)) = W := ⟨_, rfl⟩
        have hbl : Blk w.heap.size 29 #[.int .i64 (redN a b), .int .i64 (redD a b)] W := by rw [← hW]; exact Blk.set2 HBL.out _ _
        have HPW : Hid (Pure w W) := by rw [← hW]; exact HP.out.set2 (Nat.le_refl _) _ _
        rw [hW]
        clear hW hfz hc0 hc1
        have hc0 := hbl.at 0
        have hc1 := hbl.at 1
        clear hbl
        go_wp2
        exact bodyPost_ret (v := .agg #[.int .i64 (redN a b), .int .i64 (redD a b)]) (by simp [results, Tryd.results62, go_sem, hc0, hc1]) rfl ⟨rfl, HPW.out.drew⟩
      · have hyn : ¬ y = 0 := hy0
        have hb1 : (y == 0) = false := by simpa using hy0
        have hlt := Int.emod_lt_of_pos x (show 0 < y by omega)
        have hge := Int.emod_nonneg x hyn
        have hte : x.tmod y = x % y := Int.tmod_eq_emod_of_nonneg (by omega)
        have hwr : IntKind.i64.wrap (x.tmod y) = x % y := by rw [hte]; exact IntWalk.i64_in _ (by omega)
        go_wp2
        go_region
        go_wp2
        go_roundw
        case rel => exact ⟨y, x % y, rfl, rfl, by omega, hge, hy1, by omega, (gcd_step x y hx (by omega)).trans HX.out, HBL.out, HP.out.drew⟩
        case measure => simp [intOf]; omega
end Go.Proofs.YtgpfmnjianflaaaDoor
namespace Go.Proofs.YtgpfmnjianflaaaDoor
open Go.RowKit

def lotB (L : LT) (k : Nat) : Bool := wIn 0 100 (L.s k) && wIn 0 1000 (L.p k)
def lotsTo (L : LT) (n : Nat) : Bool := (List.range n).all fun k => lotB L k
theorem lotsTo_succ (L : LT) (n : Nat) : lotsTo L (n + 1) = (lotsTo L n && lotB L n) := by simp [lotsTo, List.range_succ]
theorem lotsTo_false {L : LT} {n k : Nat} (hk : k < n) (h : lotB L k = false) : lotsTo L n = false := by
  simp only [lotsTo, List.all_eq_false, List.mem_range]
  exact ⟨k, hk, by simp [h]⟩

theorem lotsFit_any (w : World) (L : LT) (p : Option Addr) (cap : Nat) (hn : L.n ≤ 1000) (hl : LotsAt w.heap.size w p L) (hg : Gl w) :
    Calls Tryd.prog 63 #[.slice p L.n cap] w fun e w' => e = .returned (.bool (lotsTo L L.n)) ∧ Pure w w' := by
  have HG := Lib.hid hg
  go_enter Tryd.func63, Tryd.ntmps63
  go_wp2
  go_loopw [4, 7] (fun _ i wr => ∃ k : Nat, k ≤ L.n ∧ i = .int .i64 k ∧ Hid (lotsTo L k = true) ∧ Pure w wr) (fun _ i _ => L.n - (intOf i).toNat)
  case atStart => exact ⟨0, Nat.zero_le _, rfl, rfl, Diff.refl _⟩
  case round =>
    obtain ⟨k, hk, rfl, HA, hp⟩ := hrel
    by_cases hlt : k < L.n
    · obtain ⟨b, o, rfl, hb, hc1, hc2⟩ := hl k hlt
      have d1 := ((pcell hp).1 _ _ hb).trans hc1
      have d2 := ((pcell hp).1 _ _ hb).trans hc2
      have HGr := Lib.hid (HG.out.to hp)
      have HP := Lib.hid hp
      have g0 := HGr.out.l4
      have g1 := HGr.out.h4
      have gs : 4 < wr.heap.size := by have := HGr.out.sz; omega
      clear hp hc1 hc2
      have e0 : ∀ o, (wr.alloc (.cells #[.int .i64 (L.s k), .int .i64 (L.p k)] 71)).cell? ⟨wr.heap.size, o, none⟩ = #[Value.int .i64 (L.s k), .int .i64 (L.p k)][o]? := fun o => (Blk.new wr 71 _).at o
      have hp0 : Pure wr (wr.alloc (.cells #[.int .i64 (L.s k), .int .i64 (L.p k)] 71)) := (Diff.refl _).alloc _
      have hb0 : Blk wr.heap.size 71 #[.int .i64 (L.s k), .int .i64 (L.p k)] (wr.alloc (.cells #[.int .i64 (L.s k), .int .i64 (L.p k)] 71)) := Blk.new _ _ _
      have HP0 := Lib.hid hp0
      have HB0 := Lib.hid hb0
      clear e0 hp0 hb0
      go_wp2_with fail
      obtain ⟨X, hX⟩ : ∃ X, wr.alloc (.cells #[.int .i64 (L.s k), .int .i64 (L.p k)] 71) = X := ⟨_, rfl⟩
      have hXs : wr.heap.size + 1 = X.heap.size := by rw [← hX]; simp
      rw [hX] at HP0 HB0 ⊢
      clear hX
      refine (within1 X 0 100 _ _ hXs).mono ?_
      rintro e w1 ⟨rfl, hp1⟩
      have HP1 := Lib.hid (HP0.out.trans hp1)
      have HB1 := Lib.hid (HB0.out.to hp1)
      have HG1 := Lib.hid (HGr.out.to HP1.out)
      have f0 := HB1.out.at 0
      have f1 := HB1.out.at 1
      have g5 := HG1.out.l5
      have g6 := HG1.out.h5
      have gs1 : 5 < w1.heap.size := by have := HG1.out.sz; omega
      have hbl := HB1.out.lt
      clear g0 g1 gs hp1 d1 d2 hXs
      cases hv : wIn 0 100 (L.s k) with
      | false =>
        have HF : Hid (lotsTo L L.n = false) := lotsTo_false hlt (by simp [lotB, hv])
        clear hv
        go_wp2
        go_ret
        exact ⟨by rw [HF.out]; rfl, HP.out.trans HP1.out⟩
      | true =>
        have HV := Lib.hid hv
        clear hv
        go_wp2_with fail
        refine (within1 w1 0 1000 _ _ rfl).mono ?_
        rintro e w2 ⟨rfl, hp2⟩
        have HP2 := Lib.hid (HP1.out.trans hp2)
        clear f0 f1 g5 g6 gs1 hp2
        cases hv : wIn 0 1000 (L.p k) with
        | false =>
          have HF : Hid (lotsTo L L.n = false) := lotsTo_false hlt (by simp [lotB, hv])
          clear hv
          go_wp2
          go_ret
          exact ⟨by rw [HF.out]; rfl, HP.out.trans HP2.out⟩
        | true =>
          have HS : Hid (lotsTo L (k + 1) = true) := by show _ = true; rw [lotsTo_succ, HA.out, lotB, HV.out, hv]; rfl
          clear hv
          go_wp2
          go_roundw
          case rel => exact ⟨k + 1, by omega, by go_num, HS.out, HP.out.trans HP2.out⟩
          case measure => simp [intOf]; omega
    · obtain rfl : k = L.n := by omega
      have HF : Hid (lotsTo L L.n = true) := HA.out
      go_wp2
      go_ret
      exact ⟨by rw [HF.out]; rfl, hp⟩

def checkL (L : LT) : Int := if wIn 1 8 L.n = false then 6 else if lotsTo L L.n = false then 3 else 0
theorem CheckLots_any (w : World) (L : LT) (p : Option Addr) (cap : Nat) (hn : L.n ≤ 1000) (hl : LotsAt w.heap.size w p L) (hg : Gl w) :
    Calls Tryd.prog 22 #[.slice p L.n cap] w fun e w' => e = .returned (.int .i64 (checkL L)) ∧ Pure w w' := by
  have HG := Lib.hid hg
  have HL := Lib.hid hl
  have g0 := hg.l1
  have g1 := hg.h1
  have gs : 1 < w.heap.size := by have := hg.sz; omega
  clear hl hg
  go_enter Tryd.func22, Tryd.ntmps22
  go_wp2_with fail
  refine (within1 w 1 8 _ _ rfl).mono ?_
  rintro e w1 ⟨rfl, hp1⟩
  have HP1 := Lib.hid hp1
  have HL1 := Lib.hid (HL.out.to hp1)
  have HG1 := Lib.hid (HG.out.to hp1)
  clear g0 g1 gs hp1
  cases hv : wIn 1 8 L.n with
  | false =>
    have HF : Hid (checkL L = 6) := by show _ = _; unfold checkL; rw [if_pos hv]
    clear hv
    go_wp2
    go_ret
    exact ⟨by rw [HF.out]; rfl, HP1.out⟩
  | true =>
    have HV := Lib.hid hv
    clear hv
    go_wp2_with fail
    refine (lotsFit_any w1 L p cap hn HL1.out HG1.out).mono ?_
    rintro e w2 ⟨rfl, hp2⟩
    have HP2 := Lib.hid (HP1.out.trans hp2)
    clear hp2
    cases hv : lotsTo L L.n with
    | false =>
      have HF : Hid (checkL L = 3) := by show _ = _; unfold checkL; rw [if_neg (by rw [HV.out]; simp), if_pos hv]
      clear hv
      go_wp2
      go_ret
      exact ⟨by rw [HF.out]; rfl, HP2.out⟩
    | true =>
      have HF : Hid (checkL L = 0) := by show _ = _; unfold checkL; rw [if_neg (by rw [HV.out]; simp), if_neg (by rw [hv]; simp)]
      clear hv
      go_wp2
      go_ret
      exact ⟨by rw [HF.out]; rfl, HP2.out⟩
theorem checkL_ok {L : LT} : checkL L = 0 ↔ L.Ok := by
  unfold checkL
  constructor
  · intro h
    by_cases h1 : wIn 1 8 L.n = false
    · rw [if_pos h1] at h; omega
    · rw [if_neg h1] at h
      by_cases h2 : lotsTo L L.n = false
      · rw [if_pos h2] at h; omega
      · have h1' : wIn 1 8 (L.n : Int) = true := by simpa using h1
        have h2' : lotsTo L L.n = true := by simpa using h2
        simp only [wIn, Bool.and_eq_true, decide_eq_true_eq] at h1'
        simp only [lotsTo, List.all_eq_true, List.mem_range, lotB, wIn, Bool.and_eq_true, decide_eq_true_eq] at h2'
        exact ⟨by omega, by omega, fun i hi => (h2' i hi).1.1, fun i hi => (h2' i hi).1.2, fun i hi => (h2' i hi).2.1, fun i hi => (h2' i hi).2.2⟩
  · intro h
    have h1 : wIn 1 8 (L.n : Int) = true := by simp only [wIn, Bool.and_eq_true, decide_eq_true_eq]; have := h.n0; have := h.n8; omega
    have h2 : lotsTo L L.n = true := by
      simp only [lotsTo, List.all_eq_true, List.mem_range, lotB, wIn, Bool.and_eq_true, decide_eq_true_eq]
      exact fun i hi => ⟨⟨h.s0 i hi, h.s1 i hi⟩, h.p0 i hi, h.p1 i hi⟩
    rw [if_neg (by rw [h1]; simp), if_neg (by rw [h2]; simp)]
theorem checkL_vals (L : LT) : checkL L = 0 ∨ checkL L = 3 ∨ checkL L = 6 := by
  unfold checkL; split
  · exact .inr (.inr rfl)
  · split
    · exact .inr (.inl rfl)
    · exact .inl rfl

def sharpE (L : LT) (t : Int) : Int := if checkL L ≠ 0 then checkL L else if wIn 0 100 t = false then 3 else 0
theorem checkSharp_any (w : World) (L : LT) (p : Option Addr) (cap : Nat) (t : Int) (hn : L.n ≤ 1000) (hl : LotsAt w.heap.size w p L) (hg : Gl w) :
    Calls Tryd.prog 64 #[.slice p L.n cap, .int .i64 t] w fun e w' => e = .returned (.int .i64 (sharpE L t)) ∧ Pure w w' := by
  have HG := Lib.hid hg
  have HL := Lib.hid hl
  clear hl hg
  go_enter Tryd.func64, Tryd.ntmps64
  go_wp2_with fail
  refine (CheckLots_any w L p cap hn HL.out HG.out).mono ?_
  rintro e w1 ⟨rfl, hp1⟩
  have HP1 := Lib.hid hp1
  have HG1 := Lib.hid (HG.out.to hp1)
  have g0 := HG1.out.l4
  have g1 := HG1.out.h4
  have gs : 4 < w1.heap.size := by have := HG1.out.sz; omega
  clear hp1
  obtain ⟨c, hc⟩ : ∃ c, checkL L = c := ⟨_, rfl⟩
  have HC := Lib.hid hc
  rw [hc]
  clear hc
  by_cases h0 : c = 0
  · subst h0
    go_wp2_with fail
    refine (within1 w1 0 100 _ _ rfl).mono ?_
    rintro e w2 ⟨rfl, hp2⟩
    have HP2 := Lib.hid (HP1.out.trans hp2)
    clear hp2 g0 g1 gs
    cases hv : wIn 0 100 t with
    | false =>
      have HF : Hid (sharpE L t = 3) := by show _ = _; unfold sharpE; rw [if_neg (by rw [HC.out]; simp), if_pos hv]
      clear hv
      go_wp2
      go_ret
      exact ⟨by rw [HF.out]; rfl, HP2.out⟩
    | true =>
      have HF : Hid (sharpE L t = 0) := by show _ = _; unfold sharpE; rw [if_neg (by rw [HC.out]; simp), if_neg (by rw [hv]; simp)]
      clear hv
      go_wp2
      go_ret
      exact ⟨by rw [HF.out]; rfl, HP2.out⟩
  · have hb : (c != 0) = true := by simpa using h0
    have HF : Hid (sharpE L t = c) := by show _ = _; unfold sharpE; rw [if_pos (by rw [HC.out]; exact h0), HC.out]
    go_wp2
    go_ret
    exact ⟨by rw [HF.out]; rfl, HP1.out⟩

/-- A valid line. -/
def lineB (d x y : Int) : Bool := wIn 1 100 d && (wIn (-1048576) 1048576 x && wIn (-1048576) 1048576 y)
theorem valid_any (w : World) (d x y : Int) (hg : Gl w) :
    Calls Tryd.prog 75 #[.agg #[.int .i64 d, .int .i64 x, .int .i64 y]] w fun e w' => e = .returned (.bool (lineB d x y)) ∧ Pure w w' := by
  have hp0 : Pure w (w.alloc (.cells #[.int .i64 d, .int .i64 x, .int .i64 y] 45)) := (Diff.refl _).alloc _
  have hb0 : Blk w.heap.size 45 #[.int .i64 d, .int .i64 x, .int .i64 y] (w.alloc (.cells #[.int .i64 d, .int .i64 x, .int .i64 y] 45)) := Blk.new _ _ _
  have HP0 := Lib.hid hp0
  have HB0 := Lib.hid hb0
  have HG0 := Lib.hid (hg.to hp0)
  have g0 := hg.l6
  have g1 := hg.h6
  have gs : 6 < w.heap.size := by have := hg.sz; omega
  clear hp0 hb0 hg
  go_enter Tryd.func75, Tryd.ntmps75
  go_wp2_with fail
  obtain ⟨X, hX⟩ : ∃ X, w.alloc (.cells #[.int .i64 d, .int .i64 x, .int .i64 y] 45) = X := ⟨_, rfl⟩
  have hXs : w.heap.size + 1 = X.heap.size := by rw [← hX]; simp
  rw [hX] at HP0 HB0 HG0 ⊢
  clear hX
  refine (within1 X 1 100 _ _ hXs).mono ?_
  rintro e w1 ⟨rfl, hp1⟩
  have HP1 := Lib.hid (HP0.out.trans hp1)
  have HB1 := Lib.hid (HB0.out.to hp1)
  have HG1 := Lib.hid (HG0.out.to hp1)
  have f0 := HB1.out.at 1
  have f1 := HB1.out.at 2
  have hbl := HB1.out.lt
  have g2 := HG1.out.l2
  have g3 := HG1.out.h2
  have gs1 : 2 < w1.heap.size := by have := HG1.out.sz; omega
  clear g0 g1 gs hp1 hXs
  cases hv : wIn 1 100 d with
  | false =>
    have HF : Hid (lineB d x y = false) := by show _ = _; simp [lineB, hv]
    clear hv
    go_wp2
    go_ret
    exact ⟨by rw [HF.out]; rfl, HP1.out⟩
  | true =>
    have HF : Hid (lineB d x y = (wIn (-1048576) 1048576 x && wIn (-1048576) 1048576 y)) := by show _ = _; simp [lineB, hv]
    clear hv
    go_wp2_with fail
    refine (within2 w1 (-1048576) 1048576 x y _ rfl).mono ?_
    rintro e w2 ⟨rfl, hp2⟩
    have HP2 := Lib.hid (HP1.out.trans hp2)
    clear hp2 g2 g3 gs1 f0 f1
    rw [← HF.out]
    go_wp2
    go_ret
    exact ⟨rfl, HP2.out⟩

/-- The middle one of three lots sags. -/
def sagB (sl pl sm pm sr pr : Int) : Bool := decide ((pm - pl) * (sr - sl) < (pr - pl) * (sm - sl))
theorem sags_any (w : World) (sl pl sm pm sr pr : Int) (h1 : 0 ≤ sl ∧ sl ≤ 100) (h2 : 0 ≤ sm ∧ sm ≤ 100) (h3 : 0 ≤ sr ∧ sr ≤ 100) (h4 : 0 ≤ pl ∧ pl ≤ 1000) (h5 : 0 ≤ pm ∧ pm ≤ 1000) (h6 : 0 ≤ pr ∧ pr ≤ 1000) :
    Calls Tryd.prog 96 #[.agg #[.int .i64 sl, .int .i64 pl], .agg #[.int .i64 sm, .int .i64 pm], .agg #[.int .i64 sr, .int .i64 pr]] w fun e w' => e = .returned (.bool (sagB sl pl sm pm sr pr)) ∧ Pure w w' := by
  have bnd : ∀ a b : Int, -1000 ≤ a → a ≤ 1000 → -100 ≤ b → b ≤ 100 → -100000 ≤ a * b ∧ a * b ≤ 100000 := fun a b a0 a1 b0 b1 => by
    have e1 := Int.mul_nonneg (show 0 ≤ a + 1000 by omega) (show 0 ≤ 100 - b by omega)
    have e2 := Int.mul_nonneg (show 0 ≤ 1000 - a by omega) (show 0 ≤ b + 100 by omega)
    have e3 := Int.mul_nonneg (show 0 ≤ a + 1000 by omega) (show 0 ≤ b + 100 by omega)
    have e4 := Int.mul_nonneg (show 0 ≤ 1000 - a by omega) (show 0 ≤ 100 - b by omega)
    have x1 : (a + 1000) * (100 - b) = 100 * a - a * b + 100000 - 1000 * b := by grind
    have x2 : (1000 - a) * (b + 100) = 1000 * b + 100000 - a * b - 100 * a := by grind
    have x3 : (a + 1000) * (b + 100) = a * b + 100 * a + 1000 * b + 100000 := by grind
    have x4 : (1000 - a) * (100 - b) = 100000 - 1000 * b - 100 * a + a * b := by grind
    omega
  have b1 := bnd (pm - pl) (sr - sl) (by omega) (by omega) (by omega) (by omega)
  have b2 := bnd (pr - pl) (sm - sl) (by omega) (by omega) (by omega) (by omega)
  have w1 : IntKind.i64.wrap (pm - pl) = pm - pl := IntWalk.i64_in _ (by omega)
  have w2 : IntKind.i64.wrap (sr - sl) = sr - sl := IntWalk.i64_in _ (by omega)
  have w3 : IntKind.i64.wrap (pr - pl) = pr - pl := IntWalk.i64_in _ (by omega)
  have w4 : IntKind.i64.wrap (sm - sl) = sm - sl := IntWalk.i64_in _ (by omega)
  have w5 : IntKind.i64.wrap ((pm - pl) * (sr - sl)) = (pm - pl) * (sr - sl) := IntWalk.i64_in _ (by omega)
  have w6 : IntKind.i64.wrap ((pr - pl) * (sm - sl)) = (pr - pl) * (sm - sl) := IntWalk.i64_in _ (by omega)
  clear bnd
  go_enter Tryd.func96, Tryd.ntmps96
  go_wp2
  go_ret
  exact ⟨rfl, by repeat (first | exact Diff.refl _ | apply Diff.alloc)⟩
end Go.Proofs.YtgpfmnjianflaaaDoor
namespace Go.Proofs.YtgpfmnjianflaaaDoor
open Go.RowKit

theorem mul_bnd {a b : Int} (A B : Int) (h0 : -A ≤ a) (h1 : a ≤ A) (h2 : -B ≤ b) (h3 : b ≤ B) : -(A * B) ≤ a * b ∧ a * b ≤ A * B := by
  have e1 := Int.mul_nonneg (show 0 ≤ a + A by omega) (show 0 ≤ B - b by omega)
  have e2 := Int.mul_nonneg (show 0 ≤ A - a by omega) (show 0 ≤ b + B by omega)
  have e3 := Int.mul_nonneg (show 0 ≤ a + A by omega) (show 0 ≤ b + B by omega)
  have e4 := Int.mul_nonneg (show 0 ≤ A - a by omega) (show 0 ≤ B - b by omega)
  have x1 : (a + A) * (B - b) = a * B - a * b + A * B - A * b := by grind
  have x2 : (A - a) * (b + B) = A * b + A * B - a * b - a * B := by grind
  have x3 : (a + A) * (b + B) = a * b + a * B + A * b + A * B := by grind
  have x4 : (A - a) * (B - b) = A * B - A * b - a * B + a * b := by grind
  omega
/-- The line through two lots. -/
def thD (sl sr : Int) : Int := if sl < sr then sr - sl else 1
def thX (sl pl sr pr : Int) : Int := pl * thD sl sr - (pr - pl) * sl
theorem through_any (w : World) (sl pl sr pr : Int) (h0 : sl ≤ sr) (h1 : 0 ≤ sl ∧ sl ≤ 100) (h3 : 0 ≤ sr ∧ sr ≤ 100) (h4 : 0 ≤ pl ∧ pl ≤ 1000) (h6 : 0 ≤ pr ∧ pr ≤ 1000) :
    Calls Tryd.prog 88 #[.agg #[.int .i64 sl, .int .i64 pl], .agg #[.int .i64 sr, .int .i64 pr]] w fun e w' => e = .returned (.agg #[.int .i64 (thD sl sr), .int .i64 (thX sl pl sr pr), .int .i64 (pr - pl)]) ∧ Pure w w' := by
  have hmx : Tryd.prog.follows .mixedOrders = true := by kernel_rfl
  obtain ⟨d, hd⟩ : ∃ d, thD sl sr = d := ⟨_, rfl⟩
  have hd0 : 1 ≤ d ∧ d ≤ 100 := by rw [← hd]; unfold thD; split <;> omega
  have hmax : (if sr - sl < 1 then (1 : Int) else sr - sl) = d := by rw [← hd]; unfold thD; split <;> split <;> omega
  have b1 := mul_bnd (a := pl) (b := d) 1000 100 (by omega) (by omega) (by omega) (by omega)
  have b2 := mul_bnd (a := pr - pl) (b := sl) 1000 100 (by omega) (by omega) (by omega) (by omega)
  have w1 : IntKind.i64.wrap (sr - sl) = sr - sl := IntWalk.i64_in _ (by omega)
  have w2 : IntKind.i64.wrap (pr - pl) = pr - pl := IntWalk.i64_in _ (by omega)
  have w3 : IntKind.i64.wrap (pl * d) = pl * d := IntWalk.i64_in _ (by omega)
  have w4 : IntKind.i64.wrap ((pr - pl) * sl) = (pr - pl) * sl := IntWalk.i64_in _ (by omega)
  have w5 : IntKind.i64.wrap (pl * d - (pr - pl) * sl) = pl * d - (pr - pl) * sl := IntWalk.i64_in _ (by omega)
  have HX : Hid (thX sl pl sr pr = pl * d - (pr - pl) * sl) := by show _ = _; unfold thX; rw [hd]
  clear h0 h1 h3 h4 h6 hd0 b1 b2
  rw [HX.out, hd]
  have HD := Lib.hid hd
  clear hd
  go_enter Tryd.func88, Tryd.ntmps88
  go_wp2
  go_region
  clear hmax
  obtain ⟨X, hX⟩ : ∃ X, ((w.alloc (.cells #[.int .i64 sl, .int .i64 pl] 71)).alloc (.cells #[.int .i64 sr, .int .i64 pr] 71)).alloc (.cells #[.int .i64 0, .int .i64 0, .int .i64 0] 101) = X := ⟨_, rfl⟩
  have k0 : Blk w.heap.size 71 #[.int .i64 sl, .int .i64 pl] X := by rw [← hX]; exact ((Blk.new _ _ _).alloc _).alloc _
  have k2 : Blk (w.heap.size + 1 + 1) 101 #[.int .i64 0, .int .i64 0, .int .i64 0] X := by
    rw [← hX]; have := Blk.new ((w.alloc (.cells #[.int .i64 sl, .int .i64 pl] 71)).alloc (.cells #[.int .i64 sr, .int .i64 pr] 71)) 101 #[.int .i64 0, .int .i64 0, .int .i64 0]; simpa using this
  have hP : Pure w X := by rw [← hX]; exact (((Diff.refl _).alloc _).alloc _).alloc _
  rw [hX]
  clear hX
  have K2 := Lib.hid k2
  have HP := Lib.hid hP
  have c0 := k0.at 0
  have c1 := k0.at 1
  have c2 := k2.at 0
  have c3 := k2.at 1
  have c4 := k2.at 2
  have fz := fun o => k2.fz o
  have l0 := k0.lt
  have l2 := k2.lt
  clear k0 k2 hP
  go_wp2
  have z := K2.out.set3 (.int .i64 d) (.int .i64 (pl * d - (pr - pl) * sl)) (.int .i64 (pr - pl))
  have HPZ := HP.out.set3 (g := w.heap.size + 1 + 1) (by omega) (.int .i64 d) (.int .i64 (pl * d - (pr - pl) * sl)) (.int .i64 (pr - pl))
  obtain ⟨Y, hY⟩ : ∃ Y, ((X.setCell { block := w.heap.size + 1 + 1, off := 0 } (Value.int IntKind.i64 d)).setCell { block := w.heap.size + 1 + 1, off := 1 } (Value.int IntKind.i64 (pl * d - (pr - pl) * sl))).setCell { block := w.heap.size + 1 + 1, off := 2 } (Value.int IntKind.i64 (pr - pl)) = Y := ⟨_, rfl⟩
  rw [hY] at z HPZ ⊢
  clear hY
  exact bodyPost_ret (v := .agg #[.int .i64 d, .int .i64 (pl * d - (pr - pl) * sl), .int .i64 (pr - pl)]) (by simp [results, Tryd.results88, go_sem, z.at 0, z.at 1, z.at 2]) rfl ⟨rfl, HPZ.drew⟩

/-- What a line is at a sharpness. -/
theorem at_any (w : World) (d x y t : Int) (hd : 0 < d ∧ d ≤ 100) (hx : -1048576 ≤ x ∧ x ≤ 1048576) (hy : -1048576 ≤ y ∧ y ≤ 1048576) (ht : 0 ≤ t ∧ t ≤ 100) :
    Calls Tryd.prog 77 #[.agg #[.int .i64 d, .int .i64 x, .int .i64 y], .int .i64 t] w fun e w' => e = .returned (.agg #[.int .i64 (redN (x + y * t) d), .int .i64 (redD (x + y * t) d)]) ∧ Pure w w' := by
  have b1 := mul_bnd (a := y) (b := t) 1048576 100 (by omega) (by omega) (by omega) (by omega)
  have x1 : IntKind.i64.wrap (y * t) = y * t := IntWalk.i64_in _ (by omega)
  have x2 : IntKind.i64.wrap (x + y * t) = x + y * t := IntWalk.i64_in _ (by omega)
  go_enter Tryd.func77, Tryd.ntmps77
  go_wp2_with fail
  obtain ⟨X, hX⟩ : ∃ V : World, (w.alloc (.cells #[.int .i64 d, .int .i64 x, .int .i64 y] 101)).alloc (.cells #[.int .i64 0, .int .i64 0] 29) = V := ⟨_, rfl⟩
  have k2 : Blk (w.heap.size + 1) 29 #[.int .i64 0, .int .i64 0] X := by
    rw [← hX]; have := Blk.new (w.alloc (.cells #[.int .i64 d, .int .i64 x, .int .i64 y] 101)) 29 #[.int .i64 0, .int .i64 0]; simpa using this
  have hP : Pure w X := by rw [← hX]; exact ((Diff.refl _).alloc _).alloc _
  rw [hX]
  clear hX
  refine (ratio_any X _ _ (by omega) (by omega)).mono ?_
  rintro e w1 ⟨rfl, hp1⟩
  have HP := Lib.hid (hP.trans hp1)
  have HB := Lib.hid (k2.to hp1)
  have c2 := HB.out.at 0
  have c3 := HB.out.at 1
  have fz := fun o => HB.out.fz o
  clear k2 hP hp1 b1
  go_wp2
  have z := HB.out.set2 (Value.int IntKind.i64 (redN (x + y * t) d)) (Value.int IntKind.i64 (redD (x + y * t) d))
  have HPZ := HP.out.set2 (g := w.heap.size + 1) (by omega) (Value.int IntKind.i64 (redN (x + y * t) d)) (Value.int IntKind.i64 (redD (x + y * t) d))
  obtain ⟨Y, hY⟩ : ∃ Y, (w1.setCell { block := w.heap.size + 1, off := 0 } (Value.int IntKind.i64 (redN (x + y * t) d))).setCell { block := w.heap.size + 1, off := 1 } (Value.int IntKind.i64 (redD (x + y * t) d)) = Y := ⟨_, rfl⟩
  rw [hY] at z HPZ ⊢
  clear hY
  exact bodyPost_ret (v := .agg #[.int .i64 (redN (x + y * t) d), .int .i64 (redD (x + y * t) d)]) (by simp [results, Tryd.results77, go_sem, z.at 0, z.at 1]) rfl ⟨rfl, HPZ⟩

/-- A price is less than another one, or the only one. -/
def chB (a b c d : Int) : Bool := hasB a b && (!hasB c d || decide (a * d < c * b))
theorem cheaper_any (w : World) (a b c d : Int) (ha : -1000000000 ≤ a ∧ a ≤ 1000000000) (hb : -1000000000 ≤ b ∧ b ≤ 1000000000) (hc : -1000000000 ≤ c ∧ c ≤ 1000000000) (hd : -1000000000 ≤ d ∧ d ≤ 1000000000) :
    Calls Tryd.prog 73 #[.agg #[.int .i64 a, .int .i64 b], .agg #[.int .i64 c, .int .i64 d]] w fun e w' => e = .returned (.bool (chB a b c d)) ∧ Pure w w' := by
  have b1 := mul_bnd (a := a) (b := d) 1000000000 1000000000 (by omega) (by omega) (by omega) (by omega)
  have b2 := mul_bnd (a := c) (b := b) 1000000000 1000000000 (by omega) (by omega) (by omega) (by omega)
  have x1 : IntKind.i64.wrap (a * d) = a * d := IntWalk.i64_in _ (by omega)
  have x2 : IntKind.i64.wrap (c * b) = c * b := IntWalk.i64_in _ (by omega)
  clear ha hb hc hd b1 b2
  go_enter Tryd.func73, Tryd.ntmps73
  go_wp2_with fail
  obtain ⟨X, hX⟩ : ∃ V : World, (w.alloc (.cells #[.int .i64 a, .int .i64 b] 29)).alloc (.cells #[.int .i64 c, .int .i64 d] 29) = V := ⟨_, rfl⟩
  have k0 : Blk w.heap.size 29 #[.int .i64 a, .int .i64 b] X := by rw [← hX]; exact (Blk.new _ _ _).alloc _
  have k1 : Blk (w.heap.size + 1) 29 #[.int .i64 c, .int .i64 d] X := by
    rw [← hX]; have := Blk.new (w.alloc (.cells #[.int .i64 a, .int .i64 b] 29)) 29 #[.int .i64 c, .int .i64 d]; simpa using this
  have hP : Pure w X := by rw [← hX]; exact ((Diff.refl _).alloc _).alloc _
  rw [hX]
  clear hX
  refine (has_any X a b).mono ?_
  rintro e w1 ⟨rfl, hp1⟩
  have HP1 := Lib.hid (hP.trans hp1)
  have HB1 := Lib.hid (k0.to hp1)
  have HC1 := Lib.hid (k1.to hp1)
  have c0 := HB1.out.at 0
  have c1 := HB1.out.at 1
  have c2 := HC1.out.at 0
  have c3 := HC1.out.at 1
  have l0 := HB1.out.lt
  have l1 := HC1.out.lt
  clear k0 k1 hP hp1
  cases h1 : hasB a b with
  | false =>
    have HF : Hid (chB a b c d = false) := by show _ = _; simp [chB, h1]
    clear h1
    go_wp2
    go_ret
    exact ⟨by rw [HF.out]; rfl, HP1.out⟩
  | true =>
    have HH := Lib.hid h1
    clear h1
    go_wp2_with fail
    refine (has_any w1 c d).mono ?_
    rintro e w2 ⟨rfl, hp2⟩
    have HP2 := Lib.hid (HP1.out.trans hp2)
    have HB2 := Lib.hid (HB1.out.to hp2)
    have HC2 := Lib.hid (HC1.out.to hp2)
    clear c0 c1 c2 c3 l0 l1 hp2
    have c0 := HB2.out.at 0
    have c1 := HB2.out.at 1
    have c2 := HC2.out.at 0
    have c3 := HC2.out.at 1
    have l0 := HB2.out.lt
    have l1 := HC2.out.lt
    cases h2 : hasB c d with
    | false =>
      have HF : Hid (chB a b c d = true) := by show _ = _; simp [chB, h2, HH.out]
      clear h2
      go_wp2
      go_ret
      exact ⟨by rw [HF.out]; rfl, HP2.out⟩
    | true =>
      have HF : Hid (chB a b c d = decide (a * d < c * b)) := by show _ = _; simp [chB, h2, HH.out]
      clear h2
      go_wp2
      go_ret
      exact ⟨by rw [HF.out]; rfl, HP2.out⟩
end Go.Proofs.YtgpfmnjianflaaaDoor
namespace Go.Proofs.YtgpfmnjianflaaaDoor
open Go.RowKit

/-- The cells of a tariff. -/
def tabV (f : Nat → Int × Int) : Array Value := Array.ofFn (n := 202) fun i => if i.val % 2 = 0 then .int .i64 (f (i.val / 2)).1 else .int .i64 (f (i.val / 2)).2
abbrev pr0 : Int × Int := (0, 0)
def tab0 : Array Value := tabV fun _ => pr0
theorem tab_size (f : Nat → Int × Int) : (tabV f).size = 202 := by simp [tabV]
theorem tab_fst {f : Nat → Int × Int} {k : Nat} (h : k < 101) : (tabV f)[2 * k]? = some (.int .i64 (f k).1) := by
  simp [tabV, Array.getElem?_ofFn]; omega
theorem tab_snd {f : Nat → Int × Int} {k : Nat} (h : k < 101) : (tabV f)[2 * k + 1]? = some (.int .i64 (f k).2) := by
  have e : (2 * k + 1) / 2 = k := by omega
  have e2 : (2 * k + 1) % 2 = 1 := by omega
  simp [tabV, Array.getElem?_ofFn, e, e2]; omega
theorem run_alloc_table (w : World) : (Instr.alloc 85 true (.tuple #[])).run Tryd.prog w = .ok (.pointer (some ⟨w.heap.size, 0, none⟩)) (w.alloc (.cells tab0 85)) := by kernel_rfl
theorem run_build_table (w : World) : (Instr.build 85 #[]).run Tryd.prog w = .ok (.agg tab0) w := by kernel_rfl
theorem size_table : (Tryd.prog.info? 85).map (·.size) = some 202 := by kernel_rfl
theorem run_box_table (w : World) (f : Nat → Int × Int) : (Instr.box 85 (.agg (tabV f))).run Tryd.prog w = .ok (.pointer (some ⟨w.heap.size, 0, none⟩)) (w.alloc (.cells (tabV f) 85)) := by kernel_rfl
theorem tab_oneCell (f : Nat → Int × Int) : (tabV f).all (·.oneCell') = true := by
  rw [Array.all_eq_true]
  intro i hi
  simp only [tabV, Array.getElem_ofFn]
  split <;> rfl
section
variable {ops : Array Oper} {rest : List Oper} {o : Oper} {a : Act} {w : World} {Q : Exit → Act → World → Prop} {K : Act → World → Prop}
theorem wpList_alloc_table (hgd : o.guard = none) (ho : o.op = .alloc 85)
    (h : wpList Tryd.prog ops Q rest (a.put o.dst (.pointer (some ⟨w.heap.size, 0, none⟩))) (w.alloc (.cells tab0 85))) : wpList Tryd.prog ops Q (o :: rest) a w :=
  wpList_plain hgd fun K hK => by
    unfold Oper.wp execOp
    simp only [ho, Sem.run_bind, run_alloc_table, Result.andThen_ok, Sem.run_pure]
    exact hK _ _ h
theorem wpList_build_table (hgd : o.guard = none) (ho : o.op = .build 85 #[])
    (h : wpList Tryd.prog ops Q rest (a.put o.dst (.agg tab0)) w) : wpList Tryd.prog ops Q (o :: rest) a w :=
  wpList_plain hgd fun K hK => by
    unfold Oper.wp execOp
    simp only [ho, Sem.run_bind, Array.map_empty, run_build_table, Result.andThen_ok, Sem.run_pure]
    exact hK _ _ h
theorem wpList_box_table (hgd : o.guard = none) (x : Operand) (ho : o.op = .box 85 x) (f : Nat → Int × Int) (hx : a.eval x = .agg (tabV f))
    (h : wpList Tryd.prog ops Q rest (a.put o.dst (.pointer (some ⟨w.heap.size, 0, none⟩))) (w.alloc (.cells (tabV f) 85))) : wpList Tryd.prog ops Q (o :: rest) a w :=
  wpList_plain hgd fun K hK => by
    unfold Oper.wp execOp
    simp only [ho, hx, Sem.run_bind, run_box_table, Result.andThen_ok, Sem.run_pure]
    exact hK _ _ h
theorem wpList_store_table (hgd : o.guard = none) (x y : Operand) (ho : o.op = .store 85 x y) (g : Nat) (f old : Nat → Int × Int)
    (hx : a.eval x = .pointer (some ⟨g, 0, none⟩)) (hy : a.eval y = .agg (tabV f)) (hg : w.heap[g]? = some (.cells (tabV old) 85 (0, 0)))
    (h : wpList Tryd.prog ops Q rest (a.put o.dst undef) (w.setRow g (tabV f))) : wpList Tryd.prog ops Q (o :: rest) a w :=
  wpList_store_row hgd 85 x y ho g (tabV f) hx hy 85 (tabV old) hg (by rw [tab_size]; exact size_table) (by rw [tab_size, tab_size]) (tab_oneCell f) h
theorem wpList_load_table (hgd : o.guard = none) (x : Operand) (ho : o.op = .load 85 x) (g : Nat) (f : Nat → Int × Int)
    (hx : a.eval x = .pointer (some ⟨g, 0, none⟩)) (hg : w.heap[g]? = some (.cells (tabV f) 85 (0, 0)))
    (h : wpList Tryd.prog ops Q rest (a.put o.dst (.agg (tabV f))) w) : wpList Tryd.prog ops Q (o :: rest) a w :=
  wpList_load_row hgd 85 x ho g hx 85 (tabV f) (0, 0) _ hg Tryd.underlying85 rfl (by rw [tab_size]; exact size_table) h
theorem wp_load_table (x : Operand) (ho : o.op = .load 85 x) (g : Nat) (f : Nat → Int × Int)
    (hx : a.eval x = .pointer (some ⟨g, 0, none⟩)) (hg : w.heap[g]? = some (.cells (tabV f) 85 (0, 0)))
    (h : K (a.put o.dst (.agg (tabV f))) w) : o.wp Tryd.prog a w K Q :=
  wp_load_row 85 x ho g hx 85 (tabV f) (0, 0) _ hg Tryd.underlying85 rfl (by rw [tab_size]; exact size_table) h
end
theorem Diff.setRow {O : Nat → Prop} {a w : World} (h : Diff O a w) {g : Nat} (hp : g < a.heap.size → O g) (cs : Array Value) : Diff O a (w.setRow g cs) :=
  h.trans' (O' := fun k => k = g) ⟨rfl, rfl, rfl, by simp, fun _ _ ho => setRow_other _ _ _ _ ho⟩ (fun _ hk e => by subst e; exact hp hk)

section
variable {P : Program}
theorem run_equalIn_array (d : Nat) (t elem : TypeId) (xs ys : Array Value) (len n : Nat) (hu : P.underlying t = some (.array len elem)) (hn : ∀ w, (sizeOf elem).run P w = .ok n w) (r : Nat → Bool)
    (h : ∀ i, i < len → ∀ w, ∃ a b, (part elem xs (i * n)).run P w = .ok a w ∧ (part elem ys (i * n)).run P w = .ok b w ∧ (Op.equalIn d elem a b).run P w = .ok (r i) w) (w : World) :
    (Op.equalIn (d + 1) t (.agg xs) (.agg ys)).run P w = .ok ((List.range len).all r) w := by
  simp only [Op.equalIn, Sem.run_bind, run_underlying hu, Result.andThen_ok, hn]
  simp only [Std.Legacy.Range.forIn_eq_forIn_range', Std.Legacy.Range.size, Nat.sub_zero, Nat.add_one_sub_one, Nat.div_one, ← List.range_eq_range']
  have key : ∀ l : List Nat, (∀ i ∈ l, i < len) → (forIn l ((none, ()) : Option Bool × Unit) fun i _ => (do
      let a ← part elem xs (i * n)
      let b ← part elem ys (i * n)
      let c ← Op.equalIn d elem a b
      if (!c) = true then pure (ForInStep.done (some false, ())) else pure (ForInStep.yield (none, ())) : Sem _)).run P w = .ok (if l.all r then none else some false, ()) w := by
    intro l
    induction l with
    | nil => intro _; simp
    | cons i l ih =>
      intro hl
      obtain ⟨a, b, h1, h2, h3⟩ := h i (hl i (by simp)) w
      rw [List.forIn_cons, Sem.run_bind]
      simp only [Sem.run_bind, h1, h2, h3, Result.andThen_ok, Sem.run_ite]
      cases hr : r i with
      | false => simp [hr]
      | true =>
        simp only [Bool.not_true, Bool.false_eq_true, if_false, Sem.run_pure, Result.andThen_ok]
        rw [ih (fun j hj => hl j (by simp [hj]))]
        simp [hr]
  rw [key (List.range len) (fun i hi => by simpa using hi)]
  cases hA : (List.range len).all r <;> simp
end
theorem size29 (w : World) : (sizeOf 29).run Tryd.prog w = .ok 2 w := by kernel_rfl
theorem isAgg29 (w : World) : (isAgg 29).run Tryd.prog w = .ok true w := by kernel_rfl
theorem under85 : Tryd.prog.underlying 85 = some (.array 101 29) := by kernel_rfl
theorem part29 (w : World) (xs : Array Value) (o : Nat) : (part 29 xs o).run Tryd.prog w = .ok (.agg (xs.extract o (o + 2))) w := by
  simp [part, Sem.run_bind, isAgg29, size29]
theorem tab_part (f : Nat → Int × Int) (i : Nat) (hi : i < 101) : (tabV f).extract (i * 2) (i * 2 + 2) = #[.int .i64 (f i).1, .int .i64 (f i).2] := by
  apply Array.ext_getElem?
  intro k
  have h0 := tab_fst (f := f) hi
  have h1 := tab_snd (f := f) hi
  have e : 2 * i = i * 2 := by omega
  rw [e] at h0 h1
  rw [Array.getElem?_extract]
  match k with
  | 0 => simp [h0, tab_size]; omega
  | 1 => simp [h1, tab_size]; omega
  | k + 2 => simp [tab_size]; omega
def prEq (a b : Int × Int) : Bool := (a.1 == b.1) && (a.2 == b.2)
theorem eq29 (d : Nat) (w : World) (a b : Int × Int) : (Op.equalIn (d + 2) 29 (.agg #[.int .i64 a.1, .int .i64 a.2]) (.agg #[.int .i64 b.1, .int .i64 b.2])).run Tryd.prog w = .ok (prEq a b) w := by
  simp [go_sem, prEq]
  by_cases h1 : a.1 = b.1 <;> by_cases h2 : a.2 = b.2 <;> simp [h1, h2]
/-- What comparing two tariffs answers. -/
def tabEq (f g : Nat → Int × Int) : Bool := (List.range 101).all fun i => prEq (f i) (g i)
theorem run_eql_table (w : World) (f g : Nat → Int × Int) : (binOp .eql 85 (.agg (tabV f)) (.agg (tabV g))).run Tryd.prog w = .ok (.bool (tabEq f g)) w := by
  rw [run_eql_struct, run_equalIn_array 9999 85 29 _ _ 101 2 under85 size29 (fun i => prEq (f i) (g i))]
  · rfl
  · intro i hi w
    refine ⟨_, _, part29 _ _ _, part29 _ _ _, ?_⟩
    rw [tab_part f i hi, tab_part g i hi]
    exact eq29 9997 _ _ _
theorem run_index_table (w : World) (f : Nat → Int × Int) (i : Int) (h0 : 0 ≤ i) (h1 : i < 101) : (Instr.index 85 (.agg (tabV f)) (.int .i64 i)).run Tryd.prog w = .ok (.agg #[.int .i64 (f i.toNat).1, .int .i64 (f i.toNat).2]) w := by
  have h2 : 0 ≤ i ∧ i < ((101 : Nat) : Int) := ⟨h0, h1⟩
  simp only [Instr.index, asIntOf, Sem.run_bind, Sem.run_pure, Result.andThen_ok, run_underlying under85]
  rw [if_pos h2]
  simp only [Sem.run_bind, size29, Result.andThen_ok, part29]
  rw [tab_part f i.toNat (by omega)]
section
variable {ops : Array Oper} {rest : List Oper} {o : Oper} {a : Act} {w : World} {Q : Exit → Act → World → Prop} {K : Act → World → Prop}
theorem wp_eql_table (x y : Operand) (t : TypeId) (ho : o.op = .binOp .eql 85 x y t) (f g : Nat → Int × Int)
    (hx : a.eval x = .agg (tabV f)) (hy : a.eval y = .agg (tabV g))
    (h : K (a.put o.dst (.bool (tabEq f g))) w) : o.wp Tryd.prog a w K Q := by
  have hgd : (eqGuard .eql 85 x y (.agg (tabV f)) (.agg (tabV g))).run Tryd.prog w = .ok () w := run_eqGuard_agg w .eql 85 x y _ _ (by kernel_rfl)
  unfold Oper.wp execOp
  simp only [ho, hx, hy, Sem.run_bind, hgd, run_eql_table, Result.andThen_ok, Sem.run_pure]
  exact h
theorem wpList_index_table (hgd : o.guard = none) (x y : Operand) (ho : o.op = .index 85 x y) (f : Nat → Int × Int) (i : Int) (h0 : 0 ≤ i) (h1 : i < 101)
    (hx : a.eval x = .agg (tabV f)) (hy : a.eval y = .int .i64 i)
    (h : wpList Tryd.prog ops Q rest (a.put o.dst (.agg #[.int .i64 (f i.toNat).1, .int .i64 (f i.toNat).2])) w) : wpList Tryd.prog ops Q (o :: rest) a w :=
  wpList_plain hgd fun K hK => by
    unfold Oper.wp execOp
    simp only [ho, hx, hy, Sem.run_bind, run_index_table w f i h0 h1, Result.andThen_ok, Sem.run_pure]
    exact hK _ _ h
end
/-- One price is set. -/
def setF (f : Nat → Int × Int) (k : Nat) (x : Int × Int) : Nat → Int × Int := fun j => if j = k then x else f j
theorem tab_get0 {f : Nat → Int × Int} {i : Nat} (h : i < 202) (h2 : i % 2 = 0) : (tabV f)[i]? = some (.int .i64 (f (i / 2)).1) := by
  simp [tabV, Array.getElem?_ofFn, h, h2]
theorem tab_get1 {f : Nat → Int × Int} {i : Nat} (h : i < 202) (h2 : i % 2 = 1) : (tabV f)[i]? = some (.int .i64 (f (i / 2)).2) := by
  simp [tabV, Array.getElem?_ofFn, h, h2]
theorem tab_set (f : Nat → Int × Int) (k : Nat) (hk : k < 101) (x : Int × Int) : ((tabV f).setIfInBounds (2 * k) (.int .i64 x.1)).setIfInBounds (2 * k + 1) (.int .i64 x.2) = tabV (setF f k x) := by
  apply Array.ext_getElem?
  intro i
  by_cases hi : i < 202
  · by_cases h1 : i = 2 * k + 1
    · subst h1
      rw [Array.getElem?_setIfInBounds_self]
      rw [tab_get1 hi (by omega)]
      have e : (2 * k + 1) / 2 = k := by omega
      simp [tab_size, hi, setF, e]
    · rw [Array.getElem?_setIfInBounds_ne (by omega)]
      by_cases h0 : i = 2 * k
      · subst h0
        rw [Array.getElem?_setIfInBounds_self, tab_get0 hi (by omega)]
        simp [tab_size, hi, setF]
      · rw [Array.getElem?_setIfInBounds_ne (by omega)]
        rcases Nat.mod_two_eq_zero_or_one i with e | e
        · rw [tab_get0 hi e, tab_get0 hi e]
          simp [setF, show ¬ i / 2 = k by omega]
        · rw [tab_get1 hi e, tab_get1 hi e]
          simp [setF, show ¬ i / 2 = k by omega]
  · rw [Array.getElem?_eq_none (by simp [tab_size]; omega), Array.getElem?_eq_none (by simp [tab_size]; omega)]
/-- Block g holds the tariff f. -/
def TabAt (g : Nat) (f : Nat → Int × Int) (w : World) : Prop := Blk g 85 (tabV f) w
theorem TabAt.lt {w : World} {g : Nat} {f : Nat → Int × Int} (h : TabAt g f w) : g < w.heap.size := Blk.lt h
theorem TabAt.to {w w' : World} {g : Nat} {f : Nat → Int × Int} (h : TabAt g f w) (hp : Pure w w') : TabAt g f w' := Blk.to h hp
theorem TabAt.cell {w : World} {g : Nat} {f : Nat → Int × Int} (h : TabAt g f w) {o k : Nat} (hk : k < 101) (ho : o = 2 * k) : w.cell? ⟨g, o, none⟩ = some (.int .i64 (f k).1) := by
  subst ho; rw [Blk.at h]; exact tab_fst hk
theorem TabAt.cell1 {w : World} {g : Nat} {f : Nat → Int × Int} (h : TabAt g f w) {o k : Nat} (hk : k < 101) (ho : o = 2 * k + 1) : w.cell? ⟨g, o, none⟩ = some (.int .i64 (f k).2) := by
  subst ho; rw [Blk.at h]; exact tab_snd hk
theorem TabAt.set {w : World} {g : Nat} {f : Nat → Int × Int} (h : TabAt g f w) {o k : Nat} (hk : k < 101) (ho : o = 2 * k) (x : Int × Int) :
    TabAt g (setF f k x) ((w.setCell ⟨g, o, none⟩ (.int .i64 x.1)).setCell ⟨g, o + 1, none⟩ (.int .i64 x.2)) := by
  subst ho
  have := (Blk.set h (2 * k) (.int .i64 x.1)).set (2 * k + 1) (.int .i64 x.2)
  rw [tab_set f k hk x] at this
  exact this
theorem TabAt.diff {O : Nat → Prop} {w w' : World} {g : Nat} {f : Nat → Int × Int} (h : TabAt g f w) (hd : Diff O w w') (ho : ¬ O g) : TabAt g f w' := Blk.diff h hd ho
end Go.Proofs.YtgpfmnjianflaaaDoor
namespace Go.Proofs.YtgpfmnjianflaaaDoor
open Go.RowKit

theorem none_any (w : World) :
    Calls Tryd.prog 71 #[] w fun e w' => e = .returned (.agg tab0) ∧ Pure w w' := by
  go_enter Tryd.func71, Tryd.ntmps71
  refine wp_seq (wp_region_lit (wpList_alloc_table rfl rfl ?_))
  have hsz : (w.alloc (.cells tab0 85)).heap[w.heap.size]? = some (.cells tab0 85 (0, 0)) := World.alloc_heap_new _ _
  obtain ⟨W, hW⟩ : ∃ W, w.alloc (.cells tab0 85) = W := ⟨_, rfl⟩
  have hP : Pure w W := by rw [← hW]; exact (Diff.refl w).alloc _
  rw [hW] at hsz ⊢
  clear hW
  refine wpList_nil (wp_seq (wp_region_lit (wpList_build_table rfl rfl ?_)))
  refine wpList_store_table rfl (.tmp 0) (.tmp 1) rfl w.heap.size (fun _ => pr0) (fun _ => pr0) rfl rfl hsz ?_
  refine wpList_nil (wp_ret ?_)
  refine bodyPost_ret (v := .agg tab0) (results_cell_row Tryd.results71 _ _ w.heap.size 85 tab0 (0, 0) _ rfl ?_ Tryd.underlying85 rfl ?_) rfl ⟨rfl, hP.setRow (by omega) _⟩
  · exact setRow_heap _ _ _ _ _ _ hsz
  · rw [show tab0.size = 202 from tab_size _]; exact size_table

/-- The first one of the first k that no other one is better than. -/
def bestTo (first : Int × Int) (f : Nat → Int × Int) : Nat → Int × Int
  | 0 => first
  | k + 1 => if chB (f k).1 (f k).2 (bestTo first f k).1 (bestTo first f k).2 = true then f k else bestTo first f k
theorem bestTo_small {first : Int × Int} {f : Nat → Int × Int} {n : Nat} (h0 : (-1000000000 ≤ first.1 ∧ first.1 ≤ 1000000000) ∧ -1000000000 ≤ first.2 ∧ first.2 ≤ 1000000000)
    (hf : ∀ k, k < n → (-1000000000 ≤ (f k).1 ∧ (f k).1 ≤ 1000000000) ∧ -1000000000 ≤ (f k).2 ∧ (f k).2 ≤ 1000000000) : ∀ k, k ≤ n → (-1000000000 ≤ (bestTo first f k).1 ∧ (bestTo first f k).1 ≤ 1000000000) ∧ -1000000000 ≤ (bestTo first f k).2 ∧ (bestTo first f k).2 ≤ 1000000000
  | 0, _ => h0
  | k + 1, hk => by
    unfold bestTo
    split
    · exact hf k (by omega)
    · exact bestTo_small h0 hf k (by omega)
theorem best_any (w : World) (first : Int × Int) (L : LT) (p : Option Addr) (cap : Nat) (h0 : (-1000000000 ≤ first.1 ∧ first.1 ≤ 1000000000) ∧ -1000000000 ≤ first.2 ∧ first.2 ≤ 1000000000)
    (hf : ∀ k, k < L.n → (-1000000000 ≤ L.s k ∧ L.s k ≤ 1000000000) ∧ -1000000000 ≤ L.p k ∧ L.p k ≤ 1000000000) (hn : L.n ≤ 1000) (hl : LotsAt w.heap.size w p L) :
    Calls Tryd.prog 72 #[.func (.func 73) #[] #[], .agg #[.int .i64 first.1, .int .i64 first.2], .slice p L.n cap] w fun e w' =>
      e = .returned (.agg #[.int .i64 (bestTo first (fun k => (L.s k, L.p k)) L.n).1, .int .i64 (bestTo first (fun k => (L.s k, L.p k)) L.n).2]) ∧ Pure w w' := by
  have HS := Lib.hid (bestTo_small (f := fun k => (L.s k, L.p k)) h0 hf)
  obtain ⟨T, hT⟩ : ∃ T, T = bestTo first fun k => (L.s k, L.p k) := ⟨_, rfl⟩
  rw [← hT] at HS ⊢
  have HT0 : Hid (T 0 = first) := by show _ = _; rw [hT]; rfl
  have HT1 : Hid (∀ k, T (k + 1) = if chB (L.s k) (L.p k) (T k).1 (T k).2 = true then (L.s k, L.p k) else T k) := fun k => by rw [hT]; rfl
  have HF := Lib.hid hf
  clear hT h0 hf
  go_enter Tryd.func72, Tryd.ntmps72
  go_wp2
  obtain ⟨X, hX⟩ : ∃ V : World, (((w.alloc (.cells #[.int .i64 first.1, .int .i64 first.2] 29)).alloc (.cells #[.int .i64 0, .int .i64 0] 29)).alloc (.cells #[.int .i64 first.1, .int .i64 first.2] 29)) = V := ⟨_, rfl⟩
  have k1 : Blk (w.heap.size + 1) 29 #[.int .i64 0, .int .i64 0] X := by
    rw [← hX]; have := (Blk.new (w.alloc (.cells #[.int .i64 first.1, .int .i64 first.2] 29)) 29 #[.int .i64 0, .int .i64 0]).alloc (.cells #[.int .i64 first.1, .int .i64 first.2] 29); simpa using this
  have k2 : Blk (w.heap.size + 1 + 1) 29 #[.int .i64 (T 0).1, .int .i64 (T 0).2] X := by
    rw [← hX, HT0.out]; have := Blk.new ((w.alloc (.cells #[.int .i64 first.1, .int .i64 first.2] 29)).alloc (.cells #[.int .i64 0, .int .i64 0] 29)) 29 #[.int .i64 first.1, .int .i64 first.2]; simpa using this
  have hP : Pure w X := by rw [← hX]; exact (((Diff.refl _).alloc _).alloc _).alloc _
  rw [hX]
  clear hX
  obtain ⟨G, hG⟩ : ∃ G, w.heap.size + 1 + 1 = G := ⟨_, rfl⟩
  have HG : Hid (w.heap.size < G ∧ w.heap.size + 1 < G) := ⟨by omega, by omega⟩
  rw [hG] at k2 ⊢
  clear hG
  go_loopw [13] (fun i wr => ∃ k : Nat, k ≤ L.n ∧ i = .int .i64 k ∧ Hid (Blk (w.heap.size + 1) 29 #[.int .i64 0, .int .i64 0] wr) ∧ Hid (Blk G 29 #[.int .i64 (T k).1, .int .i64 (T k).2] wr) ∧ Hid (Pure w wr)) (fun i _ => L.n - (intOf i).toNat)
  case atStart => exact ⟨0, Nat.zero_le _, rfl, k1, k2, hP⟩
  case round =>
    obtain ⟨k, hk, rfl, K1, K2, HP⟩ := hrel
    by_cases hlt : k < L.n
    · obtain ⟨b, o, rfl, hb, hc1, hc2⟩ := hl k hlt
      have d1 := ((pcell HP.out).1 _ _ hb).trans hc1
      have d2 := ((pcell HP.out).1 _ _ hb).trans hc2
      have c1 := K2.out.at 0
      have c2 := K2.out.at 1
      have l2 := K2.out.lt
      have b1 := HS.out k (by omega)
      have b2 := HF.out k hlt
      clear hc1 hc2 k1 k2 hP
      go_wp2_with fail
      obtain ⟨Z, hZ⟩ : ∃ V : World, wr.alloc (.cells #[.int .i64 (L.s k), .int .i64 (L.p k)] 29) = V := ⟨_, rfl⟩
      have q0 : Blk wr.heap.size 29 #[.int .i64 (L.s k), .int .i64 (L.p k)] Z := by rw [← hZ]; exact Blk.new _ _ _
      have hPZ : Pure wr Z := by rw [← hZ]; exact (Diff.refl _).alloc _
      rw [hZ]
      clear hZ
      refine (cheaper_any Z (L.s k) (L.p k) (T k).1 (T k).2 b2.1 b2.2 b1.1 b1.2).mono ?_
      rintro e w1 ⟨rfl, hp1⟩
      have Q1 := Lib.hid (q0.to hp1)
      have K11 := Lib.hid (K1.out.to (hPZ.trans hp1))
      have K21 := Lib.hid (K2.out.to (hPZ.trans hp1))
      have HP1 := Lib.hid (HP.out.trans (hPZ.trans hp1))
      have c3 := Q1.out.at 0
      have c4 := Q1.out.at 1
      have l3 := Q1.out.lt
      have c5 := K21.out.at 0
      have c6 := K21.out.at 1
      have fz := fun o => K21.out.fz o
      have l4 := K21.out.lt
      clear hp1 q0 hPZ c1 c2 l2 d1 d2 b1 b2
      cases hv : chB (L.s k) (L.p k) (T k).1 (T k).2 with
      | false =>
        have HN : Hid (T (k + 1) = T k) := by show _ = _; rw [HT1.out, hv]; rfl
        clear hv
        go_wp2
        go_roundw
        case rel => exact ⟨k + 1, by omega, by go_num, K11.out, by rw [HN.out]; exact K21.out, HP1.out⟩
        case measure => simp [intOf]; omega
      | true =>
        have HN : Hid (T (k + 1) = (L.s k, L.p k)) := by show _ = _; rw [HT1.out, hv]; rfl
        clear hv
        go_wp2
        go_roundw
        case rel =>
          exact ⟨k + 1, by omega, by go_num, K11.out.diff ((Diff.refl (O := fun x => x = G) w1).set2' rfl _ _) (by have := HG.out; show ¬ w.heap.size + 1 = G; omega), by rw [HN.out]; exact K21.out.set2 _ _, HP1.out.set2 (by have := HG.out; omega) _ _⟩
        case measure => simp [intOf]; omega
    · obtain rfl : k = L.n := by omega
      have c1 := K2.out.at 0
      have c2 := K2.out.at 1
      have l2 := K2.out.lt
      have c3 := K1.out.at 0
      have c4 := K1.out.at 1
      have fz := fun o => K1.out.fz o
      clear k1 k2 hP
      go_wp2
      have z := K1.out.set2 (Value.int IntKind.i64 (T L.n).1) (Value.int IntKind.i64 (T L.n).2)
      have HPZ := HP.out.set2 (g := w.heap.size + 1) (by omega) (Value.int IntKind.i64 (T L.n).1) (Value.int IntKind.i64 (T L.n).2)
      obtain ⟨Y, hY⟩ : ∃ Y, (wr.setCell { block := w.heap.size + 1, off := 0 } (Value.int IntKind.i64 (T L.n).1)).setCell { block := w.heap.size + 1, off := 1 } (Value.int IntKind.i64 (T L.n).2) = Y := ⟨_, rfl⟩
      rw [hY] at z HPZ ⊢
      clear hY
      exact bodyPost_ret (v := .agg #[.int .i64 (T L.n).1, .int .i64 (T L.n).2]) (by simp [results, Tryd.results72, go_sem, z.at 0, z.at 1]) rfl ⟨rfl, HPZ⟩
end Go.Proofs.YtgpfmnjianflaaaDoor
namespace Go.Proofs.YtgpfmnjianflaaaDoor
open Go.RowKit

def putAll (c : Array Value) (o : Nat) : List Value → Array Value
  | [] => c
  | v :: vs => putAll (c.setIfInBounds o v) (o + 1) vs
theorem Blk.setCells {g : Nat} {T : TypeId} : ∀ (vs : List Value) {c : Array Value} {W : World} (o : Nat), Blk g T c W → Blk g T (putAll c o vs) (W.setCells g o vs)
  | [], _, _, _, h => h
  | v :: vs, _, _, o, h => Blk.setCells vs (o + 1) (h.set o v)
theorem Diff.setCells {O : Nat → Prop} {w : World} {g : Nat} : ∀ (vs : List Value) {W : World} (o : Nat), Diff O w W → (g < w.heap.size → O g) → Diff O w (W.setCells g o vs)
  | [], _, _, h, _ => h
  | v :: vs, _, o, h, hg => Diff.setCells vs (o + 1) (h.setCell (p := ⟨g, o, none⟩) hg v) hg
theorem putAll_get : ∀ (vs : List Value) (c : Array Value) (o i : Nat), (putAll c o vs)[i]? = if o ≤ i ∧ i < o + vs.length ∧ i < c.size then vs[i - o]? else c[i]?
  | [], c, o, i => by simp [putAll]; omega
  | v :: vs, c, o, i => by
    rw [putAll, putAll_get vs]
    by_cases h : i = o
    · subst h
      rw [if_neg (by omega), Array.getElem?_setIfInBounds_self]
      by_cases h2 : i < c.size
      · rw [if_pos (show i ≤ i ∧ i < i + (v :: vs).length ∧ i < c.size from ⟨Nat.le_refl _, by simp, h2⟩)]; simp [h2]
      · rw [if_neg (by omega)]; simp [h2]
    · rw [Array.getElem?_setIfInBounds_ne (by omega)]
      by_cases h1 : o + 1 ≤ i ∧ i < o + 1 + vs.length ∧ i < c.size
      · rw [if_pos (by simpa using h1), if_pos (by simp only [List.length_cons]; omega)]
        obtain ⟨k, rfl⟩ : ∃ k, i = o + 1 + k := ⟨i - (o + 1), by omega⟩
        have e1 : o + 1 + k - (o + 1) = k := by omega
        have e2 : o + 1 + k - o = k + 1 := by omega
        rw [e1, e2]; rfl
      · rw [if_neg (by simpa using h1), if_neg (by simp only [List.length_cons]; omega)]
/-- A tariff without all that is less sharp. -/
def fromF (f : Nat → Int × Int) (t : Nat) : Nat → Int × Int := fun k => if k < t then pr0 else f k
theorem putAll_tab (f : Nat → Int × Int) (t : Nat) (ht : t ≤ 101) : putAll (tabV f) 0 (List.replicate (t * 2) (.int .i64 0)) = tabV (fromF f t) := by
  apply Array.ext_getElem?
  intro i
  rw [putAll_get, tab_size]
  by_cases hi : i < 202
  · have h0 : fromF f t (i / 2) = if i / 2 < t then pr0 else f (i / 2) := rfl
    by_cases h : i < t * 2
    · rw [if_pos (by simp; omega)]
      rw [if_pos (show i / 2 < t by omega)] at h0
      rcases Nat.mod_two_eq_zero_or_one i with e | e
      · rw [tab_get0 hi e, h0]; simp [h]
      · rw [tab_get1 hi e, h0]; simp [h]
    · rw [if_neg (by simp; omega)]
      rw [if_neg (show ¬ i / 2 < t by omega)] at h0
      rcases Nat.mod_two_eq_zero_or_one i with e | e
      · rw [tab_get0 hi e, tab_get0 hi e, h0]
      · rw [tab_get1 hi e, tab_get1 hi e, h0]
  · rw [if_neg (by omega), Array.getElem?_eq_none (by simp [tab_size]; omega), Array.getElem?_eq_none (by simp [tab_size]; omega)]
theorem zero29 (w : World) : (zeroValue 29).run Tryd.prog w = .ok (.agg #[.int .i64 0, .int .i64 0]) w := by kernel_rfl
theorem fromF_zero (f : Nat → Int × Int) : fromF f 0 = f := by funext k; simp [fromF]
theorem run_clear_table (w : World) (ty : TypeId) (g t : Nat) (f : Nat → Int × Int) (hg : TabAt g f w) (ht : t ≤ 101) :
    ∃ W, (Builtin.clear_ #[96] ty #[.slice (some ⟨g, 0, none⟩) t 101]).run Tryd.prog w = .ok (.tuple #[]) W ∧ TabAt g (fromF f t) W ∧ Diff (fun x => x = g) w W := by
  by_cases h0 : t = 0
  · subst h0
    exact ⟨w, by simp [Builtin.clear_, run_underlying Tryd.underlying96], by rw [fromF_zero]; exact hg, Diff.refl _⟩
  · obtain ⟨m, rfl⟩ : ∃ m, t = m + 1 := ⟨t - 1, by omega⟩
    refine ⟨w.setCells g 0 (List.replicate ((m + 1) * 2) (.int .i64 0)), ?_, ?_, ?_⟩
    · have hzc : (Builtin.zeroCells #[.int .i64 0, .int .i64 0] (m + 1)).toList = List.replicate ((m + 1) * 2) (Value.int .i64 0) := by
        simp only [Builtin.zeroCells]
        apply List.ext_getElem
        · simp
        · intro i h1 h2
          have : i % 2 = 0 ∨ i % 2 = 1 := by omega
          rcases this with e | e <;> simp [e]
      have hst := run_storeCells_cells (P := Tryd.prog) g 0 (List.replicate ((m + 1) * 2) (.int .i64 0)) 0 w
        (fun j hj => by
          have hj' : j < (m + 1) * 2 := by simpa using hj
          have : j < 202 := by omega
          rw [show 0 + 0 + j = j by omega, Blk.at hg]; simp [tab_size, this])
        (fun j hj => Blk.fz hg _)
        (by intro v hv'; rw [List.eq_of_mem_replicate hv']; rfl)
      simp only [Nat.add_zero] at hst
      simp [Builtin.clear_, run_underlying Tryd.underlying96, zero29, Value.cells, hzc, hst]
    · have := Blk.setCells (List.replicate ((m + 1) * 2) (.int .i64 0)) 0 hg
      rw [putAll_tab f (m + 1) ht] at this
      exact this
    · exact Diff.setCells _ 0 (Diff.refl _) (fun _ => rfl)
set_option maxRecDepth 20000 in
theorem from_any (w : World) (f : Nat → Int × Int) (t : Nat) (ht : t ≤ 100) :
    Calls Tryd.prog 70 #[.agg (tabV f), .int .i64 t] w fun e w' => e = .returned (.agg (tabV (fromF f t))) ∧ Pure w w' := by
  go_enter Tryd.func70, Tryd.ntmps70
  refine wp_seq (wp_region_lit (wpList_box_table rfl (.tmp 0) rfl f rfl ?_))
  refine wpList_alloc_table rfl rfl ?_
  have k0 : TabAt w.heap.size f ((w.alloc (.cells (tabV f) 85)).alloc (.cells tab0 85)) := (Blk.new _ _ _).alloc _
  have k1 : TabAt (w.heap.size + 1) (fun _ => pr0) ((w.alloc (.cells (tabV f) 85)).alloc (.cells tab0 85)) := by
    have := Blk.new (w.alloc (.cells (tabV f) 85)) 85 tab0; rwa [World.size_alloc] at this
  have hP : Pure w ((w.alloc (.cells (tabV f) 85)).alloc (.cells tab0 85)) := ((Diff.refl _).alloc _).alloc _
  have hs : (w.alloc (.cells (tabV f) 85)).heap.size = w.heap.size + 1 := by simp
  rw [hs]
  obtain ⟨X, hX⟩ : ∃ X, (w.alloc (.cells (tabV f) 85)).alloc (.cells tab0 85) = X := ⟨_, rfl⟩
  rw [hX] at k0 k1 hP ⊢
  clear hX hs
  refine wpList_nil ?_
  obtain ⟨W, hr, hW, hd⟩ := run_clear_table X 0 w.heap.size t f k0 (by omega)
  have hPW : Pure w W := hP.trans' hd (fun x hx e => by have e' : x = w.heap.size := e; omega)
  have k1W : TabAt (w.heap.size + 1) (fun _ => pr0) W := k1.diff hd (by show ¬ w.heap.size + 1 = w.heap.size; omega)
  have hlen : 0 ≤ (t : Int) ∧ (t : Int) ≤ 101 := by omega
  have HW := Lib.hid hW
  have HPW := Lib.hid hPW
  have HK1 := Lib.hid k1W
  obtain ⟨tv, htv⟩ : ∃ tv, tabV f = tv := ⟨_, rfl⟩
  rw [htv]
  have hl0 := hW.lt
  clear htv hW hPW k1W k0 k1 hP hd
  simp only [Exit.then, Act.put]
  go_wp2_with (first | (refine wpList_load_table rfl (.tmp 2) rfl w.heap.size (fromF f t) rfl HW.out ?_) | (refine wpList_store_table rfl (.tmp 4) (.tmp 7) rfl (w.heap.size + 1) (fromF f t) (fun _ => pr0) rfl rfl HK1.out ?_) | (simp only [hr]))
  refine bodyPost_ret (v := .agg (tabV (fromF f t))) (results_cell_row Tryd.results70 _ _ (w.heap.size + 1) 85 (tabV (fromF f t)) (0, 0) _ rfl ?_ Tryd.underlying85 rfl ?_) rfl ⟨rfl, HPW.out.setRow (fun h => by omega) _⟩
  · exact setRow_heap _ _ _ _ _ _ HK1.out
  · rw [tab_size]; exact size_table
end Go.Proofs.YtgpfmnjianflaaaDoor
