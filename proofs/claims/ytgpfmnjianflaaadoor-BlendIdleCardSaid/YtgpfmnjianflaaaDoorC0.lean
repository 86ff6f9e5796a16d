/- What the rows' laid variables give: the seven ranges of the program stand in their cells. No further condition. -/
import Derived.Test.YtgpfmnjianflaaaDoorRows
import Derived.Test.YtgpfmnjianflaaaDoorM1
import Derived.ProofKit
import Derived.OpenShut
import Derived.LaidMore
import Derived.Lay
import Derived.Stop.Joined
set_option linter.unusedSimpArgs false
set_option linter.unusedVariables false
set_option linter.constructorNameAsVariable false
namespace Go.Proofs.YtgpfmnjianflaaaDoor
open Go.ChangeShapes Go.WideShapes Go.ChangeAt Go.RowKit

theorem own : ownKnob Tryd.prog.godebug = none := by kernel_rfl
theorem two_of {α : Type} {l : List α} (h : l.length = 2) : ∃ x y, l = [x, y] := by
  rcases l with _ | ⟨x, _ | ⟨y, _ | ⟨z, l⟩⟩⟩ <;> simp at h ⊢
/-- A range that is read as lo and hi lies as lo and hi. -/
theorem open_rg {H : Type} {enc : TypeId × Value → H} {W : World} {base : Nat} {spare : Nat → Bool} {held : Bool} {fuel : Nat} {cs : List Value} {lo hi : Int} {p : List MemPlace}
    (h : DataW.trod enc Tryd.prog W base spare held fuel 82 cs = some (.agg [.lit (.int .i64 lo), .lit (.int .i64 hi)], p)) : cs = [.int .i64 lo, .int .i64 hi] := by
  obtain ⟨y0, y1, n, hx, hl, h0, h1⟩ := trod_struct2 Tryd.underlying82 h
  have c2 : Tryd.prog.cellsOf 2 = 1 := by kernel_rfl
  have c82 : Tryd.prog.cellsOf 82 = 2 := by kernel_rfl
  rw [c82] at hl
  obtain ⟨x, y, rfl⟩ := two_of hl
  simp only [c2] at h0 h1
  obtain ⟨a, e1, e2, _⟩ := DataW.trod_int Tryd.underlying2 h0
  obtain ⟨b, e3, e4, _⟩ := DataW.trod_int Tryd.underlying2 h1
  subst e2 e4
  simp at hx e1 e3
  obtain ⟨⟨rfl, rfl⟩, -⟩ := hx
  rw [e1, e3]
def laidL : List (String × DataW Unit) := [("senvy/blend.counts", Rows.laid_senvy_blend_counts), ("senvy/blend.sharps", Rows.laid_senvy_blend_sharps), ("senvy/blend.prices", Rows.laid_senvy_blend_prices), ("senvy/blend.shares", Rows.laid_senvy_blend_shares), ("senvy/blend.losses", Rows.laid_senvy_blend_losses), ("senvy/blend.dens", Rows.laid_senvy_blend_dens), ("senvy/blend.terms", Rows.laid_senvy_blend_terms)]
theorem cell_heap {w : World} {b o : Nat} {v : Value} (h : w.cell? ⟨b, o, none⟩ = some v) : b < w.heap.size := by
  by_cases hb : b < w.heap.size
  · exact hb
  · have : w.heap[b]? = none := Array.getElem?_eq_none (by omega)
    simp [World.cell?, this] at h
theorem gl_of {W : World} (h : laidMetH Tryd.prog laidL W) : Gl W := by
  rw [MakeChecks.laidMetH_plain _ _ _ (by kernel_rfl)] at h
  obtain ⟨ps, ⟨g0, t0, cs0, f0, p0, q0, hg0, ht0, hv0, hd0, ⟨g1, t1, cs1, f1, p1, q1, hg1, ht1, hv1, hd1, ⟨g2, t2, cs2, f2, p2, q2, hg2, ht2, hv2, hd2, ⟨g3, t3, cs3, f3, p3, q3, hg3, ht3, hv3, hd3, ⟨g4, t4, cs4, f4, p4, q4, hg4, ht4, hv4, hd4, ⟨g5, t5, cs5, f5, p5, q5, hg5, ht5, hv5, hd5, ⟨g6, t6, cs6, f6, p6, q6, hg6, ht6, hv6, hd6, _⟩, _⟩, _⟩, _⟩, _⟩, _⟩, _⟩, _, _⟩ := h
  obtain rfl := Option.some.inj ((show Tryd.prog.globalNamed "senvy/blend.counts" = some 1 by kernel_rfl).symm.trans hg0)
  obtain rfl := Option.some.inj ((show Tryd.prog.globalNamed "senvy/blend.sharps" = some 4 by kernel_rfl).symm.trans hg1)
  obtain rfl := Option.some.inj ((show Tryd.prog.globalNamed "senvy/blend.prices" = some 5 by kernel_rfl).symm.trans hg2)
  obtain rfl := Option.some.inj ((show Tryd.prog.globalNamed "senvy/blend.shares" = some 0 by kernel_rfl).symm.trans hg3)
  obtain rfl := Option.some.inj ((show Tryd.prog.globalNamed "senvy/blend.losses" = some 3 by kernel_rfl).symm.trans hg4)
  obtain rfl := Option.some.inj ((show Tryd.prog.globalNamed "senvy/blend.dens" = some 6 by kernel_rfl).symm.trans hg5)
  obtain rfl := Option.some.inj ((show Tryd.prog.globalNamed "senvy/blend.terms" = some 2 by kernel_rfl).symm.trans hg6)
  obtain rfl := Option.some.inj ((show (Tryd.prog.globals[1]?).map (·.type) = some 82 by kernel_rfl).symm.trans ht0)
  obtain rfl := Option.some.inj ((show (Tryd.prog.globals[4]?).map (·.type) = some 82 by kernel_rfl).symm.trans ht1)
  obtain rfl := Option.some.inj ((show (Tryd.prog.globals[5]?).map (·.type) = some 82 by kernel_rfl).symm.trans ht2)
  obtain rfl := Option.some.inj ((show (Tryd.prog.globals[0]?).map (·.type) = some 82 by kernel_rfl).symm.trans ht3)
  obtain rfl := Option.some.inj ((show (Tryd.prog.globals[3]?).map (·.type) = some 82 by kernel_rfl).symm.trans ht4)
  obtain rfl := Option.some.inj ((show (Tryd.prog.globals[6]?).map (·.type) = some 82 by kernel_rfl).symm.trans ht5)
  obtain rfl := Option.some.inj ((show (Tryd.prog.globals[2]?).map (·.type) = some 82 by kernel_rfl).symm.trans ht6)
  have e0 := open_rg hd0
  have e1 := open_rg hd1
  have e2 := open_rg hd2
  have e3 := open_rg hd3
  have e4 := open_rg hd4
  have e5 := open_rg hd5
  have e6 := open_rg hd6
  have k0 := World.var?_cell hg0 hv0
  have k1 := World.var?_cell hg1 hv1
  have k2 := World.var?_cell hg2 hv2
  have k3 := World.var?_cell hg3 hv3
  have k4 := World.var?_cell hg4 hv4
  have k5 := World.var?_cell hg5 hv5
  have k6 := World.var?_cell hg6 hv6
  obtain ⟨l0⟩ := cs0
  obtain ⟨l1⟩ := cs1
  obtain ⟨l2⟩ := cs2
  obtain ⟨l3⟩ := cs3
  obtain ⟨l4⟩ := cs4
  obtain ⟨l5⟩ := cs5
  obtain ⟨l6⟩ := cs6
  subst e0 e1 e2 e3 e4 e5 e6
  have hs : 6 < W.heap.size := cell_heap (o := 0) (k5 0)
  exact ⟨k3 0, k3 1, k0 0, k0 1, k6 0, k6 1, k4 0, k4 1, k1 0, k1 1, k2 0, k2 1, k5 0, k5 1, hs⟩
theorem laid_met (os : Os) (args : Array Value) : laidMetH Tryd.prog laidL ((World.laidAll Tryd.prog os laidL).forCall (fun _ _ => 0) ⟨#[], args, []⟩).memory := by
  rw [MakeChecks.laidMetH_plain _ _ _ (by kernel_rfl)]
  exact laidMet_laidAll args (by kernel_rfl) (by kernel_rfl)
end Go.Proofs.YtgpfmnjianflaaaDoor
