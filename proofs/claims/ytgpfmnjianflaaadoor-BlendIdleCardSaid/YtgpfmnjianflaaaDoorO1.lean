/- Arguments of the rows: what is read as lots, or as a list of numbers, lies so in memory; and it reads the same where nothing that lay has turned. No condition. -/
import Derived.Test.YtgpfmnjianflaaaDoorC0
import Derived.Test.YtgpfmnjianflaaaDoorM8
import Derived.WideKeyArgs
set_option linter.unusedSimpArgs false
set_option linter.unusedVariables false
set_option linter.constructorNameAsVariable false
namespace Go.Proofs.YtgpfmnjianflaaaDoor
open Go.ChangeShapes Go.WideShapes Go.ChangeAt Go.RowKit

variable {H : Type} {enc : TypeId × Value → H} {W : World} {spare : Nat → Bool} {held : Bool}

theorem cells_at {base : Nat} {a : Addr} {n : Nat} {cs : List Value} (h : W.cells? base a n = some cs) (hn : 0 < n) :
    ∃ b o, a = ⟨b, o, none⟩ ∧ b < W.heap.size ∧ cs.length = n ∧ ∀ i, i < n → W.cell? ⟨b, o + i, none⟩ = cs[i]? := by
  obtain ⟨_, hlen, hcell⟩ := World.cells?_some h
  have hb := World.cells?_block h hn
  obtain ⟨b, off, spot⟩ := a
  have g0 := hcell 0 hn
  obtain ⟨c0, hc0⟩ : ∃ c0, cs[0]? = some c0 := by
    cases cs with
    | nil => simp at hlen; omega
    | cons c _ => exact ⟨c, rfl⟩
  rw [hc0] at g0
  have hspot : spot = none := by simpa [Addr.add] using World.cell?_spot g0
  subst hspot
  exact ⟨b, off, rfl, hb, hlen, fun i hi => by have h := hcell i hi; rwa [add_plain] at h⟩

theorem slice_at {base n len c : Nat} {e : TypeId} {a : Addr} {elems : List (DataW H × List MemPlace)} (hc : Tryd.prog.cellsOf e = c) (h0 : 0 < c) (hl : elems.length = len)
    (hel : ∀ i, i < len → (W.cells? base (a.add (i * Tryd.prog.cellsOf e)) (Tryd.prog.cellsOf e)).bind (DataW.trod enc Tryd.prog W base spare held n e) = elems[i]?) (hlen : 0 < len) :
    ∃ b o, a = ⟨b, o, none⟩ ∧ b < W.heap.size ∧ ∀ i, i < len → ∃ cs y, DataW.trod enc Tryd.prog W base spare held n e cs = some y ∧ cs.length = c ∧ ∀ j, j < c → W.cell? ⟨b, o + i * c + j, none⟩ = cs[j]? := by
  rw [hc] at hel
  have each : ∀ i, i < len → ∃ cs y, W.cells? base (a.add (i * c)) c = some cs ∧ DataW.trod enc Tryd.prog W base spare held n e cs = some y := fun i hi => by
    have h := hel i hi
    rw [List.getElem?_eq_getElem (by omega)] at h
    obtain ⟨cs, h1, h2⟩ := Option.bind_eq_some_iff.1 h
    exact ⟨cs, _, h1, h2⟩
  obtain ⟨cs0, y0, h1, _⟩ := each 0 hlen
  rw [Nat.zero_mul] at h1
  have ha0 : a.add 0 = a := by simp [Addr.add]
  rw [ha0] at h1
  obtain ⟨b, o, rfl, hb, _, _⟩ := cells_at h1 h0
  refine ⟨b, o, rfl, hb, fun i hi => ?_⟩
  obtain ⟨cs, y, h2, h3⟩ := each i hi
  rw [add_plain] at h2
  obtain ⟨b', o', he, _, hlc, hcell⟩ := cells_at h2 h0
  cases he
  exact ⟨cs, y, h3, hlc, hcell⟩

theorem c71 : Tryd.prog.cellsOf 71 = 2 := by kernel_rfl
theorem c45 : Tryd.prog.cellsOf 45 = 3 := by kernel_rfl
theorem c2 : Tryd.prog.cellsOf 2 = 1 := by kernel_rfl
theorem c58e : ∃ e, Tryd.prog.underlying 58 = some (.slice e) ∧ Tryd.prog.cellsOf e = 1 := ⟨_, Tryd.underlying58, by kernel_rfl⟩
theorem three_of {α : Type} {l : List α} (h : l.length = 3) : ∃ x y z, l = [x, y, z] := by
  rcases l with _ | ⟨x, _ | ⟨y, _ | ⟨z, _ | ⟨u, l⟩⟩⟩⟩ <;> simp at h ⊢
/-- A lot is two numbers. -/
theorem open_lot {fuel : Nat} {cs : List Value} {x : DataW H × List MemPlace} (h : DataW.trod enc Tryd.prog W 0 spare held fuel 71 cs = some x) : ∃ s p : Int, cs = [.int .i64 s, .int .i64 p] := by
  obtain ⟨y0, y1, n, hx, hl, h0, h1⟩ := trod_struct2 Tryd.underlying71 h
  rw [c71] at hl
  obtain ⟨x, y, rfl⟩ := two_of hl
  simp only [c2] at h0 h1
  obtain ⟨a, e1, _, _⟩ := DataW.trod_int Tryd.underlying2 h0
  obtain ⟨b, e3, _, _⟩ := DataW.trod_int Tryd.underlying2 h1
  simp at e1 e3
  exact ⟨a, b, by rw [e1, e3]⟩
set_option maxRecDepth 20000 in
/-- A slice of lots lies as LotsAt says. -/
theorem open_lots {r : Reach} {b0 : Nat} {v : Value} {d : DataW H} {ps : List MemPlace} (hval : Value.okWide Tryd.prog W r b0 22 v) (hd : DataW.Trod enc Tryd.prog W 0 spare held 22 v d ps) :
    ∃ L p cap, v = .slice p L.n cap ∧ LotsAt W.heap.size W p L := by
  obtain ⟨q, n, c, rfl⟩ := okWide_slice Tryd.underlying22 hval
  obtain ⟨fuel, hf⟩ := hd
  rcases DataW.trod_slice Tryd.underlying22 hf with ⟨e0, _⟩ | ⟨a, len, cap, elems, rest, m, rfl, e0, _, _, _, _, hlen, hel, _, _⟩
  · simp [Value.cells] at e0
    obtain ⟨rfl, rfl, rfl⟩ := e0
    exact ⟨⟨0, fun _ => 0, fun _ => 0⟩, none, 0, rfl, fun j hj => by simp only at hj; omega⟩
  · simp [Value.cells] at e0
    obtain ⟨rfl, rfl, rfl⟩ := e0
    by_cases h0 : 0 < n
    · obtain ⟨b, o, rfl, hb, hall⟩ := slice_at c71 (by omega) hlen hel h0
      have hex : ∀ i, ∃ t : Int × Int, i < n → W.cell? ⟨b, o + i * 2, none⟩ = some (.int .i64 t.1) ∧ W.cell? ⟨b, o + i * 2 + 1, none⟩ = some (.int .i64 t.2) := fun i => by
        by_cases hi : i < n
        · obtain ⟨cs, y, h1, _, h3⟩ := hall i hi
          obtain ⟨s, p, rfl⟩ := open_lot h1
          exact ⟨(s, p), fun _ => ⟨h3 0 (by omega), h3 1 (by omega)⟩⟩
        · exact ⟨(0, 0), fun h => absurd h hi⟩
      obtain ⟨t, ht⟩ := Classical.axiomOfChoice hex
      exact ⟨⟨n, fun i => (t i).1, fun i => (t i).2⟩, some ⟨b, o, none⟩, c, rfl, fun j hj => ⟨b, o, rfl, hb, ht j hj⟩⟩
    · exact ⟨⟨n, fun _ => 0, fun _ => 0⟩, some a, c, rfl, fun j hj => by simp only at hj; omega⟩
set_option maxRecDepth 20000 in
/-- A lot as an argument. -/
theorem open_lot_arg {r : Reach} {b0 : Nat} {v : Value} {d : DataW H} {ps : List MemPlace} (hval : Value.okWide Tryd.prog W r b0 71 v) (hd : DataW.Trod enc Tryd.prog W 0 spare held 71 v d ps) : ∃ s p : Int, v = .agg #[.int .i64 s, .int .i64 p] := by
  obtain ⟨cs, rfl, _⟩ := okWide_struct Tryd.underlying71 hval
  obtain ⟨fuel, hf⟩ := hd
  obtain ⟨l⟩ := cs
  obtain ⟨s, p, e⟩ := open_lot hf
  have hc : (Value.agg ⟨l⟩).cells.toList = l := by simp [Value.cells]
  rw [hc] at e
  subst e
  exact ⟨s, p, rfl⟩
set_option maxRecDepth 20000 in
/-- A line as an argument. -/
theorem open_line_arg {r : Reach} {b0 : Nat} {v : Value} {d : DataW H} {ps : List MemPlace} (hval : Value.okWide Tryd.prog W r b0 45 v) (hd : DataW.Trod enc Tryd.prog W 0 spare held 45 v d ps) : ∃ x y z : Int, v = .agg #[.int .i64 x, .int .i64 y, .int .i64 z] ∧ (Lit.int .i64 x).wf = true ∧ (Lit.int .i64 y).wf = true ∧ (Lit.int .i64 z).wf = true := by
  obtain ⟨cs, rfl, _⟩ := okWide_struct Tryd.underlying45 hval
  obtain ⟨fuel, hf⟩ := hd
  obtain ⟨xs, n, _, _, hl, _, hfs⟩ := DataW.trod_struct Tryd.underlying45 hf
  obtain ⟨l⟩ := cs
  have hc : (Value.agg ⟨l⟩).cells.toList = l := by simp [Value.cells]
  rw [hc] at hl hfs
  rw [c45] at hl
  obtain ⟨x, y, z, rfl⟩ := three_of hl
  have f0 : DataW.trod enc Tryd.prog W 0 spare held n 2 ((([x, y, z] : List Value).drop 0).take (Tryd.prog.cellsOf 2)) = xs[0]? := hfs 0 _ rfl
  have f1 : DataW.trod enc Tryd.prog W 0 spare held n 2 ((([x, y, z] : List Value).drop 1).take (Tryd.prog.cellsOf 2)) = xs[1]? := hfs 1 _ rfl
  have f2 : DataW.trod enc Tryd.prog W 0 spare held n 2 ((([x, y, z] : List Value).drop 2).take (Tryd.prog.cellsOf 2)) = xs[2]? := hfs 2 _ rfl
  have hx3 : xs.length = 3 := by assumption
  rw [c2] at f0 f1 f2
  rw [List.getElem?_eq_getElem (by omega)] at f0 f1 f2
  obtain ⟨a, e0, _, w0⟩ := DataW.trod_int Tryd.underlying2 f0
  obtain ⟨b, e1, _, w1⟩ := DataW.trod_int Tryd.underlying2 f1
  obtain ⟨c, e2, _, w2⟩ := DataW.trod_int Tryd.underlying2 f2
  simp at e0 e1 e2
  subst e0 e1 e2
  exact ⟨a, b, c, rfl, w0, w1, w2⟩
set_option maxRecDepth 20000 in
/-- A list of numbers of one cell each. -/
theorem open_nums {r : Reach} {b0 : Nat} {s e : TypeId} {k : IntKind} (hs : Tryd.prog.underlying s = some (.slice e)) (he : Tryd.prog.underlying e = some (.int k)) (hc : Tryd.prog.cellsOf e = 1) {v : Value} {d : DataW H} {ps : List MemPlace} (hval : Value.okWide Tryd.prog W r b0 s v)
    (hd : DataW.Trod enc Tryd.prog W 0 spare held s v d ps) : ∃ q n c, ∃ f : Nat → Int, v = .slice q n c ∧ Row W.heap.size W q n (fun i => .int k (f i)) ∧ ∀ i, i < n → (Lit.int k (f i)).wf = true := by
  obtain ⟨q, n, c, rfl⟩ := okWide_slice hs hval
  obtain ⟨fuel, hf⟩ := hd
  rcases DataW.trod_slice hs hf with ⟨e0, _⟩ | ⟨a, len, cap, elems, rest, m, rfl, e0, _, _, _, _, hlen, hel, _, _⟩
  · simp [Value.cells] at e0
    obtain ⟨rfl, rfl, rfl⟩ := e0
    exact ⟨none, 0, 0, fun _ => 0, rfl, fun j hj => by omega, fun j hj => by omega⟩
  · simp [Value.cells] at e0
    obtain ⟨rfl, rfl, rfl⟩ := e0
    by_cases h0 : 0 < n
    · obtain ⟨b, o, rfl, hb, hall⟩ := slice_at hc (by omega) hlen hel h0
      have hex : ∀ i, ∃ x : Int, i < n → W.cell? ⟨b, o + i, none⟩ = some (.int k x) ∧ (Lit.int k x).wf = true := fun i => by
        by_cases hi : i < n
        · obtain ⟨cs, y, h1, _, h3⟩ := hall i hi
          obtain ⟨x, rfl, _, hw⟩ := DataW.trod_int he h1
          exact ⟨x, fun _ => ⟨by have := h3 0 (by omega); rwa [Nat.mul_one] at this, hw⟩⟩
        · exact ⟨0, fun h => absurd h hi⟩
      obtain ⟨f, hf⟩ := Classical.axiomOfChoice hex
      exact ⟨_, n, c, f, rfl, fun i hi => ⟨b, o, rfl, hb, (hf i hi).1⟩, fun i hi => (hf i hi).2⟩
    · exact ⟨some a, n, c, fun _ => 0, rfl, fun j hj => by omega, fun j hj => by omega⟩

theorem laidOut' : laidOutB Tryd.prog = true := by kernel_rfl
/-- The arguments read as they did. -/
theorem args_stay {W' : World} (hp : Pure W W') : ∀ {ts : List TypeId} {vs : List Value} {ds : List (DataW H)} {ps : List MemPlace}, (∀ t ∈ ts, Tryd.prog.readableRec t = true ∧ t < Tryd.prog.types.size) → (∀ p ∈ ps, p.block < W.heap.size) →
    DataW.TrodAll enc Tryd.prog W 0 (fun _ => true) true ts vs ds ps → DataW.TrodAll enc Tryd.prog W' 0 (fun b => decide (b < W.heap.size)) true ts vs ds ps
  | [], vs, ds, ps, _, _, h => by
    obtain ⟨rfl, rfl, rfl⟩ := trodAll_nil h
    exact trodAll_mk0
  | t :: ts, vs, ds, ps, ht, hb, h => by
    obtain ⟨v, vs1, d, ds1, a, c, rfl, rfl, rfl, h1, h2⟩ := trodAll_cons h
    have hlt : ∀ p ∈ a, p.block < W.heap.size := fun p h => hb p (List.mem_append.2 (.inl h))
    refine ⟨a, c, ?_, args_stay hp (fun t h => ht t (by simp [h])) (fun p h => hb p (List.mem_append.2 (.inr h))) h2, rfl⟩
    exact WideElems.Trod_stays laidOut' (ht t (by simp)).1 (ht t (by simp)).2 h1 (fun p h => (hp.pure_below (Nat.le_refl _)).same (hlt p h)) (fun p h => by simpa using hlt p h)
end Go.Proofs.YtgpfmnjianflaaaDoor
