/- Maps whose keys and whose elements are structs of two numbers: how they read. No condition. Walk of useful: the lots that are not idle, in a map. Walk of Idle of package blend. -/
import Derived.Maps.RangeWalk
import Derived.DeepKeys4
import Derived.MapViews
import Derived.Test.YtgpfmnjianflaaaDoorM3
import Derived.Lib.AppendZeros
set_option linter.unusedSimpArgs false
set_option linter.unusedVariables false
set_option linter.constructorNameAsVariable false
namespace Go.Proofs.YtgpfmnjianflaaaDoor
open Go Go.Maps

/-- A struct of two numbers. -/
structure TwoT (P : Program) (k : TypeId) : Prop where
  hu : ∃ f0 f1 : Field, P.underlying k = some (.struct #[f0, f1]) ∧ f0.offset = 0 ∧ f1.offset = 1 ∧ P.underlying f0.type = some (.int .i64) ∧ P.underlying f1.type = some (.int .i64) ∧ P.cellsOf f0.type = 1 ∧ P.cellsOf f1.type = 1 ∧ (f0.name != "_") = true ∧ (f1.name != "_") = true
  cells : P.cellsOf k = 2
  key : P.keyType k = true
  size : ∃ m, P.types.size = m + 2
/-- Two numbers as a value, and as a key. -/
def two (a b : Int) : Value := .agg #[.int .i64 a, .int .i64 b]
def kl (a b : Int) : Lit := .string (keyBytes [.int .i64 a, .int .i64 b])
def W64 (a : Int) : Prop := (Lit.int .i64 a).wf = true
theorem key_two {P : Program} {k : TypeId} (T : TwoT P k) {a b : Int} (wa : W64 a) (wb : W64 b) : keyOf P k (two a b) = some (kl a b) := by
  obtain ⟨f0, f1, hu, o0, o1, u0, u1, c0, c1, n0, n1⟩ := T.hu
  obtain ⟨m, hm⟩ := T.size
  unfold keyOf
  simp only [hu]
  rw [if_pos (by simp [T.key, two, Value.formed, hu, T.cells]), hm]
  unfold Program.keyLits
  simp only [hu, Value.cells, two]
  rw [if_pos (by rw [T.cells]; simp [n0, n1]), List.mapM_cons, List.mapM_cons, List.mapM_nil]
  unfold W64 at wa wb
  simp [o0, o1, c0, c1, Program.keyLits, u0, u1, wa, wb, kl]
theorem lits_one {P : Program} {t : TypeId} (hu : P.underlying t = some (.int .i64)) {d : Nat} {cs : List Value} {ls : List Lit} (h : P.keyLits d t cs = some ls) : ∃ a, cs = [.int .i64 a] ∧ W64 a ∧ ls = [.int .i64 a] := by
  cases d with
  | zero => simp [Program.keyLits] at h
  | succ d =>
    unfold Program.keyLits at h
    rw [hu] at h
    split at h
    case h_2 q q' n e1 =>
      cases e1
      split at h
      · rename_i hc
        cases h
        obtain ⟨rfl, hw⟩ := hc
        exact ⟨_, rfl, hw, rfl⟩
      · cases h
    all_goals simp_all
theorem key_two_inv {P : Program} {k : TypeId} (T : TwoT P k) {v : Value} {l : Lit} (h : keyOf P k v = some l) : ∃ a b, v = two a b ∧ W64 a ∧ W64 b ∧ l = kl a b := by
  obtain ⟨f0, f1, hu, o0, o1, u0, u1, c0, c1, n0, n1⟩ := T.hu
  unfold keyOf at h
  simp only [hu] at h
  split at h
  · rename_i hc
    simp only [Bool.and_eq_true] at hc
    have hf := hc.2
    cases v with
    | agg cs =>
      simp only [Value.formed, hu, T.cells, beq_iff_eq] at hf
      obtain ⟨cl⟩ := cs
      match cl, hf with
      | [x, y], _ =>
        obtain ⟨m, hm⟩ := T.size
        rw [hm] at h
        unfold Program.keyLits at h
        simp only [hu, Value.cells] at h
        rw [if_pos (by rw [T.cells]; simp [n0, n1]), List.mapM_cons, List.mapM_cons, List.mapM_nil] at h
        simp only [o0, o1, c0, c1, List.drop_zero, List.drop_succ_cons, List.take_succ_cons, List.take_zero] at h
        cases h0 : P.keyLits (m + 2) f0.type [x] with
        | none => simp [h0] at h
        | some ls0 =>
          cases h1 : P.keyLits (m + 2) f1.type [y] with
          | none => simp [h0, h1] at h
          | some ls1 =>
            obtain ⟨a, ea, wa, rfl⟩ := lits_one u0 h0
            obtain ⟨b, eb, wb, rfl⟩ := lits_one u1 h1
            cases ea
            cases eb
            simp [h0, h1] at h
            exact ⟨a, b, rfl, wa, wb, h.symm⟩
    | _ => simp [Value.formed, hu] at hf
  · cases h
theorem kl_inj {P : Program} {k : TypeId} (T : TwoT P k) (K : Keyed P k) {a b c d : Int} (wa : W64 a) (wb : W64 b) (wc : W64 c) (wd : W64 d) (h : kl a b = kl c d) : a = c ∧ b = d := by
  have := K.inj (key_two T wa wb) (by rw [h]; exact key_two T wc wd)
  simpa [two] using this
/-- How an element that is a struct of two numbers reads. -/
def twoR : Value → Option (DataW Unit × List MemPlace)
  | .agg cs => match cs.toList with
    | [.int .i64 a, .int .i64 b] => some (.agg [.lit (.int .i64 a), .lit (.int .i64 b)], [])
    | _ => none
  | _ => none
def dd (a b : Int) : DataW Unit := .agg [.lit (.int .i64 a), .lit (.int .i64 b)]
theorem twoR_mk (a b : Int) : twoR (two a b) = some (dd a b, []) := rfl
theorem dd_inj {a b c d : Int} (h : dd a b = dd c d) : a = c ∧ b = d := by
  simp only [dd] at h
  injection h with h
  injection h with h1 h2
  injection h2 with h2 _
  injection h1 with h1
  injection h2 with h2
  injection h1 with _ h1
  injection h2 with _ h2
  exact ⟨h1, h2⟩
theorem twoR_inv {v : Value} {y : DataW Unit × List MemPlace} (h : twoR v = some y) : ∃ a b, v = two a b ∧ y = (dd a b, []) := by
  cases v with
  | agg cs =>
    obtain ⟨cl⟩ := cs
    match cl, h with
    | [.int .i64 a, .int .i64 b], h => cases h; exact ⟨a, b, rfl, rfl⟩
  | _ => simp [twoR] at h
/-- A map reads as: the keys of S, each with what V says. -/
structure MD (D : DataW Unit) (S : Int → Int → Prop) (V : Int → Int → DataW Unit) : Prop where
  has : ∀ l, Maps.has D l = true ↔ ∃ a b, S a b ∧ l = kl a b
  at_ : ∀ a b, S a b → ∀ z, D.atKey (kl a b) z = V a b
  wf : ∀ a b, S a b → W64 a ∧ W64 b
theorem MD.none (V : Int → Int → DataW Unit) : MD (.map []) (fun _ _ => False) V := ⟨fun l => by simp [Maps.has], fun _ _ h => h.elim, fun _ _ h => h.elim⟩
theorem MD.congr {D : DataW Unit} {S S' : Int → Int → Prop} {V : Int → Int → DataW Unit} (h : MD D S V) (e : ∀ a b, S a b ↔ S' a b) : MD D S' V := by
  have : S = S' := by funext a b; exact propext (e a b)
  rw [← this]; exact h
theorem MD.put {P : Program} {k : TypeId} (T : TwoT P k) (K : Keyed P k) {D : DataW Unit} {S : Int → Int → Prop} {V : Int → Int → DataW Unit} (h : MD D S V) (hD : IsMap D) {a b : Int} (wa : W64 a) (wb : W64 b) : MD (D.put (kl a b) (V a b)) (fun x y => S x y ∨ (x = a ∧ y = b)) V := by
  have hk : WideAt.IsKeyLit (kl a b) := K.key (key_two T wa wb)
  refine ⟨fun l => ?_, fun x y hs z => ?_, fun x y hs => ?_⟩
  · by_cases hl : l = kl a b
    · subst hl
      rw [has_put_same hD hk]
      exact ⟨fun _ => ⟨a, b, .inr ⟨rfl, rfl⟩, rfl⟩, fun _ => rfl⟩
    · rw [has_put_other hl, h.has]
      constructor
      · rintro ⟨x, y, hs, e⟩
        exact ⟨x, y, .inl hs, e⟩
      · rintro ⟨x, y, hs | ⟨rfl, rfl⟩, e⟩
        · exact ⟨x, y, hs, e⟩
        · exact absurd e hl
  · by_cases hl : kl x y = kl a b
    · have hw : W64 x ∧ W64 y := by
        rcases hs with hs | ⟨rfl, rfl⟩
        · exact h.wf _ _ hs
        · exact ⟨wa, wb⟩
      obtain ⟨rfl, rfl⟩ := kl_inj T K hw.1 hw.2 wa wb hl
      rw [atKey_put_same hD hk]
    · rw [atKey_put_other hl]
      rcases hs with hs | ⟨rfl, rfl⟩
      · exact h.at_ _ _ hs z
      · exact absurd rfl hl
  · rcases hs with hs | ⟨rfl, rfl⟩
    · exact h.wf _ _ hs
    · exact ⟨wa, wb⟩
theorem MD.del {P : Program} {k : TypeId} (T : TwoT P k) (K : Keyed P k) {D : DataW Unit} {S : Int → Int → Prop} {V : Int → Int → DataW Unit} (h : MD D S V) {a b : Int} (wa : W64 a) (wb : W64 b) : MD (D.del (kl a b)) (fun x y => S x y ∧ ¬ (x = a ∧ y = b)) V := by
  refine ⟨fun l => ?_, fun x y hs z => ?_, fun x y hs => h.wf _ _ hs.1⟩
  · by_cases hl : l = kl a b
    · subst hl
      rw [has_del_same]
      constructor
      · intro h; cases h
      · rintro ⟨x, y, ⟨hs, hn⟩, e⟩
        have hw := h.wf _ _ hs
        obtain ⟨rfl, rfl⟩ := kl_inj T K wa wb hw.1 hw.2 e
        exact absurd ⟨rfl, rfl⟩ hn
    · rw [has_del_other hl, h.has]
      constructor
      · rintro ⟨x, y, hs, e⟩
        exact ⟨x, y, ⟨hs, fun ⟨e1, e2⟩ => hl (by rw [e, e1, e2])⟩, e⟩
      · rintro ⟨x, y, hs, e⟩
        exact ⟨x, y, hs.1, e⟩
  · rw [atKey_del_other (fun e => ?_)]
    · exact h.at_ _ _ hs.1 z
    · have hw := h.wf _ _ hs.1
      obtain ⟨rfl, rfl⟩ := kl_inj T K hw.1 hw.2 wa wb e
      exact hs.2 ⟨rfl, rfl⟩

section
variable {P : Program} (w : World) {ops : Array Oper} {rest : List Oper} {o : Oper} {a : Act} {Q : Exit → Act → World → Prop}
/-- The step of a range over such a map. -/
theorem wpList_next_two (hg : o.guard = none) (it : Operand) (hop : o.op = Op.next it false) (k : TypeId) (T : TwoT P k) (K : Keyed P k)
    (b r n : Nat) (D : DataW Unit) (left : Lit → Bool) (cnt : Nat) (hit : a.eval it = .pointer (some ⟨r, 0, none⟩)) (h : w.ranges P k twoR b r n D left cnt)
    (hDone : cnt = 0 → (∀ l, left l = false) → wpList P ops Q rest (a.put o.dst (.tuple #[.bool false])) w)
    (hMore : ∀ (x y c d : Int) (w' : World) (cnt' : Nat), W64 x → W64 y → left (kl x y) = true → (∀ zd, D.atKey (kl x y) zd = dd c d) → w'.ranges P k twoR b r n D (fun z => left z && !z.sameKey (kl x y)) cnt' → cnt' < cnt →
      w.grownBy w' (some r) → w'.heap.size = w.heap.size → (Instr.entry (.pointer (some ⟨r, 0, none⟩))).run P w' = .ok (.tuple #[.agg #[.int .i64 x, .int .i64 y], .agg #[.int .i64 c, .int .i64 d]]) w' → wpList P ops Q rest (a.put o.dst (.tuple #[.bool true, .agg #[.int .i64 x, .int .i64 y], .agg #[.int .i64 c, .int .i64 d]])) w') :
    wpList P ops Q (o :: rest) a w :=
  wpList_next_ranges w hg it hop k K twoR (fun p : Int × Int => two p.1 p.2) (fun p : Int × Int => two p.1 p.2) (fun key l hkey => by obtain ⟨a, b, rfl, _⟩ := key_two_inv T hkey; exact ⟨(a, b), rfl⟩) (fun v y hv => by obtain ⟨a, b, rfl, _⟩ := twoR_inv hv; exact ⟨(a, b), rfl⟩)
    b r n D left cnt hit h hDone (fun x c l y w' cnt' hkey hlk hv hat hrg hlt hgr hsz hen => by
      obtain ⟨a1, b1, e1, wa, wb, rfl⟩ := key_two_inv T hkey
      obtain ⟨c1, d1, e2, rfl⟩ := twoR_inv hv
      have e1' : x = (a1, b1) := by obtain ⟨u, v⟩ := x; simpa [two] using e1
      have e2' : c = (c1, d1) := by obtain ⟨u, v⟩ := c; simpa [two] using e2
      subst e1' e2'
      exact hMore a1 b1 c1 d1 w' cnt' wa wb hlk hat hrg hlt hgr hsz hen)
end
end Go.Proofs.YtgpfmnjianflaaaDoor
namespace Go.Proofs.YtgpfmnjianflaaaDoor
open Go.RowKit Go.Maps

theorem T71 : TwoT Tryd.prog 71 := ⟨⟨_, _, Tryd.underlying71, rfl, rfl, Tryd.underlying2, Tryd.underlying2, by kernel_rfl, by kernel_rfl, by decide, by decide⟩, by kernel_rfl, by kernel_rfl, ⟨Tryd.prog.types.size - 2, (Nat.sub_add_cancel (of_decide_eq_true (by kernel_rfl))).symm⟩⟩
theorem laid71 : laidOutB Tryd.prog = true := by kernel_rfl
theorem law71 : Keyed Tryd.prog 71 := Keyed.of_law (deep_law_laid laid71 (m := 2) (by omega) (of_decide_eq_true (by kernel_rfl)) (by kernel_rfl) (by kernel_rfl))

theorem own_map {w w' : World} {P : Program} {k : TypeId} {R : Value → Option (DataW Unit × List MemPlace)} {b n : Nat} {D : DataW Unit} (h : w.ownsMap P k R b n D) (e : w'.heap[b]? = w.heap[b]?) : w'.ownsMap P k R b n D := by
  obtain ⟨es, clock, hb, r⟩ := h
  exact ⟨es, clock, e.trans hb, r⟩
/-- The keys behind k lots, and what stands at them. -/
def useS (L : LT) (k : Nat) (s p : Int) : Prop := ∃ j, j < k ∧ s = L.s j ∧ p = L.p j
def useV (_ p : Int) : DataW Unit := dd p 1
/-- The map of k lots, all else as in Z. -/
def RU (L : LT) (g k : Nat) (Z W : World) : Prop := Diff (fun x => x = g) Z W ∧ ∃ D, W.ownsMap Tryd.prog 71 twoR g k D ∧ MD D (useS L k) useV
theorem RU.pure {L : LT} {g k : Nat} {Z W W' : World} (h : RU L g k Z W) (hp : Pure W W') : RU L g k Z W' := by
  obtain ⟨h1, D, h2, h3⟩ := h
  exact ⟨h1.trans (hp.mono fun _ _ h => h.elim), D, own_map h2 (hp.block g h2.lt id), h3⟩
theorem w64_of {a : Int} (h : -1000000000 ≤ a ∧ a ≤ 1000000000) : W64 a := WalkArith.wf_i64 (by omega)
theorem diff_grown {w w' : World} {g : Nat} (h : w.grownBy w' (some g)) : Diff (fun x => x = g) w w' :=
  ⟨h.os, h.tape, h.output, h.size, fun k hk ho => h.block k hk (fun e => ho (Option.some.inj e))⟩
theorem RU.put {L : LT} {g k : Nat} {Z W : World} (h : RU L g k Z W) (hok : L.Ok) (hk : k < L.n) :
    ∃ W', (Instr.mapUpdate 106 (.map (some g)) (two (L.s k) (L.p k)) (two (L.p k) 1)).run Tryd.prog W = .ok () W' ∧ RU L g (k + 1) Z W' ∧ Diff (fun x => x = g) W W' := by
  obtain ⟨h1, D, h2, h3⟩ := h
  have s0 := hok.s0 k hk
  have s1 := hok.s1 k hk
  have p0 := hok.p0 k hk
  have p1 := hok.p1 k hk
  have n8 := hok.n8
  have wa : W64 (L.s k) := w64_of (by omega)
  have wb : W64 (L.p k) := w64_of (by omega)
  obtain ⟨W', hr, ho, hg⟩ := h2.update law71 Tryd.underlying106 (by unfold maxLen; omega) (key_two T71 wa wb) (twoR_mk (L.p k) 1)
  refine ⟨W', hr, ⟨h1.trans (diff_grown hg), _, ho, ?_⟩, diff_grown hg⟩
  refine (MD.put T71 law71 h3 h2.isMap wa wb).congr fun a b => ?_
  constructor
  · rintro (⟨j, hj, e⟩ | ⟨rfl, rfl⟩)
    · exact ⟨j, by omega, e⟩
    · exact ⟨k, by omega, rfl, rfl⟩
  · rintro ⟨j, hj, e1, e2⟩
    by_cases e : j = k
    · subst e; exact .inr ⟨e1, e2⟩
    · exact .inl ⟨j, by omega, e1, e2⟩
theorem wp_mapUpdate_run {P : Program} {o : Oper} {a : Act} {w w' : World} {K : Act → World → Prop} {Q : Exit → Act → World → Prop} (m x v : Operand) (t : TypeId) (hop : o.op = Op.mapUpdate t m x v) (mv kv vv : Value)
    (hm : a.eval m = mv) (hx : a.eval x = kv) (hv : a.eval v = vv) (hr : (Instr.mapUpdate t mv kv vv).run P w = .ok () w') (h : K (a.put o.dst undef) w') : o.wp P a w K Q := by
  unfold Oper.wp
  simp [execOp, hop, hm, hx, hv, hr, Result.andThen]
  exact h
/-- A lot is idle: something as sharp is cheaper. -/
def LT.idB (L : LT) (s p : Int) : Bool := chB (L.tar s.toNat).1 (L.tar s.toNat).2 p 1
def useT (L : LT) (left : Lit → Bool) (s p : Int) : Prop := useS L L.n s p ∧ (left (kl s p) = true ∨ L.idB s p = false)
def strike (left : Lit → Bool) (k : Lit) : Lit → Bool := fun z => left z && !z.sameKey k
theorem strike_at {left : Lit → Bool} {a b x y : Int} (wa : W64 a) (wb : W64 b) (wx : W64 x) (wy : W64 y) : strike left (kl x y) (kl a b) = true ↔ left (kl a b) = true ∧ ¬(a = x ∧ b = y) := by
  unfold strike
  by_cases h : a = x ∧ b = y
  · obtain ⟨rfl, rfl⟩ := h
    rw [WideAt.sameKey_self (law71.key (key_two T71 wa wb))]
    simp
  · rw [sameKey_ne (fun e => h (kl_inj T71 law71 wa wb wx wy e))]
    simp [h]
theorem useS_wf {L : LT} (hok : L.Ok) {k : Nat} (hk : k ≤ L.n) {s p : Int} (h : useS L k s p) : W64 s ∧ W64 p := by
  obtain ⟨j, hj, rfl, rfl⟩ := h
  have s0 := hok.s0 j (by omega)
  have s1 := hok.s1 j (by omega)
  have p0 := hok.p0 j (by omega)
  have p1 := hok.p1 j (by omega)
  exact ⟨w64_of (by omega), w64_of (by omega)⟩
theorem useT_stays {L : LT} (hok : L.Ok) {left : Lit → Bool} {x y : Int} (wx : W64 x) (wy : W64 y) (hi : L.idB x y = false) (a b : Int) : useT L left a b ↔ useT L (strike left (kl x y)) a b := by
  constructor
  · rintro ⟨h1, h2⟩
    have hw := useS_wf hok (Nat.le_refl _) h1
    refine ⟨h1, ?_⟩
    rw [strike_at hw.1 hw.2 wx wy]
    by_cases e : a = x ∧ b = y
    · obtain ⟨rfl, rfl⟩ := e; exact .inr hi
    · rcases h2 with h2 | h2
      · exact .inl ⟨h2, e⟩
      · exact .inr h2
  · rintro ⟨h1, h2⟩
    have hw := useS_wf hok (Nat.le_refl _) h1
    rw [strike_at hw.1 hw.2 wx wy] at h2
    exact ⟨h1, h2.imp (fun h => h.1) id⟩
theorem useT_goes {L : LT} (hok : L.Ok) {left : Lit → Bool} {x y : Int} (wx : W64 x) (wy : W64 y) (hi : L.idB x y = true) (a b : Int) : (useT L left a b ∧ ¬(a = x ∧ b = y)) ↔ useT L (strike left (kl x y)) a b := by
  constructor
  · rintro ⟨⟨h1, h2⟩, e⟩
    have hw := useS_wf hok (Nat.le_refl _) h1
    refine ⟨h1, ?_⟩
    rw [strike_at hw.1 hw.2 wx wy]
    exact h2.imp (fun h => ⟨h, e⟩) id
  · rintro ⟨h1, h2⟩
    have hw := useS_wf hok (Nat.le_refl _) h1
    rw [strike_at hw.1 hw.2 wx wy] at h2
    refine ⟨⟨h1, h2.imp (fun h => h.1) id⟩, fun e => ?_⟩
    rcases h2 with h2 | h2
    · exact h2.2 e
    · rw [e.1, e.2, hi] at h2; cases h2
theorem MD.mem {D : DataW Unit} {S : Int → Int → Prop} {V : Int → Int → DataW Unit} (h : MD D S V) {x y c d : Int} (wx : W64 x) (wy : W64 y) (hat : ∀ z, D.atKey (kl x y) z = dd c d) : S x y ∧ V x y = dd c d := by
  obtain ⟨a, b, hs, e⟩ := (h.has _).1 (has_true_of_atKey hat)
  have hw := h.wf _ _ hs
  obtain ⟨rfl, rfl⟩ := kl_inj T71 law71 wx wy hw.1 hw.2 e
  exact ⟨hs, by rw [← h.at_ _ _ hs (dd 0 0), hat]⟩
theorem ranges_diff {w w' : World} {O : Nat → Prop} {P : Program} {k : TypeId} {R : Value → Option (DataW Unit × List MemPlace)} {b r n cnt : Nat} {D : DataW Unit} {left : Lit → Bool} (h : w.ranges P k R b r n D left cnt) (hd : Diff O w w') (hb : ¬ O b) (hr : ¬ O r) : w'.ranges P k R b r n D left cnt := by
  have h1 := h.owns.lt
  have h2 := h.lt
  obtain ⟨es, clock, since, seen, c0, hb', F, hs, hD, hr', rest⟩ := h
  exact ⟨es, clock, since, seen, c0, (hd.block b h1 hb).trans hb', F, hs, hD, (hd.block r h2 hr).trans hr', rest⟩
theorem grown_diff {w w' : World} {g : Option Nat} {O : Nat → Prop} (h : w.grownBy w' g) (hO : ∀ x, g = some x → O x) : Diff O w w' :=
  ⟨h.os, h.tape, h.output, h.size, fun k hk ho => h.block k hk (fun e => ho (hO k e.symm))⟩
set_option maxRecDepth 20000 in
set_option maxHeartbeats 4000000 in
theorem useful_any (w : World) (L : LT) (p q : Option Addr) (cap c : Nat) (hok : L.Ok) (hl : LotsAt w.heap.size w p L) (hq : RowN w q L.corners) :
    Calls Tryd.prog 81 #[.agg #[.slice p L.n cap, .slice q L.corners.length c]] w fun e w' => (∃ g D, e = .returned (.map (some g)) ∧ w'.ownsMap Tryd.prog 71 twoR g L.n D ∧ MD D (fun a b => useS L L.n a b ∧ L.idB a b = false) useV ∧ w.heap.size ≤ g) ∧ Pure w w' := by
  have hmx : Tryd.prog.follows .mixedOrders = true := by kernel_rfl
  have hmm := @run_makeMap Tryd.prog
  have HL := Lib.hid hl
  have HQ := Lib.hid hq
  have HOK := Lib.hid hok
  have hn8 := hok.n8
  clear hl hq hok
  go_enter Tryd.func81, Tryd.ntmps81
  go_wp2_with fail
  obtain ⟨X, hX⟩ : ∃ V : World, (w.alloc (.cells #[.slice p L.n cap, .slice q L.corners.length c] 89)).alloc (.map #[] 0) = V := ⟨_, rfl⟩
  obtain ⟨B, hB⟩ : ∃ B, w.heap.size + 1 = B := ⟨_, rfl⟩
  have k0 : Blk w.heap.size 89 #[.slice p L.n cap, .slice q L.corners.length c] X := by rw [← hX]; exact (Blk.new _ _ _).alloc _
  have hm0 : X.ownsMap Tryd.prog 71 twoR B 0 (.map []) := by
    have := World.ownsMap_made (w.alloc (.cells #[.slice p L.n cap, .slice q L.corners.length c] 89)) Tryd.prog 71 twoR
    rw [World.size_alloc, hX, hB] at this
    exact this
  have hP : Pure w X := by rw [← hX]; exact ((Diff.refl _).alloc _).alloc _
  have hRU : RU L B 0 X X := ⟨Diff.refl _, _, hm0, (MD.none useV).congr fun a b => ⟨fun h => h.elim, fun ⟨j, hj, _⟩ => by omega⟩⟩
  rw [hX, hB]
  have HB : Hid (w.heap.size + 1 = B) := hB
  have HBX : Hid (B < X.heap.size) := hm0.lt
  have HRU := Lib.hid hRU
  have HPX := Lib.hid hP
  have K0 := Lib.hid k0
  clear hX hB k0 hm0 hP hRU hmm
  go_loopw [14] (fun i wr => ∃ k : Nat, k ≤ L.n ∧ i = .int .i64 k ∧ Hid (RU L B k X wr)) (fun i _ => L.n - (intOf i).toNat)
  case atStart => exact ⟨0, Nat.zero_le _, rfl, HRU.out⟩
  case round =>
    obtain ⟨k, hk, rfl, HR⟩ := hrel
    have hdx := HR.out.1
    have hpw : Pure w wr := HPX.out.trans' hdx (fun x hx e => by have e' : x = B := e; have := HB.out; omega)
    have HPW := Lib.hid hpw
    have K1 : Hid (Blk w.heap.size 89 #[.slice p L.n cap, .slice q L.corners.length c] wr) := K0.out.diff hdx (by have := HB.out; show ¬ w.heap.size = B; omega)
    by_cases hlt : k < L.n
    · obtain ⟨b, o, rfl, hb, hc0, hc1⟩ := HL.out k hlt
      have d0 := ((pcell hpw).1 _ _ hb).trans hc0
      have d1 := ((pcell hpw).1 _ _ hb).trans hc1
      have lb := Nat.lt_of_lt_of_le hb hpw.size
      have hki : (k : Int) < (L.n : Int) := by omega
      clear hc0 hc1 hpw hdx
      go_wp2_with fail
      obtain ⟨g, hg⟩ : ∃ g, wr.heap.size = g := ⟨_, rfl⟩
      obtain ⟨V, hV⟩ : ∃ V, wr.alloc (Obj.cells #[Value.int IntKind.i64 (L.s k), Value.int IntKind.i64 (L.p k)] 71) = V := ⟨_, rfl⟩
      have kV : Blk g 71 #[Value.int IntKind.i64 (L.s k), Value.int IntKind.i64 (L.p k)] V := by rw [← hV, ← hg]; exact Blk.new _ _ _
      have hRV : RU L B k X V := by rw [← hV]; exact HR.out.pure ((Diff.refl _).alloc _)
      have hgB : ¬ g = B := by have := HR.out.1.size; have := HBX.out; omega
      have s0 := HOK.out.s0 k hlt
      have s1 := HOK.out.s1 k hlt
      have p0 := HOK.out.p0 k hlt
      have p1 := HOK.out.p1 k hlt
      rw [hV, hg]
      clear hV hg d0 d1 lb
      refine reg_invW (fun d a W => a = { tmps := #[Value.agg #[Value.slice (some { block := b, off := o }) L.n cap, Value.slice q L.corners.length c], Value.pointer (some { block := w.heap.size, off := 0 }), Value.map none, Value.map (some B), undef, Value.pointer (some { block := g, off := 0 }), undef, undef, undef, Value.map (some B), Value.pointer (some { block := w.heap.size, off := 0 }), Value.pointer (some { block := w.heap.size, off := 0 }), Value.slice (some { block := b, off := o }) L.n cap, Value.int IntKind.i64 ((L.n : Nat)), Value.int IntKind.i64 ((k : Nat)), Value.bool true, Value.pointer (some { block := b, off := o + k * 2 }), Value.agg #[Value.int IntKind.i64 (L.s k), Value.int IntKind.i64 (L.p k)], (bif d 0 then Value.map (some B) else u18), (bif d 1 then Value.agg #[Value.int IntKind.i64 (L.s k), Value.int IntKind.i64 (L.p k)] else u19), (bif d 2 then Value.pointer (some { block := g, off := 0 + 1 }) else u20), (bif d 3 then Value.int IntKind.i64 (L.p k) else u21), (bif d 4 then Value.agg #[Value.int IntKind.i64 (redN (L.p k) 1), Value.int IntKind.i64 (redD (L.p k) 1)] else u22), u23, undef, undef, undef, undef, undef, undef, undef, undef, undef, undef, undef, undef, undef, undef, undef, undef, undef, undef], defers := [] } ∧ (RU L B (bif d 5 then k + 1 else k) X W ∧ Blk g 71 #[Value.int IntKind.i64 (L.s k), Value.int IntKind.i64 (L.p k)] W)) hmx (by kernel_rfl) ?_ ?_ ?_
      · exact ⟨rfl, hRV.pure (Diff.refl _).drew, kV.drew⟩
      · refine ⟨?_, ?_, ?_, ?_, ?_, ?_, trivial⟩
        · rintro d a W hdi hdep hcl ⟨rfl, hw⟩ K hK
          have E := hcl.facts 0 hdi rfl hdep [] [5] (by kernel_rfl) (by kernel_rfl)
          simp only [AllT, AllF] at E
          clear hdi hdep hcl
          go_simp
          exact hK _ _ ⟨by simp [upd, E], by simpa [upd, E] using hw⟩
        · rintro d a W hdi hdep hcl ⟨rfl, hw⟩ K hK
          have E := hcl.facts 1 hdi rfl hdep [] [5] (by kernel_rfl) (by kernel_rfl)
          simp only [AllT, AllF] at E
          clear hdi hdep hcl
          have z0 := hw.2.at 0
          have z1 := hw.2.at 1
          have zl := hw.2.lt
          go_simp
          exact hK _ _ ⟨by simp [upd, E], by simpa [upd, E] using hw⟩
        · rintro d a W hdi hdep hcl ⟨rfl, hw⟩ K hK
          have E := hcl.facts 2 hdi rfl hdep [] [3, 4, 5] (by kernel_rfl) (by kernel_rfl)
          simp only [AllT, AllF] at E
          clear hdi hdep hcl
          go_simp
          exact hK _ _ ⟨by simp [upd, E], by simpa [upd, E] using hw⟩
        · rintro d a W hdi hdep hcl ⟨rfl, hw⟩ K hK
          have E := hcl.facts 3 hdi rfl hdep [2] [4, 5] (by kernel_rfl) (by kernel_rfl)
          simp only [AllT, AllF] at E
          clear hdi hdep hcl
          have z0 := hw.2.at 0
          have z1 := hw.2.at 1
          have zl := hw.2.lt
          go_simp
          exact hK _ _ ⟨by simp [upd, E], by simpa [upd, E] using hw⟩
        · rintro d a W hdi hdep hcl ⟨rfl, hw⟩ K hK
          have E := hcl.facts 4 hdi rfl hdep [2, 3] [5] (by kernel_rfl) (by kernel_rfl)
          simp only [AllT, AllF] at E
          clear hdi hdep hcl
          go_simp
          refine Calls.mono (ratio_any W (L.p k) 1 ⟨by omega, by omega⟩ ⟨by omega, by omega⟩) ?_
          rintro e w9 ⟨rfl, hp9⟩
          refine hK _ _ ⟨by simp [upd, E], ?_⟩
          simp only [upd, E] at hw ⊢
          exact ⟨hw.1.pure hp9, hw.2.to hp9⟩
        · rintro d a W hdi hdep hcl ⟨rfl, hw⟩ K hK
          have E := hcl.facts 5 hdi rfl hdep [0, 1, 2, 3, 4] [] (by kernel_rfl) (by kernel_rfl)
          simp only [AllT, AllF] at E
          clear hdi hdep hcl
          simp only [E, cond_false] at hw
          obtain ⟨W', hr, hu, hpb⟩ := hw.1.put HOK.out hlt
          have hb' : Blk g 71 #[Value.int IntKind.i64 (L.s k), Value.int IntKind.i64 (L.p k)] W' := hw.2.diff hpb hgB
          simp only [E, cond_true]
          refine wp_mapUpdate_run _ _ _ _ rfl _ _ _ rfl rfl (by first | rfl | (simp only [go_sem, (red_one (L.p k)).1, (red_one (L.p k)).2]; rfl)) hr ?_
          exact hK _ _ ⟨by simp [upd, E, Act.put], by simpa [upd, E] using hu, hb'⟩
      · rintro d a W hall ⟨rfl, hw⟩
        have E := AllT.all hall [0, 1, 2, 3, 4, 5] (by kernel_rfl)
        simp only [AllT] at E
        simp only [E, cond_true] at hw ⊢
        clear E hall
        obtain ⟨hu, hb2⟩ := hw
        have HU := Lib.hid hu
        clear hb2 hu
        go_wp2
        go_roundw
        case rel => exact ⟨k + 1, by omega, by go_num, HU.out⟩
        case measure => simp [intOf]; omega
    · obtain rfl : k = L.n := by omega
      have c0 := K1.out.at 0
      have c1 := K1.out.at 1
      have l0 := K1.out.lt
      clear hpw hdx
      go_wp2_with fail
      refine (tariff_any wr L p q cap c HOK.out (HL.out.to HPW.out) (HQ.out.to HPW.out)).mono ?_
      rintro e w3 ⟨rfl, hp3⟩
      have HP3 := Lib.hid hp3
      clear hp3
      obtain ⟨f, hf⟩ : ∃ f, tarTo L L.corners L.corners.length = f := ⟨_, rfl⟩
      have HF : Hid (L.tar = f) := hf
      rw [hf]
      clear hf c0 c1 l0
      obtain ⟨-, D, hD1, hD2⟩ := HR.out
      have HD2 := Lib.hid hD2
      have hD3 := own_map hD1 (HP3.out.block B hD1.lt id)
      have hB3 : B < w3.heap.size := hD3.lt
      go_wp2_with (first | (refine wpList_alloc_table rfl rfl ?_) | (refine wpList_store_table rfl (.tmp 6) (.tmp 25) rfl w3.heap.size f (fun _ => pr0) rfl rfl (Blk.new _ _ _) ?_) | (at_range; refine wpList_range_own _ rfl _ 106 rfl 71 29 law71 Tryd.underlying106 twoR B L.n D rfl (own_map (w := w3) hD3 ?_) ?_))
      · exact ((((Diff.refl w3).alloc _).setRow (fun h => absurd h (Nat.lt_irrefl _)) _ : Pure w3 _)).block B hB3 id
      obtain ⟨V, hV⟩ : ∃ V : World, (w3.alloc (Obj.cells tab0 85)).setRow w3.heap.size (tabV f) = V := ⟨_, rfl⟩
      have kt : TabAt w3.heap.size f V := by rw [← hV]; exact setRow_heap _ _ _ _ _ _ (Blk.new _ _ _)
      have hPV : Pure w3 V := by rw [← hV]; exact ((Diff.refl _).alloc _).setRow (fun h => absurd h (Nat.lt_irrefl _)) _
      rw [hV]
      clear hV
      intro V1 hrg hg1 hs1
      try go_frame
      obtain ⟨G, hG⟩ : ∃ G, w3.heap.size = G := ⟨_, rfl⟩
      obtain ⟨r, hr⟩ : ∃ r, w3.heap.size + 1 = r := ⟨_, rfl⟩
      have hrG : G < r := by omega
      rw [hr] at hrg hs1 ⊢
      rw [hG] at kt hB3 ⊢
      generalize tabV f = tv
      have hV1 : Pure V V1 := grown_diff hg1 (fun x h => by cases h)
      have HKT := Lib.hid (kt.to hV1)
      have HP0 : Hid (Pure w V1) := ((HPW.out.trans HP3.out).trans hPV).trans hV1
      have HN : Hid (w.heap.size < B ∧ B < G ∧ G < r ∧ r < V1.heap.size) := ⟨by have := HB.out; omega, by omega, hrG, by omega⟩
      have hMD0 : MD D (useT L (has D)) useV := HD2.out.congr fun a b => ⟨fun h => ⟨h, .inl ((HD2.out.has _).2 ⟨a, b, h, rfl⟩)⟩, fun h => h.1⟩
      have HRG := Lib.hid hrg
      have HMD := Lib.hid hMD0
      clear hV1 hs1 hg1 hrG hr hG hPV kt hrg hMD0 hD1 hD2 hD3 hB3 HRU HPX HPW HP3 HR HD2 HBX K0 K1
      go_wp2
      go_loopw [28] (fun _ wr => ∃ (left : Lit → Bool) (cnt : Nat) (D : DataW Unit), wr.ranges Tryd.prog 71 twoR B r L.n D left cnt ∧ Hid (MD D (useT L left) useV) ∧ Hid (Diff (fun x => x = B ∨ x = r) V1 wr)) (fun _ wr => wr.rangeLeft B r)
      case atStart => exact ⟨_, _, _, HRG.out, HMD.out, Diff.refl _⟩
      case round =>
        obtain ⟨left, cnt, D1, hrg, HM, HDF⟩ := hrel
        go_wp2_with (first | (at_next; refine wpList_next_two _ rfl _ rfl 71 T71 law71 B r L.n _ _ _ rfl hrg ?_ ?_) | go_in)
        · intro _ hl0
          have HE : Hid (MD D1 (fun a b => useS L L.n a b ∧ L.idB a b = false) useV) := HM.out.congr fun a b => ⟨fun h => ⟨h.1, h.2.resolve_left (by rw [hl0]; simp)⟩, fun h => ⟨h.1, .inr h.2⟩⟩
          have HO := Lib.hid hrg.owns
          go_wp2
          exact bodyPost_ret (v := .map (some B)) (by simp [results, Tryd.results81, go_sem]) rfl ⟨⟨B, D1, rfl, HO.out, HE.out, by have := HN.out.1; omega⟩, HP0.out.trans' HDF.out (fun z hz e => by have := HN.out; rcases e with e | e <;> omega)⟩
        · intro x y c1 d1 w1 cnt1 wx wy hlk hat hrg1 hlt hg1 hs1 hen
          obtain ⟨hT, hV⟩ := HM.out.mem wx wy hat
          obtain ⟨rfl, rfl⟩ := dd_inj hV
          have hd1 := HDF.out.trans (grown_diff (O := fun x => x = B ∨ x = r) hg1 (fun x h => .inr (Option.some.inj h).symm))
          have HB : Hid ((0 ≤ x ∧ x ≤ 100) ∧ 0 ≤ y ∧ y ≤ 1000) := by
            obtain ⟨⟨j, hj, rfl, rfl⟩, -⟩ := hT
            exact ⟨⟨HOK.out.s0 j hj, HOK.out.s1 j hj⟩, HOK.out.p0 j hj, HOK.out.p1 j hj⟩
          obtain ⟨m, rfl⟩ := Int.eq_ofNat_of_zero_le HB.out.1.1
          clear hs1 hg1 hat hV
          have HW : Hid (W64 (m : Int) ∧ W64 y) := ⟨wx, wy⟩
          have HD1 := Lib.hid hd1
          have HT1 := Lib.hid (HKT.out.diff hd1 (by have := HN.out; omega))
          have HRG1 := Lib.hid hrg1
          have HRG0 := Lib.hid hrg
          have HLT := Lib.hid hlt
          clear wx wy hd1 hlk hT hrg1 hrg hlt
          go_wp2_with fail
          obtain ⟨g7, hg7⟩ : ∃ g, w1.heap.size = g := ⟨_, rfl⟩
          obtain ⟨Z, hZ⟩ : ∃ Z, (w1.alloc (Obj.cells #[Value.int IntKind.i64 (m : Int), Value.int IntKind.i64 y] 71)).alloc (Obj.cells #[Value.int IntKind.i64 y, Value.int IntKind.i64 1] 29) = Z := ⟨_, rfl⟩
          have k7 : Blk g7 71 #[Value.int IntKind.i64 (m : Int), Value.int IntKind.i64 y] Z := by rw [← hZ, ← hg7]; exact (Blk.new _ _ _).alloc _
          have k8 : Blk (g7 + 1) 29 #[Value.int IntKind.i64 y, Value.int IntKind.i64 1] Z := by
            rw [← hZ, ← hg7]
            have := Blk.new (w1.alloc (Obj.cells #[Value.int IntKind.i64 (m : Int), Value.int IntKind.i64 y] 71)) 29 #[Value.int IntKind.i64 y, Value.int IntKind.i64 1]
            rwa [World.size_alloc] at this
          have hpZ : Pure w1 Z := by rw [← hZ]; exact ((Diff.refl _).alloc _).alloc _
          obtain ⟨g8, hg8⟩ : ∃ g, g7 + 1 = g := ⟨_, rfl⟩
          rw [hZ, hg7, hg8]
          rw [hg8] at k8
          have HTZ := HT1.out.to hpZ
          have m100 : m < 101 := by have := HB.out; omega
          have mi : (m : Int) < 101 := by omega
          have b0 := HTZ.cell m100 (show m * 2 = 2 * m by omega)
          have b1 := HTZ.cell1 m100 (show m * 2 + 1 = 2 * m + 1 by omega)
          have bl := HTZ.lt
          have c0 := k7.at 0
          have c1 := k7.at 1
          have l7 := k7.lt
          have e0 := k8.at 0
          have e1 := k8.at 1
          have l8 := k8.lt
          obtain ⟨fx, hfx⟩ : ∃ v, f m = v := ⟨_, rfl⟩
          rw [hfx] at b0 b1
          have HFX : Hid (L.idB m y = chB fx.1 fx.2 y 1) := by show _ = _; unfold LT.idB; rw [HF.out, Int.toNat_natCast, hfx]
          have HFS : Hid ((-1000000000 ≤ fx.1 ∧ fx.1 ≤ 1000000000) ∧ -1000000000 ≤ fx.2 ∧ fx.2 ≤ 1000000000) := by
            rw [← hfx, ← HF.out]
            rcases (tar_is L (by have := HOK.out.n0; omega) m) with ⟨h1, h2⟩
            rcases Classical.em (CanB L m) with hc | hc
            · obtain ⟨a, b, h3, h4⟩ := h1 hc
              have h5 := h3.small HOK.out
              rw [h4]
              have := h5.b0; have := h5.b1; have := h5.a0; have := h5.a1
              exact ⟨⟨by omega, by omega⟩, by omega, by omega⟩
            · rw [h2 hc]; exact ⟨⟨by decide, by decide⟩, by decide, by decide⟩
          have HPZ := Lib.hid hpZ
          have K7 := Lib.hid k7
          clear hZ hg7 hg8 k8 k7 hpZ HTZ hfx hen
          have hp0 : Hid (Pure Z Z.drew) := (Diff.refl Z).drew
          have KEY : Hid (∀ w', Pure Z w' → w'.cell? ⟨g7, 0, none⟩ = some (.int .i64 (m : Int)) ∧ w'.cell? ⟨g8, 0, none⟩ = some (.int .i64 y) ∧ w'.cell? ⟨g8, 1, none⟩ = some (.int .i64 1) ∧ w'.cell? ⟨G, m * 2, none⟩ = some (.int .i64 fx.1) ∧ w'.cell? ⟨G, m * 2 + 1, none⟩ = some (.int .i64 fx.2) ∧ Hid (Pure Z w')) := fun w' hp => ⟨((pcell hp).1 _ _ l7).trans c0, ((pcell hp).1 _ _ l8).trans e0, ((pcell hp).1 _ _ l8).trans e1, ((pcell hp).1 _ _ bl).trans b0, ((pcell hp).1 _ _ bl).trans b1, hp⟩
          go_region_held3 (fun w' => w'.cell? ⟨g7, 0, none⟩ = some (.int .i64 (m : Int)) ∧ w'.cell? ⟨g8, 0, none⟩ = some (.int .i64 y) ∧ w'.cell? ⟨g8, 1, none⟩ = some (.int .i64 1) ∧ w'.cell? ⟨G, m * 2, none⟩ = some (.int .i64 fx.1) ∧ w'.cell? ⟨G, m * 2 + 1, none⟩ = some (.int .i64 fx.2) ∧ Hid (Pure Z w'))
            (exact KEY.out _ (by first | exact hp0.out | exact hp0.out.trans hp9))
            (first | (go_at_call 73; refine Calls.mono (cheaper_any _ fx.1 fx.2 y 1 HFS.out.1 HFS.out.2 (by have := HB.out; omega) (by omega)) ?_; rintro e w9 ⟨rfl, hp9⟩))
          rename_i hHeld
          obtain ⟨-, -, -, -, -, hp⟩ := hHeld
          clear KEY hp0
          have hpp := HPZ.out.trans hp.out
          have HRG9 := Lib.hid (ranges_diff HRG1.out hpp id id)
          have HD9 := Lib.hid (HD1.out.trans (hpp.mono fun _ _ h => h.elim))
          have K9 := Lib.hid (K7.out.to hp.out)
          clear hpp b0 b1 bl c0 c1 l7 e0 e1 l8 hp hp9
          cases hv : chB fx.1 fx.2 y 1 with
          | false =>
            have HI : Hid (L.idB m y = false) := HFX.out.trans hv
            clear hv
            go_wp2
            go_roundw
            case rel => exact ⟨_, _, _, HRG9.out, HM.out.congr (useT_stays HOK.out HW.out.1 HW.out.2 HI.out), HD9.out⟩
            case measure => rw [HRG9.out.left_eq, HRG0.out.left_eq]; exact HLT.out
          | true =>
            have HI : Hid (L.idB m y = true) := HFX.out.trans hv
            clear hv
            have c0 := K9.out.at 0
            have c1 := K9.out.at 1
            have l7 := K9.out.lt
            go_wp2_with (first | (at_delete; refine wpList_delete_ranges _ rfl _ _ 106 71 rfl 29 law71 Tryd.underlying106 twoR B r L.n _ _ _ rfl HRG9.out _ _ rfl (key_two T71 HW.out.1 HW.out.2) ?_; intro w2 cnt2 hrg2 hle hturn; try go_frame) | go_in)
            rw [strike_twice] at hrg2
            have HRG2 := Lib.hid hrg2
            have HLE := Lib.hid hle
            have HD2 := Lib.hid (HD9.out.trans (grown_diff (O := fun x => x = B ∨ x = r) hturn.grown (fun x h => .inl (Option.some.inj h).symm)))
            clear hrg2 hle hturn c0 c1 l7
            go_roundw
            case rel => exact ⟨_, _, _, HRG2.out, (HM.out.del T71 law71 HW.out.1 HW.out.2).congr (useT_goes HOK.out HW.out.1 HW.out.2 HI.out), HD2.out⟩
            case measure => rw [HRG2.out.left_eq, HRG0.out.left_eq]; have := HLT.out; have := HLE.out; omega
end Go.Proofs.YtgpfmnjianflaaaDoor
namespace Go.Proofs.YtgpfmnjianflaaaDoor
open Go.RowKit Go.Maps

def LT.idleL (L : LT) (n : Nat) : List Nat := (List.range n).filter fun i => L.idB (L.s i) (L.p i)
def LT.idleE (L : LT) : List Nat := if checkL L = 0 then L.idleL L.n else []
theorem idleL_succ (L : LT) (n : Nat) : L.idleL (n + 1) = if L.idB (L.s n) (L.p n) = true then L.idleL n ++ [n] else L.idleL n := by
  unfold LT.idleL
  rw [List.range_succ, List.filter_append]
  by_cases h : L.idB (L.s n) (L.p n) = true
  · rw [if_pos h]; simp [h]
  · rw [if_neg h]; simp [h]
theorem idleL_length (L : LT) (n : Nat) : (L.idleL n).length ≤ n := by
  unfold LT.idleL
  have := List.length_filter_le (fun i => L.idB (L.s i) (L.p i)) (List.range n)
  simpa using this
theorem wpList_lookup_two {P : Program} (w : World) {ops : Array Oper} {rest : List Oper} {o : Oper} {a : Act} {Q : Exit → Act → World → Prop} (hg : o.guard = none) (m x : Operand) (t : TypeId) (hop : o.op = Op.lookup t m x true)
    (k e : TypeId) (K : Keyed P k) (ht : P.underlying t = some (.map k e)) (hz : (zeroValue e).run P w = .ok (two 0 0) w) (b n : Nat) (D : DataW Unit)
    (hm : a.eval m = .map (some b)) (hown : w.ownsMap P k twoR b n D) (key : Value) (kl : Lit) (hx : a.eval x = key) (hkey : keyOf P k key = some kl)
    (hK : ∀ c d : Int, wpList P ops Q rest (a.put o.dst (.tuple #[.agg #[.int .i64 c, .int .i64 d], .bool (Maps.has D kl)])) w) :
    wpList P ops Q (o :: rest) a w :=
  wpList_lookup_own_ok w hg m x t hop k e K ht twoR hz (dd 0 0) [] (twoR_mk 0 0) b n D hm hown key kl hx hkey (fun v ps hv => by
    obtain ⟨c, d, rfl, _⟩ := twoR_inv hv
    exact hK c d)
set_option maxRecDepth 20000 in
set_option maxHeartbeats 4000000 in
theorem Idle_any (w : World) (L : LT) (p : Option Addr) (cap : Nat) (hn : L.n ≤ 1000) (hl : LotsAt w.heap.size w p L) (hg : Gl w) :
    Calls Tryd.prog 40 #[.slice p L.n cap] w fun e w' => (∃ q c, e = .returned (.tuple #[.slice q L.idleE.length c, .int .i64 (checkL L)]) ∧ RowN w' q L.idleE) ∧ Pure w w' := by
  have HG := Lib.hid hg
  have HL := Lib.hid hl
  clear hl hg
  go_enter Tryd.func40, Tryd.ntmps40
  go_wp2_with fail
  refine (CheckLots_any w L p cap hn HL.out HG.out).mono ?_
  rintro e w1 ⟨rfl, hp1⟩
  have HP1 := Lib.hid hp1
  clear hp1
  obtain ⟨c, hc⟩ : ∃ c, checkL L = c := ⟨_, rfl⟩
  have HC := Lib.hid hc
  rw [hc]
  clear hc
  by_cases h0 : c = 0
  · subst h0
    have hok := checkL_ok.1 HC.out
    have HOK := Lib.hid hok
    have hn8 := hok.n8
    have HE : Hid (L.idleE = L.idleL L.n) := if_pos HC.out
    clear hok
    go_wp2_with fail
    refine (shelved_any w1 L p cap HOK.out (HL.out.to HP1.out)).mono ?_
    rintro e w2 ⟨⟨q, qc, rfl, hq⟩, hp2⟩
    have HQ := Lib.hid hq
    have HP2 := Lib.hid (HP1.out.trans hp2)
    clear hq hp2
    go_wp2_with fail
    refine (useful_any w2 L p q cap qc HOK.out (HL.out.to HP2.out) HQ.out).mono ?_
    rintro e w3 ⟨⟨B, D, rfl, hD, hM, hB⟩, hp3⟩
    have HP3 := Lib.hid (HP2.out.trans hp3)
    have HD := Lib.hid hD
    have HM := Lib.hid hM
    have hBL := Lib.hid hD.lt
    clear hp3 hD hM hB
    go_wp2
    go_loopw [6, 21] (fun v i wr => ∃ k : Nat, k ≤ L.n ∧ i = .int .i64 k ∧ Hid (wr.ownsRow w3.heap.size 3 1 v (L.idleL k).length (valsN (L.idleL k))) ∧ Hid (Pure w3 wr)) (fun _ i _ => L.n - (intOf i).toNat)
    case atStart => exact ⟨0, Nat.zero_le _, rfl, World.ownsRow_nil _ _ _ _, Diff.refl _⟩
    case round =>
      obtain ⟨k, hk, rfl, HO, HP⟩ := hrel
      by_cases hlt : k < L.n
      · obtain ⟨b, o, rfl, hb, hc0, hc1⟩ := HL.out k hlt
        have d0 := ((pcell (HP3.out.trans HP.out)).1 _ _ hb).trans hc0
        have d1 := ((pcell (HP3.out.trans HP.out)).1 _ _ hb).trans hc1
        have lb := Nat.lt_of_lt_of_le hb (HP3.out.trans HP.out).size
        have hki : (k : Int) < (L.n : Int) := by omega
        have HW : Hid (W64 (L.s k) ∧ W64 (L.p k)) := useS_wf HOK.out (Nat.le_refl _) ⟨k, hlt, rfl, rfl⟩
        have HX : Hid (has D (kl (L.s k) (L.p k)) = !L.idB (L.s k) (L.p k)) := by
          show _ = _
          have h1 := HM.out.has (kl (L.s k) (L.p k))
          cases hi : L.idB (L.s k) (L.p k) with
          | false => exact h1.2 ⟨_, _, ⟨⟨k, hlt, rfl, rfl⟩, hi⟩, rfl⟩
          | true =>
            cases hh : has D (kl (L.s k) (L.p k)) with
            | false => rfl
            | true =>
              obtain ⟨a, b, ⟨h3, h4⟩, e⟩ := h1.1 hh
              have hw := useS_wf HOK.out (Nat.le_refl _) h3
              obtain ⟨e1, e2⟩ := kl_inj T71 law71 HW.out.1 HW.out.2 hw.1 hw.2 e
              rw [← e1, ← e2, hi] at h4; cases h4
        have HDW := Lib.hid (own_map HD.out (HP.out.block B hBL.out id))
        clear hc0 hc1
        go_wp2_with (first | (at_lookup; refine wpList_lookup_two _ rfl _ _ 106 rfl 71 29 law71 Tryd.underlying106 (zero29 _) B L.n D rfl (own_map (w := wr) HDW.out ?_) _ _ rfl (key_two T71 HW.out.1 HW.out.2) ?_) | fail)
        · exact ((Diff.refl wr).alloc _ : Pure wr _).block B (Nat.lt_of_lt_of_le hBL.out HP.out.size) id
        · intro c1 d1'
          rw [HX.out]
          obtain ⟨Z, hZ⟩ : ∃ V : World, wr.alloc (Obj.cells #[Value.int IntKind.i64 (L.s k), Value.int IntKind.i64 (L.p k)] 71) = V := ⟨_, rfl⟩
          have hpZ : Pure wr Z := by rw [← hZ]; exact (Diff.refl _).alloc _
          have hsz : w3.heap.size ≤ Z.heap.size := Nat.le_trans HP.out.size hpZ.size
          rw [hZ]
          have HPZ := Lib.hid hpZ
          have HSZ := Lib.hid hsz
          clear hZ hpZ hsz d0 d1 lb
          have hlen := idleL_length L k
          cases hi : L.idB (L.s k) (L.p k) with
          | false =>
            have HS : Hid (L.idleL (k + 1) = L.idleL k) := by show _ = _; rw [idleL_succ, if_neg (by rw [hi]; simp)]
            clear hi
            go_wp2
            go_roundw
            case rel =>
              refine ⟨k + 1, by omega, by go_num, ?_, ?_⟩
              · rw [HS.out]; exact own_pure HO.out (HPZ.out.trans ((Diff.refl _).alloc _))
              · exact (HP.out.trans HPZ.out).alloc _
            case measure => simp [intOf]; omega
          | true =>
            have HS : Hid (L.idleL (k + 1) = L.idleL k ++ [k]) := by show _ = _; rw [idleL_succ, if_pos hi]
            clear hi
            obtain ⟨v', w', hr, ho', hd', hob, -⟩ := push_one 51 3 (.int .i64 0) 8 Tryd.underlying51 (by kernel_rfl) rfl (by omega) (W := Z.alloc (Obj.cells #[Value.int IntKind.i64 c1, Value.int IntKind.i64 d1'] 29)) (own_pure HO.out (HPZ.out.trans ((Diff.refl _).alloc _))) (by omega) (by rw [World.size_alloc]; have := HSZ.out; omega) (.int .i64 (k : Int)) rfl
            rw [World.size_alloc] at hr
            have HO' := Lib.hid ho'
            have HD' := Lib.hid hd'
            have HPA : Hid (Pure w3 (Z.alloc (Obj.cells #[Value.int IntKind.i64 c1, Value.int IntKind.i64 d1'] 29))) := (HP.out.trans HPZ.out).alloc _
            clear ho' hd' hob
            go_wp2_with (at_builtin; refine Lib.wpList_append_run _ rfl _ _ _ _ rfl _ _ rfl rfl _ _ hr ?_)
            go_roundw
            case rel =>
              refine ⟨k + 1, by omega, by go_num, ?_, ?_⟩
              · rw [HS.out]
                show World.ownsRow _ _ _ _ _ _ _
                rw [List.length_append]
                unfold valsN
                rw [List.map_append]
                exact HO'.out
              · exact HPA.out.trans' HD'.out (fun x hx hh => by have := (HO.out.lt x hh.symm).1; omega)
            case measure => simp [intOf]; omega
      · obtain rfl : k = L.n := by omega
        obtain ⟨q', c', rfl, hrn, -⟩ := rowN_own HO.out
        have HRN := Lib.hid hrn
        clear hrn
        go_wp2
        refine bodyPost_ret (v := .tuple #[.slice q' (L.idleL L.n).length c', .int .i64 0]) (by simp [results, Tryd.results40, go_sem]) rfl ⟨⟨q', c', by rw [HE.out, HC.out], ?_⟩, HP3.out.trans HP.out⟩
        rw [HE.out]; exact HRN.out
  · have hb : (c != 0) = true := by simpa using h0
    have HE : Hid (L.idleE = []) := if_neg (by rw [HC.out]; exact h0)
    go_wp2
    refine bodyPost_ret (v := .tuple #[.slice none 0 0, .int .i64 c]) (by simp [results, Tryd.results40, go_sem]) rfl ⟨⟨none, 0, by rw [HE.out, HC.out]; rfl, ?_⟩, HP1.out⟩
    rw [HE.out]
    exact fun k hk => by simp at hk
end Go.Proofs.YtgpfmnjianflaaaDoor
