/- What rounds computes, as mathematics: it finds a round just if no numbers keep the net's bounds, and all that it finds prove it. No condition. The net of a book: what is bound to what. No condition. -/
import Derived.Test.YtmedkmbfggphdaaDoorM08
import Derived.Test.YtmedkmbfggphdaaDoorM10
set_option linter.unusedSimpArgs false
set_option linter.unusedVariables false
set_option linter.constructorNameAsVariable false
namespace Go.Proofs.YtmedkmbfggphdaaDoor

theorem boundO_find (es : List ME) (a b : Int) : boundO es a b = (es.find? (fun e => e.is a b)).map (·.v) := by
  unfold boundO
  rw [← findM_find a b es 0]
  cases findM a b es 0 <;> rfl
theorem boundO_keep {es : List ME} {x : Nat → Int} (h : Keep es x) {a b v : Int} (hb : boundO es a b = some v) : x b.toNat - x a.toNat ≤ v := by
  rw [boundO_find] at hb
  obtain ⟨e, he, rfl⟩ := Option.map_eq_some_iff.1 hb
  have h1 := h e (List.mem_of_find?_eq_some he)
  have h2 := List.find?_some he
  simp only [ME.is, Bool.and_eq_true, beq_iff_eq] at h2
  rw [← h2.1, ← h2.2] at h1
  exact h1

/-! Numbers that keep a net, out of its tightest bounds. -/
def potTo (T : Nat → Bd) (b : Nat) : Nat → Int
  | 0 => (T (ix b b)).by'
  | n + 1 => if (T (ix n b)).known = true ∧ (T (ix n b)).by' < potTo T b n then (T (ix n b)).by' else potTo T b n
theorem potTo_le (T : Nat → Bd) (b : Nat) : ∀ n a, a < n → (T (ix a b)).known = true → potTo T b n ≤ (T (ix a b)).by'
  | 0, a, h, _ => by omega
  | n + 1, a, h, hk => by
    unfold potTo
    by_cases e : a = n
    · subst e
      split
      · exact Int.le_refl _
      · rename_i h2
        exact Int.not_lt.1 (fun h3 => h2 ⟨hk, h3⟩)
    · have := potTo_le T b n a (by omega) hk
      split
      · rename_i h2; have := h2.2; omega
      · exact this
theorem potTo_is {T : Nat → Bd} {b : Nat} (hb : b < 19) (hk : (T (ix b b)).known = true) : ∀ n, n ≤ 19 → ∃ a, a < 19 ∧ (T (ix a b)).known = true ∧ potTo T b n = (T (ix a b)).by'
  | 0, _ => ⟨b, hb, hk, rfl⟩
  | n + 1, hn => by
    unfold potTo
    split
    · rename_i h; exact ⟨n, by omega, h.1, rfl⟩
    · exact potTo_is hb hk n (by omega)
theorem Tight.pot {es : List ME} {T : Nat → Bd} (h : Tight es T) {clock : Nat} (hg : GoodM es clock) : Keep es (fun b => potTo T b 19) := by
  intro e he
  obtain ⟨a1, a2, a3, a4, -⟩ := hg.small e he
  obtain ⟨h1, h2⟩ := h.net e he
  have hf : e.f.toNat < 19 := by omega
  have ht : e.t.toNat < 19 := by omega
  obtain ⟨a, ha, hk, hp⟩ := potTo_is hf (h.d0 _ hf).1 19 (Nat.le_refl _)
  have hn : ((T (ix a e.f.toNat)).next (T (ix e.f.toNat e.t.toNat))).known = true := Bd.next_known.2 ⟨hk, h1⟩
  have h3 := h.tri e.f.toNat a e.t.toNat hf ha ht hn
  have h4 := potTo_le T e.t.toNat 19 a ha h3.1
  have h5 := h3.2
  rw [Bd.next_by hn] at h5
  show potTo T e.t.toNat 19 - potTo T e.f.toNat 19 ≤ e.v
  omega
theorem noneB_iff {es : List ME} {clock : Nat} (hg : GoodM es clock) (hl : Loose es) : noneB es = false ↔ ∃ x, Keep es x :=
  ⟨fun h => ⟨_, (tight_of hg hl h).pot hg⟩, fun ⟨_, h⟩ => keep_some hg hl h⟩

/-- A round that proves leaves no numbers. -/
theorem keep_round {es : List ME} {x : Nat → Int} (h : Keep es x) (f : Nat → Int) (n : Nat) (hn : 1 ≤ n) (hj : joinsTo es f n n = true) : 0 ≤ sumTo es f n n := by
  have hb : ∀ i, i < n → x (f ((i + 1) % n)).toNat - x (f i).toNat ≤ (boundO es (f i) (f ((i + 1) % n))).getD 0 := by
    intro i hi
    have := List.all_eq_true.1 hj i (by simpa using hi)
    obtain ⟨v, hv⟩ := Option.isSome_iff_exists.1 this
    rw [hv]
    exact boundO_keep h hv
  have hs : ∀ i, i < n → x (f i).toNat - x (f 0).toNat ≤ sumTo es f n i := by
    intro i
    induction i with
    | zero => intro _; simp [sumTo]
    | succ i ih =>
      intro hi
      have h1 := ih (by omega)
      have h2 := hb i (by omega)
      rw [Nat.mod_eq_of_lt hi] at h2
      have : sumTo es f n (i + 1) = sumTo es f n i + (boundO es (f i) (f (i + 1))).getD 0 := by
        show _ + (boundO es (f i) (f ((i + 1) % n))).getD 0 = _
        rw [Nat.mod_eq_of_lt hi]
      omega
  obtain ⟨m, rfl⟩ : ∃ m, n = m + 1 := ⟨n - 1, by omega⟩
  have h1 := hs m (by omega)
  have h2 := hb m (by omega)
  have : sumTo es f (m + 1) (m + 1) = sumTo es f (m + 1) m + (boundO es (f m) (f ((m + 1) % (m + 1)))).getD 0 := rfl
  rw [Nat.mod_self] at h2 this
  omega

/-! The model. -/
structure RS where
  sums : Nat → Int
  ways : Nat → List Int
  marks : Nat → Bool
  found : List (List Int)
def nthI (l : List Int) (k : Nat) : Int := l.getD k 0
def RS.step (s : RS) (x : Bn) : RS :=
  if s.sums x.t.toNat ≤ s.sums x.f.toNat + x.by' then s else
  match idxTo (nthI (s.ways x.f.toNat)) x.t (s.ways x.f.toNat).length with
  | some i => { s with found := s.found ++ [(s.ways x.f.toNat).drop i] }
  | none => { sums := fun k => if k = x.t.toNat then s.sums x.f.toNat + x.by' else s.sums k, ways := fun k => if k = x.t.toNat then s.ways x.f.toNat ++ [x.t] else s.ways k,
              marks := fun k => if k = x.t.toNat then true else s.marks k, found := s.found }
def RS.to (E : Nat → Bn) (s : RS) : Nat → RS
  | 0 => s
  | i + 1 => (RS.to E s i).step (E i)
def RS.clr (s : RS) : RS := { s with marks := fun _ => false }
def RS.any (s : RS) (N : Nat) : Bool := (List.range N).any s.marks
def RS.start : RS := ⟨fun _ => 0, fun k => [(k : Int)], fun _ => false, []⟩
def passR (E : Nat → Bn) (M N : Nat) : Nat → RS × Bool
  | 0 => (RS.start, false)
  | k + 1 => if (passR E M N k).2 then passR E M N k else ((passR E M N k).1.clr.to E M, !((passR E M N k).1.clr.to E M).any N)
theorem passR_succ (E : Nat → Bn) (M N k : Nat) : passR E M N (k + 1) = if (passR E M N k).2 then passR E M N k else ((passR E M N k).1.clr.to E M, !((passR E M N k).1.clr.to E M).any N) := rfl
def foundR (E : Nat → Bn) (M N : Nat) : List (List Int) := (passR E M N N).1.found

theorem passR_stop {E : Nat → Bn} {M N : Nat} {k : Nat} (h : (passR E M N k).2 = true) : ∀ m, k ≤ m → passR E M N m = passR E M N k
  | 0, hm => by obtain rfl : k = 0 := by omega
                rfl
  | m + 1, hm => by
    by_cases e : k = m + 1
    · subst e; rfl
    · have h1 := passR_stop h m (by omega)
      have h2 : passR E M N (m + 1) = if (passR E M N m).2 then passR E M N m else ((passR E M N m).1.clr.to E M, !((passR E M N m).1.clr.to E M).any N) := rfl
      rw [h2, h1, h, if_pos rfl]

/-- The bounds are those of the net. -/
structure NetOf (E : Nat → Bn) (M N : Nat) (es : List ME) : Prop where
  f0 : ∀ i, i < M → 0 ≤ (E i).f ∧ (E i).f < N
  t0 : ∀ i, i < M → 0 ≤ (E i).t ∧ (E i).t < N
  bnd : ∀ i, i < M → boundO es (E i).f (E i).t = some (E i).by'
  all : ∀ e ∈ es, ∃ i, i < M ∧ e.f = (E i).f ∧ e.t = (E i).t ∧ e.v = (E i).by'
  sm : ∀ i, i < M → -1000 ≤ (E i).by' ∧ (E i).by' ≤ 1000

def wtL (es : List ME) (l : List Int) : Nat → Int
  | 0 => 0
  | i + 1 => wtL es l i + (boundO es (nthI l i) (nthI l (i + 1))).getD 0
theorem nthI_append {l : List Int} {k : Nat} (h : k < l.length) (m : List Int) : nthI (l ++ m) k = nthI l k := by
  unfold nthI
  rw [List.getD_eq_getElem?_getD, List.getElem?_append_left h, ← List.getD_eq_getElem?_getD]
theorem nthI_last (l : List Int) (x : Int) : nthI (l ++ [x]) l.length = x := by
  unfold nthI
  simp [List.getD_eq_getElem?_getD]
theorem wtL_append {es : List ME} {l : List Int} (m : List Int) : ∀ i, i < l.length → wtL es (l ++ m) i = wtL es l i
  | 0, _ => rfl
  | i + 1, h => by
    unfold wtL
    rw [wtL_append m i (by omega), nthI_append (by omega), nthI_append h]
theorem nthI_drop (l : List Int) (i k : Nat) : nthI (l.drop i) k = nthI l (i + k) := by
  unfold nthI
  rw [List.getD_eq_getElem?_getD, List.getElem?_drop, ← List.getD_eq_getElem?_getD]

/-- A way: to k, of different names below N, bound to one another. -/
structure WayOk (es : List ME) (N : Nat) (l : List Int) (k : Nat) : Prop where
  pos : 1 ≤ l.length
  lst : nthI l (l.length - 1) = k
  rng : ∀ j, j < l.length → 0 ≤ nthI l j ∧ nthI l j < N
  dif : ∀ i j, i < j → j < l.length → nthI l i ≠ nthI l j
  bnd : ∀ j, j + 1 < l.length → (boundO es (nthI l j) (nthI l (j + 1))).isSome = true
/-- A round that proves. -/
structure RoundOk (es : List ME) (N : Nat) (l : List Int) : Prop where
  pos : 1 ≤ l.length
  dif : diffTo N (nthI l) l.length = true
  bnd : joinsTo es (nthI l) l.length l.length = true
  neg : sumTo es (nthI l) l.length l.length < 0

theorem diffTo_of {N : Nat} {l : List Int} (h1 : ∀ j, j < l.length → 0 ≤ nthI l j ∧ nthI l j < N) (h2 : ∀ i j, i < j → j < l.length → nthI l i ≠ nthI l j) : diffTo N (nthI l) l.length = true := by
  refine List.all_eq_true.2 (fun k hk => ?_)
  have hk' : k < l.length := by simpa using hk
  obtain ⟨a, b⟩ := h1 k hk'
  have : ((List.range k).any fun j => nthI l j == nthI l k) = false := by
    rw [List.any_eq_false]
    intro j hj
    have hj' : j < k := by simpa using hj
    simpa using h2 j k hj' hk'
  simp [dOk, a, b, this]

/-- All that the model keeps. -/
structure RInv (es : List ME) (N : Nat) (s : RS) : Prop where
  way : ∀ k, k < N → WayOk es N (s.ways k) k
  low : ∀ k, k < N → ∀ j, j < (s.ways k).length → s.sums (nthI (s.ways k) j).toNat + (wtL es (s.ways k) ((s.ways k).length - 1) - wtL es (s.ways k) j) ≤ s.sums k
  fnd : ∀ r ∈ s.found, RoundOk es N r

theorem idxTo_none {f : Nat → Int} {x : Int} {n : Nat} (h : idxTo f x n = none) : ∀ k, k < n → f k ≠ x := by
  intro k hk e
  have := List.find?_eq_none.1 h k (by simpa using hk)
  simp [e] at this
theorem idxTo_some {f : Nat → Int} {x : Int} {n i : Nat} (h : idxTo f x n = some i) : i < n ∧ f i = x := by
  have h1 := List.mem_of_find?_eq_some h
  have h2 := List.find?_some h
  simp at h1 h2
  exact ⟨h1, h2.symm⟩

theorem RInv.start {es : List ME} {N : Nat} : RInv es N RS.start := by
  refine ⟨fun k hk => ⟨by simp [RS.start], by simp [RS.start, nthI], fun j hj => ?_, fun i j hij hj => ?_, fun j hj => ?_⟩, fun k hk j hj => ?_, fun r hr => by cases hr⟩
  · have : j = 0 := by simp [RS.start] at hj; omega
    subst this; simp [RS.start, nthI]; omega
  · simp [RS.start] at hj; omega
  · simp [RS.start] at hj
  · have : j = 0 := by simp [RS.start] at hj; omega
    subst this; simp [RS.start, wtL]
theorem RInv.clr {es : List ME} {N : Nat} {s : RS} (h : RInv es N s) : RInv es N s.clr := ⟨h.way, h.low, h.fnd⟩

theorem sumTo_drop {es : List ME} {l : List Int} {i : Nat} (hi : i < l.length) : ∀ m, m < (l.drop i).length → sumTo es (nthI (l.drop i)) (l.drop i).length m = wtL es l (i + m) - wtL es l i
  | 0, _ => by simp [sumTo]
  | m + 1, hm => by
    unfold sumTo
    rw [sumTo_drop hi m (by omega), Nat.mod_eq_of_lt hm, nthI_drop, nthI_drop]
    have h2 : wtL es l (i + (m + 1)) = wtL es l (i + m) + (boundO es (nthI l (i + m)) (nthI l (i + (m + 1)))).getD 0 := rfl
    rw [h2]
    omega

theorem RInv.step {E : Nat → Bn} {M N : Nat} {es : List ME} (hE : NetOf E M N es) {s : RS} (h : RInv es N s) (q : Nat) (hq : q < M) : RInv es N (s.step (E q)) := by
  obtain ⟨f1, f2⟩ := hE.f0 q hq
  obtain ⟨t1, t2⟩ := hE.t0 q hq
  have hb := hE.bnd q hq
  obtain ⟨x, hx⟩ : ∃ x, E q = x := ⟨_, rfl⟩
  rw [hx] at f1 f2 t1 t2 hb ⊢
  have hfN : x.f.toNat < N := by omega
  have htN : x.t.toNat < N := by omega
  have hw := h.way _ hfN
  have hlo := h.low _ hfN
  unfold RS.step
  by_cases hle : s.sums x.t.toNat ≤ s.sums x.f.toNat + x.by'
  · rw [if_pos hle]; exact h
  · rw [if_neg hle]
    obtain ⟨l, hl⟩ : ∃ l, s.ways x.f.toNat = l := ⟨_, rfl⟩
    rw [hl] at hw hlo ⊢
    have hlast : nthI l (l.length - 1) = x.f := by rw [hw.lst]; omega
    cases hi : idxTo (nthI l) x.t l.length with
    | some i =>
      obtain ⟨i1, i2⟩ := idxTo_some hi
      refine ⟨h.way, h.low, fun r hr => ?_⟩
      rcases List.mem_append.1 hr with hr | hr
      · exact h.fnd r hr
      · simp only [List.mem_cons, List.mem_nil_iff, or_false] at hr
        subst hr
        have hlen : (l.drop i).length = l.length - i := List.length_drop
        obtain ⟨m, hm⟩ : ∃ m, (l.drop i).length = m + 1 := ⟨l.length - i - 1, by omega⟩
        have hedge : boundO es (nthI (l.drop i) m) (nthI (l.drop i) ((m + 1) % (m + 1))) = some x.by' := by
          rw [Nat.mod_self, nthI_drop, nthI_drop, show i + m = l.length - 1 by omega, hlast, Nat.add_zero, i2]; exact hb
        refine ⟨by omega, diffTo_of (fun j hj => by rw [nthI_drop]; exact hw.rng _ (by omega)) (fun a c hac hc => by rw [nthI_drop, nthI_drop]; exact hw.dif _ _ (by omega) (by omega)), ?_, ?_⟩
        · refine List.all_eq_true.2 (fun j hj => ?_)
          have hj' : j < (l.drop i).length := by simpa using hj
          by_cases hjm : j = m
          · subst hjm; rw [hm, hedge]; rfl
          · rw [Nat.mod_eq_of_lt (by omega), nthI_drop, nthI_drop]
            exact hw.bnd (i + j) (by omega)
        · have hs := sumTo_drop (es := es) i1 m (by omega)
          rw [hm] at hs ⊢
          unfold sumTo
          rw [hs, hedge]
          have := hlo i i1
          rw [i2] at this
          rw [show i + m = l.length - 1 by omega]
          simp only [Option.getD_some]
          omega
    | none =>
      have hno := idxTo_none hi
      have hft : x.f.toNat ≠ x.t.toNat := fun e => hno (l.length - 1) (by have := hw.pos; omega) (by rw [hlast]; omega)
      have hpos := hw.pos
      have hlen : (l ++ [x.t]).length = l.length + 1 := by simp
      have hwt : wtL es (l ++ [x.t]) l.length = wtL es l (l.length - 1) + x.by' := by
        obtain ⟨m, hm⟩ : ∃ m, l.length = m + 1 := ⟨l.length - 1, by omega⟩
        have e1 : nthI (l ++ [x.t]) (m + 1) = x.t := by rw [← hm]; exact nthI_last _ _
        have e2 : nthI l m = x.f := by rw [show m = l.length - 1 by omega]; exact hlast
        rw [hm, Nat.add_sub_cancel]
        have e3 : wtL es (l ++ [x.t]) (m + 1) = wtL es (l ++ [x.t]) m + (boundO es (nthI (l ++ [x.t]) m) (nthI (l ++ [x.t]) (m + 1))).getD 0 := rfl
        rw [e3, wtL_append _ m (by omega), nthI_append (by omega), e1, e2, hb]
        rfl
      refine ⟨fun k hk => ?_, fun k hk j hj => ?_, h.fnd⟩
      · show WayOk es N (if k = x.t.toNat then l ++ [x.t] else s.ways k) k
        by_cases e : k = x.t.toNat
        · rw [if_pos e]
          refine ⟨by omega, by rw [hlen, Nat.add_sub_cancel, nthI_last]; omega, fun j hj => ?_, fun i j hij hj => ?_, fun j hj => ?_⟩
          · by_cases e2 : j = l.length
            · subst e2; rw [nthI_last]; exact ⟨t1, t2⟩
            · rw [nthI_append (by omega)]; exact hw.rng j (by omega)
          · rw [nthI_append (k := i) (by omega)]
            by_cases e2 : j = l.length
            · subst e2; rw [nthI_last]; exact hno i (by omega)
            · rw [nthI_append (by omega)]; exact hw.dif i j hij (by omega)
          · rw [nthI_append (k := j) (by omega)]
            by_cases e2 : j + 1 = l.length
            · rw [e2, nthI_last, show j = l.length - 1 by omega, hlast, hb]; rfl
            · rw [nthI_append (by omega)]; exact hw.bnd j (by omega)
        · rw [if_neg e]; exact h.way k hk
      · show (if (nthI (if k = x.t.toNat then l ++ [x.t] else s.ways k) j).toNat = x.t.toNat then s.sums x.f.toNat + x.by' else s.sums (nthI (if k = x.t.toNat then l ++ [x.t] else s.ways k) j).toNat) +
            (wtL es (if k = x.t.toNat then l ++ [x.t] else s.ways k) ((if k = x.t.toNat then l ++ [x.t] else s.ways k).length - 1) - wtL es (if k = x.t.toNat then l ++ [x.t] else s.ways k) j) ≤
            (if k = x.t.toNat then s.sums x.f.toNat + x.by' else s.sums k)
        have hj' : j < (if k = x.t.toNat then l ++ [x.t] else s.ways k).length := hj
        by_cases e : k = x.t.toNat
        · simp only [if_pos e] at hj' ⊢
          rw [hlen] at hj' ⊢
          rw [Nat.add_sub_cancel, hwt]
          by_cases e2 : j = l.length
          · subst e2
            rw [nthI_last, if_pos rfl, hwt]; omega
          · have hjl : j < l.length := by omega
            rw [nthI_append hjl, wtL_append _ j hjl]
            have hr := hw.rng j hjl
            rw [if_neg (fun e3 => hno j hjl (by omega))]
            have := hlo j hjl
            omega
        · simp only [if_neg e] at hj' ⊢
          have := h.low k hk j hj'
          split
          · rename_i e3; rw [e3] at this; omega
          · exact this
theorem RInv.to {E : Nat → Bn} {M N : Nat} {es : List ME} (hE : NetOf E M N es) {s : RS} (h : RInv es N s) : ∀ q, q ≤ M → RInv es N (s.to E q)
  | 0, _ => h
  | q + 1, hq => (RInv.to hE h q (by omega)).step hE q (by omega)
theorem RInv.pass {E : Nat → Bn} {M N : Nat} {es : List ME} (hE : NetOf E M N es) : ∀ k, RInv es N (passR E M N k).1
  | 0 => RInv.start
  | k + 1 => by
    unfold passR
    split
    · exact RInv.pass hE k
    · exact (RInv.pass hE k).clr.to hE M (Nat.le_refl _)

theorem nodup_length : ∀ (N : Nat) (l : List Int), l.Nodup → (∀ x ∈ l, 0 ≤ x ∧ x < N) → l.length ≤ N
  | 0, l, _, h => by
    cases l with
    | nil => simp
    | cons a l => have := h a (by simp); omega
  | N + 1, l, hn, h => by
    by_cases hm : (N : Int) ∈ l
    · have h1 := nodup_length N (l.erase N) (hn.erase _) (fun x hx => by
        have h2 := (hn.mem_erase_iff).1 hx
        have := h x h2.2
        have := h2.1
        omega)
      rw [List.length_erase_of_mem hm] at h1
      omega
    · have := nodup_length N l hn (fun x hx => by
        have h1 := h x hx
        have : x ≠ N := fun e => hm (e ▸ hx)
        omega)
      omega
theorem WayOk.nodup {es : List ME} {N : Nat} {l : List Int} {k : Nat} (h : WayOk es N l k) : l.Nodup := by
  rw [List.nodup_iff_pairwise_ne, List.pairwise_iff_getElem]
  intro i j hi hj hij
  have := h.dif i j hij hj
  simpa [nthI, List.getD_eq_getElem?_getD, hi, hj] using this
theorem WayOk.mem {es : List ME} {N : Nat} {l : List Int} {k : Nat} (h : WayOk es N l k) : ∀ x ∈ l, 0 ≤ x ∧ x < N := by
  intro x hx
  obtain ⟨j, hj, rfl⟩ := List.mem_iff_getElem.1 hx
  have := h.rng j hj
  simpa [nthI, List.getD_eq_getElem?_getD, hj] using this
theorem WayOk.len {es : List ME} {N : Nat} {l : List Int} {k : Nat} (h : WayOk es N l k) : l.length ≤ N := nodup_length N l h.nodup h.mem

/-! If nothing is found there are numbers that keep the net. -/
def Short (E : Nat → Bn) (s : RS) (j n : Nat) : Prop := s.sums (E j).t.toNat ≤ s.sums (E j).f.toNat + (E j).by' ∨ n ≤ (s.ways (E j).f.toNat).length
structure Pas (E : Nat → Bn) (M N n i : Nat) (s : RS) : Prop where
  old : ∀ j, j < i → Short E s j (n + 1)
  new : ∀ j, i ≤ j → j < M → Short E s j n
  mrk : ∀ k, s.marks k = true → n + 1 ≤ (s.ways k).length
theorem Pas.step {E : Nat → Bn} {M N n i : Nat} {es : List ME} (hE : NetOf E M N es) {s : RS} (h : Pas E M N n i s) (hr : RInv es N s) (hi : i < M) (hf : (s.step (E i)).found = s.found) : Pas E M N n (i + 1) (s.step (E i)) := by
  obtain ⟨f1, f2⟩ := hE.f0 i hi
  obtain ⟨t1, t2⟩ := hE.t0 i hi
  have hw := hr.way (E i).f.toNat (by omega)
  have hnew := h.new i (Nat.le_refl _) hi
  revert hf
  unfold RS.step
  by_cases hle : s.sums (E i).t.toNat ≤ s.sums (E i).f.toNat + (E i).by'
  · rw [if_pos hle]
    intro _
    refine ⟨fun j hj => ?_, fun j h1 h2 => h.new j (by omega) h2, h.mrk⟩
    by_cases e : j = i
    · subst e; exact .inl hle
    · exact h.old j (by omega)
  · rw [if_neg hle]
    have hn : n ≤ (s.ways (E i).f.toNat).length := by
      rcases hnew with h1 | h1
      · exact absurd h1 hle
      · exact h1
    cases hx : idxTo (nthI (s.ways (E i).f.toNat)) (E i).t (s.ways (E i).f.toNat).length with
    | some k =>
      intro hf
      have := congrArg List.length hf
      simp at this
    | none =>
      intro _
      have hno := idxTo_none hx
      have hlast : nthI (s.ways (E i).f.toNat) ((s.ways (E i).f.toNat).length - 1) = (E i).f := by rw [hw.lst]; omega
      have hft : (E i).f.toNat ≠ (E i).t.toNat := fun e => hno ((s.ways (E i).f.toNat).length - 1) (by have := hw.pos; omega) (by rw [hlast]; omega)
      have key : ∀ j m, m ≤ n + 1 → Short E s j m → Short E { sums := fun k => if k = (E i).t.toNat then s.sums (E i).f.toNat + (E i).by' else s.sums k, ways := fun k => if k = (E i).t.toNat then s.ways (E i).f.toNat ++ [(E i).t] else s.ways k, marks := fun k => if k = (E i).t.toNat then true else s.marks k, found := s.found } j m := by
        intro j m hm hs
        by_cases e1 : (E j).f.toNat = (E i).t.toNat
        · right
          show m ≤ (if (E j).f.toNat = (E i).t.toNat then s.ways (E i).f.toNat ++ [(E i).t] else s.ways (E j).f.toNat).length
          rw [if_pos e1]; simp; omega
        · rcases hs with h1 | h1
          · left
            show (if (E j).t.toNat = (E i).t.toNat then s.sums (E i).f.toNat + (E i).by' else s.sums (E j).t.toNat) ≤ (if (E j).f.toNat = (E i).t.toNat then s.sums (E i).f.toNat + (E i).by' else s.sums (E j).f.toNat) + (E j).by'
            rw [if_neg e1]
            split
            · rename_i e2; rw [e2] at h1; omega
            · exact h1
          · right
            show m ≤ (if (E j).f.toNat = (E i).t.toNat then s.ways (E i).f.toNat ++ [(E i).t] else s.ways (E j).f.toNat).length
            rw [if_neg e1]; exact h1
      refine ⟨fun j hj => ?_, fun j h1 h2 => key j n (by omega) (h.new j (by omega) h2), fun k hk => ?_⟩
      · by_cases e : j = i
        · subst e
          left
          show (if (E j).t.toNat = (E j).t.toNat then s.sums (E j).f.toNat + (E j).by' else s.sums (E j).t.toNat) ≤ (if (E j).f.toNat = (E j).t.toNat then s.sums (E j).f.toNat + (E j).by' else s.sums (E j).f.toNat) + (E j).by'
          rw [if_pos rfl, if_neg hft]; exact Int.le_refl _
        · exact key j (n + 1) (Nat.le_refl _) (h.old j (by omega))
      · show n + 1 ≤ (if k = (E i).t.toNat then s.ways (E i).f.toNat ++ [(E i).t] else s.ways k).length
        have hk' : (if k = (E i).t.toNat then true else s.marks k) = true := hk
        split
        · simp; omega
        · rename_i e; rw [if_neg e] at hk'; exact h.mrk k hk'
theorem step_found (s : RS) (x : Bn) : ∃ m, (s.step x).found = s.found ++ m := by
  unfold RS.step
  split
  · exact ⟨[], by simp⟩
  · split
    · exact ⟨_, rfl⟩
    · exact ⟨[], by simp⟩
theorem to_found (E : Nat → Bn) (s : RS) : ∀ i, ∃ m, (s.to E i).found = s.found ++ m
  | 0 => ⟨[], by simp [RS.to]⟩
  | i + 1 => by
    obtain ⟨m, hm⟩ := to_found E s i
    obtain ⟨m', hm'⟩ := step_found (s.to E i) (E i)
    exact ⟨m ++ m', by show ((s.to E i).step (E i)).found = _; rw [hm', hm, List.append_assoc]⟩
theorem Pas.to {E : Nat → Bn} {M N n : Nat} {es : List ME} (hE : NetOf E M N es) {s : RS} (h : Pas E M N n 0 s) (hr : RInv es N s) : ∀ i, i ≤ M → (s.to E i).found = [] → Pas E M N n i (s.to E i)
  | 0, _, _ => h
  | i + 1, hi, hf => by
    obtain ⟨m, hm⟩ := step_found (s.to E i) (E i)
    have hf' : ((s.to E i).step (E i)).found = [] := hf
    rw [hm] at hf'
    have h0 := (List.append_eq_nil_iff.1 hf').1
    exact (Pas.to hE h hr i (by omega) h0).step hE (hr.to hE i (by omega)) (by omega) (by rw [hm, (List.append_eq_nil_iff.1 hf').2, List.append_nil])
theorem pass_found (E : Nat → Bn) (M N : Nat) (k : Nat) : ∃ m, (passR E M N (k + 1)).1.found = (passR E M N k).1.found ++ m := by
  rw [passR_succ]
  split
  · exact ⟨[], by simp⟩
  · exact to_found E (passR E M N k).1.clr M
theorem pass_empty {E : Nat → Bn} {M N : Nat} (h : foundR E M N = []) : ∀ j, j ≤ N → (passR E M N (N - j)).1.found = []
  | 0, _ => h
  | j + 1, hj => by
    obtain ⟨m, hm⟩ := pass_found E M N (N - (j + 1))
    rw [show N - (j + 1) + 1 = N - j by omega, pass_empty h j (by omega)] at hm
    exact (List.append_eq_nil_iff.1 hm.symm).1
/-- A pass without marks leaves numbers that keep the net. -/
theorem quiet_step {s : RS} {x : Bn} (hf : (s.step x).found = s.found) (hm : (s.step x).marks x.t.toNat = false) : s.step x = s ∧ s.sums x.t.toNat ≤ s.sums x.f.toNat + x.by' := by
  revert hf hm
  unfold RS.step
  by_cases hle : s.sums x.t.toNat ≤ s.sums x.f.toNat + x.by'
  · rw [if_pos hle]; exact fun _ _ => ⟨rfl, hle⟩
  · rw [if_neg hle]
    split
    · intro hf; have := congrArg List.length hf; simp at this
    · intro _ hm; simp at hm
theorem marks_mono (s : RS) (x : Bn) (k : Nat) (h : s.marks k = true) : (s.step x).marks k = true := by
  unfold RS.step
  split
  · exact h
  · split
    · exact h
    · show (if k = x.t.toNat then true else s.marks k) = true
      split
      · rfl
      · exact h
theorem quiet_to {E : Nat → Bn} {M N : Nat} {es : List ME} (hE : NetOf E M N es) {s : RS} : ∀ i, i ≤ M → (s.to E i).found = [] → (∀ k, k < N → (s.to E i).marks k = false) → s.to E i = s ∧ ∀ j, j < i → s.sums (E j).t.toNat ≤ s.sums (E j).f.toNat + (E j).by'
  | 0, _, _, _ => ⟨rfl, fun j hj => by omega⟩
  | i + 1, hi, hf, hm => by
    have hf' : ((s.to E i).step (E i)).found = [] := hf
    obtain ⟨m, hms⟩ := step_found (s.to E i) (E i)
    rw [hms] at hf'
    have h0 := (List.append_eq_nil_iff.1 hf').1
    have ht := hE.t0 i (by omega)
    have hm0 : ∀ k, k < N → (s.to E i).marks k = false := fun k hk => by
      cases hx : (s.to E i).marks k with
      | false => rfl
      | true => have := marks_mono _ (E i) k hx; rw [show (s.to E i).step (E i) = s.to E (i + 1) from rfl, hm k hk] at this; cases this
    obtain ⟨h1, h2⟩ := quiet_to hE i (by omega) h0 hm0
    obtain ⟨h3, h4⟩ := quiet_step (s := s.to E i) (x := E i) (by rw [hms, (List.append_eq_nil_iff.1 hf').2, List.append_nil]) (hm _ (by omega))
    refine ⟨(show s.to E (i + 1) = (s.to E i).step (E i) from rfl).trans (h3.trans h1), fun j hj => ?_⟩
    by_cases e : j = i
    · subst e; rw [h1] at h4; exact h4
    · exact h2 j (by omega)

theorem found_keep {E : Nat → Bn} {M N : Nat} {es : List ME} (hE : NetOf E M N es) (h : foundR E M N = []) : ∃ x, Keep es x := by
  have hemp : ∀ k, k ≤ N → (passR E M N k).1.found = [] := fun k hk => by
    have := pass_empty h (N - k) (by omega)
    rwa [show N - (N - k) = k by omega] at this
  -- either some pass was quiet, or the ways have grown too long
  have main : ∀ k, k ≤ N → (∃ x, Keep es x) ∨ ((passR E M N k).2 = false ∧ (∀ j, j < M → Short E (passR E M N k).1 j (k + 1)) ∧ (1 ≤ k → ∃ a, a < N ∧ k + 1 ≤ ((passR E M N k).1.ways a).length)) := by
    intro k
    induction k with
    | zero => exact fun _ => .inr ⟨rfl, fun j hj => .inr (by simp [passR, RS.start]), fun h => by omega⟩
    | succ k ih =>
      intro hk
      rcases ih (by omega) with hx | ⟨h1, h2, -⟩
      · exact .inl hx
      · have hp : passR E M N (k + 1) = ((passR E M N k).1.clr.to E M, !((passR E M N k).1.clr.to E M).any N) := by
          conv => lhs; unfold passR
          rw [h1]; rfl
        have hfe := hemp (k + 1) hk
        rw [hp] at hfe ⊢
        have hri := (RInv.pass (N := N) hE k).clr
        have hpas := Pas.to (n := k + 1) hE (s := (passR E M N k).1.clr) ⟨fun j hj => by omega, fun j _ hj => h2 j hj, fun a ha => by cases ha⟩ hri M (Nat.le_refl _) hfe
        cases hany : ((passR E M N k).1.clr.to E M).any N with
        | false =>
          left
          have hm : ∀ a, a < N → ((passR E M N k).1.clr.to E M).marks a = false := fun a ha => by
            have := List.any_eq_false.1 hany a (by simpa using ha)
            simpa using this
          obtain ⟨-, h4⟩ := quiet_to hE M (Nat.le_refl _) hfe hm
          refine ⟨(passR E M N k).1.clr.sums, fun e he => ?_⟩
          obtain ⟨i, hi, e1, e2, e3⟩ := hE.all e he
          have := h4 i hi
          rw [e1, e2, e3]; omega
        | true =>
          right
          refine ⟨rfl, fun j hj => hpas.old j hj, fun _ => ?_⟩
          obtain ⟨a, ha, hma⟩ := List.any_eq_true.1 hany
          exact ⟨a, by simpa using ha, hpas.mrk a hma⟩
  rcases main N (Nat.le_refl _) with hx | ⟨-, -, h3⟩
  · exact hx
  · by_cases hN : N = 0
    · subst hN
      refine ⟨fun _ => 0, fun e he => ?_⟩
      obtain ⟨i, hi, -⟩ := hE.all e he
      have := hE.f0 i hi
      omega
    · obtain ⟨a, ha, hl⟩ := h3 (by omega)
      have := ((RInv.pass (N := N) hE N).way a ha).len
      omega
/-- What rounds finds. -/
theorem foundR_ok {E : Nat → Bn} {M N : Nat} {es : List ME} (hE : NetOf E M N es) : ∀ r ∈ foundR E M N, RoundOk es N r := (RInv.pass hE N).fnd
theorem foundR_iff {E : Nat → Bn} {M N : Nat} {es : List ME} {clock : Nat} (hE : NetOf E M N es) (hg : GoodM es clock) (hl : Loose es) : foundR E M N = [] ↔ noneB es = false := by
  constructor
  · exact fun h => (noneB_iff hg hl).2 (found_keep hE h)
  · intro h
    obtain ⟨x, hx⟩ := (noneB_iff hg hl).1 h
    cases hf : foundR E M N with
    | nil => rfl
    | cons r rs =>
      have := foundR_ok hE r (by rw [hf]; simp)
      have h1 := keep_round hx (nthI r) r.length this.pos this.bnd
      have := this.neg
      omega
end Go.Proofs.YtmedkmbfggphdaaDoor

namespace Go.Proofs.YtmedkmbfggphdaaDoor

theorem BK.rg_a (b : BK) (L q : Nat) (hL : b.lots = L) : b.rg (L + 2 * q) = if (b.at' q).1 then ⟨0, 1 + L + q, 0, 0⟩ else ⟨L + q, 1 + L + q, b.lo, b.hi⟩ := by
  unfold BK.rg
  have h1 : b.lots.toNat = L := by omega
  rw [h1, if_neg (by omega)]
  have h2 : (L + 2 * q - L) / 2 = q := by omega
  have h3 : (L + 2 * q - L) % 2 = 0 := by omega
  simp only [h2, h3, if_true, hL]
theorem BK.rg_b (b : BK) (L q : Nat) (hL : b.lots = L) : b.rg (L + 2 * q + 1) = ⟨1 + L + q, 1 + (b.at' q).2.lot, (b.at' q).2.lo, (b.at' q).2.hi⟩ := by
  unfold BK.rg
  have h1 : b.lots.toNat = L := by omega
  rw [h1, if_neg (by omega)]
  have h2 : (L + 2 * q + 1 - L) / 2 = q := by omega
  have h3 : ¬ (L + 2 * q + 1 - L) % 2 = 0 := by omega
  simp only [h2, h3, if_false, hL]
theorem BK.rgN_eq (b : BK) (L : Nat) (hL : b.lots = L) : b.rgN = L + 2 * b.total := by unfold BK.rgN; rw [hL]; simp
theorem BK.fst_zero (b : BK) (hv : b.Valid) (h : 0 < b.total) : (b.at' 0).1 = true := by
  obtain ⟨s, j, hs, hj, he⟩ := b.split b.n 0 h
  have h1 := b.at_eq s j hs hj
  rw [← he] at h1
  rw [h1]
  have : j = 0 := by omega
  subst this; rfl

/-- How a pair can be bound: by index. -/
theorem BK.pairs (b : BK) (L : Nat) (hL : b.lots = L) (i : Nat) (hi : i < b.rgN) : (i < L) ∨ (∃ q, q < b.total ∧ i = L + 2 * q) ∨ (∃ q, q < b.total ∧ i = L + 2 * q + 1) := by
  rw [b.rgN_eq L hL] at hi
  by_cases h : i < L
  · exact .inl h
  · by_cases h2 : (i - L) % 2 = 0
    · exact .inr (.inl ⟨(i - L) / 2, by omega, by omega⟩)
    · exact .inr (.inr ⟨(i - L) / 2, by omega, by omega⟩)

theorem BK.bound_iff (b : BK) (hv : b.Valid) (a c v : Int) : boundO b.es a c = some v ↔ ∃ i, i < b.bnN ∧ (b.bn i).f = a ∧ (b.bn i).t = c ∧ (b.bn i).by' = v := by
  rw [boundO_find]
  constructor
  · intro h
    obtain ⟨e, he, rfl⟩ := Option.map_eq_some_iff.1 h
    have h1 := List.mem_of_find?_eq_some he
    have h2 := List.find?_some he
    simp only [ME.is, Bool.and_eq_true, beq_iff_eq] at h2
    simp only [BK.es, BK.netM, List.mem_map, List.mem_range] at h1
    obtain ⟨i, hi, rfl⟩ := h1
    exact ⟨i, hi, h2.1.symm, h2.2.symm, rfl⟩
  · rintro ⟨i, hi, rfl, rfl, rfl⟩
    have hm : (⟨(b.bn i).f, (b.bn i).t, (b.bn i).by', i⟩ : ME) ∈ b.es := by
      simp only [BK.es, BK.netM, List.mem_map, List.mem_range]
      exact ⟨i, hi, rfl⟩
    cases hf : b.es.find? (fun e => e.is (b.bn i).f (b.bn i).t) with
    | none =>
      have := List.find?_eq_none.1 hf _ hm
      simp [ME.is] at this
    | some e' =>
      have h2 := List.find?_some hf
      simp only [ME.is, Bool.and_eq_true, beq_iff_eq] at h2
      rw [(b.netM_good hv).keys e' (List.mem_of_find?_eq_some hf) _ hm h2.1.symm h2.2.symm]
      rfl

/-- The bound from one name to another one, as the definition says it; a taste, but, is not looked at. -/
def BK.bd (b : BK) (but a c : Int) : Option Int :=
  if a = 0 ∧ 1 ≤ c ∧ c ≤ b.lots then some 1000 else
  if c = 0 ∧ 1 ≤ a ∧ a ≤ b.lots then some 0 else
  if (a = 0 ∧ 0 ≤ c - b.lots - 1) ∨ (c = 0 ∧ 0 ≤ a - b.lots - 1) then (if (b.at' (max (a - b.lots - 1) (c - b.lots - 1)).toNat).1 = true then some 0 else none) else
  if 0 ≤ a - b.lots - 1 ∧ c - b.lots - 1 = a - b.lots - 1 + 1 ∧ (b.at' (c - b.lots - 1).toNat).1 = false then some b.hi else
  if 0 ≤ c - b.lots - 1 ∧ a - b.lots - 1 = c - b.lots - 1 + 1 ∧ (b.at' (a - b.lots - 1).toNat).1 = false then some (-b.lo) else
  if 0 ≤ a - b.lots - 1 ∧ a - b.lots - 1 ≠ but ∧ 1 ≤ c ∧ c ≤ b.lots ∧ (b.at' (a - b.lots - 1).toNat).2.lot = c - 1 then some (b.at' (a - b.lots - 1).toNat).2.hi else
  if 0 ≤ c - b.lots - 1 ∧ c - b.lots - 1 ≠ but ∧ 1 ≤ a ∧ a ≤ b.lots ∧ (b.at' (c - b.lots - 1).toNat).2.lot = a - 1 then some (-(b.at' (c - b.lots - 1).toNat).2.lo) else none

theorem BK.bd_of (b : BK) (hv : b.Valid) (i : Nat) (hi : i < b.bnN) : b.bd (-1) (b.bn i).f (b.bn i).t = some (b.bn i).by' := by
  obtain ⟨L, hL⟩ : ∃ L : Nat, b.lots = L := ⟨b.lots.toNat, by have := hv.lots1; omega⟩
  have hL1 := hv.lots1
  unfold BK.bnN at hi
  have hk := b.pairs L hL (i / 2) (by omega)
  unfold BK.bn
  rcases hk with h | ⟨q, hq, h⟩ | ⟨q, hq, h⟩
  · rw [b.rg_lot L (i / 2) hL h]
    by_cases h2 : i % 2 = 0
    · simp only [if_pos h2]
      unfold BK.bd
      rw [if_pos (by omega)]
    · simp only [if_neg h2]
      unfold BK.bd
      rw [if_neg (by omega), if_pos (by omega)]
      rfl
  · rw [h, b.rg_a L q hL]
    cases hf : (b.at' q).1 with
    | true =>
      have e1 : (max ((0:Int) - b.lots - 1) (1 + (L:Int) + q - b.lots - 1)).toNat = q := by omega
      have e2 : (max (1 + (L:Int) + q - b.lots - 1) ((0:Int) - b.lots - 1)).toNat = q := by omega
      by_cases h2 : i % 2 = 0
      · simp only [if_pos h2, if_true]
        unfold BK.bd
        rw [if_neg (by omega), if_neg (by omega), if_pos (by omega), e1, hf]
        rfl
      · simp only [if_neg h2, if_true]
        unfold BK.bd
        rw [if_neg (by omega), if_neg (by omega), if_pos (by omega), e2, hf]
        rfl
    | false =>
      have hq0 : q ≠ 0 := fun e => by subst e; rw [b.fst_zero hv (by omega)] at hf; cases hf
      have e1 : (1 + (L:Int) + q - b.lots - 1).toNat = q := by omega
      by_cases h2 : i % 2 = 0
      · simp only [if_pos h2, Bool.false_eq_true, if_false]
        unfold BK.bd
        rw [if_neg (by omega), if_neg (by omega), if_neg (by omega), if_pos ⟨by omega, by omega, by rw [e1]; exact hf⟩]
      · simp only [if_neg h2, Bool.false_eq_true, if_false]
        unfold BK.bd
        rw [if_neg (by omega), if_neg (by omega), if_neg (by omega), if_neg (by omega), if_pos ⟨by omega, by omega, by rw [e1]; exact hf⟩]
  · rw [h, b.rg_b L q hL]
    have hok := b.at_ok hv q
    have h0 := hok.lot0
    have h1 := hok.lot1
    have e1 : (1 + (L:Int) + q - b.lots - 1).toNat = q := by omega
    by_cases h2 : i % 2 = 0
    · simp only [if_pos h2]
      unfold BK.bd
      rw [if_neg (by omega), if_neg (by omega), if_neg (by omega), if_neg (by omega), if_neg (by omega), if_pos ⟨by omega, by omega, by omega, by omega, by rw [e1]; omega⟩, e1]
    · simp only [if_neg h2]
      unfold BK.bd
      rw [if_neg (by omega), if_neg (by omega), if_neg (by omega), if_neg (by omega), if_neg (by omega), if_neg (by omega), if_pos ⟨by omega, by omega, by omega, by omega, by rw [e1]; omega⟩, e1]

theorem BK.of_bd (b : BK) (hv : b.Valid) (a c v : Int) (ha : 0 ≤ a) (ha2 : a < 1 + b.lots + b.total) (hc : 0 ≤ c) (hc2 : c < 1 + b.lots + b.total) (h : b.bd (-1) a c = some v) : ∃ i, i < b.bnN ∧ (b.bn i).f = a ∧ (b.bn i).t = c ∧ (b.bn i).by' = v := by
  obtain ⟨L, hL⟩ : ∃ L : Nat, b.lots = L := ⟨b.lots.toNat, by have := hv.lots1; omega⟩
  have hL1 := hv.lots1
  have hN := b.rgN_eq L hL
  have mk : ∀ k, k < b.rgN → ((b.rg k).f = a → (b.rg k).t = c → (b.rg k).hi = v → ∃ i, i < b.bnN ∧ (b.bn i).f = a ∧ (b.bn i).t = c ∧ (b.bn i).by' = v) ∧
      ((b.rg k).t = a → (b.rg k).f = c → -(b.rg k).lo = v → ∃ i, i < b.bnN ∧ (b.bn i).f = a ∧ (b.bn i).t = c ∧ (b.bn i).by' = v) := fun k hk =>
    ⟨fun h1 h2 h3 => ⟨2 * k, by unfold BK.bnN; omega, by rw [b.bn_even]; exact h1, by rw [b.bn_even]; exact h2, by rw [b.bn_even]; exact h3⟩,
     fun h1 h2 h3 => ⟨2 * k + 1, by unfold BK.bnN; omega, by rw [b.bn_odd]; exact h1, by rw [b.bn_odd]; exact h2, by rw [b.bn_odd]; exact h3⟩⟩
  unfold BK.bd at h
  split at h
  · rename_i g
    cases h
    have hr := b.rg_lot L (c - 1).toNat hL (by omega)
    exact (mk (c - 1).toNat (by omega)).1 (by rw [hr]; exact g.1.symm) (by rw [hr]; show (1 : Int) + ((c - 1).toNat : Nat) = c; omega) (by rw [hr])
  split at h
  · rename_i g
    cases h
    have hr := b.rg_lot L (a - 1).toNat hL (by omega)
    exact (mk (a - 1).toNat (by omega)).2 (by rw [hr]; show (1 : Int) + ((a - 1).toNat : Nat) = a; omega) (by rw [hr]; exact g.1.symm) (by rw [hr]; rfl)
  split at h
  · rename_i g
    split at h
    · rename_i g2
      cases h
      rcases g with ⟨g0, g1⟩ | ⟨g0, g1⟩
      · have e1 : (max (a - b.lots - 1) (c - b.lots - 1)).toNat = (c - b.lots - 1).toNat := by omega
        rw [e1] at g2
        have hr := b.rg_a L (c - b.lots - 1).toNat hL
        rw [g2, if_pos rfl] at hr
        exact (mk (L + 2 * (c - b.lots - 1).toNat) (by omega)).1 (by rw [hr]; exact g0.symm) (by rw [hr]; show (1 : Int) + L + ((c - b.lots - 1).toNat : Nat) = c; omega) (by rw [hr])
      · have e1 : (max (a - b.lots - 1) (c - b.lots - 1)).toNat = (a - b.lots - 1).toNat := by omega
        rw [e1] at g2
        have hr := b.rg_a L (a - b.lots - 1).toNat hL
        rw [g2, if_pos rfl] at hr
        exact (mk (L + 2 * (a - b.lots - 1).toNat) (by omega)).2 (by rw [hr]; show (1 : Int) + L + ((a - b.lots - 1).toNat : Nat) = a; omega) (by rw [hr]; exact g0.symm) (by rw [hr]; rfl)
    · cases h
  split at h
  · rename_i g
    cases h
    have hr := b.rg_a L (c - b.lots - 1).toNat hL
    rw [g.2.2] at hr
    simp only [Bool.false_eq_true, if_false] at hr
    exact (mk (L + 2 * (c - b.lots - 1).toNat) (by omega)).1 (by rw [hr]; show (L : Int) + ((c - b.lots - 1).toNat : Nat) = a; omega) (by rw [hr]; show (1 : Int) + L + ((c - b.lots - 1).toNat : Nat) = c; omega) (by rw [hr])
  split at h
  · rename_i g
    cases h
    have hr := b.rg_a L (a - b.lots - 1).toNat hL
    rw [g.2.2] at hr
    simp only [Bool.false_eq_true, if_false] at hr
    exact (mk (L + 2 * (a - b.lots - 1).toNat) (by omega)).2 (by rw [hr]; show (1 : Int) + L + ((a - b.lots - 1).toNat : Nat) = a; omega) (by rw [hr]; show (L : Int) + ((a - b.lots - 1).toNat : Nat) = c; omega) (by rw [hr])
  split at h
  · rename_i g
    cases h
    have hr := b.rg_b L (a - b.lots - 1).toNat hL
    exact (mk (L + 2 * (a - b.lots - 1).toNat + 1) (by omega)).1 (by rw [hr]; show (1 : Int) + L + ((a - b.lots - 1).toNat : Nat) = a; omega) (by rw [hr]; show 1 + (b.at' (a - b.lots - 1).toNat).2.lot = c; omega) (by rw [hr])
  split at h
  · rename_i g
    cases h
    have hr := b.rg_b L (c - b.lots - 1).toNat hL
    exact (mk (L + 2 * (c - b.lots - 1).toNat + 1) (by omega)).2 (by rw [hr]; show 1 + (b.at' (c - b.lots - 1).toNat).2.lot = a; omega) (by rw [hr]; show (1 : Int) + L + ((c - b.lots - 1).toNat : Nat) = c; omega) (by rw [hr])
  · cases h

/-- The net says what the definition says. -/
theorem BK.bound_eq (b : BK) (hv : b.Valid) (a c : Int) (ha : 0 ≤ a) (ha2 : a < 1 + b.lots + b.total) (hc : 0 ≤ c) (hc2 : c < 1 + b.lots + b.total) : boundO b.es a c = b.bd (-1) a c := by
  cases h : b.bd (-1) a c with
  | some v => exact (b.bound_iff hv a c v).2 (b.of_bd hv a c v ha ha2 hc hc2 h)
  | none =>
    cases h2 : boundO b.es a c with
    | none => rfl
    | some v =>
      obtain ⟨i, hi, rfl, rfl, rfl⟩ := (b.bound_iff hv a c v).1 h2
      rw [b.bd_of hv i hi] at h; cases h

theorem BK.bn_lt (b : BK) (hv : b.Valid) (i : Nat) (hi : i < b.bnN) : 0 ≤ (b.bn i).f ∧ (b.bn i).f < 1 + b.lots + b.total ∧ 0 ≤ (b.bn i).t ∧ (b.bn i).t < 1 + b.lots + b.total ∧ (b.bn i).f ≠ (b.bn i).t := by
  obtain ⟨L, hL⟩ : ∃ L : Nat, b.lots = L := ⟨b.lots.toNat, by have := hv.lots1; omega⟩
  unfold BK.bnN at hi
  have ki := b.rg_kind hv L hL (i / 2) (by omega)
  unfold BK.bn
  rcases ki with ⟨a1, a2, a3⟩ | ⟨q, a1, a2, a3, a4⟩ | ⟨q, a1, a2, a3, a4, a5⟩ <;> simp only <;> split <;> simp only <;> omega
theorem BK.netOf (b : BK) (hv : b.Valid) (N : Nat) (hN : (N : Int) = 1 + b.lots + b.total) : NetOf b.bn b.bnN N b.es := by
  refine ⟨fun i hi => ?_, fun i hi => ?_, fun i hi => ?_, fun e he => ?_, fun i hi => b.bn_by hv i⟩
  · have := b.bn_lt hv i hi; omega
  · have := b.bn_lt hv i hi; omega
  · exact (b.bound_iff hv _ _ _).2 ⟨i, hi, rfl, rfl, rfl⟩
  · simp only [BK.es, BK.netM, List.mem_map, List.mem_range] at he
    obtain ⟨i, hi, rfl⟩ := he
    exact ⟨i, hi, rfl, rfl, rfl⟩
theorem BK.loose (b : BK) (hv : b.Valid) : Loose b.es := by
  intro e he
  simp only [BK.es, BK.netM, List.mem_map, List.mem_range] at he
  obtain ⟨i, hi, rfl⟩ := he
  exact (b.bn_lt hv i hi).2.2.2.2

/-! A net without some of its bounds. -/
theorem boundO_delM {es : List ME} {clock : Nat} (hg : GoodM es clock) (f t a c : Int) : boundO (delM f t es) a c = if a = f ∧ c = t then none else boundO es a c := by
  have key : ∀ v, boundO (delM f t es) a c = some v ↔ (if a = f ∧ c = t then none else boundO es a c) = some v := by
    intro v
    have hmem : ∀ (l : List ME), l.Sublist es → (boundO l a c = some v ↔ ∃ e ∈ l, e.f = a ∧ e.t = c ∧ e.v = v) := by
      intro l hl
      rw [boundO_find]
      constructor
      · intro h
        obtain ⟨e, he, rfl⟩ := Option.map_eq_some_iff.1 h
        have h2 := List.find?_some he
        simp only [ME.is, Bool.and_eq_true, beq_iff_eq] at h2
        exact ⟨e, List.mem_of_find?_eq_some he, h2.1.symm, h2.2.symm, rfl⟩
      · rintro ⟨e, he, rfl, rfl, rfl⟩
        cases hf : l.find? (fun x => x.is e.f e.t) with
        | none => have := List.find?_eq_none.1 hf e he; simp [ME.is] at this
        | some e' =>
          have h2 := List.find?_some hf
          simp only [ME.is, Bool.and_eq_true, beq_iff_eq] at h2
          rw [hg.keys e' (hl.subset (List.mem_of_find?_eq_some hf)) e (hl.subset he) h2.1.symm h2.2.symm]
          rfl
    rw [hmem _ (delM_sub f t es)]
    by_cases h : a = f ∧ c = t
    · rw [if_pos h]
      constructor
      · rintro ⟨e, he, h1, h2, h3⟩
        exfalso
        unfold delM at he
        have hfm := findM_find f t es 0
        cases hf : findM f t es 0 with
        | none =>
          rw [hf] at hfm he
          have := List.find?_eq_none.1 hfm.symm e he
          simp only [ME.is, Bool.and_eq_true, beq_iff_eq] at this
          exact this ⟨by omega, by omega⟩
        | some x =>
          rw [hf] at he
          obtain ⟨i, e0⟩ := x
          have hget : ∀ (l : List ME) (k : Nat) (r : Nat × ME), findM f t l k = some r → ∃ j, r.1 = k + j ∧ l[j]? = some r.2 ∧ r.2.is f t = true := by
            intro l
            induction l with
            | nil => intro k r h; cases h
            | cons y l ih =>
              intro k r h
              unfold findM at h
              split at h
              · rename_i hy; cases h; exact ⟨0, rfl, rfl, hy⟩
              · obtain ⟨j, h1, h2, h3⟩ := ih (k + 1) r h
                exact ⟨j + 1, by omega, by simpa using h2, h3⟩
          obtain ⟨j, hj1, hj2, hj3⟩ := hget es 0 _ hf
          have hj : i = j := by simpa using hj1
          subst hj
          simp only [ME.is, Bool.and_eq_true, beq_iff_eq] at hj3
          have he0 : e0 ∈ es := List.mem_of_getElem? hj2
          have hee : e = e0 := hg.keys e ((List.eraseIdx_sublist es i).subset he) e0 he0 (by omega) (by omega)
          subst hee
          have he' : e ∈ es.eraseIdx i := he
          obtain ⟨m, hm2⟩ := List.mem_iff_getElem?.1 he'
          have hnd := hg.nd
          rw [List.nodup_iff_pairwise_ne, List.pairwise_iff_getElem] at hnd
          rw [List.getElem?_eraseIdx] at hm2
          have hil : i < es.length := (List.getElem?_eq_some_iff.1 hj2).1
          split at hm2
          · rename_i hlt
            have hml : m < es.length := by omega
            have := hnd m i (by simpa using hml) (by simpa using hil) hlt
            rw [List.getElem?_eq_getElem hml] at hm2
            rw [List.getElem?_eq_getElem hil] at hj2
            simp only [List.getElem_map] at this
            exact this (by rw [Option.some.inj hm2, Option.some.inj hj2])
          · have hml := (List.getElem?_eq_some_iff.1 hm2).1
            have := hnd i (m + 1) (by simpa using hil) (by simpa using hml) (by omega)
            rw [List.getElem?_eq_getElem hml] at hm2
            rw [List.getElem?_eq_getElem hil] at hj2
            simp only [List.getElem_map] at this
            exact this (by rw [Option.some.inj hm2, Option.some.inj hj2])
      · intro h; cases h
    · rw [if_neg h, hmem es (List.Sublist.refl _)]
      constructor
      · rintro ⟨e, he, h1⟩
        exact ⟨e, (delM_sub f t es).subset he, h1⟩
      · rintro ⟨e, he, h1, h2, h3⟩
        refine ⟨e, ?_, h1, h2, h3⟩
        unfold delM
        cases hf : findM f t es 0 with
        | none => exact he
        | some x =>
          obtain ⟨i, e0⟩ := x
          have hget : ∀ (l : List ME) (k : Nat) (r : Nat × ME), findM f t l k = some r → ∃ j, r.1 = k + j ∧ l[j]? = some r.2 ∧ r.2.is f t = true := by
            intro l
            induction l with
            | nil => intro k r h; cases h
            | cons y l ih =>
              intro k r h
              unfold findM at h
              split at h
              · rename_i hy; cases h; exact ⟨0, rfl, rfl, hy⟩
              · obtain ⟨j, h1, h2, h3⟩ := ih (k + 1) r h
                exact ⟨j + 1, by omega, by simpa using h2, h3⟩
          obtain ⟨j, hj1, hj2, hj3⟩ := hget es 0 _ hf
          have hj : i = j := by simpa using hj1
          subst hj
          simp only [ME.is, Bool.and_eq_true, beq_iff_eq] at hj3
          obtain ⟨m, hm⟩ := List.mem_iff_getElem?.1 he
          rw [List.mem_iff_getElem?]
          have hmi : m ≠ i := fun hmi => by
            rw [hmi] at hm
            have hee : e = e0 := Option.some.inj (hm.symm.trans hj2)
            rw [← hee] at hj3
            exact h ⟨by omega, by omega⟩
          by_cases hlt : m < i
          · exact ⟨m, by show (es.eraseIdx i)[m]? = _; rw [List.getElem?_eraseIdx, if_pos hlt]; exact hm⟩
          · exact ⟨m - 1, by show (es.eraseIdx i)[m - 1]? = _; rw [List.getElem?_eraseIdx, if_neg (by omega), show m - 1 + 1 = m by omega]; exact hm⟩
  cases h1 : boundO (delM f t es) a c with
  | some v => exact ((key v).1 h1).symm
  | none =>
    cases h2 : (if a = f ∧ c = t then none else boundO es a c) with
    | none => rfl
    | some v => have := (key v).2 h2; rw [h1] at this; cases this

theorem boundO_cutM {es : List ME} {clock : Nat} (hg : GoodM es clock) (L q : Nat) (a c : Int) : ∀ i : Nat, i ≤ L →
    boundO (cutM L q es i) a c = if (a = 1 + L + q ∧ 1 ≤ c ∧ c ≤ i) ∨ (c = 1 + L + q ∧ 1 ≤ a ∧ a ≤ i) then none else boundO es a c
  | 0, _ => by rw [if_neg (by omega)]; rfl
  | i + 1, hi => by
    have hgi := hg.sub (cutM_sub L q es i)
    unfold cutM
    rw [boundO_delM (hgi.sub (delM_sub _ _ _)), boundO_delM hgi, boundO_cutM hg L q a c i (by omega)]
    by_cases h1 : (a = 1 + (L:Int) + q ∧ 1 ≤ c ∧ c ≤ (i + 1 : Nat)) ∨ (c = 1 + (L:Int) + q ∧ 1 ≤ a ∧ a ≤ (i + 1 : Nat))
    · rw [if_pos h1]
      by_cases h2 : a = ((1 + i : Nat) : Int) ∧ c = ((1 + L + q : Nat) : Int)
      · rw [if_pos h2]
      · rw [if_neg h2]
        by_cases h3 : a = ((1 + L + q : Nat) : Int) ∧ c = ((1 + i : Nat) : Int)
        · rw [if_pos h3]
        · rw [if_neg h3, if_pos (by omega)]
    · rw [if_neg h1, if_neg (by omega), if_neg (by omega), if_neg (by omega)]
/-- The net without a taste's Said. -/
theorem BK.cut_eq (b : BK) (hv : b.Valid) (L q : Nat) (hL : b.lots = L) (hq : q < b.total) (a c : Int) (ha : 0 ≤ a) (ha2 : a < 1 + b.lots + b.total) (hc : 0 ≤ c) (hc2 : c < 1 + b.lots + b.total) :
    boundO (cutM L q b.es L) a c = b.bd q a c := by
  rw [boundO_cutM (es := b.es) (b.netM_good hv) L q a c L (Nat.le_refl _)]
  rw [b.bound_eq hv a c ha ha2 hc hc2]
  have hL1 := hv.lots1
  by_cases h1 : (a = 1 + (L:Int) + q ∧ 1 ≤ c ∧ c ≤ L) ∨ (c = 1 + (L:Int) + q ∧ 1 ≤ a ∧ a ≤ L)
  · rw [if_pos h1]
    unfold BK.bd
    rw [if_neg (by omega), if_neg (by omega), if_neg (by omega), if_neg (by omega), if_neg (by omega), if_neg (by omega), if_neg (by omega)]
  · rw [if_neg h1]
    unfold BK.bd
    by_cases g1 : a = 0 ∧ 1 ≤ c ∧ c ≤ b.lots
    · rw [if_pos g1, if_pos g1]
    rw [if_neg g1, if_neg g1]
    by_cases g2 : c = 0 ∧ 1 ≤ a ∧ a ≤ b.lots
    · rw [if_pos g2, if_pos g2]
    rw [if_neg g2, if_neg g2]
    split
    · rfl
    split
    · rfl
    split
    · rfl
    have e1 : (0 ≤ a - b.lots - 1 ∧ a - b.lots - 1 ≠ -1 ∧ 1 ≤ c ∧ c ≤ b.lots ∧ (b.at' (a - b.lots - 1).toNat).2.lot = c - 1) ↔ (0 ≤ a - b.lots - 1 ∧ a - b.lots - 1 ≠ q ∧ 1 ≤ c ∧ c ≤ b.lots ∧ (b.at' (a - b.lots - 1).toNat).2.lot = c - 1) := by
      constructor
      · rintro ⟨x1, x2, x3, x4, x5⟩; exact ⟨x1, by omega, x3, x4, x5⟩
      · rintro ⟨x1, x2, x3, x4, x5⟩; exact ⟨x1, by omega, x3, x4, x5⟩
    have e2 : (0 ≤ c - b.lots - 1 ∧ c - b.lots - 1 ≠ -1 ∧ 1 ≤ a ∧ a ≤ b.lots ∧ (b.at' (c - b.lots - 1).toNat).2.lot = a - 1) ↔ (0 ≤ c - b.lots - 1 ∧ c - b.lots - 1 ≠ q ∧ 1 ≤ a ∧ a ≤ b.lots ∧ (b.at' (c - b.lots - 1).toNat).2.lot = a - 1) := by
      constructor
      · rintro ⟨x1, x2, x3, x4, x5⟩; exact ⟨x1, by omega, x3, x4, x5⟩
      · rintro ⟨x1, x2, x3, x4, x5⟩; exact ⟨x1, by omega, x3, x4, x5⟩
    simp only [e1, e2]
end Go.Proofs.YtmedkmbfggphdaaDoor
