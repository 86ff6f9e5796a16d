/- The reference joins bounds in place: it gets what tighten gets, or a name that is below itself. No condition. The walk of taken. The walk of best, with proof as its worth. What rounds keeps in memory. No condition. -/
import Derived.Test.YtmedkmbfggphdaaDoorM11
import Derived.Test.YtmedkmbfggphdaaDoorM10
import Derived.Laws.CopyOwn
set_option linter.unusedSimpArgs false
set_option linter.unusedVariables false
set_option linter.constructorNameAsVariable false
namespace Go.Proofs.YtmedkmbfggphdaaDoor

def farI : Int := 1099511627776
def jset (R : Nat → Nat → Int) (i k : Nat) (v : Int) : Nat → Nat → Int := fun a c => if a = i ∧ c = k then v else R a c
def jstep (R : Nat → Nat → Int) (m i k : Nat) : Nat → Nat → Int := if R i m < farI ∧ R m k < farI then jset R i k (max (-farI) (min (R i k) (R i m + R m k))) else R
def jk (R : Nat → Nat → Int) (m i : Nat) : Nat → Nat → Nat → Int
  | 0 => R
  | k + 1 => jstep (jk R m i k) m i k
def ji (R : Nat → Nat → Int) (m n : Nat) : Nat → Nat → Nat → Int
  | 0 => R
  | i + 1 => jk (ji R m n i) m i n
def jm (R : Nat → Nat → Int) (n : Nat) : Nat → Nat → Nat → Int
  | 0 => R
  | m + 1 => ji (jm R n m) m n n
/-- The bounds as the reference begins with them. -/
def j0 (B : Nat → Nat → Option Int) : Nat → Nat → Int := fun i k => if i = k then 0 else (B i k).getD farI
/-- No name is below itself. -/
def canJ (R : Nat → Nat → Int) (n : Nat) : Bool := (List.range n).all fun i => decide (0 ≤ R i i)

/-! Numbers stay within farI. -/
def JIn (R : Nat → Nat → Int) : Prop := ∀ a c, -farI ≤ R a c ∧ R a c ≤ farI
theorem JIn.step {R : Nat → Nat → Int} (h : JIn R) (m i k : Nat) : JIn (jstep R m i k) := by
  unfold jstep
  split
  · intro a c
    unfold jset
    split
    · have := h i k; simp only [farI] at *; omega
    · exact h a c
  · exact h
theorem JIn.k {R : Nat → Nat → Int} (h : JIn R) (m i : Nat) : ∀ k, JIn (jk R m i k)
  | 0 => h
  | k + 1 => (JIn.k h m i k).step m i k
theorem JIn.i {R : Nat → Nat → Int} (h : JIn R) (m n : Nat) : ∀ i, JIn (ji R m n i)
  | 0 => h
  | i + 1 => (JIn.i h m n i).k m i n
theorem JIn.m {R : Nat → Nat → Int} (h : JIn R) (n : Nat) : ∀ m, JIn (jm R n m)
  | 0 => h
  | m + 1 => (JIn.m h n m).i m n n

/-! What is below 0 stays so. -/
theorem jstep_neg {R : Nat → Nat → Int} {a c : Nat} (h : R a c < 0) (m i k : Nat) : jstep R m i k a c < 0 := by
  unfold jstep
  split
  · unfold jset
    split
    · rename_i h1; rw [h1.1, h1.2] at h; simp only [farI]; omega
    · exact h
  · exact h
theorem jk_neg {R : Nat → Nat → Int} {a c : Nat} (h : R a c < 0) (m i : Nat) : ∀ k, jk R m i k a c < 0
  | 0 => h
  | k + 1 => jstep_neg (jk_neg h m i k) m i k
theorem ji_neg {R : Nat → Nat → Int} {a c : Nat} (h : R a c < 0) (m n : Nat) : ∀ i, ji R m n i a c < 0
  | 0 => h
  | i + 1 => jk_neg (ji_neg h m n i) m i n
theorem jm_neg {R : Nat → Nat → Int} {a c n : Nat} {m : Nat} (h : jm R n m a c < 0) : ∀ m', m ≤ m' → jm R n m' a c < 0
  | 0, hm => by obtain rfl : m = 0 := by omega
                exact h
  | m' + 1, hm => by
    by_cases e : m = m' + 1
    · subst e; exact h
    · exact ji_neg (jm_neg h m' (by omega)) m' n n

/-- A number of the reference, and a bound. -/
def relB (x : Int) (b : Bd) : Prop := if b.known = true then x = b.by' else x = farI
def Rel (n : Nat) (R : Nat → Nat → Int) (T : Nat → Bd) : Prop := ∀ a c, a < n → c < n → relB (R a c) (T (ix a c))

theorem rel_phase {n : Nat} (hn : n ≤ 19) {R : Nat → Nat → Int} {T : Nat → Bd} {cap : Int} (h : Rel n R T) (hs : SmallT cap T) (hc : cap ≤ 600000000) {m : Nat} (hm : m < n) (h0 : 0 ≤ (T (ix m m)).by') :
    Rel n (ji R m n n) (phase m T) := by
  have hcol : ∀ a, a < n → phase m T (ix a m) = T (ix a m) := fun a ha => phase_row h0 (ix_mod (by omega))
  have hrow : ∀ c, c < n → phase m T (ix m c) = T (ix m c) := fun c hc => phase_col h0 (by omega) (ix_div (by omega))
  -- the cells ahead of (i, k) are those of the phase, the others those of T
  have hin : ∀ i, i < n → ∀ k, k ≤ n → ∀ R', (∀ a c, a < n → c < n → relB (R' a c) (if a < i then phase m T (ix a c) else T (ix a c))) →
      ∀ a c, a < n → c < n → relB (jk R' m i k a c) (if a < i ∨ (a = i ∧ c < k) then phase m T (ix a c) else T (ix a c)) := by
    intro i hi k
    induction k with
    | zero =>
      intro _ R' hR a c ha hc'
      have := hR a c ha hc'
      by_cases e : a < i
      · rw [if_pos (.inl e)]; rwa [if_pos e] at this
      · rw [if_neg (by omega)]; rwa [if_neg e] at this
    | succ k ih =>
      intro hk R' hR
      have ih := ih (by omega) R' hR
      have rm : relB (jk R' m i k i m) (T (ix i m)) := by
        have := ih i m hi hm
        split at this
        · rwa [hcol i hi] at this
        · exact this
      have rk : relB (jk R' m i k m k) (T (ix m k)) := by
        have := ih m k hm (by omega)
        split at this
        · rwa [hrow k (by omega)] at this
        · exact this
      have rik : relB (jk R' m i k i k) (T (ix i k)) := by
        have := ih i k hi (by omega)
        rwa [if_neg (by omega)] at this
      obtain ⟨Rk, hRk⟩ : ∃ Rk, jk R' m i k = Rk := ⟨_, rfl⟩
      have hsucc : jk R' m i (k + 1) = jstep Rk m i k := by rw [← hRk]; rfl
      rw [hRk] at ih rm rk rik
      rw [hsucc]
      intro a c ha hc'
      have hold := ih a c ha hc'
      have s1 := hs (ix i m)
      have s2 := hs (ix m k)
      have s3 := hs (ix i k)
      have hph := phase_ix m T (a := i) (b := k) (by omega)
      by_cases e : a = i ∧ c = k
      · obtain ⟨rfl, rfl⟩ := e
        rw [if_pos (by omega), hph]
        unfold jstep
        unfold relB at rm rk rik ⊢
        cases k1 : (T (ix a m)).known with
        | false =>
          rw [k1] at rm
          simp only [Bool.false_eq_true, if_false] at rm
          have hno : ¬ (Rk a m < farI ∧ Rk m c < farI) := by rw [rm]; omega
          have ht : (T (ix a c)).tighter ((T (ix a m)).next (T (ix m c))) = T (ix a c) := by unfold Bd.tighter Bd.next; simp [k1]
          rw [if_neg hno, ht]
          exact rik
        | true =>
          cases k2 : (T (ix m c)).known with
          | false =>
            rw [k2] at rk
            simp only [Bool.false_eq_true, if_false] at rk
            have hno : ¬ (Rk a m < farI ∧ Rk m c < farI) := by rw [rk]; omega
            have ht : (T (ix a c)).tighter ((T (ix a m)).next (T (ix m c))) = T (ix a c) := by unfold Bd.tighter Bd.next; simp [k2]
            rw [if_neg hno, ht]
            exact rik
          | true =>
            rw [k1, if_pos rfl] at rm
            rw [k2, if_pos rfl] at rk
            have hyes : Rk a m < farI ∧ Rk m c < farI := by rw [rm, rk]; simp only [farI]; omega
            rw [if_pos hyes]
            have hcell : jset Rk a c (max (-farI) (min (Rk a c) (Rk a m + Rk m c))) a c = max (-farI) (min (Rk a c) (Rk a m + Rk m c)) := by unfold jset; rw [if_pos ⟨rfl, rfl⟩]
            rw [hcell]
            have hnx : (T (ix a m)).next (T (ix m c)) = ⟨(T (ix a m)).by' + (T (ix m c)).by', true⟩ := by unfold Bd.next; simp [k1, k2]
            rw [hnx]
            unfold Bd.tighter
            cases k3 : (T (ix a c)).known with
            | false =>
              rw [k3] at rik
              simp only [Bool.false_eq_true, if_false] at rik
              simp only [Bool.not_false, Bool.true_or, Bool.and_self, if_true]
              rw [rik, rm, rk]
              simp only [farI]; omega
            | true =>
              rw [k3, if_pos rfl] at rik
              by_cases hlt : (T (ix a m)).by' + (T (ix m c)).by' < (T (ix a c)).by'
              · simp only [Bool.not_true, Bool.false_or, Bool.true_and, decide_eq_true hlt, if_true]
                rw [rik, rm, rk]
                simp only [farI]; omega
              · simp only [Bool.not_true, Bool.false_or, Bool.true_and, decide_eq_false hlt, Bool.false_eq_true, if_false, k3, if_true]
                rw [rik, rm, rk]
                simp only [farI]; omega
      · have hc2 : jstep Rk m i k a c = Rk a c := by
          unfold jstep
          split
          · unfold jset; rw [if_neg e]
          · rfl
        rw [hc2]
        have : (a < i ∨ (a = i ∧ c < k + 1)) ↔ (a < i ∨ (a = i ∧ c < k)) := by
          constructor
          · rintro (h | h)
            · exact .inl h
            · exact .inr ⟨h.1, by have := h.2; have : c ≠ k := fun h3 => e ⟨h.1, h3⟩; omega⟩
          · rintro (h | h)
            · exact .inl h
            · exact .inr ⟨h.1, by omega⟩
        simp only [this]
        exact hold
  have hall : ∀ i, i ≤ n → ∀ a c, a < n → c < n → relB (ji R m n i a c) (if a < i then phase m T (ix a c) else T (ix a c)) := by
    intro i
    induction i with
    | zero => intro _ a c ha hc'; rw [if_neg (by omega)]; exact h a c ha hc'
    | succ i ih =>
      intro hi a c ha hc'
      have := hin i (by omega) n (Nat.le_refl _) (ji R m n i) (ih (by omega)) a c ha hc'
      have e : (a < i ∨ (a = i ∧ c < n)) ↔ a < i + 1 := by omega
      simp only [e] at this
      exact this
  intro a c ha hc'
  have := hall n (Nat.le_refl _) a c ha hc'
  rwa [if_pos ha] at this

theorem rel_fw {n : Nat} (hn : n ≤ 19) {R : Nat → Nat → Int} {T : Nat → Bd} (h : Rel n R T) (hs : SmallT 1000 T) : ∀ m T', m ≤ n → fwTo m T = some T' → Rel n (jm R n m) T'
  | 0, T', _, e => by cases e; exact h
  | m + 1, T', hm, e => by
    unfold fwTo at e
    split at e
    · cases e
    · rename_i T'' h2
      split at e
      · cases e
      · rename_i h3
        cases e
        exact rel_phase hn (rel_fw hn h hs m T'' (by omega) h2) (fwTo_small hs m T'' h2) (capN_small (by omega)) (by omega) (by show 0 ≤ (T'' (m * 19 + m)).by'; omega)

/-- The names from n on are bound to nothing. -/
theorem iso_phase {n : Nat} {T : Nat → Bd} (h : ∀ a c, a < 19 → c < 19 → (n ≤ a ∨ n ≤ c) → (a = c → T (ix a c) = ⟨0, true⟩) ∧ (a ≠ c → (T (ix a c)).known = false)) {m : Nat} (hm : m < 19) :
    ∀ a c, a < 19 → c < 19 → (n ≤ a ∨ n ≤ c) → (a = c → phase m T (ix a c) = ⟨0, true⟩) ∧ (a ≠ c → (phase m T (ix a c)).known = false) := by
  intro a c ha hc hac
  have hp := phase_ix m T (a := a) (b := c) hc
  constructor
  · rintro rfl
    rw [hp, (h a a ha ha hac).1 rfl]
    by_cases e : m = a
    · subst e
      rw [(h m m ha ha hac).1 rfl]; rfl
    · have := (h a m ha hm (by omega)).2 (by omega)
      unfold Bd.tighter Bd.next
      simp [this]
  · intro hne
    rw [hp]
    have h1 := (h a c ha hc hac).2 hne
    by_cases e : m = a
    · subst e
      unfold Bd.tighter Bd.next
      simp [h1]
    · by_cases e2 : m = c
      · subst e2
        unfold Bd.tighter Bd.next
        simp [h1]
      · have : (T (ix a m)).known = false ∨ (T (ix m c)).known = false := by
          rcases hac with h2 | h2
          · exact .inl ((h a m ha hm (.inl h2)).2 (by omega))
          · exact .inr ((h m c hm hc (.inr h2)).2 (by omega))
        unfold Bd.tighter Bd.next
        rcases this with h3 | h3 <;> simp [h1, h3]
abbrev IsoT (n : Nat) (T : Nat → Bd) : Prop := ∀ a c, a < 19 → c < 19 → (n ≤ a ∨ n ≤ c) → (a = c → T (ix a c) = ⟨0, true⟩) ∧ (a ≠ c → (T (ix a c)).known = false)
theorem iso_fw {n : Nat} {T : Nat → Bd} (h : IsoT n T) : ∀ m T', m ≤ 19 → fwTo m T = some T' → IsoT n T'
  | 0, T', _, e => by cases e; exact h
  | m + 1, T', hm, e => by
    unfold fwTo at e
    split at e
    · cases e
    · rename_i T'' h2
      split at e
      · cases e
      · cases e
        exact iso_phase (iso_fw h m T'' (by omega) h2) (by omega)
/-- The phases from n on change nothing below n. -/
theorem fw_more {n : Nat} {T T1 : Nat → Bd} (h : IsoT n T) (h1 : fwTo n T = some T1) : ∀ m, n + m ≤ 19 → ∃ T2, fwTo (n + m) T = some T2 ∧ ∀ a c, a < n → c < n → T2 (ix a c) = T1 (ix a c)
  | 0, _ => ⟨T1, h1, fun _ _ _ _ => rfl⟩
  | m + 1, hm => by
    obtain ⟨T2, h2, h3⟩ := fw_more h h1 m (by omega)
    have hi := iso_fw h (n + m) T2 (by omega) h2
    have hd := (hi (n + m) (n + m) (by omega) (by omega) (.inl (by omega))).1 rfl
    refine ⟨phase (n + m) T2, ?_, fun a c ha hc => ?_⟩
    · show fwTo (n + m + 1) T = _
      unfold fwTo
      rw [h2]
      have : (T2 ((n + m) * 19 + (n + m))).by' = 0 := by rw [show (n + m) * 19 + (n + m) = ix (n + m) (n + m) from rfl, hd]
      simp only [this]
      rfl
    · rw [phase_ix (n + m) T2 (by omega), ← h3 a c ha hc]
      have := (hi a (n + m) (by omega) (by omega) (.inr (by omega))).2 (by omega)
      unfold Bd.tighter Bd.next
      simp [this]

theorem fwTo_none' {T : Nat → Bd} {n : Nat} (h : fwTo n T = none) : ∀ m, n ≤ m → fwTo m T = none
  | 0, hm => by obtain rfl : n = 0 := by omega
                exact h
  | m + 1, hm => by
    by_cases e : n = m + 1
    · subst e; exact h
    · unfold fwTo; rw [fwTo_none' h m (by omega)]

/-- The reference's answer, held against tighten's. -/
theorem joined_iff {es : List ME} {clock n : Nat} (hg : GoodM es clock) (hl : Loose es) (hn : n ≤ 19) (hN : ∀ e ∈ es, e.f < n ∧ e.t < n) (B : Nat → Nat → Option Int) (hB : ∀ a c, a < n → c < n → B a c = boundO es a c) :
    canJ (jm (j0 B) n n) n = !(noneB es) ∧ (noneB es = false → Rel n (jm (j0 B) n n) (tightS es)) := by
  have hd : ∀ a c, a < 19 → c < 19 → netT es (ix a c) = match boundO es a c with | some v => ⟨v, true⟩ | none => if a = c then ⟨0, true⟩ else bd0 := fun a c ha hc => by
    rw [netT_ix es hc, boundO_find]
    cases hf : es.find? (fun e => e.is (a : Int) (c : Int)) with
    | none => exact diagT_ix ha hc
    | some e => rfl
  have hno : ∀ a c : Nat, boundO es a c ≠ none → a ≠ c ∧ a < n ∧ c < n := fun a c h => by
    rw [boundO_find] at h
    cases hf : es.find? (fun e => e.is (a : Int) (c : Int)) with
    | none => rw [hf] at h; exact absurd rfl h
    | some e =>
      have h1 := List.mem_of_find?_eq_some hf
      have h2 := List.find?_some hf
      simp only [ME.is, Bool.and_eq_true, beq_iff_eq] at h2
      have h3 := hl e h1
      have h4 := hN e h1
      exact ⟨fun e2 => by subst e2; exact h3 (h2.1.symm.trans h2.2), by omega, by omega⟩
  have hrel : Rel n (j0 B) (netT es) := by
    intro a c ha hc
    rw [hd a c (by omega) (by omega)]
    unfold j0 relB
    rw [hB a c ha hc]
    cases hb : boundO es a c with
    | none =>
      by_cases e : a = c
      · simp [e]
      · simp [e, bd0]
    | some v =>
      have := (hno a c (by rw [hb]; exact fun h => by cases h)).1
      simp [this]
  have hiso : IsoT n (netT es) := by
    intro a c ha hc hac
    rw [hd a c ha hc]
    cases hb : boundO es a c with
    | none => exact ⟨fun e => by simp [e], fun e => by simp [e, bd0]⟩
    | some v =>
      have := hno a c (by rw [hb]; exact fun h => by cases h)
      omega
  have hsm := netT_small es clock hg
  have htri := netT_tri hl
  cases hf : fwTo n (netT es) with
  | none =>
    have hnone : noneB es = true := by unfold noneB; rw [fwTo_none' hf 19 hn]; rfl
    rw [hnone]
    refine ⟨?_, fun h => by cases h⟩
    obtain ⟨m, T', hm, h1, h2⟩ := fwTo_stop n hf
    have hr := rel_fw hn hrel hsm m T' (by omega) h1 m m hm hm
    unfold relB at hr
    rw [(htri.fw m T' (by omega) h1).dk m (by omega), if_pos rfl] at hr
    have hneg := jm_neg (R := j0 B) (n := n) (m := m) (a := m) (c := m) (by omega) n (by omega)
    show canJ _ _ = false
    unfold canJ
    rw [List.all_eq_false]
    exact ⟨m, by simpa using hm, by simp; omega⟩
  | some T1 =>
    obtain ⟨T2, h2, h3⟩ := fw_more hiso hf (19 - n) (by omega)
    rw [show n + (19 - n) = 19 by omega] at h2
    have hnone : noneB es = false := by unfold noneB; rw [h2]; rfl
    have hr := rel_fw hn hrel hsm n T1 (Nat.le_refl _) hf
    have ht := htri.fw n T1 hn hf
    rw [hnone]
    refine ⟨?_, fun _ a c ha hc => ?_⟩
    · show canJ _ _ = true
      unfold canJ
      rw [List.all_eq_true]
      intro i hi
      have hi' : i < n := by simpa using hi
      have := hr i i hi' hi'
      unfold relB at this
      rw [ht.dk i (by omega), if_pos rfl] at this
      rw [this]
      simpa using ht.dn i hi'
    · have : tightS es = T2 := by unfold tightS; rw [h2]; rfl
      rw [this, h3 a c ha hc]
      exact hr a c ha hc
end Go.Proofs.YtmedkmbfggphdaaDoor

namespace Go.Proofs.YtmedkmbfggphdaaDoor
open Go.RowKit

theorem size3 : (Tryd.prog.info? 3).map (·.size) = some 1 := by kernel_rfl
set_option maxRecDepth 20000 in
theorem taken_any (w : World) (qb qo n c : Nat) (xs : List Int) (hn : n ≤ 1000) (hl : xs.length = n) (hqb : qb < w.heap.size) (hr : ∀ k u, xs[k]? = some u → w.cell? ⟨qb, qo + k, none⟩ = some (.int .i64 u)) :
    Calls Tryd.prog 99 #[.slice (some ⟨qb, qo, none⟩) n c] w fun e w' => e = .returned (.slice (some ⟨w.heap.size, 0, none⟩) n n) ∧ w'.heap[w.heap.size]? = some (.cells (vals xs).toArray 3 (0, 0)) ∧ Pure w w' := by
  have hmk := run_make_row' (P := Tryd.prog) 44 3 (.int .i64 0) 8 Tryd.underlying44 info3 rfl .i64 .i64 n (by omega) (by omega)
  have hnew : (w.alloc (.cells (madeCells #[.int .i64 0] n) 3)).heap[w.heap.size]? = some (.cells (madeCells #[.int .i64 0] n) 3 (0, 0)) := World.alloc_heap_new _ _
  have hsz : (madeCells #[.int .i64 0] n).size = n := size_madeCells _ _
  have hd : Pure w (w.alloc (.cells (madeCells #[.int .i64 0] n) 3)) := (Diff.refl w).alloc _
  have hsrc : ∀ (j : Nat) (v : Value), (vals xs)[j]? = some v → (w.alloc (.cells (madeCells #[.int .i64 0] n) 3)).cell? ((⟨qb, qo, none⟩ : Addr).add j) = some v := by
    intro j v hj
    have hadd : (⟨qb, qo, none⟩ : Addr).add j = ⟨qb, qo + j, none⟩ := by unfold Addr.add; split <;> simp_all
    rw [hadd, (pcell hd).1 _ _ hqb]
    simp only [vals, List.getElem?_map, Option.map_eq_some_iff] at hj
    obtain ⟨x, hx, rfl⟩ := hj
    exact hr j x hx
  have hone : ∀ v ∈ vals xs, v.oneCell' = true := by
    intro u hu
    simp only [vals, List.mem_map] at hu
    obtain ⟨x, _, rfl⟩ := hu
    rfl
  have hvl : (vals xs).length = n := by simp [vals, hl]
  have hmin : (vals xs).length = Nat.min n n := hvl.trans (Nat.min_self n).symm
  have hfit : 0 + (vals xs).length ≤ (madeCells #[Value.int .i64 0] n).size := by rw [hsz, hvl]; omega
  go_enter Tryd.func99, Tryd.ntmps99
  go_wp2_with (refine wpList_copy_own rfl _ _ 44 44 rfl 3 Tryd.underlying44 size3 w.heap.size 0 n n ⟨qb, qo, none⟩ n c rfl rfl _ _ hnew (vals xs) hmin hsrc hfit hone ?_)
  refine bodyPost_ret (v := .slice (some ⟨w.heap.size, 0, none⟩) n n) (by simp [results, Tryd.results99, go_sem]) rfl ⟨rfl, ?_, ?_⟩
  · refine (setRow_heap _ _ _ _ _ _ hnew).trans ?_
    have : ((madeCells #[.int .i64 0] n).toList.drop n) = ([] : List Value) := by
      apply List.drop_eq_nil_of_le; rw [Array.length_toList, hsz]; exact Nat.le_refl _
    rw [this, List.append_nil]
  · exact hd.setRow (fun h => absurd h (Nat.lt_irrefl _)) _
end Go.Proofs.YtmedkmbfggphdaaDoor

namespace Go.Proofs.YtmedkmbfggphdaaDoor
open Go.RowKit

/-- The first one of the first k that are worth the most, and its worth. -/
def bestTo (W : Nat → Int) : Nat → Option (Nat × Int)
  | 0 => none
  | k + 1 => match bestTo W k with
    | none => some (k, W k)
    | some (i, m) => if m < W k then some (k, W k) else some (i, m)
def topV (vs : Nat → Value) : Option (Nat × Int) → Value
  | none => .slice none 0 0
  | some (i, _) => vs i
def mostV : Option (Nat × Int) → Int
  | none => 0
  | some (_, m) => m
theorem bestTo_some (W : Nat → Int) : ∀ k, 1 ≤ k → ∃ i m, bestTo W k = some (i, m)
  | k + 1, _ => by
    unfold bestTo
    cases bestTo W k with
    | none => exact ⟨_, _, rfl⟩
    | some x => obtain ⟨i, m⟩ := x
                simp only
                split
                · exact ⟨_, _, rfl⟩
                · exact ⟨_, _, rfl⟩

set_option maxHeartbeats 2000000 in
theorem best_any (w : World) (r clock n c : Nat) (p : Option Addr) (es : List ME) (vs : Nat → Value) (qb qo m cc : Nat → Nat) (f : Nat → Nat → Int) (hgd : GoodM es clock) (hr : w.heap[r]? = some (mapO es clock)) (hn : n ≤ 1000000)
    (hrow : Row w.heap.size w p n vs) (hvs : ∀ k, k < n → vs k = .slice (some ⟨qb k, qo k, none⟩) (m k) (cc k)) (hm : ∀ k, k < n → 1 ≤ m k ∧ m k ≤ 1000) (hqb : ∀ k, k < n → qb k < w.heap.size)
    (hcell : ∀ k, k < n → ∀ j, j < m k → w.cell? ⟨qb k, qo k + j, none⟩ = some (.int .i64 (f k j))) :
    Calls Tryd.prog 83 #[.slice p n c, .func (.func 79) #[.map (some r)] #[]] w fun e w' => e = .returned (topV vs (bestTo (fun k => -(sumTo es (f k) (m k) (m k))) n)) ∧ Pure w w' := by
  obtain ⟨Wf, hWf⟩ : ∃ Wf : Nat → Int, (fun k => -(sumTo es (f k) (m k) (m k))) = Wf := ⟨_, rfl⟩
  have HWF : Hid (∀ k, Wf k = -(sumTo es (f k) (m k) (m k))) := fun k => by rw [← hWf]
  rw [hWf]
  clear hWf
  go_enter Tryd.func83, Tryd.ntmps83
  go_wp2_with fail
  go_loopw [5, 6, 7, 8, 9, 12] (fun t mo _ _ _ i wr => ∃ k : Nat, k ≤ n ∧ i = .int .i64 k ∧ t = topV vs (bestTo Wf k) ∧ mo = .int .i64 (mostV (bestTo Wf k)) ∧ Pure w wr) (fun _ _ _ _ _ i _ => n - (intOf i).toNat)
  case atStart => exact ⟨0, Nat.zero_le _, rfl, rfl, rfl, Diff.refl _⟩
  case round =>
    obtain ⟨k, hk, rfl, rfl, rfl, hpw⟩ := hrel
    by_cases hlt : k < n
    · obtain ⟨blk, o, rfl, hblk, hc0⟩ := hrow k hlt
      have hc := ((pcell hpw).1 _ _ hblk).trans hc0
      rw [hvs k hlt] at hc
      obtain ⟨hm1, hm2⟩ := hm k hlt
      have hpr := proof_any wr r clock (qb k) (qo k) (m k) (cc k) es (f k) hgd hm1 hm2 ((hpw.block _ (Array.getElem?_eq_some_iff.1 hr).1 (fun h => h)).trans hr) (Nat.lt_of_lt_of_le (hqb k hlt) hpw.size) (fun j hj => ((pcell hpw).1 _ _ (hqb k hlt)).trans (hcell k hlt j hj))
      have HPW := Lib.hid hpw
      clear hc0 hpw
      go_wp2_with fail
      refine hpr.mono ?_
      rintro e w2 ⟨rfl, hp2⟩
      have HP2 := Lib.hid (HPW.out.trans hp2)
      rw [← HWF.out k]
      have HV := Lib.hid (hvs k hlt)
      clear hpr hp2 hc
      by_cases hk0 : k = 0
      · subst hk0
        have HB : Hid (bestTo Wf (0 + 1) = some (0, Wf 0)) := rfl
        go_wp2_with fail
        go_roundw
        case rel => exact ⟨0 + 1, by omega, by go_num, by rw [HB.out]; exact HV.out.symm, by rw [HB.out]; rfl, HP2.out⟩
        case measure => simp [intOf]; omega
      · obtain ⟨i0, mm, hbt⟩ := bestTo_some Wf k (by omega)
        have hk0i : ¬ ((k : Int) = 0) := by omega
        rw [hbt]
        simp only [topV, mostV]
        by_cases hgt : mm < Wf k
        · have HB : Hid (bestTo Wf (k + 1) = some (k, Wf k)) := by show _ = _; simp [bestTo, hbt, hgt]
          clear hbt
          go_wp2_with fail
          go_roundw
          case rel => exact ⟨k + 1, by omega, by go_num, by rw [HB.out]; exact HV.out.symm, by rw [HB.out]; rfl, HP2.out⟩
          case measure => simp [intOf]; omega
        · have HB : Hid (bestTo Wf (k + 1) = some (i0, mm)) := by show _ = _; simp [bestTo, hbt, hgt]
          clear hbt
          go_wp2_with fail
          go_roundw
          case rel => exact ⟨k + 1, by omega, by go_num, by rw [HB.out]; rfl, by rw [HB.out]; rfl, HP2.out⟩
          case measure => simp [intOf]; omega
    · obtain rfl : n = k := by omega
      go_wp2_with fail
      exact bodyPost_ret (by simp [results, Tryd.results83, go_sem]) rfl ⟨rfl, hpw⟩
end Go.Proofs.YtmedkmbfggphdaaDoor

namespace Go.Proofs.YtmedkmbfggphdaaDoor
open Go.RowKit

/-- v is a row of the numbers l, that nobody else owns. -/
def OwnO (O : Nat → Prop) (W : World) (B : Nat) (v : Value) (l : List Int) : Prop := W.ownsRow B 3 1 v l.length (vals l) ∧ ∀ g, v.ownBlock = some g → ¬ O g
theorem OwnO.diff {O O' M : Nat → Prop} {W W' : World} {B : Nat} {v : Value} {l : List Int} (h : OwnO O W B v l) (hd : Diff M W W') (hM : ∀ k, M k → B ≤ k → O k) (hO : ∀ k, O' k → O k ∨ W.heap.size ≤ k) : OwnO O' W' B v l := by
  refine ⟨own_block h.1 (fun k hk => hd.block k (h.1.lt k hk).2 (fun hm => h.2 k hk (hM k hm (h.1.lt k hk).1))), fun g hg ho => ?_⟩
  rcases hO g ho with h1 | h1
  · exact h.2 g hg h1
  · have := (h.1.lt g hg).2; omega
theorem OwnO.block {O : Nat → Prop} {W : World} {B : Nat} {v : Value} {l : List Int} (h : OwnO O W B v l) {g : Nat} (hg : v.ownBlock = some g) : ∃ cs, W.heap[g]? = some (.cells cs 3 (0, 0)) := by
  rcases h.1.2 with ⟨rfl, -⟩ | ⟨g', c, cur, rfl, -, h2, -⟩
  · cases hg
  · simp only [Value.ownBlock, Option.some.injEq] at hg
    subst hg
    exact ⟨cur, h2⟩
/-- A store into a block of another kind. -/
theorem OwnO.put {O : Nat → Prop} {W W' : World} {B g t : Nat} {v : Value} {l : List Int} {cs : Array Value} {fr : Nat × Nat} (h : OwnO O W B v l) (hg : W.heap[g]? = some (.cells cs t fr)) (ht : t ≠ 3) (hd : ∀ k, k < W.heap.size → k ≠ g → W'.heap[k]? = W.heap[k]?) : OwnO O W' B v l := by
  refine ⟨own_block h.1 (fun k hk => hd k (h.1.lt k hk).2 (fun he => ?_)), h.2⟩
  obtain ⟨cs', hcs⟩ := h.block hk
  rw [he, hg] at hcs
  simp only [Option.some.injEq, Obj.cells.injEq] at hcs
  exact ht hcs.2.1
theorem OwnO.form {O : Nat → Prop} {W : World} {B : Nat} {v : Value} {l : List Int} (h : OwnO O W B v l) (hl : 1 ≤ l.length) : ∃ g c, v = .slice (some ⟨g, 0, none⟩) l.length c ∧ B ≤ g ∧ g < W.heap.size ∧ l.length ≤ c ∧ ¬ O g ∧ ∀ k u, l[k]? = some u → W.cell? ⟨g, k, none⟩ = some (.int .i64 u) := by
  rcases h.1.2 with ⟨-, h2⟩ | ⟨g, c, cur, rfl, h1, h2, h3, h4, h5, h6⟩
  · omega
  · refine ⟨g, c, rfl, h1, (Array.getElem?_eq_some_iff.1 h2).1, h3, h.2 g rfl, fun k u hk => ?_⟩
    rw [cell_of_row W _ _ _ _ _ h2]
    have hkl := (List.getElem?_eq_some_iff.1 hk).1
    have hv : (vals l)[k]? = some (.int .i64 u) := by simp [vals, hk]
    rw [← h6, List.getElem?_take] at hv
    split at hv
    · simpa using hv
    · cases hv

structure RI (w : World) (tv : Array Value) (s1 N : Nat) (s : RS) (O : Nat → Prop) (W : World) : Prop where
  pw : Pure w W
  bt : W.heap[w.heap.size]? = some (.cells tv 82 (0, 0))
  bS : W.heap[s1 + 1]? = some (.cells #[.slice (some ⟨s1, 0, none⟩) N N] 27 (0, 0))
  rS : W.rowIs s1 2 N (fun k => .int .i64 (s.sums k))
  bW : W.heap[s1 + 3]? = some (.cells #[.slice (some ⟨s1 + 2, 0, none⟩) N N] 101 (0, 0))
  rW : ∃ wv : Nat → Value, W.rowIs (s1 + 2) 44 N wv ∧ ∀ k, k < N → OwnO O W s1 (wv k) (s.ways k)
  bM : W.heap[s1 + N + 5]? = some (.cells #[.slice (some ⟨s1 + N + 4, 0, none⟩) N N] 124 (0, 0))
  rM : W.rowIs (s1 + N + 4) 4 N (fun k => .bool (s.marks k))
  rF : ∃ (u : Value) (vs : List Value), W.heap[s1 + N + 6]? = some (.cells #[u] 101 (0, 0)) ∧ W.ownsRow (s1 + N + 7) 44 1 u s.found.length vs ∧ (∀ g, u.ownBlock = some g → ¬ O g) ∧ ∀ (i : Nat) (v : Value), vs[i]? = some v → ∃ r, s.found[i]? = some r ∧ OwnO O W s1 v r
  off : ∀ g, O g → s1 + N + 7 ≤ g
  base : w.heap.size < s1

theorem RI.to {w : World} {tv : Array Value} {s1 N : Nat} {s : RS} {O O' M : Nat → Prop} {W W' : World} (h : RI w tv s1 N s O W) (hd : Diff M W W') (hM : ∀ k, M k → O k) (hO : ∀ k, O' k → O k ∨ W.heap.size ≤ k) : RI w tv s1 N s O' W' := by
  have hlow : ∀ k, k < s1 + N + 7 → ¬ M k := fun k hk hm => by have := h.off k (hM k hm); omega
  have hk : ∀ {k o}, k < s1 + N + 7 → W.heap[k]? = some o → W'.heap[k]? = some o := fun {k o} hk ho => (hd.block k (Array.getElem?_eq_some_iff.1 ho).1 (hlow k hk)).trans ho
  have hb := h.base
  have hbF : s1 + N + 6 < W.heap.size := by
    obtain ⟨u, vs, h1, -⟩ := h.rF
    exact (Array.getElem?_eq_some_iff.1 h1).1
  have hrow : ∀ {k t n f}, k < s1 + N + 7 → W.rowIs k t n f → W'.rowIs k t n f := fun {k t n f} hk hr => hr.of_block (hd.block k hr.lt (hlow k hk))
  refine ⟨h.pw.trans' hd (fun k hk hm => by have := h.off k (hM k hm); omega), hk (by omega) h.bt, hk (by omega) h.bS, hrow (by omega) h.rS, hk (by omega) h.bW, ?_, hk (by omega) h.bM, hrow (by omega) h.rM, ?_, fun g hg => ?_, hb⟩
  · obtain ⟨wv, h1, h2⟩ := h.rW
    exact ⟨wv, hrow (by omega) h1, fun k hk => (h2 k hk).diff hd (fun k hm _ => hM k hm) hO⟩
  · obtain ⟨u, vs, h1, h2, h3, h4⟩ := h.rF
    refine ⟨u, vs, hk (by omega) h1, own_block h2 (fun k hk => hd.block k (h2.lt k hk).2 (fun hm => h3 k hk (hM k hm))), fun g hg ho => ?_, fun i v hv => ?_⟩
    · rcases hO g ho with h5 | h5
      · exact h3 g hg h5
      · have := (h2.lt g hg).2; omega
    · obtain ⟨r, hr, hr2⟩ := h4 i v hv
      exact ⟨r, hr, hr2.diff hd (fun k hm _ => hM k hm) hO⟩
  · rcases hO g hg with h5 | h5
    · exact h.off g h5
    · omega
theorem RI.stable {w : World} {tv : Array Value} {s1 N : Nat} {s : RS} : Stable (RI w tv s1 N s) :=
  fun O O' W W' h hd hO => h.to hd (fun _ hm => hm) hO
theorem RI.pure {w : World} {tv : Array Value} {s1 N : Nat} {s : RS} {O : Nat → Prop} {W W' : World} (h : RI w tv s1 N s O W) (hp : Pure W W') : RI w tv s1 N s O W' :=
  h.to hp (fun _ hm => hm.elim) (fun _ ho => .inl ho)
theorem RI.big {w : World} {tv : Array Value} {s1 N : Nat} {s : RS} {O : Nat → Prop} {W : World} (h : RI w tv s1 N s O W) : s1 + N + 7 ≤ W.heap.size := by
  obtain ⟨u, vs, h1, -⟩ := h.rF
  have := (Array.getElem?_eq_some_iff.1 h1).1
  omega
end Go.Proofs.YtmedkmbfggphdaaDoor
