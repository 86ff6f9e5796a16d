/- Blends: lots that are changed, and what the laws ask of their prices; lists of lots that grow side by side. -/
import Derived.Test.YtgpfmnjianflaaaDoorR14
import Derived.Test.YtgpfmnjianflaaaDoorR21
set_option linter.unusedSimpArgs false
set_option linter.unusedVariables false
set_option linter.constructorNameAsVariable false
namespace Go.Proofs.YtgpfmnjianflaaaDoor
open Go.RowKit

/-- The cells of the first lots. -/
def valsL (L : LT) (k : Nat) : List Value := valsO L (List.range k)
theorem valsL_succ (L : LT) (k : Nat) : valsL L (k + 1) = valsL L k ++ [.int .i64 (L.s k), .int .i64 (L.p k)] := by
  unfold valsL; rw [List.range_succ, valsO_append]
theorem valsL_get (L : LT) (n k : Nat) (h : k < n) : (valsL L n)[k * 2]? = some (.int .i64 (L.s k)) ∧ (valsL L n)[k * 2 + 1]? = some (.int .i64 (L.p k)) := by
  have h' := valsO_get L (List.range n) k (by rw [List.length_range]; exact h)
  have e : nthN (List.range n) k = k := by unfold nthN; rw [List.getD_eq_getElem?_getD, List.getElem?_range h]; rfl
  rw [e] at h'; exact h'
theorem valsL_eq (L : LT) (n : Nat) {c : List Value} (hl : c.length = n * 2) (h : ∀ k, k < n → c[k * 2]? = some (.int .i64 (L.s k)) ∧ c[k * 2 + 1]? = some (.int .i64 (L.p k))) : c = valsL L n := by
  refine List.ext_getElem? fun i => ?_
  have hv : (valsL L n).length = n * 2 := by unfold valsL; rw [valsO_length, List.length_range]
  by_cases hi : i < n * 2
  · have hk := h (i / 2) (by omega)
    have hg := valsL_get L n (i / 2) (by omega)
    by_cases he : i % 2 = 0
    · rw [show i = i / 2 * 2 by omega, hk.1, hg.1]
    · rw [show i = i / 2 * 2 + 1 by omega, hk.2, hg.2]
  · rw [List.getElem?_eq_none (by omega), List.getElem?_eq_none (by omega)]
theorem all_own {W : World} {B n : Nat} {u : Value} {L : LT} (h : W.ownsRow B 71 2 u n (valsL L n)) (hn : L.n = n) : ∃ q c, u = .slice q n c ∧ LotsAt W.heap.size W q L := by
  rcases h.2 with ⟨rfl, h0⟩ | ⟨g, c, cur, rfl, hb, hg, h1, h2, h3, h4⟩
  · exact ⟨none, 0, by rw [h0], fun k hk => by omega⟩
  · refine ⟨_, c, rfl, fun k hk => ⟨g, 0, rfl, (Array.getElem?_eq_some_iff.1 hg).1, ?_⟩⟩
    have hk' : k < n := by omega
    have hv := valsL_get L n k hk'
    have hcell : ∀ i, i < n * 2 → W.cell? ⟨g, i, none⟩ = (valsL L n)[i]? := fun i hi => by
      rw [cell_of_row W _ _ _ _ _ hg, ← h4, List.getElem?_take_of_lt hi]; simp
    refine ⟨?_, ?_⟩
    · rw [show 0 + k * 2 = k * 2 by omega, hcell _ (by omega)]; exact hv.1
    · rw [show 0 + k * 2 + 1 = k * 2 + 1 by omega, hcell _ (by omega)]; exact hv.2
/-- Of two lists, each in memory of its own, one grows. -/
theorem own_apart {W w' : World} {B m : Nat} {u u' v : Value} {ys : List Value} (hv : W.ownsRow B 71 2 v m ys) (hd : Diff (fun k => some k = u.ownBlock) W w') (hne : ∀ g, u.ownBlock = some g → v.ownBlock = some g → False) (hob : u'.ownBlock = u.ownBlock ∨ u'.ownBlock = some (W.heap.size + 1)) :
    w'.ownsRow B 71 2 v m ys ∧ ∀ g, u'.ownBlock = some g → v.ownBlock = some g → False := by
  refine ⟨own_block hv fun k hk => hd.block _ (hv.lt k hk).2 fun e => hne k e.symm hk, fun g h1 h2 => ?_⟩
  rcases hob with e | e
  · exact hne g (e ▸ h1) h2
  · rw [e] at h1
    have := (hv.lt g h2).2
    injection h1 with h1
    omega
theorem cheap_eq {L M : LT} (hL : L.Ok) (hM : M.Ok) {t u : Int} (ht : 0 ≤ t ∧ t ≤ 100) (hu : 0 ≤ u ∧ u ≤ 100) (hc : CanB L t ↔ CanB M u) (hk : ∀ a b, Cheap L t a b → Cheap M u a b) : cheapP M u = cheapP L t ∧ (cheapE M u == 0) = (cheapE L t == 0) := by
  rcases cheap_join hL ht with ⟨c1, e1, a3, a4⟩ | ⟨c1, e1, a3⟩
  · rcases cheap_join hM hu with ⟨c2, e2, b3, b4⟩ | ⟨c2, _⟩
    · have h := a4.same b4 (cheap_unique (hk _ _ a3) b3)
      exact ⟨Prod.ext h.1.symm h.2.symm, by rw [e1, e2]⟩
    · exact absurd (hc.1 c1) c2
  · rcases cheap_join hM hu with ⟨c2, _⟩ | ⟨c2, e2, b3⟩
    · exact absurd (hc.2 c2) c1
    · exact ⟨by rw [a3, b3], by rw [e1, e2]⟩
theorem least_eq {L M : LT} (hL : L.Ok) (hM : M.Ok) {t : Int} (ht : 0 ≤ t ∧ t ≤ 100) (h1 : Sub L M) (h2 : Sub M L) : atP M t = atP L t ∧ (atE M t == 0) = (atE L t == 0) := by
  rcases least_join hL ht with ⟨⟨k, hk, hk1⟩, e1, a3, a4⟩ | ⟨c1, e1, a3⟩
  · rcases least_join hM ht with ⟨c2, e2, b3, b4⟩ | ⟨c2, _⟩
    · have h := a4.same b4 (least_unique (a3.same h1 h2) b3)
      exact ⟨Prod.ext h.1.symm h.2.symm, by rw [e1, e2]⟩
    · obtain ⟨j, j1, j2, _⟩ := h1 k hk
      have := c2 j j1
      omega
  · rcases least_join hM ht with ⟨⟨k, hk, hk1⟩, _⟩ | ⟨c2, e2, b3⟩
    · obtain ⟨j, j1, j2, _⟩ := h2 k hk
      have := c1 j j1
      omega
    · exact ⟨by rw [a3, b3], by rw [e1, e2]⟩
/-- One lot more. -/
def LT.plus (L : LT) (s u : Int) : LT := ⟨L.n + 1, fun k => if k < L.n then L.s k else s, fun k => if k < L.n then L.p k else u⟩
theorem dom_plus (L : LT) (s u : Int) : Dom L (L.plus s u) := fun i hi => ⟨i, by show i < L.n + 1; omega, if_pos hi, by show (if _ then _ else _) ≤ _; rw [if_pos hi]; exact Int.le_refl _⟩
/-- One lot at another price. -/
def LT.cheapen (L : LT) (i : Nat) (x : Int) : LT := ⟨L.n, L.s, fun k => if k = i then x else L.p k⟩
theorem dom_cheapen {L : LT} {i : Nat} {x : Int} (h : x ≤ L.p i) : Dom L (L.cheapen i x) := fun k hk => ⟨k, hk, rfl, by
  show (if _ then _ else _) ≤ _
  split
  · subst_vars; exact h
  · exact Int.le_refl _⟩
theorem ok_cheapen {L : LT} (hL : L.Ok) {i : Nat} {x : Int} (h : 0 ≤ x ∧ x ≤ 1000) : (L.cheapen i x).Ok :=
  ⟨hL.n0, hL.n8, hL.s0, hL.s1, fun k hk => by show _ ≤ (if _ then _ else _); split; exact h.1; exact hL.p0 k hk, fun k hk => by show (if _ then _ else _) ≤ _; split; exact h.2; exact hL.p1 k hk⟩
/-- Lots in another order. -/
def LT.rnd (L : LT) (r : Nat) : LT := ⟨L.n, fun k => L.s ((k + r) % L.n), fun k => L.p ((k + r) % L.n)⟩
theorem rnd_sub (L : LT) (r : Nat) (hn : 0 < L.n) : Sub (L.rnd r) L ∧ Sub L (L.rnd r) := by
  refine ⟨fun i hi => ⟨(i + r) % L.n, Nat.mod_lt _ hn, rfl, rfl⟩, fun i hi => ?_⟩
  have e : ((i + (L.n - r % L.n)) % L.n + r) % L.n = i := by
    have h1 := Nat.div_add_mod r L.n
    have h2 := Nat.mod_lt r hn
    rw [Nat.mod_add_mod]
    have h3 : i + (L.n - r % L.n) + r = i + L.n * (r / L.n + 1) := by rw [Nat.mul_add]; omega
    rw [h3, Nat.add_mul_mod_self_left, Nat.mod_eq_of_lt hi]
  refine ⟨(i + (L.n - r % L.n)) % L.n, Nat.mod_lt _ hn, ?_, ?_⟩
  · show L.s (((i + (L.n - r % L.n)) % L.n + r) % L.n) = L.s i
    rw [e]
  · show L.p (((i + (L.n - r % L.n)) % L.n + r) % L.n) = L.p i
    rw [e]
/-- Each Sharp taken from the greatest one. -/
def LT.turn (L : LT) : LT := ⟨L.n, fun k => 100 - L.s k, L.p⟩
theorem turned_facts {L : LT} (hL : L.Ok) {t : Int} (ht : 0 ≤ t ∧ t ≤ 100) (r : Nat) :
    (L.rnd r).Ok ∧ L.turn.Ok ∧ cheapP (L.rnd r) t = cheapP L t ∧ (cheapE (L.rnd r) t == 0) = (cheapE L t == 0) ∧ cheapP L.turn (100 - t) = cheapP L t ∧ (cheapE L.turn (100 - t) == 0) = (cheapE L t == 0) ∧
      atP (L.rnd r) t = atP L t ∧ (atE (L.rnd r) t == 0) = (atE L t == 0) := by
  have hn : 0 < L.n := hL.n0
  have hm : ∀ k, (k + r) % L.n < L.n := fun k => Nat.mod_lt _ hn
  have h1 : (L.rnd r).Ok := ⟨hL.n0, hL.n8, fun k _ => hL.s0 _ (hm k), fun k _ => hL.s1 _ (hm k), fun k _ => hL.p0 _ (hm k), fun k _ => hL.p1 _ (hm k)⟩
  have h2 : L.turn.Ok := ⟨hL.n0, hL.n8, fun k hk => by have := hL.s1 k hk; show 0 ≤ 100 - L.s k; omega, fun k hk => by have := hL.s0 k hk; show 100 - L.s k ≤ 100; omega, hL.p0, hL.p1⟩
  obtain ⟨s1, s2⟩ := rnd_sub L r hn
  have c1 := cheap_eq hL h1 ht ht ⟨CanB.dom s2.dom, CanB.dom s1.dom⟩ fun a b h => h.same s2 s1
  have hc : CanB L t ↔ CanB L.turn (100 - t) := by
    constructor
    · rintro ⟨⟨i, hi, e1⟩, k, hk, e2⟩
      exact ⟨⟨k, hk, by show 100 - L.s k ≤ 100 - t; omega⟩, i, hi, by show 100 - t ≤ 100 - L.s i; omega⟩
    · rintro ⟨⟨i, hi, e1⟩, k, hk, e2⟩
      have e1' : 100 - L.s i ≤ 100 - t := e1
      have e2' : 100 - t ≤ 100 - L.s k := e2
      exact ⟨⟨k, hk, by omega⟩, i, hi, by omega⟩
  have c2 := cheap_eq hL h2 (u := 100 - t) ht ⟨by omega, by omega⟩ hc fun a b h => Cheap.turned (L := L) (M := L.turn) 100 rfl (fun _ _ => rfl) (fun _ _ => rfl) h
  have c3 := least_eq hL h1 ht s2 s1
  exact ⟨h1, h2, c1.1, c1.2, c2.1, c2.2, c3.1, c3.2⟩
/-- All as much sharper; dearer; as many times as dear. -/
def LT.sharper (L : LT) (d : Int) : LT := ⟨L.n, fun k => L.s k + d, L.p⟩
def LT.dearer (L : LT) (e : Int) : LT := ⟨L.n, L.s, fun k => L.p k + e⟩
def LT.times (L : LT) (m : Int) : LT := ⟨L.n, L.s, fun k => m * L.p k⟩
theorem sharper_facts {L : LT} (hL : L.Ok) {t d : Int} (ht : 0 ≤ t ∧ t ≤ 100) (hd : 0 ≤ d) (hM : (L.sharper d).Ok) (hu : t + d ≤ 100) : cheapP (L.sharper d) (t + d) = cheapP L t ∧ (cheapE (L.sharper d) (t + d) == 0) = (cheapE L t == 0) := by
  refine cheap_eq hL hM ht ⟨by omega, hu⟩ ?_ fun a b h => Cheap.sharper (L := L) (M := L.sharper d) d rfl (fun _ _ => rfl) (fun _ _ => rfl) h
  constructor
  · rintro ⟨⟨i, hi, e1⟩, k, hk, e2⟩
    exact ⟨⟨i, hi, by show L.s i + d ≤ t + d; omega⟩, k, hk, by show t + d ≤ L.s k + d; omega⟩
  · rintro ⟨⟨i, hi, e1⟩, k, hk, e2⟩
    have e1' : L.s i + d ≤ t + d := e1
    have e2' : t + d ≤ L.s k + d := e2
    exact ⟨⟨i, hi, by omega⟩, k, hk, by omega⟩
theorem dear_facts {L M : LT} (hL : L.Ok) (hM : M.Ok) {t m e : Int} (ht : 0 ≤ t ∧ t ≤ 100) (hm : 0 < m) (hn : M.n = L.n) (hs : ∀ i, i < L.n → M.s i = L.s i) (hp : ∀ i, i < L.n → M.p i = m * L.p i + e) {x1 x2 y1 y2 : Int} {i1 i2 : Bool} (e1 : cheapP L t = (x1, x2)) (e2 : cheapP M t = (y1, y2)) (f1 : (cheapE L t == 0) = i1) (f2 : (cheapE M t == 0) = i2) :
    i2 = i1 ∧ (i1 = true → Sm x1 x2 ∧ y1 = redN (m * x1 + e * x2) x2 ∧ y2 = redD (m * x1 + e * x2) x2) := by
  have hc : CanB L t ↔ CanB M t := by
    constructor
    · rintro ⟨⟨i, hi, h1⟩, k, hk, h2⟩
      exact ⟨⟨i, by omega, by rw [hs i hi]; exact h1⟩, k, by omega, by rw [hs k hk]; exact h2⟩
    · rintro ⟨⟨i, hi, h1⟩, k, hk, h2⟩
      rw [hs i (by omega)] at h1
      rw [hs k (by omega)] at h2
      exact ⟨⟨i, by omega, h1⟩, k, by omega, h2⟩
  rcases cheap_join hL ht with ⟨c1, k1, a3, a4⟩ | ⟨c1, k1, a3⟩
  · rcases cheap_join hM ht with ⟨c2, k2, b3, b4⟩ | ⟨c2, _⟩
    · rw [e1] at a3 a4
      rw [e2] at b3 b4
      have hd := a3.dearer m e hm hn hs hp
      have h := (hd.small hM).same b4 (cheap_unique hd.red b3)
      exact ⟨by rw [← f1, ← f2, k1, k2], fun _ => ⟨a4, h.1.symm, h.2.symm⟩⟩
    · exact absurd (hc.1 c1) c2
  · rcases cheap_join hM ht with ⟨c2, _⟩ | ⟨c2, k2, b3⟩
    · exact absurd (hc.2 c2) c1
    · refine ⟨by rw [← f1, ← f2, k1, k2], fun h => ?_⟩
      rw [← f1, k1] at h; exact absurd h (by decide)
/-- All lose as much, down to 0 at most. -/
def LT.lose (L : LT) (k : Int) : LT := ⟨L.n, fun i => max 0 (L.s i - k), L.p⟩
theorem ok_lose {L : LT} (hL : L.Ok) {k : Int} (hk : 0 ≤ k) : (L.lose k).Ok :=
  ⟨hL.n0, hL.n8, fun i hi => by show 0 ≤ max 0 _; omega, fun i hi => by show max 0 (L.s i - k) ≤ 100; have := hL.s1 i hi; omega, hL.p0, hL.p1⟩
theorem lost_facts {L : LT} (hL : L.Ok) {t d : Int} (ht : 1 ≤ t ∧ t ≤ 100) (hd : 1 ≤ d ∧ d ≤ 100) :
    ((atE L t == 0) = true ∧ lastE L t d = 0 ∧ 0 ≤ lastV L t d ∧ lastV L t d ≤ 100 ∧ (atE (L.lose (d * lastV L t d)) t == 0) = true ∧ (atE (L.lose (d * (lastV L t d + 1))) t == 0) = false) ∨
      ((atE L t == 0) = false ∧ lastE L t d = 19 ∧ lastV L t d = 0) := by
  have hn : 0 < L.n := hL.n0
  have ht' : 0 ≤ t ∧ t ≤ 100 := ⟨by omega, ht.2⟩
  have hc := corner_chain L hn
  have hs : sharpE L t = 0 := sharpE_ok.2 ⟨hL, ht'⟩
  have hw : wIn 1 100 d ≠ false := by unfold wIn; rw [decide_eq_true hd.1, decide_eq_true hd.2]; decide
  have hmem := hc.mem _ (Nat.le_refl _)
  have hhi := hc.hi
  obtain ⟨j, hj⟩ : ∃ j, nthN L.corners (L.corners.length - 1) = j := ⟨_, rfl⟩
  have hle : lastE L t d = if L.s j < t then 19 else 0 := by unfold lastE; rw [if_pos hs, if_neg hw, hj]
  rw [hj] at hmem hhi
  clear hc hw
  by_cases h : L.s j < t
  · rw [if_pos h] at hle
    refine .inr ⟨?_, hle, ?_⟩
    · cases hb : (atE L t == 0)
      · rfl
      · obtain ⟨k, hk, h1⟩ := (atE_can hL ht').1 hb
        have := hhi k hk
        omega
    · unfold lastV; rw [hle]; rfl
  · rw [if_neg h] at hle
    have hv : lastV L t d = (L.s j - t) / d := by unfold lastV; rw [if_pos hle, hj]
    have hgt := hL.s1 j hmem
    obtain ⟨q, hq⟩ : ∃ q, (L.s j - t) / d = q := ⟨_, rfl⟩
    rw [hv, hq]
    have hq0 : 0 ≤ q := by rw [← hq]; exact Int.ediv_nonneg (by omega) (by omega)
    have q1 : d * q ≤ L.s j - t := by rw [← hq]; exact Int.mul_ediv_self_le (by omega)
    have q2 : L.s j - t < d * (q + 1) := by
      have h3 := Int.emod_lt_of_pos (L.s j - t) (show 0 < d by omega)
      have h4 := Int.mul_ediv_add_emod (L.s j - t) d
      rw [hq] at h4
      rw [Int.mul_add, Int.mul_one]
      omega
    have q3 : q ≤ 100 := by
      have := Int.mul_le_mul_of_nonneg_right hd.1 hq0
      omega
    have k1 : (0 : Int) ≤ d * q := Int.mul_nonneg (by omega) hq0
    have k2 : (0 : Int) ≤ d * (q + 1) := Int.mul_nonneg (by omega) (by omega)
    refine .inl ⟨(atE_can hL ht').2 ⟨j, hmem, by omega⟩, hle, hq0, q3, (atE_can (ok_lose hL k1) ht').2 ⟨j, hmem, ?_⟩, ?_⟩
    · show t ≤ max 0 (L.s j - d * q)
      omega
    · cases hb : (atE (L.lose (d * (q + 1))) t == 0)
      · rfl
      · obtain ⟨k, hk, h1⟩ := (atE_can (ok_lose hL k2) ht').1 hb
        have h2 := hhi k hk
        have h1' : t ≤ max 0 (L.s k - d * (q + 1)) := h1
        omega
end Go.Proofs.YtgpfmnjianflaaaDoor
