/- Mathematics: the truth that Held makes, wider books, and the lesser and the greater of two truths. No condition. -/
import Derived.Test.YtmedkmbfggphdaaDoorM12
namespace Go.Proofs.YtmedkmbfggphdaaDoor

/-- A sharpness that Held takes, and how tired the tongue is then. -/
def hS (u : Nat → Int) (i : Nat) : Int := u i % 1001
def hT (b : BK) (u : Nat → Int) (k : Nat) : Nat → Int
  | 0 => 0
  | j + 1 => hT b u k j + b.lo + u (b.upto k + (j + 1) + b.lots.toNat) % (b.hi - b.lo + 1)
def heldT (b : BK) (u : Nat → Int) (k j : Nat) : TS :=
  ⟨(b.t k j).lot, min (b.t k j).lo (hS u (b.t k j).lot.toNat - hT b u k j), max (b.t k j).hi (hS u (b.t k j).lot.toNat - hT b u k j)⟩
def heldB (b : BK) (u : Nat → Int) : BK := ⟨b.lo, b.hi, b.lots, b.n, b.m, heldT b u⟩
def hXs (b : BK) (u : Nat → Int) : List Int := (List.range b.lots.toNat).map (hS u)
def hRow (b : BK) (u : Nat → Int) (k m : Nat) : List Int := (List.range m).map (hT b u k)
def hAll (b : BK) (u : Nat → Int) : Nat → List Int
  | 0 => []
  | k + 1 => hAll b u k ++ hRow b u k (b.m k)
def hYs (b : BK) (u : Nat → Int) : List Int := hAll b u b.n

theorem hS_in (u : Nat → Int) (i : Nat) : 0 ≤ hS u i ∧ hS u i ≤ 1000 := by unfold hS; omega
theorem hXs_length (b : BK) (u : Nat → Int) : (hXs b u).length = b.lots.toNat := by simp [hXs]
theorem hRow_length (b : BK) (u : Nat → Int) (k m : Nat) : (hRow b u k m).length = m := by simp [hRow]
theorem hAll_length (b : BK) (u : Nat → Int) : ∀ n, (hAll b u n).length = b.upto n
  | 0 => rfl
  | n + 1 => by simp [hAll, BK.upto, hAll_length b u n, hRow_length]
theorem hYs_length (b : BK) (u : Nat → Int) : (hYs b u).length = b.total := hAll_length b u b.n
theorem hXs_nth (b : BK) (u : Nat → Int) (i : Nat) (h : i < b.lots.toNat) : nthI (hXs b u) i = hS u i := by
  unfold nthI hXs; rw [List.getD_eq_getElem?_getD]; simp [h]
theorem hAll_nth (b : BK) (u : Nat → Int) (s j : Nat) (hj : j < b.m s) : ∀ n, s < n → nthI (hAll b u n) (b.upto s + j) = hT b u s j
  | 0, h => by omega
  | n + 1, h => by
    unfold nthI
    rw [List.getD_eq_getElem?_getD, hAll]
    by_cases e : s = n
    · subst e
      rw [List.getElem?_append_right (by rw [hAll_length]; omega), hAll_length, Nat.add_sub_cancel_left]
      simp [hRow, hj]
    · have hu := b.upto_mono (i := s + 1) (j := n) (by omega)
      simp only [BK.upto] at hu
      rw [List.getElem?_append_left (by rw [hAll_length]; omega), ← List.getD_eq_getElem?_getD]
      exact hAll_nth b u s j hj n (by omega)
theorem hYs_nth (b : BK) (u : Nat → Int) (s j : Nat) (hs : s < b.n) (hj : j < b.m s) : nthI (hYs b u) (b.upto s + j) = hT b u s j := hAll_nth b u s j hj b.n hs

/-- c is b, but for what is said, which is no narrower. -/
structure Wider (b c : BK) : Prop where
  lo : c.lo = b.lo
  hi : c.hi = b.hi
  lots : c.lots = b.lots
  n : c.n = b.n
  m : c.m = b.m
  lot : ∀ k j, (c.t k j).lot = (b.t k j).lot
  slo : ∀ k j, (c.t k j).lo ≤ (b.t k j).lo
  shi : ∀ k j, (b.t k j).hi ≤ (c.t k j).hi
theorem held_wider (b : BK) (u : Nat → Int) : Wider b (heldB b u) :=
  ⟨rfl, rfl, rfl, rfl, rfl, fun _ _ => rfl, fun k j => by simp only [heldB, heldT]; omega, fun k j => by simp only [heldB, heldT]; omega⟩
theorem upto_of_m {b c : BK} (h : c.m = b.m) : ∀ k, c.upto k = b.upto k
  | 0 => rfl
  | k + 1 => by simp only [BK.upto, upto_of_m h k, h]
theorem Wider.upto {b c : BK} (h : Wider b c) (k : Nat) : c.upto k = b.upto k := upto_of_m h.m k
theorem Wider.total {b c : BK} (h : Wider b c) : c.total = b.total := by unfold BK.total; rw [h.n, h.upto]
theorem Wider.hT {b c : BK} (h : Wider b c) (u : Nat → Int) (k : Nat) : ∀ j, hT c u k j = hT b u k j
  | 0 => rfl
  | j + 1 => by simp only [Go.Proofs.YtmedkmbfggphdaaDoor.hT, Wider.hT h u k j, h.lo, h.hi, h.lots, h.upto]
theorem Wider.hXs {b c : BK} (h : Wider b c) (u : Nat → Int) : hXs c u = hXs b u := by unfold Go.Proofs.YtmedkmbfggphdaaDoor.hXs; rw [h.lots]
theorem Wider.hRow {b c : BK} (h : Wider b c) (u : Nat → Int) (k m : Nat) : hRow c u k m = hRow b u k m := by
  unfold Go.Proofs.YtmedkmbfggphdaaDoor.hRow; exact List.map_congr_left (fun j _ => h.hT u k j)
theorem Wider.hAll {b c : BK} (h : Wider b c) (u : Nat → Int) : ∀ n, hAll c u n = hAll b u n
  | 0 => rfl
  | n + 1 => by simp only [Go.Proofs.YtmedkmbfggphdaaDoor.hAll, Wider.hAll h u n, h.m, h.hRow]
theorem Wider.hYs {b c : BK} (h : Wider b c) (u : Nat → Int) : hYs c u = hYs b u := by unfold Go.Proofs.YtmedkmbfggphdaaDoor.hYs; rw [h.n, h.hAll]
theorem Wider.trans {a b c : BK} (h : Wider a b) (k : Wider b c) : Wider a c :=
  ⟨k.lo.trans h.lo, k.hi.trans h.hi, k.lots.trans h.lots, k.n.trans h.n, k.m.trans h.m, fun i j => (k.lot i j).trans (h.lot i j), fun i j => Int.le_trans (k.slo i j) (h.slo i j), fun i j => Int.le_trans (h.shi i j) (k.shi i j)⟩

theorem Wider.truth {b c : BK} (h : Wider b c) {L : Nat} {x : Nat → Int} (ht : Truth b L x) : Truth c L x := by
  have hat : ∀ q, q < c.total → (c.at' q).1 = (b.at' q).1 ∧ (c.at' q).2.lot = (b.at' q).2.lot ∧ (c.at' q).2.lo ≤ (b.at' q).2.lo ∧ (b.at' q).2.hi ≤ (c.at' q).2.hi := fun q hq => by
    obtain ⟨s, j, hs, hj, rfl⟩ := c.split c.n q hq
    rw [c.at_eq s j hs hj, h.upto, b.at_eq s j (by rw [← h.n]; exact hs) (by rw [← h.m]; exact hj)]
    exact ⟨rfl, h.lot s j, h.slo s j, h.shi s j⟩
  have htot := h.total
  refine ⟨ht.lot, fun q hq hf => ?_, fun q hq hf => ?_, fun q hq => ?_⟩
  · exact ht.one q (by omega) (by rw [← (hat q hq).1]; exact hf)
  · rw [h.lo, h.hi]; exact ht.nxt q (by omega) (by rw [← (hat q hq).1]; exact hf)
  · obtain ⟨-, h1, h2, h3⟩ := hat q hq
    have := ht.say q (by omega)
    rw [h1]; omega

theorem held_truth (b : BK) (hv : b.Valid) (u : Nat → Int) : Truth (heldB b u) (hXs b u).length (numN (hXs b u) (hYs b u)) := by
  have hw := held_wider b u
  have hlots := hv.lots1
  have hlen := hXs_length b u
  have hlh := hv.lohi
  have htot := hw.total
  have hty : ∀ q, numN (hXs b u) (hYs b u) (1 + (hXs b u).length + q) = nthI (hYs b u) q := numN_taste _ _
  refine ⟨fun i hi => ?_, fun q hq hf => ?_, fun q hq hf => ?_, fun q hq => ?_⟩
  · rw [numN_lot _ _ _ hi, numN_zero, hXs_nth b u i (by omega)]; have := hS_in u i; omega
  · rw [hty, numN_zero]
    obtain ⟨s, j, hs, hj, rfl⟩ := (heldB b u).split (heldB b u).n q hq
    rw [(heldB b u).at_eq s j hs hj] at hf
    rw [hw.upto, hYs_nth b u s j hs hj]
    have : j = 0 := by simpa using hf
    subst this; rfl
  · obtain ⟨s, j, hs, hj, rfl⟩ := (heldB b u).split (heldB b u).n q hq
    rw [(heldB b u).at_eq s j hs hj] at hf
    have hj0 : j ≠ 0 := by simpa using hf
    obtain ⟨i, rfl⟩ : ∃ i, j = i + 1 := ⟨j - 1, by omega⟩
    rw [hty, hw.upto, hYs_nth b u s (i + 1) hs hj]
    have e2 : numN (hXs b u) (hYs b u) ((hXs b u).length + (b.upto s + (i + 1))) = nthI (hYs b u) (b.upto s + i) := by
      rw [← hty, show 1 + (hXs b u).length + (b.upto s + i) = (hXs b u).length + (b.upto s + (i + 1)) by omega]
    rw [e2, hYs_nth b u s i hs (by have : i + 1 < b.m s := hj; omega)]
    show b.lo ≤ hT b u s (i + 1) - hT b u s i ∧ hT b u s (i + 1) - hT b u s i ≤ b.hi
    simp only [hT]
    have h1 := Int.emod_nonneg (u (b.upto s + (i + 1) + b.lots.toNat)) (show b.hi - b.lo + 1 ≠ 0 by omega)
    have h2 := Int.emod_lt_of_pos (u (b.upto s + (i + 1) + b.lots.toNat)) (show 0 < b.hi - b.lo + 1 by omega)
    omega
  · rw [hty]
    have hok := b.at_ok hv q
    obtain ⟨s, j, hs, hj, rfl⟩ := (heldB b u).split (heldB b u).n q hq
    rw [hw.upto, b.at_eq s j hs hj] at hok
    have l0 := hok.lot0
    have l1 := hok.lot1
    simp only at l0 l1
    rw [(heldB b u).at_eq s j hs hj, hw.upto, hYs_nth b u s j hs hj]
    show (heldT b u s j).lo ≤ numN (hXs b u) (hYs b u) (1 + (heldT b u s j).lot.toNat) - hT b u s j ∧ numN (hXs b u) (hYs b u) (1 + (heldT b u s j).lot.toNat) - hT b u s j ≤ (heldT b u s j).hi
    have e3 : numN (hXs b u) (hYs b u) (1 + (heldT b u s j).lot.toNat) = hS u (b.t s j).lot.toNat := by
      rw [numN_lot _ _ _ (by rw [hlen]; show (b.t s j).lot.toNat < _; omega)]
      exact hXs_nth b u _ (by show (b.t s j).lot.toNat < _; omega)
    rw [e3]
    exact ⟨Int.min_le_right _ _, Int.le_max_right _ _⟩

/-! The lesser, and the greater, of two truths. -/
theorem keep_min {es : List ME} {x y : Nat → Int} (hx : Keep es x) (hy : Keep es y) : Keep es (fun k => min (x k) (y k)) := fun e he => by
  have h1 := hx e he
  have h2 := hy e he
  simp only; omega
theorem keep_max {es : List ME} {x y : Nat → Int} (hx : Keep es x) (hy : Keep es y) : Keep es (fun k => max (x k) (y k)) := fun e he => by
  have h1 := hx e he
  have h2 := hy e he
  simp only; omega
def zipM (f : Int → Int → Int) (a c : List Int) (n : Nat) : List Int := (List.range n).map fun i => f (nthI a i) (nthI c i)
theorem zipM_length (f : Int → Int → Int) (a c : List Int) (n : Nat) : (zipM f a c n).length = n := by simp [zipM]
theorem zipM_nth (f : Int → Int → Int) (a c : List Int) (n i : Nat) (h : i < n) : nthI (zipM f a c n) i = f (nthI a i) (nthI c i) := by
  unfold zipM; rw [nthI, List.getD_eq_getElem?_getD]; simp [h]
theorem nthI_out {l : List Int} {k : Nat} (h : l.length ≤ k) : nthI l k = 0 := by
  unfold nthI; rw [List.getD_eq_getElem?_getD, List.getElem?_eq_none h]; rfl
theorem numN_zip (f : Int → Int → Int) (h0 : f 0 0 = 0) (a c d e : List Int) (hac : a.length = c.length) (hde : d.length = e.length) (k : Nat) :
    numN (zipM f a c a.length) (zipM f d e d.length) k = f (numN a d k) (numN c e k) := by
  by_cases k0 : k = 0
  · subst k0; rw [numN_zero, numN_zero, numN_zero, h0]
  · by_cases k1 : k < 1 + a.length
    · have hk : k = 1 + (k - 1) := by omega
      rw [hk, numN_lot _ _ _ (by rw [zipM_length]; omega), numN_lot _ _ _ (by omega), numN_lot _ _ _ (by omega), zipM_nth _ _ _ _ _ (by omega)]
    · obtain ⟨q, rfl⟩ : ∃ q, k = 1 + a.length + q := ⟨k - 1 - a.length, by omega⟩
      have e1 : numN (zipM f a c a.length) (zipM f d e d.length) (1 + a.length + q) = nthI (zipM f d e d.length) q := by
        have := numN_taste (zipM f a c a.length) (zipM f d e d.length) q
        rwa [zipM_length] at this
      rw [e1, numN_taste, hac, numN_taste]
      by_cases hq : q < d.length
      · exact zipM_nth _ _ _ _ _ hq
      · rw [nthI_out (by rw [zipM_length]; omega), nthI_out (by omega), nthI_out (by omega), h0]

/-- What CheckTruth asks of a valid book. -/
theorem truthC_ok (b : BK) (hc : checkB b = 0) (xs ys : List Int) (hL : b.lots = xs.length) (hT : b.total = ys.length) (hx : In64 xs) (hy : In64 ys) (h : Keep b.es (numN xs ys)) : truthC b xs ys = 0 := by
  unfold truthC
  rw [if_neg (by omega), if_neg (by omega), if_neg (by rw [(allows_iff b (checkB_valid hc) xs ys hL hx hy).2 h]; simp)]
theorem truthC_iff (b : BK) (hc : checkB b = 0) (xs ys : List Int) (hL : b.lots = xs.length) (hT : b.total = ys.length) (hx : In64 xs) (hy : In64 ys) : truthC b xs ys = 0 ↔ Keep b.es (numN xs ys) := by
  refine ⟨fun h => ?_, truthC_ok b hc xs ys hL hT hx hy⟩
  unfold truthC at h
  rw [if_neg (by omega), if_neg (by omega)] at h
  split at h
  · omega
  · rename_i h1
    exact (allows_iff b (checkB_valid hc) xs ys hL hx hy).1 (by simpa using h1)
theorem hT_in (b : BK) (hv : b.Valid) (u : Nat → Int) (k : Nat) : ∀ j, 0 ≤ hT b u k j ∧ hT b u k j ≤ 50 * (j : Int)
  | 0 => by simp [hT]
  | j + 1 => by
    have ih := hT_in b hv u k j
    have h0 := hv.lo0
    have h5 := hv.hi50
    have hlh := hv.lohi
    have h1 := Int.emod_nonneg (u (b.upto k + (j + 1) + b.lots.toNat)) (show b.hi - b.lo + 1 ≠ 0 by omega)
    have h2 := Int.emod_lt_of_pos (u (b.upto k + (j + 1) + b.lots.toNat)) (show 0 < b.hi - b.lo + 1 by omega)
    simp only [hT]; omega
theorem In64.of_nth {l : List Int} (h : ∀ k, k < l.length → -9223372036854775808 ≤ nthI l k ∧ nthI l k ≤ 9223372036854775807) : In64 l := by
  intro x hx
  obtain ⟨k, hk⟩ := List.mem_iff_getElem?.1 hx
  have hl := (List.getElem?_eq_some_iff.1 hk).1
  have := h k hl
  unfold nthI at this
  rw [List.getD_eq_getElem?_getD, hk] at this
  exact this
theorem hXs_in (b : BK) (u : Nat → Int) : In64 (hXs b u) := In64.of_nth fun k hk => by
  rw [hXs_nth b u k (by rw [hXs_length] at hk; exact hk)]; have := hS_in u k; omega
theorem hYs_in (b : BK) (hv : b.Valid) (u : Nat → Int) : In64 (hYs b u) := In64.of_nth fun q hq => by
  rw [hYs_length] at hq
  obtain ⟨s, j, hs, hj, rfl⟩ := b.split b.n q hq
  rw [hYs_nth b u s j hs hj]
  have h1 := hT_in b hv u s j
  have h2 := b.upto_lt s j hs hj
  have h3 := hv.tot
  omega
/-- The truth that Held makes is told. -/
theorem held_truthC (b : BK) (hv : b.Valid) (u : Nat → Int) (c : BK) (hw : Wider (heldB b u) c) (hc : checkB c = 0) : truthC c (hXs b u) (hYs b u) = 0 := by
  have hb := held_wider b u
  have hbc := hb.trans hw
  have hl := hv.lots1
  have hL : c.lots = (hXs b u).length := by rw [hXs_length, hbc.lots]; omega
  refine truthC_ok c hc _ _ hL (by rw [hYs_length, hbc.total]) (hXs_in b u) (hYs_in b hv u) ?_
  rw [c.truth_iff (checkB_valid hc) (hXs b u).length hL]
  exact hw.truth (held_truth b hv u)
/-- Two truths that Held makes, and the lesser and the greater numbers of both. -/
theorem zip_truthC (f : Int → Int → Int) (hf : (∀ x y, f x y = min x y) ∨ (∀ x y, f x y = max x y)) (b : BK) (hc : checkB b = 0) (xs ys us vs : List Int) (hL : b.lots = xs.length) (hT : b.total = ys.length) (hxu : xs.length = us.length) (hyv : ys.length = vs.length)
    (hx : In64 xs) (hy : In64 ys) (hu : In64 us) (hv : In64 vs) (h1 : truthC b xs ys = 0) (h2 : truthC b us vs = 0) : truthC b (zipM f xs us xs.length) (zipM f ys vs ys.length) = 0 := by
  have hin : ∀ (p q : List Int), In64 p → In64 q → In64 (zipM f p q p.length) := fun p q hp hq => In64.of_nth fun k hk => by
    rw [zipM_length] at hk
    rw [zipM_nth _ _ _ _ _ hk]
    have a1 := hp.nth k
    have a2 := hq.nth k
    rcases hf with hf | hf <;> rw [hf] <;> omega
  refine truthC_ok b hc _ _ (by rw [zipM_length]; exact hL) (by rw [zipM_length]; exact hT) (hin _ _ hx hu) (hin _ _ hy hv) ?_
  have k1 := (truthC_iff b hc xs ys hL hT hx hy).1 h1
  have k2 := (truthC_iff b hc us vs (by rw [← hxu]; exact hL) (by rw [← hyv]; exact hT) hu hv).1 h2
  have he : numN (zipM f xs us xs.length) (zipM f ys vs ys.length) = fun k => f (numN xs ys k) (numN us vs k) := by
    funext k
    exact numN_zip f (by rcases hf with hf | hf <;> rw [hf] <;> rfl) xs us ys vs hxu hyv k
  rw [he]
  rcases hf with hf | hf
  · simp only [hf]; exact keep_min k1 k2
  · simp only [hf]; exact keep_max k1 k2
end Go.Proofs.YtmedkmbfggphdaaDoor
