/- Blends: the lots without the idle ones, and the corners alone. -/
import Derived.Test.YtgpfmnjianflaaaDoorE1
set_option linter.unusedSimpArgs false
set_option linter.unusedVariables false
set_option linter.constructorNameAsVariable false
namespace Go.Proofs.YtgpfmnjianflaaaDoor
open Go.RowKit

theorem idB_cheap {L : LT} (hL : L.Ok) {i : Nat} (hi : i < L.n) : L.idB (L.s i) (L.p i) = chB (cheapP L (L.s i)).1 (cheapP L (L.s i)).2 (L.p i) 1 := by
  have hs : sharpE L (L.s i) = 0 := sharpE_ok.2 ⟨hL, hL.s0 i hi, hL.s1 i hi⟩
  unfold LT.idB cheapP
  rw [if_pos hs]
/-- At the Sharp of a lot its Price is the cheapest price just if it is not idle. -/
theorem own_price {L : LT} (hL : L.Ok) {i : Nat} (hi : i < L.n) {z1 z2 : Int} (e : cheapP L (L.s i) = (z1, z2)) : (cheapE L (L.s i) == 0) = true ∧ (decide (z1 = L.p i) && decide (z2 = 1)) = !L.idB (L.s i) (L.p i) := by
  have hc : CanB L (L.s i) := ⟨⟨i, hi, Int.le_refl _⟩, i, hi, Int.le_refl _⟩
  have ht : 0 ≤ L.s i ∧ L.s i ≤ 100 := ⟨hL.s0 i hi, hL.s1 i hi⟩
  refine ⟨(cheapE_can hL ht).2 hc, ?_⟩
  rcases cheap_join hL ht with ⟨_, _, a3, a4⟩ | ⟨h, _⟩
  rotate_left
  · exact absurd hc h
  rw [idB_cheap hL hi, e]
  rw [e] at a3 a4
  simp only at a3 a4 ⊢
  have hz := a4.b0
  have hhas : Has L (L.s i) (L.p i) 1 := ⟨i, i, hi, hi, Int.le_refl _, Int.le_refl _, by unfold LT.pD LT.pN; rw [if_neg (by omega), if_neg (by omega), Int.min_self]⟩
  have hle := a3.le (by omega) hhas
  cases hb : chB z1 z2 (L.p i) 1
  · have hn : ¬ z1 * 1 < L.p i * z2 := fun h => by rw [(chB_pos (by omega) (by omega)).2 h] at hb; cases hb
    have he : z1 * 1 = L.p i * z2 := by omega
    have h1 := red_of_eq (a := z1) (b := z2) (c := L.p i) (d := 1) (by omega) (by omega) he
    rw [a4.rd.1, a4.rd.2, (red_one _).1, (red_one _).2] at h1
    rw [decide_eq_true h1.1, decide_eq_true h1.2]; rfl
  · have h1 := (chB_pos (by omega) (by omega)).1 hb
    cases hd : (decide (z1 = L.p i) && decide (z2 = 1))
    · rfl
    · rw [Bool.and_eq_true] at hd
      have h2 := of_decide_eq_true hd.1
      have h3 := of_decide_eq_true hd.2
      subst h3
      omega
theorem corner_busy {L : LT} (hL : L.Ok) {i : Nat} (h : i ∈ L.corners) : i < L.n ∧ L.idB (L.s i) (L.p i) = false := by
  have hn : 0 < L.n := hL.n0
  have hch := corner_chain L hn
  obtain ⟨j, hj, rfl⟩ := (corners_nth L i).1 h
  have hm := hch.mem j (by omega)
  refine ⟨hm, ?_⟩
  have ht : 0 ≤ L.s (nthN L.corners j) ∧ L.s (nthN L.corners j) ≤ 100 := ⟨hL.s0 _ hm, hL.s1 _ hm⟩
  have hcc := corner_cheap hch (show j ≤ L.corners.length - 1 by omega)
  rw [idB_cheap hL hm]
  rcases cheap_join hL ht with ⟨_, _, a3, a4⟩ | ⟨h, _⟩
  · have he := cheap_unique a3 hcc
    have h2 := a4.b0
    cases hb : chB (cheapP L (L.s (nthN L.corners j))).1 (cheapP L (L.s (nthN L.corners j))).2 (L.p (nthN L.corners j)) 1
    · rfl
    · have := (chB_pos (by omega) (by omega)).1 hb
      omega
  · exact absurd hcc.has.can h
theorem nthN_in {l : List Nat} {x : Nat} (h : x ∈ l) : ∃ k, k < l.length ∧ nthN l k = x := nthN_of_mem h
/-- Of lots of which only some are left, all corners among them, the prices are the same. -/
theorem sel_same {L : LT} (hL : L.Ok) {r : List Nat} (hr : ∀ x, x ∈ r → x < L.n) (hlen : r.length ≤ 8) (hc : ∀ x, x ∈ L.corners → x ∈ r) {t : Int} (ht : 0 ≤ t ∧ t ≤ 100) :
    (L.sel r).Ok ∧ cheapP (L.sel r) t = cheapP L t ∧ (cheapE (L.sel r) t == 0) = (cheapE L t == 0) := by
  have hn : 0 < L.n := hL.n0
  have hch := corner_chain L hn
  have hcp := corners_pos L hn
  have hpos : 1 ≤ r.length := by
    obtain ⟨k, hk, -⟩ := nthN_of_mem (hc _ (nthN_mem hcp))
    omega
  have hm : ∀ k, k < r.length → nthN r k < L.n := fun k hk => hr _ (nthN_mem hk)
  have hM : (L.sel r).Ok := ⟨hpos, hlen, fun k hk => hL.s0 _ (hm k hk), fun k hk => hL.s1 _ (hm k hk), fun k hk => hL.p0 _ (hm k hk), fun k hk => hL.p1 _ (hm k hk)⟩
  have hsub : Sub (L.sel r) L := fun k hk => ⟨nthN r k, hm k hk, rfl, rfl⟩
  have hC : ∀ j, j ≤ L.corners.length - 1 → ∃ i, i < (L.sel r).n ∧ (L.sel r).s i = L.s (nthN L.corners j) ∧ (L.sel r).p i = L.p (nthN L.corners j) := fun j hj => by
    obtain ⟨k, hk, e⟩ := nthN_of_mem (hc _ (nthN_mem (show j < L.corners.length by omega)))
    exact ⟨k, hk, by show L.s (nthN r k) = _; rw [e], by show L.p (nthN r k) = _; rw [e]⟩
  have h := cheap_eq hL hM ht ht (CanB.sub hch hsub hC t).symm fun a b hk => hch.sub hsub hC hk
  exact ⟨hM, h⟩
theorem idleE_ok {L : LT} (hL : L.Ok) : L.idleE = L.idleL L.n := by unfold LT.idleE; rw [if_pos (checkL_ok.2 hL)]
theorem idleL_mem {L : LT} {n i : Nat} : i ∈ L.idleL n ↔ i < n ∧ L.idB (L.s i) (L.p i) = true := by unfold LT.idleL; rw [List.mem_filter, List.mem_range]
/-- What without makes of lots. -/
def LT.outL (l : List Nat) (n : Nat) : List Nat := (List.range n).filter fun i => !l.contains i
theorem outL_succ (l : List Nat) (n : Nat) : LT.outL l (n + 1) = if l.contains n = true then LT.outL l n else LT.outL l n ++ [n] := by
  unfold LT.outL
  rw [List.range_succ, List.filter_append]
  cases h : l.contains n
  · rw [List.filter_cons_of_pos (by rw [h]; rfl), List.filter_nil, if_neg Bool.false_ne_true]
  · rw [List.filter_cons_of_neg (by rw [h]; decide), List.filter_nil, List.append_nil, if_pos rfl]
theorem outL_mem {l : List Nat} {n i : Nat} : i ∈ LT.outL l n ↔ i < n ∧ i ∉ l := by
  unfold LT.outL
  rw [List.mem_filter, List.mem_range]
  simp
theorem outL_le (l : List Nat) (n : Nat) : (LT.outL l n).length ≤ n := by
  unfold LT.outL
  exact Nat.le_trans (List.length_filter_le _ _) (by simp)
/-- Lists of different numbers. -/
def Diffs (l : List Nat) (n : Nat) : Prop := (∀ x, x ∈ l → x < n) ∧ ∀ i k, i < l.length → k < i → nthN l k ≠ nthN l i
theorem pair_diffs {l : List Nat} {n : Nat} {f : Nat → Int} (h : ∀ x, x ∈ l → x < n) (hp : l.Pairwise (fun a b => f a < f b)) : Diffs l n := by
  refine ⟨h, fun i k hi hk e => ?_⟩
  have := List.pairwise_iff_getElem.1 hp k i (by omega) hi hk
  have e1 : nthN l k = l[k]'(by omega) := by unfold nthN; rw [List.getD_eq_getElem?_getD, List.getElem?_eq_getElem (by omega)]; rfl
  have e2 : nthN l i = l[i] := by unfold nthN; rw [List.getD_eq_getElem?_getD, List.getElem?_eq_getElem hi]; rfl
  rw [← e1, ← e2, e] at this
  omega
theorem nodup_le : ∀ (n : Nat) (l : List Nat), l.Nodup → (∀ x, x ∈ l → x < n) → l.length ≤ n
  | 0, l, _, h => by
    cases l with
    | nil => simp
    | cons a r => have := h a (by simp); omega
  | n + 1, l, hd, h => by
    have h1 := nodup_le n (l.erase n) (hd.erase n) fun x hx => by
      have h2 := h x (List.mem_of_mem_erase hx)
      have h3 : x ≠ n := fun e => by subst e; exact (List.Nodup.not_mem_erase hd) hx
      omega
    have h4 : l.length ≤ (l.erase n).length + 1 := by
      rw [List.length_erase]; split <;> omega
    omega
theorem idle_facts {L : LT} (hL : L.Ok) {t : Int} (ht : 0 ≤ t ∧ t ≤ 100) :
    Diffs L.idleE L.n ∧ Diffs L.corners L.n ∧ 0 < L.corners.length ∧ L.idleE.length + L.corners.length ≤ L.n ∧ (∀ j, 0 < j → j < L.corners.length → L.s (nthN L.corners (j - 1)) < L.s (nthN L.corners j)) ∧
      ((L.sel (LT.outL L.idleE L.n)).Ok ∧ cheapP (L.sel (LT.outL L.idleE L.n)) t = cheapP L t ∧ (cheapE (L.sel (LT.outL L.idleE L.n)) t == 0) = (cheapE L t == 0)) ∧
      ((L.sel L.corners).Ok ∧ cheapP (L.sel L.corners) t = cheapP L t ∧ (cheapE (L.sel L.corners) t == 0) = (cheapE L t == 0)) ∧
      ∀ i, i < L.n → L.idleE.contains i = L.idB (L.s i) (L.p i) := by
  have hn : 0 < L.n := hL.n0
  have hn8 := hL.n8
  have hmem : ∀ x, x ∈ L.idleE ↔ x < L.n ∧ L.idB (L.s x) (L.p x) = true := fun x => by rw [idleE_ok hL]; exact idleL_mem
  have hcs := corners_sorted L hn
  have hcm : ∀ x, x ∈ L.corners → x < L.n := fun x hx => (corner_busy hL hx).1
  have hli : L.idleE.Pairwise (fun a b => ((a : Nat) : Int) < ((b : Nat) : Int)) := by
    rw [idleE_ok hL]
    unfold LT.idleL
    exact ((List.pairwise_lt_range).imp (fun h => by omega)).filter _
  refine ⟨pair_diffs (fun x hx => ((hmem x).1 hx).1) hli, pair_diffs hcm hcs, corners_pos L hn, ?_, fun j h0 hj => ?_, ?_, ?_, fun i hi => ?_⟩
  · have hnd : (L.idleE ++ L.corners).Nodup := by
      refine List.nodup_append.2 ⟨hli.imp (fun h => by omega), hcs.imp (fun h e => by subst e; omega), fun x hx y hy e => ?_⟩
      subst e
      have h1 := ((hmem x).1 hx).2
      rw [(corner_busy hL hy).2] at h1
      cases h1
    have := nodup_le L.n (L.idleE ++ L.corners) hnd fun x hx => by
      rcases List.mem_append.1 hx with h | h
      · exact ((hmem x).1 h).1
      · exact hcm x h
    rw [List.length_append] at this
    exact this
  · have := List.pairwise_iff_getElem.1 hcs (j - 1) j (by omega) hj (by omega)
    have e1 : nthN L.corners (j - 1) = L.corners[j - 1]'(by omega) := by unfold nthN; rw [List.getD_eq_getElem?_getD, List.getElem?_eq_getElem (by omega)]; rfl
    have e2 : nthN L.corners j = L.corners[j] := by unfold nthN; rw [List.getD_eq_getElem?_getD, List.getElem?_eq_getElem hj]; rfl
    rw [e1, e2]; exact this
  · refine sel_same hL (fun x hx => (outL_mem.1 hx).1) (Nat.le_trans (outL_le _ _) hn8) (fun x hx => ?_) ht
    obtain ⟨h1, h2⟩ := corner_busy hL hx
    refine outL_mem.2 ⟨h1, fun h => ?_⟩
    rw [((hmem x).1 h).2] at h2
    cases h2
  · exact sel_same hL hcm (Nat.le_trans (corners_length L) hn8) (fun x hx => hx) ht
  · cases hb : L.idB (L.s i) (L.p i)
    · cases hc : L.idleE.contains i
      · rfl
      · have := ((hmem i).1 (by simpa using hc)).2
        rw [hb] at this; cases this
    · have := (hmem i).2 ⟨hi, hb⟩
      simpa using this
end Go.Proofs.YtgpfmnjianflaaaDoor
