/- The reference: end, Least, Greatest. -/
import Derived.Test.YtmedkmbfggphdaaDoorJ2
set_option linter.unusedSimpArgs false
set_option linter.unusedVariables false
set_option linter.constructorNameAsVariable false
namespace Go.Proofs.YtmedkmbfggphdaaDoor
open Go.RowKit

/-- One value more behind an own row of cells. -/
theorem push_one (t e : TypeId) (z : Value) (bytes : Nat) (ht : Tryd.prog.underlying t = some (.slice e)) (hinfo : (Tryd.prog.info? e).map (fun i => (i.zero, i.size, i.bytes)) = some (some z, 1, bytes)) (hz1 : z.cells.size = 1) (hby : bytes ≤ 24)
    {W : World} {B n : Nat} {u : Value} {xs : List Value} (h : W.ownsRow B e 1 u n xs) (hn : n ≤ 1000) (hB : B ≤ W.heap.size) (x : Value) (hx : x.oneCell' = true) :
    ∃ v' w', (Builtin.append_ #[t, t] t #[u, .slice (some ⟨W.heap.size, 0, none⟩) 1 1]).run Tryd.prog (W.alloc (.cells #[x] e)) = .ok v' w' ∧ w'.ownsRow B e 1 v' (n + 1) (xs ++ [x]) ∧
      Diff (fun k => some k = u.ownBlock) W w' ∧ (v'.ownBlock = u.ownBlock ∨ v'.ownBlock = some (W.heap.size + 1)) ∧ ∃ g c, v' = .slice (some ⟨g, 0, none⟩) (n + 1) c := by
  obtain ⟨i9, hi9, hzz⟩ := Option.map_eq_some_iff.1 hinfo
  simp only [Prod.mk.injEq] at hzz
  obtain ⟨hz9, hsz9, hby9⟩ := hzz
  have hown2 : (W.alloc (.cells #[x] e)).ownsRow B e 1 u n xs := h.alloc _
  have hW3 : (W.alloc (.cells #[x] e)).heap[W.heap.size]? = some (.cells #[x] e (0, 0)) := World.alloc_heap_new _ _
  obtain ⟨v', w', hr2, o2, g2, -, own2⟩ := run_append_own_at (P := Tryd.prog) (W.alloc (.cells #[x] e)) B t t e i9 z 1 bytes ht hi9 hz9 hsz9 hby9 hz1 (by omega) u n xs hown2
    ⟨W.heap.size, 0, none⟩ 1 1 [x] rfl (fun j y hj => by
      have hadd : (⟨W.heap.size, 0, none⟩ : Addr).add j = ⟨W.heap.size, j, none⟩ := by unfold Addr.add; split <;> simp_all
      rw [hadd, cell_of_row _ _ _ _ _ _ hW3]
      match j with
      | 0 => simpa using hj
      | j + 1 => simp at hj) (by simpa using hx) (by simp only [maxLen]; omega) (by
        have : (n + 1) * bytes ≤ 1001 * 24 := Nat.mul_le_mul (by omega) hby
        omega) (by simp; omega)
  refine ⟨v', w', hr2, o2, ?_, by simpa using own2, ?_⟩
  · have hsz := g2.size
    rw [World.size_alloc] at hsz
    exact ⟨g2.os, g2.tape, g2.output, by omega, fun k hk ho => (g2.block k (by simp; omega) ho).trans (Below.heap_alloc _ _ _ hk)⟩
  · rcases o2.2 with ⟨_, h0⟩ | ⟨g, c, cur, he, _⟩
    · omega
    · exact ⟨g, c, he⟩
theorem own_diff {O : Nat → Prop} {w w' : World} {base : Nat} {e : TypeId} {size : Nat} {v : Value} {n : Nat} {xs : List Value} (h : w.ownsRow base e size v n xs) (hd : Diff O w w') (ho : ∀ k, v.ownBlock = some k → ¬ O k) : w'.ownsRow base e size v n xs :=
  own_block h (fun k hk => hd.block k (h.lt k hk).2 (ho k hk))
/-- Two values have no block in common. -/
def ApartV (u v : Value) : Prop := ∀ k, u.ownBlock = some k → v.ownBlock ≠ some k
theorem ApartV.symm {u v : Value} (h : ApartV u v) : ApartV v u := fun k h1 h2 => h k h2 h1
theorem ApartV.push {W : World} {u v u' : Value} {B n : Nat} {e : TypeId} {s : Nat} {xs : List Value} (h : ApartV u v) (hv : W.ownsRow B e s v n xs) (hu : u'.ownBlock = u.ownBlock ∨ u'.ownBlock = some (W.heap.size + 1)) : ApartV u' v := fun k h1 h2 => by
  rcases hu with hu | hu
  · exact h k (hu.symm.trans h1) h2
  · rw [hu] at h1
    have := (hv.lt k h2).2
    have := Option.some.inj h1
    omega
theorem slice_of_own {W : World} {B n : Nat} {e : TypeId} {u : Value} {xs : List Value} (h : W.ownsRow B e 1 u n xs) : ∃ q c, u = .slice q n c ∧ ∀ k, k < n → ∃ g, q = some ⟨g, 0, none⟩ ∧ g < W.heap.size ∧ W.cell? ⟨g, k, none⟩ = xs[k]? := by
  rcases h.2 with ⟨rfl, rfl⟩ | ⟨g, c, cur, rfl, h1, h2, h3⟩
  · exact ⟨none, 0, rfl, fun k hk => by omega⟩
  · exact ⟨_, c, rfl, fun k hk => ⟨g, rfl, (Array.getElem?_eq_some_iff.1 h2).1, World.ownsRow.cellAt h k (by omega)⟩⟩
theorem row_of_own {W : World} {B n : Nat} {e : TypeId} {u : Value} {f : Nat → Int} (h : W.ownsRow B e 1 u n (vals ((List.range n).map f))) : ∃ q c, u = .slice q n c ∧ Row W.heap.size W q n fun k => .int .i64 (f k) := by
  obtain ⟨q, c, rfl, hc⟩ := slice_of_own h
  refine ⟨q, c, rfl, fun k hk => ?_⟩
  obtain ⟨g, rfl, hg, hx⟩ := hc k hk
  exact ⟨g, 0, rfl, hg, by rw [Nat.zero_add, hx]; simp [vals, hk]⟩

def endV (b : BK) (gr : Bool) (i : Nat) : Int := bif gr then (b.T (ix 0 i)).by' else -(b.T (ix i 0)).by'
def endQ (b : BK) (gr : Bool) (w : World) (e : Ending) (w' : World) : Prop :=
  if checkB b ≠ 0 then e = .returned (.tuple #[.slice none 0 0, .slice none 0 0, .int .i64 (checkB b)])
  else if noneB b.es = true then e = .returned (.tuple #[.slice none 0 0, .slice none 0 0, .int .i64 17])
  else ∃ (L : Nat) (u v : Value), b.lots = L ∧ e = .returned (.tuple #[u, v, .int .i64 0]) ∧ w'.ownsRow w.heap.size 2 1 u L (vals ((List.range L).map fun j => endV b gr (1 + j))) ∧ w'.ownsRow w.heap.size 2 1 v b.total (vals ((List.range b.total).map fun j => endV b gr (1 + L + j)))

theorem min_snoc (f : Nat → Int) (k : Nat) : vals ((List.range k).map f) ++ [.int .i64 (f k)] = vals ((List.range (k + 1)).map f) := by simp [vals, List.range_succ]

structure EI (b : BK) (gr : Bool) (L : Nat) (w3 : World) (k : Nat) (u v : Value) (wr : World) : Prop where
  pw : Pure w3 wr
  o1 : wr.ownsRow w3.heap.size 2 1 u (min (k - 1) L) (vals ((List.range (min (k - 1) L)).map fun j => endV b gr (1 + j)))
  o2 : wr.ownsRow w3.heap.size 2 1 v (k - 1 - L) (vals ((List.range (k - 1 - L)).map fun j => endV b gr (1 + L + j)))
  ap : ApartV u v

set_option maxRecDepth 20000 in
set_option maxHeartbeats 4000000 in
theorem end_any (w : World) (b : BK) (p : Option Addr) (cap : Nat) (gr : Bool) (hs : b.Small) (hb : BookAt w.heap.size w p b) :
    Calls Tryd.prog 69 #[bookV b p cap, .bool gr] w fun e w' => endQ b gr w e w' ∧ Pure w w' := by
  have HHB := Lib.hid hb
  clear hb
  go_enter Tryd.func69, Tryd.ntmps69
  go_wp2_with fail
  obtain ⟨X, hX⟩ : ∃ X, w.alloc (.cells (bookC b p cap) 26) = X := ⟨_, rfl⟩
  have hP : Hid (Pure w X) := by rw [← hX]; exact (Diff.refl w).alloc _
  have hX1 : BoxB w.heap.size b p cap X := by rw [← hX]; exact BoxB.new w b p cap 26
  rw [hX]
  clear hX
  have HB := Lib.hid hX1
  obtain ⟨gb, hgb⟩ : ∃ gb, w.heap.size = gb := ⟨_, rfl⟩
  have HG : Hid (w.heap.size = gb) := hgb
  rw [hgb] at HB hX1 ⊢
  clear hgb
  obtain ⟨c0, c1, c2, c3, cl⟩ := hX1
  go_wp2_with fail
  refine (RCheckBook_any X b p cap hs ((HHB.out.diff hP.out (Nat.le_refl _) (fun _ _ => id)).mono hP.out.size)).mono ?_
  rintro e w1 ⟨rfl, hp1⟩
  have hP1 : Hid (Pure w w1) := hP.out.trans hp1
  have HB1 := Lib.hid (HB.out.pure hp1)
  clear c0 c1 c2 c3 cl HB hp1 hP
  obtain ⟨c0, c1, c2, c3, cl⟩ := HB1.out
  by_cases hck : checkB b = 0
  · have hv := checkB_valid hck
    have HCK := Lib.hid hck
    rw [hck]
    clear hck
    go_wp2_with fail
    refine (Can_net w1 b p cap hv ((HHB.out.diff hP1.out (Nat.le_refl _) (fun _ _ => id)).mono hP1.out.size)).mono ?_
    rintro e w2 ⟨rfl, hp2⟩
    have hP2 : Hid (Pure w w2) := hP1.out.trans hp2
    have HB2 := Lib.hid (HB1.out.pure hp2)
    clear c0 c1 c2 c3 cl hp2 HB1 hP1
    obtain ⟨c0, c1, c2, c3, cl⟩ := HB2.out
    cases hN : noneB b.es with
    | true =>
      go_wp2_with fail
      exact bodyPost_ret (v := .tuple #[.slice none 0 0, .slice none 0 0, .int .i64 17]) (by simp [results, Tryd.results69, go_sem]) rfl ⟨by unfold endQ; rw [if_neg (by have := HCK.out; omega), if_pos hN], hP2.out⟩
    | false =>
      have HN := Lib.hid hN
      clear hN
      obtain ⟨N, hN⟩ := Int.eq_ofNat_of_zero_le (show 0 ≤ 1 + b.lots + b.total by have := hv.lots1; omega)
      obtain ⟨L, hL⟩ := Int.eq_ofNat_of_zero_le (show 0 ≤ b.lots by have := hv.lots1; omega)
      have h6 := hv.lots6
      have h12 := hv.tot
      have hl1 := hv.lots1
      have hN19 : N ≤ 19 := by omega
      have hN1 : 1 ≤ N := by omega
      have hL6 : L ≤ 6 := by omega
      have HNN : Hid ((N : Int) = 1 + b.lots + b.total) := hN.symm
      have HL := Lib.hid hL
      have HNL : Hid (N = 1 + L + b.total) := by show _ = _; omega
      clear h6 h12 hl1 hN hL
      go_wp2_with fail
      refine (Joined_any w2 b p cap N (-1) hv ((HHB.out.diff hP2.out (Nat.le_refl _) (fun _ _ => id)).mono hP2.out.size) HNN.out).mono ?_
      rintro e w3 ⟨u, rfl, hM, hp3⟩
      have hP3 : Hid (Pure w w3) := hP2.out.trans hp3
      have HB3 := Lib.hid (HB2.out.pure hp3)
      clear c0 c1 c2 c3 cl hp3 HB2 hP2
      have HR : Hid (∀ i, i < N → (jm (j0 fun a c => b.bd (-1) a c) N N i 0 = (b.T (ix i 0)).by' ∧ jm (j0 fun a c => b.bd (-1) a c) N N 0 i = (b.T (ix 0 i)).by')) := fun i hi => by
        have hrel := (joined_b b hv N HNN.out).2 HN.out
        have hz := b.zero hv L HL.out HN.out i (by have := HNL.out; omega)
        have h1 := hrel i 0 hi (by omega)
        have h2 := hrel 0 i (by omega) hi
        unfold relB at h1 h2
        rw [if_pos hz.2] at h1
        rw [if_pos hz.1] at h2
        exact ⟨h1, h2⟩
      have HS : Hid (∀ i, -1000000000 ≤ (b.T i).by' ∧ (b.T i).by' ≤ 1000000000) := tightS_small b.es b.bnN (b.netM_good hv)
      obtain ⟨R, hR⟩ : ∃ R, (jm (j0 fun a c => b.bd (-1) a c) N N) = R := ⟨_, rfl⟩
      rw [hR] at hM HR
      clear hR
      obtain ⟨ub, uc, G, rfl, hub, hall⟩ := hM
      have HA := Lib.hid hall
      clear hall
      go_wp2_with fail
      go_loopw [8, 9, 10] (fun s t i wr => ∃ (k : Nat) (v1 v2 : Value), 1 ≤ k ∧ k ≤ N ∧ i = .int .i64 k ∧ s = v1 ∧ t = v2 ∧ Hid (EI b gr L w3 k v1 v2 wr)) (fun _ _ i _ => N - (intOf i).toNat)
      case atStart => exact ⟨1, _, _, Nat.le_refl _, hN1, rfl, rfl, rfl, Diff.refl _, World.ownsRow_nil _ _ _ _, by rw [show 1 - 1 - L = 0 by omega]; exact World.ownsRow_nil _ _ _ _, fun k h => by simp [Value.ownBlock] at h⟩
      case round =>
        obtain ⟨k, v1, v2, hk1, hk, rfl, hs1, hs2, HE⟩ := hrel
        have hs1' := hs1.symm
        have hs2' := hs2.symm
        clear hs1 hs2
        subst hs1' hs2'
        by_cases hkn : k < N
        · have hki : (k : Int) < N := by omega
          have hk0 : (0 : Int) ≤ k := by omega
          have hNi : (0 : Int) < N := by omega
          have hN0 : 0 < N := by omega
          have y1 := ((pcell HE.out.pw).1 _ _ hub).trans (HA.out k hkn).1
          have y2 := ((pcell HE.out.pw).1 _ _ (HA.out k hkn).2.1).trans ((HA.out k hkn).2.2 0 hN0)
          have y3 := ((pcell HE.out.pw).1 _ _ hub).trans (HA.out 0 hN0).1
          have y4 := ((pcell HE.out.pw).1 _ _ (HA.out 0 hN0).2.1).trans ((HA.out 0 hN0).2.2 k hkn)
          obtain ⟨c0, c1, c2, c3, cl⟩ := HB3.out.pure HE.out.pw
          rw [HL.out] at c2
          obtain ⟨r1, hr1⟩ : ∃ r, R k 0 = r := ⟨_, rfl⟩
          obtain ⟨r2, hr2⟩ : ∃ r, R 0 k = r := ⟨_, rfl⟩
          rw [hr1] at y2
          rw [hr2] at y4
          have hb1 : -1000000000 ≤ r1 ∧ r1 ≤ 1000000000 := by rw [← hr1, (HR.out k hkn).1]; exact HS.out _
          have hb2 : -1000000000 ≤ r2 ∧ r2 ≤ 1000000000 := by rw [← hr2, (HR.out k hkn).2]; exact HS.out _
          have HV : Hid (endV b gr k = bif gr then r2 else -r1) := by show _ = _; unfold endV; rw [← (HR.out k hkn).1, ← (HR.out k hkn).2, hr1, hr2]
          clear hr1 hr2
          by_cases hkL : k ≤ L
          · have hkLi : (k : Int) ≤ (L : Int) := by omega
            have hpush := push_one 27 2 (.int .i64 0) 8 Tryd.underlying27 info2 rfl (by omega) HE.out.o1 (by omega) (HE.out.pw.size) (.int .i64 (endV b gr k)) rfl
            rw [HV.out] at hpush
            obtain ⟨v', w', hr, hown, hd, hob, hform⟩ := hpush
            have HE2 : Hid (EI b gr L w3 (k + 1) v' v2 w') := by
              refine ⟨HE.out.pw.trans' hd (fun x hx hh => by have := (HE.out.o1.lt x hh.symm).1; omega), ?_, ?_, HE.out.ap.push HE.out.o2 hob⟩
              · rw [← HV.out] at hown
                have e1 : min (k - 1) L = k - 1 := by omega
                have e2 : min (k + 1 - 1) L = k - 1 + 1 := by omega
                rw [e1] at hown
                rw [e2, ← min_snoc, show 1 + (k - 1) = k by omega]
                exact hown
              · rw [show k + 1 - 1 - L = k - 1 - L by omega]
                exact own_diff HE.out.o2 hd (fun x hx hh => HE.out.ap x hh.symm hx)
            clear hown hd hob
            obtain ⟨g', c', rfl⟩ := hform
            cases gr
            all_goals
              simp only [cond_true, cond_false] at hr
              go_wp2_with (at_builtin; refine Lib.wpList_append_run _ rfl _ _ _ _ rfl _ _ rfl rfl _ _ hr ?_)
              exact ⟨⟨k + 1, _, _, by omega, by omega, by push_cast; rfl, rfl, rfl, HE2.out⟩, by simp only [intOf]; omega⟩
          · have hkLi : ¬ (k : Int) ≤ (L : Int) := by omega
            have hpush := push_one 27 2 (.int .i64 0) 8 Tryd.underlying27 info2 rfl (by omega) HE.out.o2 (by omega) (HE.out.pw.size) (.int .i64 (endV b gr k)) rfl
            rw [HV.out] at hpush
            obtain ⟨v', w', hr, hown, hd, hob, hform⟩ := hpush
            have HE2 : Hid (EI b gr L w3 (k + 1) v1 v' w') := by
              refine ⟨HE.out.pw.trans' hd (fun x hx hh => by have := (HE.out.o2.lt x hh.symm).1; omega), ?_, ?_, (HE.out.ap.symm.push HE.out.o1 hob).symm⟩
              · rw [show min (k + 1 - 1) L = min (k - 1) L by omega]
                exact own_diff HE.out.o1 hd (fun x hx hh => HE.out.ap.symm x hh.symm hx)
              · rw [← HV.out] at hown
                have e2 : k + 1 - 1 - L = k - 1 - L + 1 := by omega
                rw [e2, ← min_snoc, show 1 + L + (k - 1 - L) = k by omega]
                exact hown
            clear hown hd hob
            obtain ⟨g', c', rfl⟩ := hform
            cases gr
            all_goals
              simp only [cond_true, cond_false] at hr
              go_wp2_with (at_builtin; refine Lib.wpList_append_run _ rfl _ _ _ _ rfl _ _ rfl rfl _ _ hr ?_)
              exact ⟨⟨k + 1, _, _, by omega, by omega, by push_cast; rfl, rfl, rfl, HE2.out⟩, by simp only [intOf]; omega⟩
        · obtain rfl : k = N := by omega
          have e1 : min (k - 1) L = L := by have := HNL.out; omega
          have e2 : k - 1 - L = b.total := by have := HNL.out; omega
          have o1 := HE.out.o1
          have o2 := HE.out.o2
          rw [e1] at o1
          rw [e2] at o2
          have O1 := Lib.hid o1
          have O2 := Lib.hid o2
          obtain ⟨q1, d1, rfl, -⟩ := slice_of_own o1
          obtain ⟨q2, d2, rfl, -⟩ := slice_of_own o2
          clear o1 o2 e1 e2
          go_wp2_with fail
          have hsz := hP3.out.size
          exact bodyPost_ret (v := .tuple #[.slice q1 L d1, .slice q2 b.total d2, .int .i64 0]) (by simp [results, Tryd.results69, go_sem]) rfl
            ⟨by unfold endQ; rw [if_neg (by have := HCK.out; omega), if_neg (by rw [HN.out]; simp)]; exact ⟨L, _, _, HL.out, rfl, own_mono O1.out hsz, own_mono O2.out hsz⟩, hP3.out.trans HE.out.pw⟩
  · go_wp2_with fail
    refine (RCheckBook_any w1 b p cap hs ((HHB.out.diff hP1.out (Nat.le_refl _) (fun _ _ => id)).mono hP1.out.size)).mono ?_
    rintro e w2 ⟨rfl, hp2⟩
    have hP2 : Hid (Pure w w2) := hP1.out.trans hp2
    go_wp2_with fail
    exact bodyPost_ret (v := .tuple #[.slice none 0 0, .slice none 0 0, .int .i64 (checkB b)]) (by simp [results, Tryd.results69, go_sem]) rfl ⟨by unfold endQ; rw [if_pos hck], hP2.out⟩

set_option maxRecDepth 20000 in
theorem RLeast_any (w : World) (b : BK) (p : Option Addr) (cap : Nat) (hs : b.Small) (hb : BookAt w.heap.size w p b) :
    Calls Tryd.prog 30 #[bookV b p cap] w fun e w' => endQ b false w e w' ∧ Pure w w' := by
  have HHB := Lib.hid hb
  clear hb
  go_enter Tryd.func30, Tryd.ntmps30
  go_wp2_with fail
  have hP : Hid (Pure w (w.alloc (.cells (bookC b p cap) 26))) := (Diff.refl w).alloc _
  refine (end_any _ b p cap false hs ((HHB.out.diff hP.out (Nat.le_refl _) (fun _ _ => id)).mono hP.out.size)).mono ?_
  rintro e w1 ⟨hq, hp1⟩
  have hP1 : Hid (Pure w w1) := hP.out.trans hp1
  unfold endQ at hq
  by_cases hck : checkB b = 0
  · rw [if_neg (by omega)] at hq
    have HCK := Lib.hid hck
    clear hck hp1
    cases hN : noneB b.es with
    | true =>
      rw [if_pos hN] at hq
      subst hq
      go_wp2_with fail
      exact bodyPost_ret (v := .tuple #[.slice none 0 0, .slice none 0 0, .int .i64 17]) (by simp [results, Tryd.results30, go_sem]) rfl ⟨by unfold endQ; rw [if_neg (by have := HCK.out; omega), if_pos hN], hP1.out⟩
    | false =>
      rw [if_neg (by rw [hN]; simp)] at hq
      obtain ⟨L, u, v, hL, rfl, o1, o2⟩ := hq
      have HL := Lib.hid hL
      have O1 := Lib.hid o1
      have O2 := Lib.hid o2
      obtain ⟨q1, d1, rfl, -⟩ := slice_of_own o1
      obtain ⟨q2, d2, rfl, -⟩ := slice_of_own o2
      clear o1 o2 hL
      go_wp2_with fail
      have hsz := hP.out.size
      exact bodyPost_ret (v := .tuple #[.slice q1 L d1, .slice q2 b.total d2, .int .i64 0]) (by simp [results, Tryd.results30, go_sem]) rfl
        ⟨by unfold endQ; rw [if_neg (by have := HCK.out; omega), if_neg (by rw [hN]; simp)]; exact ⟨L, _, _, HL.out, rfl, own_mono O1.out hsz, own_mono O2.out hsz⟩, hP1.out⟩
  · rw [if_pos hck] at hq
    subst hq
    clear hp1
    go_wp2_with fail
    exact bodyPost_ret (v := .tuple #[.slice none 0 0, .slice none 0 0, .int .i64 (checkB b)]) (by simp [results, Tryd.results30, go_sem]) rfl ⟨by unfold endQ; rw [if_pos hck], hP1.out⟩

set_option maxRecDepth 20000 in
theorem RGreatest_any (w : World) (b : BK) (p : Option Addr) (cap : Nat) (hs : b.Small) (hb : BookAt w.heap.size w p b) :
    Calls Tryd.prog 32 #[bookV b p cap] w fun e w' => endQ b true w e w' ∧ Pure w w' := by
  have HHB := Lib.hid hb
  clear hb
  go_enter Tryd.func32, Tryd.ntmps32
  go_wp2_with fail
  have hP : Hid (Pure w (w.alloc (.cells (bookC b p cap) 26))) := (Diff.refl w).alloc _
  refine (end_any _ b p cap true hs ((HHB.out.diff hP.out (Nat.le_refl _) (fun _ _ => id)).mono hP.out.size)).mono ?_
  rintro e w1 ⟨hq, hp1⟩
  have hP1 : Hid (Pure w w1) := hP.out.trans hp1
  unfold endQ at hq
  by_cases hck : checkB b = 0
  · rw [if_neg (by omega)] at hq
    have HCK := Lib.hid hck
    clear hck hp1
    cases hN : noneB b.es with
    | true =>
      rw [if_pos hN] at hq
      subst hq
      go_wp2_with fail
      exact bodyPost_ret (v := .tuple #[.slice none 0 0, .slice none 0 0, .int .i64 17]) (by simp [results, Tryd.results32, go_sem]) rfl ⟨by unfold endQ; rw [if_neg (by have := HCK.out; omega), if_pos hN], hP1.out⟩
    | false =>
      rw [if_neg (by rw [hN]; simp)] at hq
      obtain ⟨L, u, v, hL, rfl, o1, o2⟩ := hq
      have HL := Lib.hid hL
      have O1 := Lib.hid o1
      have O2 := Lib.hid o2
      obtain ⟨q1, d1, rfl, -⟩ := slice_of_own o1
      obtain ⟨q2, d2, rfl, -⟩ := slice_of_own o2
      clear o1 o2 hL
      go_wp2_with fail
      have hsz := hP.out.size
      exact bodyPost_ret (v := .tuple #[.slice q1 L d1, .slice q2 b.total d2, .int .i64 0]) (by simp [results, Tryd.results32, go_sem]) rfl
        ⟨by unfold endQ; rw [if_neg (by have := HCK.out; omega), if_neg (by rw [hN]; simp)]; exact ⟨L, _, _, HL.out, rfl, own_mono O1.out hsz, own_mono O2.out hsz⟩, hP1.out⟩
  · rw [if_pos hck] at hq
    subst hq
    clear hp1
    go_wp2_with fail
    exact bodyPost_ret (v := .tuple #[.slice none 0 0, .slice none 0 0, .int .i64 (checkB b)]) (by simp [results, Tryd.results32, go_sem]) rfl ⟨by unfold endQ; rw [if_pos hck], hP1.out⟩
end Go.Proofs.YtmedkmbfggphdaaDoor
