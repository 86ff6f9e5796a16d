/- Walk of the law's Mixed. -/
import Derived.Test.YtgpfmnjianflaaaDoorE2
import Derived.Test.YtgpfmnjianflaaaDoorH1
set_option linter.unusedSimpArgs false
set_option linter.unusedVariables false
set_option linter.constructorNameAsVariable false
namespace Go.Proofs.YtgpfmnjianflaaaDoor
open Go.RowKit

def mixL (f : Nat → Int) (m k : Nat) : List Value := (List.range k).map fun i => .int .i64 (mixN f m i)
theorem mixL_succ (f : Nat → Int) (m k : Nat) : mixL f m (k + 1) = mixL f m k ++ [.int .i64 (mixN f m k)] := by unfold mixL; rw [List.range_succ, List.map_append]; rfl
theorem mixL_get (f : Nat → Int) (m : Nat) {n k : Nat} (h : k < n) : (mixL f m n)[k]? = some (.int .i64 (mixN f m k)) := by
  unfold mixL; rw [List.getElem?_map, List.getElem?_range h]; rfl
theorem mixL_own {W : World} {B n m : Nat} {u : Value} {f : Nat → Int} (h : W.ownsRow B 2 1 u n (mixL f m n)) (hn : 0 < n) : ∃ g c cur, u = .slice (some ⟨g, 0, none⟩) n c ∧ B ≤ g ∧ W.heap[g]? = some (.cells cur 2 (0, 0)) ∧ n ≤ cur.size ∧ ∀ k, k < n → W.cell? ⟨g, k, none⟩ = some (.int .i64 (mixN f m k)) := by
  rcases h.2 with ⟨_, h0⟩ | ⟨g, c, cur, rfl, hb, hg, h1, h2, h3, h4⟩
  · omega
  · refine ⟨g, c, cur, rfl, hb, hg, by omega, fun k hk => ?_⟩
    have hv := mixL_get f m hk
    rw [cell_of_row W _ _ _ _ _ hg, ← hv, ← h4, List.getElem?_take_of_lt (by omega)]; simp
set_option maxRecDepth 20000 in
set_option maxHeartbeats 4000000 in
theorem Mixed_any (w : World) (L : LT) (p q : Option Addr) (cap m c : Nat) (f : Nat → Int) (hn : 1 ≤ L.n ∧ L.n ≤ 8) (hm : m ≤ 1000) (hq : Row w.heap.size w q m fun k => .int .u16 (f k)) (hf : ∀ k, k < m → 0 ≤ f k ∧ f k ≤ 65535) :
    Calls Tryd.prog 48 #[.slice p L.n cap, .slice q m c] w fun e w' => (∃ r d, e = .returned (.slice r L.n d) ∧ Row w'.heap.size w' r L.n fun k => .int .i64 (mixV f m L.n k)) ∧ Pure w w' := by
  have hmx : Tryd.prog.follows .mixedOrders = true := by kernel_rfl
  have HQ := Lib.hid hq
  have HF := Lib.hid hf
  clear hq hf
  obtain ⟨n, hnn⟩ : ∃ n, L.n = n := ⟨_, rfl⟩
  rw [hnn] at hn ⊢
  clear hnn
  go_enter Tryd.func48, Tryd.ntmps48
  go_wp2_with fail
  go_loopw [5, 6, 7] (fun v s i wr => ∃ k : Nat, k ≤ n ∧ i = .int .i64 k ∧ s = .int .i64 (sumI (mixN f m) k) ∧ Hid (wr.ownsRow w.heap.size 2 1 v k (mixL f m k)) ∧ Hid (Pure w wr)) (fun _ _ i _ => n - (intOf i).toNat)
  case atStart => exact ⟨0, Nat.zero_le _, rfl, rfl, World.ownsRow_nil _ _ _ _, Diff.refl w⟩
  case round =>
    obtain ⟨k, hk, rfl, rfl, HO, HP⟩ := hrel
    by_cases hlt : k < n
    · have hki : (k : Int) < (n : Int) := by omega
      have hx := mixN_in f m k
      have hs0 := sum_nonneg (n := k) (f := mixN f m) fun i _ => (mixN_in f m i).1
      have hs1 := sumI_le (n := k) (f := mixN f m) (g := 1000) fun i _ => (mixN_in f m i).2
      obtain ⟨s, hs⟩ : ∃ s, sumI (mixN f m) k = s := ⟨_, rfl⟩
      have HSS : Hid (sumI (mixN f m) (k + 1) = s + mixN f m k) := by show sumI (mixN f m) k + mixN f m k = _; rw [hs]
      rw [hs] at hs0 hs1 ⊢
      obtain ⟨x, hxx⟩ : ∃ x, mixN f m k = x := ⟨_, rfl⟩
      have HXX := Lib.hid hxx
      rw [hxx] at hx HSS
      have hw1 : IntKind.i64.wrap (s + x) = s + x := IntWalk.i64_in _ (by omega)
      obtain ⟨v', w', hr, ho', hd', hob, -⟩ := push_one 23 2 (.int .i64 0) 8 Tryd.underlying23 (by kernel_rfl) rfl (by omega) HO.out (by omega) HP.out.size (.int .i64 x) rfl
      have HO' := Lib.hid ho'
      have HPA : Hid (Pure w w') := HP.out.trans' hd' (fun x hx hh => by have := (HO.out.lt x hh.symm).1; omega)
      clear hs ho' hd' hob hs0 hs1 hx
      by_cases hm0 : 0 < m
      · obtain ⟨j, hj⟩ : ∃ j : Nat, k % m = j := ⟨_, rfl⟩
        have hjm : j < m := by rw [← hj]; exact Nat.mod_lt _ hm0
        have hji : (j : Int) < (m : Int) := by omega
        have hmi : (0 : Int) < (m : Int) := by omega
        have hmz : ¬ (m : Int) = 0 := by omega
        have hj' : ((k : Int)).tmod (m : Int) = (j : Int) := by rw [Int.tmod_eq_emod_of_nonneg (by omega), ← hj, Int.natCast_emod]
        have hw2 : IntKind.i64.wrap (j : Int) = (j : Int) := IntWalk.i64_in _ (by omega)
        obtain ⟨b, o, rfl, hb, hc⟩ := HQ.out j hjm
        have d0 := ((pcell HP.out).1 _ _ hb).trans hc
        have lb := Nat.lt_of_lt_of_le hb HP.out.size
        have hfj := HF.out j hjm
        have hw3 : IntKind.i64.wrap (f j) = f j := IntWalk.i64_in _ (by omega)
        have hw4 : (f j).tmod 1001 = x := by rw [Int.tmod_eq_emod_of_nonneg hfj.1, ← hxx]; unfold mixN; rw [if_neg (by omega), hj]
        have hw5 : IntKind.i64.wrap x = x := by have := mixN_in f m k; exact IntWalk.i64_in _ (by omega)
        clear hxx hc hb hj hfj
        go_wp2_with (at_builtin; refine Lib.wpList_append_run _ rfl _ _ _ _ rfl _ _ rfl rfl _ _ hr ?_)
        go_roundw
        case rel =>
          refine ⟨k + 1, by omega, by go_num, by rw [HSS.out], ?_, HPA.out⟩
          show World.ownsRow _ _ _ _ _ _ _
          rw [mixL_succ, HXX.out]; exact HO'.out
        case measure => simp [intOf]; omega
      · have hmi : ¬ (0 : Int) < (m : Int) := by omega
        have hx0 : x = 0 := by rw [← hxx]; unfold mixN; rw [if_pos (by omega)]
        clear hxx
        subst hx0
        rw [Int.add_zero] at HSS hw1
        go_wp2_with (at_builtin; refine Lib.wpList_append_run _ rfl _ _ _ _ rfl _ _ rfl rfl _ _ hr ?_)
        go_roundw
        case rel =>
          refine ⟨k + 1, by omega, by go_num, by rw [HSS.out], ?_, HPA.out⟩
          show World.ownsRow _ _ _ _ _ _ _
          rw [mixL_succ, HXX.out]; exact HO'.out
        case measure => simp [intOf]; omega
    · obtain rfl : k = n := by omega
      obtain ⟨g, cc, cur, rfl, hgB, hg, hcs, hcell⟩ := mixL_own HO.out (by omega)
      have hgl : g < wr.heap.size := (Array.getElem?_eq_some_iff.1 hg).1
      have fz := fun o => frozen_of_row wr g o _ _ hg
      have HC := Lib.hid hcell
      have hk0 : (0 : Int) < (k : Int) := by omega
      have c0 := hcell 0 (by omega)
      have HS0 : Hid (∀ h : sumI (mixN f m) k ≠ 0, mixV f m k = mixN f m) := fun h => by funext i; unfold mixV; rw [if_neg h]
      have HS1 : Hid (∀ h : sumI (mixN f m) k = 0, ∀ i, mixV f m k i = if i = 0 then 1 else mixN f m i) := fun h i => by unfold mixV; rw [if_pos h]
      obtain ⟨s, hs⟩ : ∃ s, sumI (mixN f m) k = s := ⟨_, rfl⟩
      rw [hs] at HS0 HS1 ⊢
      clear hs hcell
      by_cases hz : s = 0
      · subst hz
        clear HS0
        go_wp2
        refine bodyPost_ret (v := .slice (some ⟨g, 0, none⟩) k cc) (by simp [results, Tryd.results48, go_sem]) rfl ⟨⟨some ⟨g, 0, none⟩, ⟨cc, rfl⟩, fun i hi => ⟨g, 0, rfl, by simpa [World.setCell] using hgl, ?_⟩⟩, HP.out.setCell (p := ⟨g, 0, none⟩) (fun h => by have h' : g < w.heap.size := h; omega) _⟩
        show _ = some (Value.int IntKind.i64 (mixV f m k i))
        rw [HS1.out trivial i, Nat.zero_add]
        have hB : Blk g 2 cur wr := hg
        have h1 := (hB.set 0 (.int .i64 1)).at i
        have h2 := HC.out i hi
        rw [hB.at i] at h2
        rw [h1, Array.getElem?_setIfInBounds]
        by_cases hi0 : i = 0
        · subst hi0; rw [if_pos rfl, if_pos (by omega), if_pos rfl]
        · rw [if_neg (fun e => hi0 e.symm), if_neg hi0]; exact h2
      · clear HS1 c0
        go_wp2
        refine bodyPost_ret (v := .slice (some ⟨g, 0, none⟩) k cc) (by simp [results, Tryd.results48, go_sem]) rfl ⟨⟨some ⟨g, 0, none⟩, cc, rfl, fun i hi => ⟨g, 0, rfl, hgl, ?_⟩⟩, HP.out⟩
        rw [HS0.out hz, Nat.zero_add]
        exact HC.out i hi
end Go.Proofs.YtgpfmnjianflaaaDoor
