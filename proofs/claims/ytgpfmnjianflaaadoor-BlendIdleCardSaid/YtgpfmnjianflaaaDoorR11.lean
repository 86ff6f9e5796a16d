/- Walks of the reference: Cheapest, Greatest, Last. -/
import Derived.Test.YtgpfmnjianflaaaDoorR10
set_option linter.unusedSimpArgs false
set_option linter.unusedVariables false
set_option linter.constructorNameAsVariable false
namespace Go.Proofs.YtgpfmnjianflaaaDoor
open Go.RowKit

theorem cheap_has {L : LT} {t : Int} (hok : L.Ok) (ht : 0 ≤ t ∧ t ≤ 100) : cheapE L t = if hasB (cheapP L t).1 (cheapP L t).2 = true then 0 else 19 := by
  rcases cheap_join hok ht with ⟨_, h1, h2, _⟩ | ⟨_, h1, h2⟩
  · rw [if_pos (hasB_den h2.den), h1]
  · rw [h2, if_neg (by decide), h1]
set_option maxRecDepth 20000 in
set_option maxHeartbeats 4000000 in
theorem RCheapest_any (w : World) (L : LT) (p : Option Addr) (cap : Nat) (t : Int) (hn : L.n ≤ 1000) (hl : LotsAt w.heap.size w p L) :
    Calls Tryd.prog 27 #[.slice p L.n cap, .int .i64 t] w fun e w' => e = .returned (.tuple #[.agg #[.int .i64 (cheapP L t).1, .int .i64 (cheapP L t).2], .int .i64 (cheapE L t)]) ∧ Pure w w' := by
  have HL := Lib.hid hl
  clear hl
  go_enter Tryd.func27, Tryd.ntmps27
  go_wp2_with fail
  obtain ⟨X, hX⟩ : ∃ V : World, w.alloc (.cells #[.int .i64 0, .int .i64 0] 29) = V := ⟨_, rfl⟩
  have k0 : Blk w.heap.size 29 #[.int .i64 0, .int .i64 0] X := by rw [← hX]; exact Blk.new _ _ _
  have hP : Pure w X := by rw [← hX]; exact (Diff.refl _).alloc _
  rw [hX]
  clear hX
  refine (Rsharped_any X L p cap t hn (HL.out.to hP)).mono ?_
  rintro e w1 ⟨rfl, hp1⟩
  have HP1 := Lib.hid (hP.trans hp1)
  have K1 := Lib.hid (k0.to hp1)
  clear hP hp1 k0
  obtain ⟨c, hc⟩ : ∃ c, sharpE L t = c := ⟨_, rfl⟩
  have HC := Lib.hid hc
  rw [hc]
  clear hc
  by_cases h0 : c = 0
  · subst h0
    obtain ⟨hok, ht⟩ := sharpE_ok.1 HC.out
    have HOK := Lib.hid hok
    go_wp2_with fail
    refine (RCheapestOf_any w1 L p cap t ht HOK.out.in hn (HL.out.to HP1.out)).mono ?_
    rintro e w2 ⟨rfl, hp2⟩
    rw [refC_cheap hok ht]
    have hch := cheap_has hok ht
    have HP2 := Lib.hid (HP1.out.trans hp2)
    have K2 := Lib.hid (K1.out.to hp2)
    obtain ⟨x, hx⟩ : ∃ c, cheapP L t = c := ⟨_, rfl⟩
    have HX := Lib.hid hx
    rw [hx] at hch ⊢
    clear hok hp2 hx
    have c0 := K2.out.at 0
    have c1 := K2.out.at 1
    have fz := fun o => K2.out.fz o
    have l0 := K2.out.lt
    cases hv : hasB x.1 x.2 with
    | true =>
      rw [hv, if_pos rfl] at hch
      have HE := Lib.hid hch
      clear hch hv
      go_wp2
      rw [HE.out, HX.out]
      have z := (K2.out.set2 (Value.int IntKind.i64 x.1) (Value.int IntKind.i64 x.2)).alloc (.cells #[.int .i64 x.1, .int .i64 x.2] 29)
      have HPZ : Pure w _ := (HP2.out.set2 (g := w.heap.size) (by omega) (Value.int IntKind.i64 x.1) (Value.int IntKind.i64 x.2)).alloc (.cells #[.int .i64 x.1, .int .i64 x.2] 29)
      exact bodyPost_ret (v := .tuple #[.agg #[.int .i64 x.1, .int .i64 x.2], .int .i64 0]) (by simp only [results, Tryd.results27]; simp [go_sem, z.at 0, z.at 1]) rfl ⟨rfl, HPZ⟩
    | false =>
      rw [hv, if_neg (by simp)] at hch
      have HE := Lib.hid hch
      have HX0 : Hid (x = pr0) := hasB_pr hv
      clear hch hv
      go_wp2
      rw [HE.out, HX.out, HX0.out]
      have z := (K2.out.set2 (Value.int IntKind.i64 0) (Value.int IntKind.i64 0)).alloc (.cells #[.int .i64 0, .int .i64 0] 29)
      have HPZ : Pure w _ := (HP2.out.set2 (g := w.heap.size) (by omega) (Value.int IntKind.i64 0) (Value.int IntKind.i64 0)).alloc (.cells #[.int .i64 0, .int .i64 0] 29)
      exact bodyPost_ret (v := .tuple #[.agg #[.int .i64 0, .int .i64 0], .int .i64 19]) (by simp only [results, Tryd.results27]; simp [go_sem, z.at 0, z.at 1]) rfl ⟨rfl, HPZ⟩
  · have hb : (c != 0) = true := by simpa using h0
    have HE : Hid (cheapE L t = c ∧ cheapP L t = pr0) := by
      unfold cheapE cheapP
      rw [if_neg (by rw [HC.out]; exact h0), if_neg (by rw [HC.out]; exact h0), HC.out]; exact ⟨rfl, rfl⟩
    go_wp2_with fail
    refine (Rsharped_any w1 L p cap t hn (HL.out.to HP1.out)).mono ?_
    rintro e w2 ⟨rfl, hp2⟩
    have HP2 := Lib.hid (HP1.out.trans hp2)
    have K2 := Lib.hid (K1.out.to hp2)
    clear hp2
    rw [HC.out]
    have c0 := K2.out.at 0
    have c1 := K2.out.at 1
    have fz := fun o => K2.out.fz o
    have l0 := K2.out.lt
    go_wp2
    rw [HE.out.1, HE.out.2]
    have z := K2.out.set2 (Value.int IntKind.i64 0) (Value.int IntKind.i64 0)
    have HPZ := HP2.out.set2 (g := w.heap.size) (by omega) (Value.int IntKind.i64 0) (Value.int IntKind.i64 0)
    obtain ⟨Y, hY⟩ : ∃ Y, (w2.setCell { block := w.heap.size, off := 0 } (Value.int IntKind.i64 0)).setCell { block := w.heap.size, off := 1 } (Value.int IntKind.i64 0) = Y := ⟨_, rfl⟩
    first | rw [hY] at z HPZ HR9 ⊢ | rw [hY] at z HPZ ⊢
    clear hY
    exact bodyPost_ret (v := .tuple #[.agg #[.int .i64 0, .int .i64 0], .int .i64 c]) (by simp [results, Tryd.results27, go_sem, z.at 0, z.at 1]) rfl ⟨rfl, HPZ⟩
/-- The greatest Sharp of the first lots. -/
def LT.grt (L : LT) : Nat → Int
  | 0 => 0
  | i + 1 => if L.grt i < L.s i then L.s i else L.grt i
theorem grt_is {L : LT} : ∀ i, i ≤ L.n → (∀ k, k < i → L.s k ≤ L.grt i) ∧ (L.grt i = 0 ∨ ∃ k, k < i ∧ L.grt i = L.s k) ∧ 0 ≤ L.grt i
  | 0, _ => ⟨fun k hk => by omega, .inl rfl, Int.le_refl _⟩
  | i + 1, hi => by
    obtain ⟨h1, h2, h3⟩ := grt_is (L := L) i (by omega)
    have e : L.grt (i + 1) = if L.grt i < L.s i then L.s i else L.grt i := rfl
    by_cases h : L.grt i < L.s i
    · rw [if_pos h] at e
      rw [e]
      refine ⟨fun k hk => ?_, .inr ⟨i, by omega, rfl⟩, by omega⟩
      rcases Nat.lt_or_ge k i with h5 | h5
      · have := h1 k h5; omega
      · obtain rfl : k = i := by omega
        omega
    · rw [if_neg h] at e
      rw [e]
      refine ⟨fun k hk => ?_, h2.imp id (fun ⟨k, hk, he⟩ => ⟨k, by omega, he⟩), h3⟩
      rcases Nat.lt_or_ge k i with h5 | h5
      · exact h1 k h5
      · obtain rfl : k = i := by omega
        omega
theorem grt_last {L : LT} (hok : L.Ok) : L.grt L.n = L.s (nthN L.corners (L.corners.length - 1)) := by
  have hn := hok.n0
  have hch := corner_chain L (by omega)
  have hm := hch.mem (L.corners.length - 1) (Nat.le_refl _)
  obtain ⟨h1, h2, h3⟩ := grt_is (L := L) L.n (Nat.le_refl _)
  have h4 := h1 _ hm
  have h5 := hok.s0 _ hm
  rcases h2 with h2 | ⟨k, hk, h2⟩
  · omega
  · have := hch.hi k hk
    omega
theorem Greatest_any (w : World) (L : LT) (p : Option Addr) (cap : Nat) (hn : L.n ≤ 1000) (hl : LotsAt w.heap.size w p L) :
    Calls Tryd.prog 83 #[.slice p L.n cap] w fun e w' => e = .returned (.int .i64 (L.grt L.n)) ∧ Pure w w' := by
  have HL := Lib.hid hl
  clear hl
  go_enter Tryd.func83, Tryd.ntmps83
  go_wp2
  go_loopw [3, 4] (fun g i wr => ∃ k : Nat, k ≤ L.n ∧ i = .int .i64 k ∧ g = .int .i64 (L.grt k) ∧ Hid (Pure w wr)) (fun _ i _ => L.n - (intOf i).toNat)
  case atStart => exact ⟨0, Nat.zero_le _, rfl, rfl, Diff.refl _⟩
  case round =>
    obtain ⟨k, hk, rfl, rfl, HP⟩ := hrel
    by_cases hlt : k < L.n
    · obtain ⟨b, o, rfl, hb, hc0, hc1⟩ := HL.out k hlt
      have d0 := ((pcell HP.out).1 _ _ hb).trans hc0
      have lb := Nat.lt_of_lt_of_le hb HP.out.size
      have hki : (k : Int) < (L.n : Int) := by omega
      obtain ⟨g, hg⟩ : ∃ g, L.grt k = g := ⟨_, rfl⟩
      have HS : Hid (L.grt (k + 1) = if g < L.s k then L.s k else g) := by show _ = _; rw [← hg]; rfl
      rw [hg]
      clear hc0 hc1 hg
      go_wp2
      go_roundw
      case rel => exact ⟨k + 1, by omega, by go_num, by rw [HS.out], HP.out⟩
      case measure => simp [intOf]; omega
    · obtain rfl : k = L.n := by omega
      go_wp2
      exact bodyPost_ret (v := .int .i64 (L.grt L.n)) (by simp [results, Tryd.results83, go_sem]) rfl ⟨rfl, HP.out⟩
set_option maxRecDepth 20000 in
theorem RLast_any (w : World) (L : LT) (p : Option Addr) (cap : Nat) (t l : Int) (hn : L.n ≤ 1000) (hl : LotsAt w.heap.size w p L) :
    Calls Tryd.prog 43 #[.slice p L.n cap, .int .i64 t, .int .i64 l] w fun e w' => e = .returned (.tuple #[.int .i64 (lastV L t l), .int .i64 (lastE L t l)]) ∧ Pure w w' := by
  have HL := Lib.hid hl
  clear hl
  go_enter Tryd.func43, Tryd.ntmps43
  go_wp2_with fail
  refine (Rsharped_any w L p cap t hn HL.out).mono ?_
  rintro e w1 ⟨rfl, hp1⟩
  have HP1 := Lib.hid hp1
  clear hp1
  obtain ⟨c, hc⟩ : ∃ c, sharpE L t = c := ⟨_, rfl⟩
  have HC := Lib.hid hc
  rw [hc]
  clear hc
  by_cases h0 : c = 0
  · subst h0
    obtain ⟨hok, ht0, ht1⟩ := sharpE_ok.1 HC.out
    have HOK := Lib.hid hok
    clear hok
    have HB : (l < 1 ∨ 100 < l) → Hid (lastE L t l = 3 ∧ lastV L t l = 0) := fun h => by
      have hw : wIn 1 100 l = false := by unfold wIn; simp; omega
      have HE : lastE L t l = 3 := by unfold lastE; rw [if_pos HC.out, if_pos hw]
      exact ⟨HE, by unfold lastV; rw [if_neg (by rw [HE]; decide)]⟩
    by_cases hl1 : l < 1
    · have HE := HB (.inl hl1)
      go_wp2
      rw [HE.out.1, HE.out.2]
      exact bodyPost_ret (v := .tuple #[.int .i64 0, .int .i64 3]) (by simp [results, Tryd.results43, go_sem]) rfl ⟨rfl, HP1.out⟩
    by_cases hl2 : 100 < l
    · have HE := HB (.inr hl2)
      go_wp2
      rw [HE.out.1, HE.out.2]
      exact bodyPost_ret (v := .tuple #[.int .i64 0, .int .i64 3]) (by simp [results, Tryd.results43, go_sem]) rfl ⟨rfl, HP1.out⟩
    have HW : Hid (wIn 1 100 l = true) := by show _ = _; unfold wIn; simp; omega
    clear HB
    go_wp2_with fail
    refine (Greatest_any w1 L p cap hn (HL.out.to HP1.out)).mono ?_
    rintro e w2 ⟨rfl, hp2⟩
    have HP2 := Lib.hid (HP1.out.trans hp2)
    have hgl := grt_last HOK.out
    have hgb : 0 ≤ L.grt L.n ∧ L.grt L.n ≤ 100 := by
      have hn1 := HOK.out.n0
      have hm := (corner_chain L (by omega)).mem (L.corners.length - 1) (Nat.le_refl _)
      rw [hgl]
      exact ⟨HOK.out.s0 _ hm, HOK.out.s1 _ hm⟩
    obtain ⟨g, hg⟩ : ∃ g, L.grt L.n = g := ⟨_, rfl⟩
    have HGG : Hid (L.s (nthN L.corners (L.corners.length - 1)) = g) := by show _ = _; rw [← hgl, hg]
    have HG2 := Lib.hid hg
    rw [hg] at hgb ⊢
    clear hp2 hgl hg
    by_cases hs : g < t
    · have HE : Hid (lastE L t l = 19) := by show _ = _; unfold lastE; rw [if_pos HC.out, if_neg (by rw [HW.out]; simp), HGG.out, if_pos hs]
      have HV : Hid (lastV L t l = 0) := by show _ = _; unfold lastV; rw [if_neg (by rw [HE.out]; decide)]
      go_wp2
      rw [HE.out, HV.out]
      exact bodyPost_ret (v := .tuple #[.int .i64 0, .int .i64 19]) (by simp [results, Tryd.results43, go_sem]) rfl ⟨rfl, HP2.out⟩
    · have HE : Hid (lastE L t l = 0) := by show _ = _; unfold lastE; rw [if_pos HC.out, if_neg (by rw [HW.out]; simp), HGG.out, if_neg hs]
      have HV : Hid (lastV L t l = (g - t) / l) := by show _ = _; unfold lastV; rw [if_pos HE.out, HGG.out]
      go_wp2_with fail
      refine (Greatest_any w2 L p cap hn (HL.out.to HP2.out)).mono ?_
      rintro e w3 ⟨rfl, hp3⟩
      have HP3 := Lib.hid (HP2.out.trans hp3)
      rw [HG2.out]
      clear hp3
      have hw1 : IntKind.i64.wrap (g - t) = g - t := IntWalk.i64_in _ (by omega)
      have hl0 : ¬ l = 0 := by omega
      have hdv : 0 ≤ (g - t) / l ∧ (g - t) / l ≤ 100 := ⟨Int.ediv_nonneg (by omega) (by omega), by have := Int.ediv_le_self l (show 0 ≤ g - t by omega); omega⟩
      have hq : IntKind.i64.wrap ((g - t).tdiv l) = (g - t) / l := by rw [Int.tdiv_eq_ediv_of_nonneg (by omega)]; exact IntWalk.i64_in _ (by omega)
      go_wp2
      rw [HE.out, HV.out]
      exact bodyPost_ret (v := .tuple #[.int .i64 ((g - t) / l), .int .i64 0]) (by simp [results, Tryd.results43, go_sem]) rfl ⟨rfl, HP3.out⟩
  · have hb : (c != 0) = true := by simpa using h0
    have HE : Hid (lastE L t l = c) := by show _ = _; unfold lastE; rw [if_neg (by rw [HC.out]; exact h0), HC.out]
    have HV : Hid (lastV L t l = 0) := by show _ = _; unfold lastV; rw [if_neg (by rw [HE.out]; exact h0)]
    go_wp2_with fail
    refine (Rsharped_any w1 L p cap t hn (HL.out.to HP1.out)).mono ?_
    rintro e w2 ⟨rfl, hp2⟩
    have HP2 := Lib.hid (HP1.out.trans hp2)
    clear hp2
    rw [HC.out]
    go_wp2
    rw [HE.out, HV.out]
    exact bodyPost_ret (v := .tuple #[.int .i64 0, .int .i64 c]) (by simp [results, Tryd.results43, go_sem]) rfl ⟨rfl, HP2.out⟩
end Go.Proofs.YtgpfmnjianflaaaDoor
