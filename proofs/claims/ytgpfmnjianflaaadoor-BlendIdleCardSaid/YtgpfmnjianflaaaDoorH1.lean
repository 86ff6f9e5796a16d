/- The law's helpers: copies of lots and of lists, lists that are alike. No condition. -/
import Derived.Test.YtgpfmnjianflaaaDoorM9
import Derived.Deep.Upon
set_option linter.unusedSimpArgs false
set_option linter.unusedVariables false
set_option linter.constructorNameAsVariable false
namespace Go.Proofs.YtgpfmnjianflaaaDoor
open Go.RowKit

/-- Nothing that lay has turned: for long regions. -/
structure PX (V0 W : World) : Prop where
  pure : Pure V0 W
/-- append(nil, x...) of numbers. -/
theorem twin_row (w : World) (q : Option Addr) (n c : Nat) (f : Nat → Int) (hn : n ≤ 1000) (h : Row w.heap.size w q n fun k => .int .i64 (f k)) :
    ∃ q2 c2 w2, (Builtin.append_ #[23, 23] 23 #[.slice none 0 0, .slice q n c]).run Tryd.prog w = .ok (.slice q2 n c2) w2 ∧ Pure w w2 ∧ Row w2.heap.size w2 q2 n fun k => .int .i64 (f k) := by
  obtain ⟨i9, hi9, hzz⟩ := Option.map_eq_some_iff.1 info2
  simp only [Prod.mk.injEq] at hzz
  obtain ⟨hz9, hsz9, hby9⟩ := hzz
  by_cases h0 : n = 0
  · subst h0
    refine ⟨none, 0, w, ?_, Diff.refl w, fun k hk => by omega⟩
    refine run_append_nothing w 23 23 23 2 i9 Tryd.underlying23 hi9 none 0 0 (Nat.le_refl _) _ ?_
    cases q with
    | none => exact Src.ofNil w Tryd.underlying23 c
    | some a => exact Src.ofSlice w Tryd.underlying23 a 0 c [] (by simp) (fun j u hj => by simp at hj) (fun u hu => by cases hu)
  · obtain ⟨b2, o2, rfl, hb2, -⟩ := h 0 (by omega)
    have hnews : ∀ (j : Nat) (u : Value), ((List.range n).map fun k => Value.int .i64 (f k))[j]? = some u → w.cell? ((⟨b2, o2, none⟩ : Addr).add j) = some u := by
      intro j u hj
      have hadd : (⟨b2, o2, none⟩ : Addr).add j = ⟨b2, o2 + j, none⟩ := by unfold Addr.add; split <;> simp_all
      rw [hadd]
      have hjn : j < n := by have := (List.getElem?_eq_some_iff.1 hj).1; simpa using this
      obtain ⟨b3, o3, he, _, h1⟩ := h j hjn
      cases he
      simp [hjn] at hj
      rw [h1, ← hj]
    obtain ⟨v', w', hr, q2, q3, -⟩ := run_append_own (P := Tryd.prog) w w.heap.size 23 23 2 i9 (.int .i64 0) 1 8 Tryd.underlying23 hi9 hz9 hsz9 hby9 rfl (by omega) (.slice none 0 0) 0 [] (World.ownsRow_nil _ _ _ _)
      ⟨b2, o2, none⟩ n c ((List.range n).map fun k => Value.int .i64 (f k)) (by simp) hnews (fun u hu => by
        obtain ⟨k, _, rfl⟩ := List.mem_map.1 hu
        rfl) (by simp only [maxLen]; omega) (by omega) (Nat.le_refl _)
    rw [Nat.zero_add, List.nil_append] at q2
    have hp : Pure w w' := grown_pure (Diff.refl w) q3 (fun x hx => by simp [Value.ownBlock] at hx)
    rcases q2.2 with ⟨rfl, hn⟩ | ⟨g, c', cur, rfl, h1, h2, h3⟩
    · omega
    · refine ⟨_, c', w', hr, hp, fun k hk => ⟨g, 0, rfl, (Array.getElem?_eq_some_iff.1 h2).1, ?_⟩⟩
      have hc := World.ownsRow.cellAt q2 k (by omega)
      rw [Nat.zero_add, hc]
      simp [hk]
/-- Lots as one list of numbers. -/
def fL (L : LT) (i : Nat) : Int := if i % 2 = 0 then L.s (i / 2) else L.p (i / 2)
theorem fL0 (L : LT) (k : Nat) : fL L (2 * k) = L.s k := by unfold fL; rw [if_pos (by omega)]; congr 1; omega
theorem fL1 (L : LT) (k : Nat) : fL L (2 * k + 1) = L.p k := by unfold fL; rw [if_neg (by omega)]; congr 1; omega
theorem of_fL (L : LT) : LT.of (fL L) (2 * L.n) = L := by
  obtain ⟨n, s, p⟩ := L
  have e1 : (fun k => fL ⟨n, s, p⟩ (2 * k)) = s := by funext k; exact fL0 _ k
  have e2 : (fun k => fL ⟨n, s, p⟩ (2 * k + 1)) = p := by funext k; exact fL1 _ k
  unfold LT.of
  rw [e1, e2]
  congr 1
  show 2 * n / 2 = n
  omega
/-- append(nil, x...) of lots. -/
theorem twin_lots (w : World) (q : Option Addr) (c : Nat) (L : LT) (hn : L.n ≤ 1000) (h : LotsAt w.heap.size w q L) :
    ∃ q2 c2 w2, (Builtin.append_ #[22, 22] 22 #[.slice none 0 0, .slice q L.n c]).run Tryd.prog w = .ok (.slice q2 L.n c2) w2 ∧ Pure w w2 ∧ LotsAt w2.heap.size w2 q2 L := by
  obtain ⟨i9, hi9, hzz⟩ := Option.map_eq_some_iff.1 info71
  simp only [Prod.mk.injEq] at hzz
  obtain ⟨hz9, hsz9, hby9⟩ := hzz
  obtain ⟨z, hz, hzc⟩ := Option.map_eq_some_iff.1 hz9
  by_cases h0 : L.n = 0
  · refine ⟨none, 0, w, ?_, Diff.refl w, fun k hk => by omega⟩
    rw [h0]
    refine run_append_nothing w 22 22 22 71 i9 Tryd.underlying22 hi9 none 0 0 (Nat.le_refl _) _ ?_
    cases q with
    | none => exact Src.ofNil w Tryd.underlying22 c
    | some a => exact Src.ofSlice w Tryd.underlying22 a 0 c [] (by simp) (fun j u hj => by simp at hj) (fun u hu => by cases hu)
  · obtain ⟨b2, o2, rfl, hb2, -, -⟩ := h 0 (by omega)
    have hlen := vals2_length (fL L) L.n
    have hnews : ∀ (j : Nat) (u : Value), (vals2 (fL L) L.n)[j]? = some u → w.cell? ((⟨b2, o2, none⟩ : Addr).add j) = some u := by
      intro j u hj
      have hadd : (⟨b2, o2, none⟩ : Addr).add j = ⟨b2, o2 + j, none⟩ := by unfold Addr.add; split <;> simp_all
      rw [hadd]
      have hjn : j < L.n * 2 := by have := (List.getElem?_eq_some_iff.1 hj).1; omega
      obtain ⟨b3, o3, he, _, h1, h2⟩ := h (j / 2) (by omega)
      cases he
      have hv := vals2_get (fL L) L.n (j / 2) (by omega)
      rw [fL0, fL1] at hv
      by_cases hp : j % 2 = 0
      · have e : j / 2 * 2 = j := by omega
        rw [e] at hv h1
        rw [h1, ← hv.1, hj]
      · have e : j / 2 * 2 + 1 = j := by omega
        rw [e] at hv
        rw [show o2 + j / 2 * 2 + 1 = o2 + j by omega] at h2
        rw [h2, ← hv.2, hj]
    obtain ⟨v', w', hr, q2, q3, -⟩ := run_append_own (P := Tryd.prog) w w.heap.size 22 22 71 i9 z 2 16 Tryd.underlying22 hi9 hz hsz9 hby9 hzc (by omega) (.slice none 0 0) 0 [] (World.ownsRow_nil _ _ _ _)
      ⟨b2, o2, none⟩ L.n c (vals2 (fL L) L.n) hlen hnews (fun u hu => by
        obtain ⟨k, hk, rfl⟩ := List.getElem_of_mem hu
        have hv := vals2_get (fL L) L.n (k / 2) (by omega)
        have hk' : (vals2 (fL L) L.n)[k]? = some (vals2 (fL L) L.n)[k] := List.getElem?_eq_getElem hk
        by_cases hp : k % 2 = 0
        · rw [show k / 2 * 2 = k by omega, hk'] at hv
          rw [Option.some.inj hv.1]; rfl
        · rw [show k / 2 * 2 + 1 = k by omega, hk'] at hv
          rw [Option.some.inj hv.2]; rfl) (by simp only [maxLen]; omega) (by omega) (Nat.le_refl _)
    rw [Nat.zero_add, List.nil_append] at q2
    have hp : Pure w w' := grown_pure (Diff.refl w) q3 (fun x hx => by simp [Value.ownBlock] at hx)
    obtain ⟨q', c', rfl, hl⟩ := lots_own q2 (2 * L.n) (by omega)
    rw [of_fL] at hl
    exact ⟨q', c', w', hr, hp, hl⟩
theorem great_any (w : World) (L : LT) (p : Option Addr) (cap : Nat) : Calls Tryd.prog 16 #[.slice p L.n cap] w fun e w' => e = .returned (.bool (decide (14 < L.n))) ∧ Pure w w' := by
  by_cases h : 14 < L.n
  · have HE : Hid (decide (14 < L.n) = true) := by show _ = _; simpa using h
    have hi : (14 : Int) < (L.n : Int) := by omega
    go_enter Tryd.func16, Tryd.ntmps16
    go_wp2
    exact bodyPost_ret (v := .bool true) (by simp [results, Tryd.results16, go_sem]) rfl ⟨by first | rfl | rw [HE.out], Diff.refl _⟩
  · have HE : Hid (decide (14 < L.n) = false) := by show _ = _; simpa using h
    have hi : ¬ (14 : Int) < (L.n : Int) := by omega
    go_enter Tryd.func16, Tryd.ntmps16
    go_wp2
    exact bodyPost_ret (v := .bool false) (by simp [results, Tryd.results16, go_sem]) rfl ⟨by first | rfl | rw [HE.out], Diff.refl _⟩
set_option maxRecDepth 20000 in
theorem twinLots_any (w : World) (L : LT) (q : Option Addr) (c : Nat) (hn : L.n ≤ 1000) (h : LotsAt w.heap.size w q L) :
    Calls Tryd.prog 18 #[.slice q L.n c] w fun e w' => (∃ q' c', e = .returned (.slice q' L.n c') ∧ LotsAt w'.heap.size w' q' L) ∧ Pure w w' := by
  obtain ⟨q2, c2, w2, hap, hp, hr⟩ := twin_lots w q c L hn h
  have HP := Lib.hid hp
  have HR := Lib.hid hr
  clear hp hr h
  go_enter Tryd.func18, Tryd.ntmps18
  go_wp2_with (at_builtin; refine Lib.wpList_append_run _ rfl _ _ _ _ rfl _ _ rfl rfl _ _ hap ?_)
  exact bodyPost_ret (v := .slice q2 L.n c2) (by simp [results, Tryd.results18, go_sem]) rfl ⟨⟨q2, c2, rfl, HR.out⟩, HP.out⟩
set_option maxRecDepth 20000 in
theorem twinLongs_any (w : World) (q : Option Addr) (n c : Nat) (f : Nat → Int) (hn : n ≤ 1000) (h : Row w.heap.size w q n fun k => .int .i64 (f k)) :
    Calls Tryd.prog 19 #[.slice q n c] w fun e w' => (∃ q' c', e = .returned (.slice q' n c') ∧ Row w'.heap.size w' q' n fun k => .int .i64 (f k)) ∧ Pure w w' := by
  obtain ⟨q2, c2, w2, hap, hp, hr⟩ := twin_row w q n c f hn h
  have HP := Lib.hid hp
  have HR := Lib.hid hr
  clear hp hr h
  go_enter Tryd.func19, Tryd.ntmps19
  go_wp2_with (at_builtin; refine Lib.wpList_append_run _ rfl _ _ _ _ rfl _ _ rfl rfl _ _ hap ?_)
  exact bodyPost_ret (v := .slice q2 n c2) (by simp [results, Tryd.results19, go_sem]) rfl ⟨⟨q2, c2, rfl, HR.out⟩, HP.out⟩
theorem alikeLongs_any (w : World) (q r : Option Addr) (n c d : Nat) (f : Nat → Int) (hn : n ≤ 1000) (hq : Row w.heap.size w q n fun k => .int .i64 (f k)) (hr : Row w.heap.size w r n fun k => .int .i64 (f k)) :
    Calls Tryd.prog 25 #[.slice q n c, .slice r n d] w fun e w' => e = .returned (.bool true) ∧ Pure w w' := by
  go_enter Tryd.func25, Tryd.ntmps25
  go_wp2_with fail
  go_loopw [5] (fun i wr => ∃ k : Nat, k ≤ n ∧ i = .int .i64 k ∧ Hid (Pure w wr)) (fun i _ => n - (intOf i).toNat)
  case atStart => exact ⟨0, Nat.zero_le _, rfl, Diff.refl _⟩
  case round =>
    obtain ⟨k, hk, rfl, HPr⟩ := hrel
    by_cases hkn : k < n
    · obtain ⟨qb, qo, rfl, hqb, zq⟩ := hq k hkn
      obtain ⟨rb, ro, rfl, hrb, zr⟩ := hr k hkn
      have yq := ((pcell HPr.out).1 _ _ hqb).trans zq
      have yr := ((pcell HPr.out).1 _ _ hrb).trans zr
      have hki : (k : Int) < n := by omega
      have l0 := Nat.lt_of_lt_of_le hqb HPr.out.size
      have l1 := Nat.lt_of_lt_of_le hrb HPr.out.size
      clear zq zr
      go_wp2_with fail
      go_region
      go_wp2_with fail
      go_roundw
      case rel => exact ⟨k + 1, by omega, by go_num, HPr.out.trans (Diff.refl _).drew⟩
      case measure => simp [intOf]; omega
    · obtain rfl : k = n := by omega
      go_wp2_with fail
      exact bodyPost_ret (v := .bool true) (by simp [results, Tryd.results25, go_sem]) rfl ⟨rfl, HPr.out⟩
theorem alikeLots_any (w : World) (L : LT) (q r : Option Addr) (c d : Nat) (hn : L.n ≤ 1000) (hq : LotsAt w.heap.size w q L) (hr : LotsAt w.heap.size w r L) :
    Calls Tryd.prog 24 #[.slice q L.n c, .slice r L.n d] w fun e w' => e = .returned (.bool true) ∧ Pure w w' := by
  go_enter Tryd.func24, Tryd.ntmps24
  go_wp2_with fail
  go_loopw [5] (fun i wr => ∃ k : Nat, k ≤ L.n ∧ i = .int .i64 k ∧ Hid (Pure w wr)) (fun i _ => L.n - (intOf i).toNat)
  case atStart => exact ⟨0, Nat.zero_le _, rfl, Diff.refl _⟩
  case round =>
    obtain ⟨k, hk, rfl, HPr⟩ := hrel
    by_cases hkn : k < L.n
    · obtain ⟨qb, qo, rfl, hqb, zq, zq'⟩ := hq k hkn
      obtain ⟨rb, ro, rfl, hrb, zr, zr'⟩ := hr k hkn
      have yq := ((pcell HPr.out).1 _ _ hqb).trans zq
      have yr := ((pcell HPr.out).1 _ _ hrb).trans zr
      have yq' := ((pcell HPr.out).1 _ _ hqb).trans zq'
      have yr' := ((pcell HPr.out).1 _ _ hrb).trans zr'
      have hki : (k : Int) < L.n := by omega
      have l0 := Nat.lt_of_lt_of_le hqb HPr.out.size
      have l1 := Nat.lt_of_lt_of_le hrb HPr.out.size
      clear zq zr zq' zr'
      go_wp2_with fail
      go_region
      go_wp2_with fail
      go_roundw
      case rel => exact ⟨k + 1, by omega, by go_num, HPr.out.trans (Diff.refl _).drew⟩
      case measure => simp [intOf]; omega
    · obtain rfl : k = L.n := by omega
      go_wp2_with fail
      exact bodyPost_ret (v := .bool true) (by simp [results, Tryd.results24, go_sem]) rfl ⟨rfl, HPr.out⟩
end Go.Proofs.YtgpfmnjianflaaaDoor
