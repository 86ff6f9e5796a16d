/- The law's helpers: copies of lists of numbers, and lists that are alike. No condition. -/
import Derived.Test.YtmedkmbfggphdaaDoorT0
import Derived.Deep.Upon
set_option linter.unusedSimpArgs false
set_option linter.unusedVariables false
set_option linter.constructorNameAsVariable false
namespace Go.Proofs.YtmedkmbfggphdaaDoor
open Go.RowKit

/-- append(nil, x...) of cells. -/
theorem twin_row (t e : TypeId) (z : Value) (bytes : Nat) (ht : Tryd.prog.underlying t = some (.slice e)) (hinfo : (Tryd.prog.info? e).map (fun i => (i.zero, i.size, i.bytes)) = some (some z, 1, bytes)) (hz1 : z.cells.size = 1) (hby : bytes ≤ 24)
    (w : World) (q : Option Addr) (n c : Nat) (f : Nat → Value) (hf : ∀ k, (f k).oneCell' = true) (hn : n ≤ 1000) (h : Row w.heap.size w q n f) :
    ∃ q2 c2 w2, (Builtin.append_ #[t, t] t #[.slice none 0 0, .slice q n c]).run Tryd.prog w = .ok (.slice q2 n c2) w2 ∧ Pure w w2 ∧ Row w2.heap.size w2 q2 n f := by
  obtain ⟨i9, hi9, hzz⟩ := Option.map_eq_some_iff.1 hinfo
  simp only [Prod.mk.injEq] at hzz
  obtain ⟨hz9, hsz9, hby9⟩ := hzz
  by_cases h0 : n = 0
  · subst h0
    refine ⟨none, 0, w, ?_, Diff.refl w, fun k hk => by omega⟩
    refine run_append_nothing w t t t e i9 ht hi9 none 0 0 (Nat.le_refl _) _ ?_
    cases q with
    | none => exact Src.ofNil w ht c
    | some a => exact Src.ofSlice w ht a 0 c [] (by simp) (fun j u hj => by simp at hj) (fun u hu => by cases hu)
  · obtain ⟨b2, o2, rfl, hb2, -⟩ := h 0 (by omega)
    have hnews : ∀ (j : Nat) (u : Value), ((List.range n).map f)[j]? = some u → w.cell? ((⟨b2, o2, none⟩ : Addr).add j) = some u := by
      intro j u hj
      have hadd : (⟨b2, o2, none⟩ : Addr).add j = ⟨b2, o2 + j, none⟩ := by unfold Addr.add; split <;> simp_all
      rw [hadd]
      have hjn : j < n := by have := (List.getElem?_eq_some_iff.1 hj).1; simpa using this
      obtain ⟨b3, o3, he, _, h1⟩ := h j hjn
      cases he
      simp [hjn] at hj
      rw [h1, hj]
    obtain ⟨v', w', hr, q2, q3, -⟩ := run_append_own (P := Tryd.prog) w w.heap.size t t e i9 z 1 bytes ht hi9 hz9 hsz9 hby9 hz1 (by omega) (.slice none 0 0) 0 [] (World.ownsRow_nil _ _ _ _)
      ⟨b2, o2, none⟩ n c ((List.range n).map f) (by simp) hnews (fun u hu => by
        obtain ⟨k, _, rfl⟩ := List.mem_map.1 hu
        exact hf k) (by simp only [maxLen]; omega) (by
        have : (0 + n) * bytes ≤ 1000 * 24 := Nat.mul_le_mul (by omega) hby
        omega) (Nat.le_refl _)
    rw [Nat.zero_add, List.nil_append] at q2
    have hp : Pure w w' := grown_pure (Diff.refl w) q3 (fun x hx => by simp [Value.ownBlock] at hx)
    rcases q2.2 with ⟨rfl, hn⟩ | ⟨g, c', cur, rfl, h1, h2, h3⟩
    · omega
    · refine ⟨_, c', w', hr, hp, fun k hk => ⟨g, 0, rfl, (Array.getElem?_eq_some_iff.1 h2).1, ?_⟩⟩
      have hc := World.ownsRow.cellAt q2 k (by omega)
      rw [Nat.zero_add, hc]
      simp [hk]

set_option maxRecDepth 20000 in
theorem twinInts_any (w : World) (q : Option Addr) (n c : Nat) (f : Nat → Int) (hn : n ≤ 1000) (h : Row w.heap.size w q n fun k => .int .i64 (f k)) :
    Calls Tryd.prog 38 #[.slice q n c] w fun e w' => ∃ q' c', e = .returned (.slice q' n c') ∧ (Row w'.heap.size w' q' n fun k => .int .i64 (f k)) ∧ Pure w w' := by
  obtain ⟨q2, c2, w2, hap, hp, hr⟩ := twin_row 44 3 (.int .i64 0) 8 Tryd.underlying44 info3 rfl (by omega) w q n c _ (fun k => rfl) hn h
  have HP := Lib.hid hp
  have HR := Lib.hid hr
  clear hp hr h
  go_enter Tryd.func38, Tryd.ntmps38
  go_wp2_with (at_builtin; refine Lib.wpList_append_run _ rfl _ _ _ _ rfl _ _ rfl rfl _ _ hap ?_)
  exact bodyPost_ret (by simp [results, Tryd.results38, go_sem]) rfl ⟨q2, c2, rfl, HR.out, HP.out⟩
set_option maxRecDepth 20000 in
theorem twinLongs_row (w : World) (q : Option Addr) (n c : Nat) (f : Nat → Int) (hn : n ≤ 1000) (h : Row w.heap.size w q n fun k => .int .i64 (f k)) :
    Calls Tryd.prog 22 #[.slice q n c] w fun e w' => ∃ q' c', e = .returned (.slice q' n c') ∧ (Row w'.heap.size w' q' n fun k => .int .i64 (f k)) ∧ Pure w w' := by
  obtain ⟨q2, c2, w2, hap, hp, hr⟩ := twin_row 27 2 (.int .i64 0) 8 Tryd.underlying27 info2 rfl (by omega) w q n c _ (fun k => rfl) hn h
  have HP := Lib.hid hp
  have HR := Lib.hid hr
  clear hp hr h
  go_enter Tryd.func22, Tryd.ntmps22
  go_wp2_with (at_builtin; refine Lib.wpList_append_run _ rfl _ _ _ _ rfl _ _ rfl rfl _ _ hap ?_)
  exact bodyPost_ret (by simp [results, Tryd.results22, go_sem]) rfl ⟨q2, c2, rfl, HR.out, HP.out⟩
/-- Two lists are alike: f43. -/
theorem alikeInts_any (w : World) (q r : Option Addr) (n c d : Nat) (f : Nat → Int) (hn : n ≤ 1000) (hq : Row w.heap.size w q n fun k => .int .i64 (f k)) (hr : Row w.heap.size w r n fun k => .int .i64 (f k)) :
    Calls Tryd.prog 43 #[.slice q n c, .slice r n d] w fun e w' => e = .returned (.bool true) ∧ Pure w w' := by
  go_enter Tryd.func43, Tryd.ntmps43
  go_wp2_with fail
  go_loopw [5] (fun i wr => ∃ k : Nat, k ≤ n ∧ i = .int .i64 k ∧ Hid (Pure w wr)) (fun i _ => n - (intOf i).toNat)
  case atStart => exact ⟨0, Nat.zero_le _, rfl, Diff.refl _⟩
  case round =>
    obtain ⟨k, hk, rfl, HPr⟩ := hrel
    by_cases hkn : k < n
    · obtain ⟨qb, qo, rfl, hqb, zq⟩ := hq k hkn
      obtain ⟨rb, ro, rfl, hrb, zr⟩ := hr k hkn
      have yq := ((pcell HPr.out).1 _ _ hqb).trans zq
      have yr := ((pcell HPr.out).1 _ _ hrb).trans zr
      have hki : (k : Int) < n := by omega
      have hk0 : (0 : Int) ≤ k := by omega
      clear zq zr
      go_wp2_with fail
      go_region
      go_wp2_with fail
      exact ⟨⟨k + 1, by omega, by push_cast; rfl, HPr.out.trans (Diff.refl _).drew⟩, by simp only [intOf]; omega⟩
    · obtain rfl : k = n := by omega
      go_wp2_with fail
      exact bodyPost_ret (v := .bool true) (by simp [results, Tryd.results43, go_sem]) rfl ⟨rfl, HPr.out⟩
end Go.Proofs.YtmedkmbfggphdaaDoor
