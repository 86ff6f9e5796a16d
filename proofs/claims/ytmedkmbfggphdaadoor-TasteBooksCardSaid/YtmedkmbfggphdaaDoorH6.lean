/- The law's helpers: copies of lists of numbers, told as lists; a list that is read as an argument. No condition. -/
import Derived.Test.YtmedkmbfggphdaaDoorH5
import Derived.Test.YtmedkmbfggphdaaDoorN4
set_option linter.unusedSimpArgs false
set_option linter.unusedVariables false
set_option linter.constructorNameAsVariable false
namespace Go.Proofs.YtmedkmbfggphdaaDoor
open Go.RowKit

set_option maxRecDepth 20000 in
/-- A copy of a list of numbers, that the copy's block holds. -/
theorem twinLongs_list (w : World) (q : Option Addr) (n c : Nat) (f : Nat → Int) (hn : n ≤ 1000) (h : Row w.heap.size w q n fun k => .int .i64 (f k)) :
    Calls Tryd.prog 22 #[.slice q n c] w fun e w' => ∃ q' c', e = .returned (.slice q' n c') ∧ SlI w'.heap.size w' (.slice q' n c') ((List.range n).map f) ∧ Pure w w' := by
  by_cases h0 : n = 0
  · subst h0
    have hap : ∃ w2, (Builtin.append_ #[27, 27] 27 #[.slice none 0 0, .slice q 0 c]).run Tryd.prog w = .ok (.slice none 0 0) w2 ∧ w2 = w := by
      refine ⟨w, ?_, rfl⟩
      obtain ⟨i9, hi9, hzz⟩ := Option.map_eq_some_iff.1 info2
      refine run_append_nothing w 27 27 27 2 i9 Tryd.underlying27 hi9 none 0 0 (Nat.le_refl _) _ ?_
      cases q with
      | none => exact Src.ofNil w Tryd.underlying27 c
      | some a => exact Src.ofSlice w Tryd.underlying27 a 0 c [] (by simp) (fun j u hj => by simp at hj) (fun u hu => by cases hu)
    obtain ⟨w2, hap, rfl⟩ := hap
    clear h
    go_enter Tryd.func22, Tryd.ntmps22
    go_wp2_with (at_builtin; refine Lib.wpList_append_run _ rfl _ _ _ _ rfl _ _ rfl rfl _ _ hap ?_)
    exact bodyPost_ret (by simp [results, Tryd.results22, go_sem]) rfl ⟨none, 0, rfl, .inl ⟨rfl, rfl⟩, Diff.refl _⟩
  · obtain ⟨b2, o2, rfl, hb2, -⟩ := h 0 (by omega)
    obtain ⟨i9, hi9, hzz⟩ := Option.map_eq_some_iff.1 info2
    simp only [Prod.mk.injEq] at hzz
    obtain ⟨hz9, hsz9, hby9⟩ := hzz
    have hnews : ∀ (j : Nat) (u : Value), (vals ((List.range n).map f))[j]? = some u → w.cell? ((⟨b2, o2, none⟩ : Addr).add j) = some u := by
      intro j u hj
      have hadd : (⟨b2, o2, none⟩ : Addr).add j = ⟨b2, o2 + j, none⟩ := by unfold Addr.add; split <;> simp_all
      rw [hadd]
      have hjn : j < n := by have := (List.getElem?_eq_some_iff.1 hj).1; simpa [vals] using this
      obtain ⟨b3, o3, he, _, h1⟩ := h j hjn
      cases he
      simp [vals, hjn] at hj
      exact h1.trans (congrArg some hj)
    obtain ⟨v', w', hr, q2, q3, -⟩ := run_append_own (P := Tryd.prog) w w.heap.size 27 27 2 i9 (.int .i64 0) 1 8 Tryd.underlying27 hi9 hz9 hsz9 hby9 rfl (by omega) (.slice none 0 0) 0 [] (World.ownsRow_nil _ _ _ _)
      ⟨b2, o2, none⟩ n c (vals ((List.range n).map f)) (by simp [vals]) hnews (fun u hu => by
        simp only [vals, List.mem_map] at hu
        obtain ⟨k, _, rfl⟩ := hu
        rfl) (by simp only [maxLen]; omega) (by omega) (Nat.le_refl _)
    rw [Nat.zero_add, List.nil_append] at q2
    have hp : Pure w w' := grown_pure (Diff.refl w) q3 (fun x hx => by simp [Value.ownBlock] at hx)
    have hsl := SlI.of_own2 q2 (by simp)
    have HP := Lib.hid hp
    have HS := Lib.hid hsl
    obtain ⟨g, c', rfl⟩ : ∃ g c', v' = .slice (some ⟨g, 0, none⟩) n c' := by
      rcases q2.2 with ⟨_, h1⟩ | ⟨g, c', cur, h1, _⟩
      · omega
      · exact ⟨g, c', h1⟩
    clear hp hsl q2 q3 hnews h
    go_enter Tryd.func22, Tryd.ntmps22
    go_wp2_with (at_builtin; refine Lib.wpList_append_run _ rfl _ _ _ _ rfl _ _ rfl rfl _ _ hr ?_)
    exact bodyPost_ret (by simp [results, Tryd.results22, go_sem]) rfl ⟨_, _, rfl, HS.out, HP.out⟩
theorem nthI_map (f : Nat → Int) (n k : Nat) (h : k < n) : nthI ((List.range n).map f) k = f k := by
  unfold nthI; rw [List.getD_eq_getElem?_getD]; simp [h]
theorem In64.of_map {f : Nat → Int} {n : Nat} (h : ∀ i, i < n → (Lit.int .i64 (f i)).wf = true) : In64 ((List.range n).map f) := fun x hx => by
  obtain ⟨k, hk, rfl⟩ := List.mem_map.1 hx
  exact Go.bounds_i64 (h k (by simpa using hk))
/-- A row of the numbers of a list. -/
theorem Row.of_SlI {w : World} {B : Nat} {q : Option Addr} {n c : Nat} {f : Nat → Int} (h : SlI B w (.slice q n c) ((List.range n).map f)) : Row B w q n fun k => .int .i64 (f k) := by
  obtain ⟨q', c', he, hr⟩ := h.row
  rw [List.length_map, List.length_range] at he hr
  cases he
  intro k hk
  obtain ⟨b, o, h1, h2, h3⟩ := hr k hk
  exact ⟨b, o, h1, h2, by rw [h3]; simp only [nthI_map f n k hk]⟩
end Go.Proofs.YtmedkmbfggphdaaDoor
