/- TasteNarrower: the law returns true, for every input, and no argument is changed. Condition: the four package-level ranges stand as the program's text lays them (the card ties them). -/
import Derived.Test.YtmedkmbfggphdaaDoorT16
import Derived.Test.YtmedkmbfggphdaaDoorO1
import Derived.Test.YtmedkmbfggphdaaDoorTie
import Derived.Test.YtmedkmbfggphdaaDoorCards
import Derived.SevenTiedAt
set_option linter.unusedSimpArgs false
set_option linter.unusedVariables false
set_option linter.constructorNameAsVariable false
namespace Go.Proofs.YtmedkmbfggphdaaDoor
open Go.ChangeShapes Go.WideShapes Go.ChangeAt Go.RowKit

set_option maxRecDepth 100000 in
/-- A taste that is handed in. -/
theorem open_said {H : Type} {enc : TypeId × Value → H} {W : World} {spare : Nat → Bool} {held : Bool} {r : Reach} {b0 : Nat} {v : Value} {d : DataW H} {ps : List MemPlace} (hval : Value.okWide Tryd.prog W r b0 70 v) (hd : DataW.Trod enc Tryd.prog W 0 spare held 70 v d ps) :
    ∃ t : TS, v = .agg #[.int .i64 t.lot, .int .i64 t.lo, .int .i64 t.hi] := by
  obtain ⟨cs, rfl, _⟩ := okWide_struct Tryd.underlying70 hval
  obtain ⟨fuel, hf⟩ := hd
  obtain ⟨l⟩ := cs
  have hc : (Value.agg ⟨l⟩).cells.toList = l := by simp [Value.cells]
  rw [hc] at hf
  obtain ⟨t, rfl⟩ := open_taste hf
  exact ⟨t, rfl⟩
set_option maxRecDepth 100000 in
theorem NarrowerL_lifted (os : Os) (started : os.Started) (H : Type) (enc : TypeId × Value → H) :
    ReturnsInHanded {} Tryd.checked os 13 .any (fun w args => (Rows.tasteNarrowerSpec.pre enc Tryd.prog Tryd.f13 [] false w args ∧ laidMetH Tryd.prog laidL w) ∧ sizedMet enc Tryd.prog Tryd.f13 (OpenSpec.ofChange Rows.tasteNarrowerSpec) false w args)
      (Rows.tasteNarrowerSpec.post enc Tryd.prog Tryd.f13 false true false false) := by
  refine returnsInHanded_of_change_and (C := Tryd.checked) (X := fun w _ => laidMetH Tryd.prog laidL w) (fun _ _ _ hh h => h.of_heap hh) own started (by kernel_rfl) Tryd.func13
    (ChangeSpec.witness_shaped (enc := enc) (C := Tryd.checked) (os := os) (X := fun w _ => laidMetH Tryd.prog laidL w) false (World.laidAll Tryd.prog os laidL) #[.agg #[.int .i64 0, .int .i64 0, .int .i64 0, .slice none 0 0], .int .u8 0, .int .u8 0, .agg #[.int .i64 0, .int .i64 0, .int .i64 0]] 8 (World.laidAll_os _ _ _)
      (World.shaped_of_ZipB (by kernel_rfl) (by kernel_rfl)) (by kernel_rfl) (by kernel_rfl) (by kernel_rfl) (laid_met os _)) ?_
  intro W base args ds gs before hval hW _ _ hL _
  have hW' := hW
  obtain ⟨p, q, hA0, hV, rfl, _, _⟩ := hW
  have hA : DataW.TrodAll enc Tryd.prog W 0 (fun _ => true) true Tryd.f13.params.toList args.toList ds p := hA0
  rw [Tryd.params13] at hA
  obtain ⟨rfl, rfl⟩ := trodVars_none hV
  have hlt : ∀ x ∈ p, x.block < W.heap.size := fun x hx => hW'.lt x (List.mem_append.2 (.inl hx))
  have hstay := fun (W' : World) (hp : Pure W W') => args_stay hp (by intro t ht; simp only [List.mem_cons, List.mem_nil_iff, or_false] at ht; rcases ht with rfl | rfl | rfl | rfl <;> exact ⟨by kernel_rfl, of_decide_eq_true (by kernel_rfl)⟩) hlt hA
  obtain ⟨v0, vs0, d0, ds0, a0, c0, hv0, rfl, rfl, t0, r0⟩ := trodAll_cons hA
  obtain ⟨v1, vs1, d1, ds1, a1, c1, hv1, rfl, rfl, t1, r1⟩ := trodAll_cons r0
  obtain ⟨v2, vs2, d2, ds2, a2, c2, hv2, rfl, rfl, t2, r2⟩ := trodAll_cons r1
  obtain ⟨v3, vs3, d3, ds3, a3, c3, hv3, rfl, rfl, t3, r3⟩ := trodAll_cons r2
  obtain ⟨hn, rfl, rfl⟩ := trodAll_nil r3
  obtain ⟨l⟩ := args
  subst hn
  subst hv3
  subst hv2
  subst hv1
  have hl : l = [v0, v1, v2, v3] := hv0
  subst hl
  obtain ⟨b, bp, bc, rfl, hb⟩ := open_book (hval 0 26 v0 rfl rfl) t0
  obtain ⟨x1, rfl, _, _, hx1⟩ := open_int Tryd.underlying5 (hval 1 5 v1 rfl rfl) t1
  obtain ⟨x2, rfl, _, _, hx2⟩ := open_int Tryd.underlying5 (hval 2 5 v2 rfl rfl) t2
  obtain ⟨ts3, rfl⟩ := open_said (hval 3 70 v3 rfl rfl) t3
  refine (NarrowerLaw_any W b bp bc x1 x2 ts3 hb hx1 hx2 (gl_of hL)).mono fun e W' ⟨he, hp⟩ => ?_
  subst he
  refine ⟨_, rfl, _, [], _, [], _, [], hW', trodAll_mk1 (shut_bool Tryd.underlying4 _), hstay W' hp, rfl, (hp.pure_below (Nat.le_refl _)).frame _, fun h => by cases h⟩

theorem NarrowerL_said : Rows.TasteNarrowerSaid :=
  OpenClaim.holds_of_wide 13 Tryd.f13 rfl rfl rfl rfl rfl rfl rfl ⟨rfl, rfl, rfl, rfl, rfl⟩ rfl rfl rfl rfl rfl (by kernel_rfl) Tryd.func13 (by kernel_rfl)
    (of_decide_eq_true (by kernel_rfl)) (by unfold Func.isWrapper; first | (rw [if_pos (by decide +kernel)]; kernel_rfl) | (rw [if_neg (by decide +kernel)]; exact ⟨rfl, rfl⟩))
    (fun os started H enc _ => NarrowerL_lifted os started H enc)
theorem NarrowerL_card : Rows.TasteNarrowerCardSaid :=
  Claim7.holds_tied_plain_at .later [] [.data, .data, .data, .data] true (true, "991e462a20187a076076ccc8c8e37c3842623529a883eeca7d45bd36e1a9abec") false
    NarrowerL_said (fun _ h => by cases h) (by kernel_rfl) (fun _ h => by cases h) tasteNarrower_row_tie rfl ⟨rfl, rfl⟩ (by kernel_rfl) rfl
    (fun f fn hf hfn => by
      obtain rfl : f = 13 := Option.some.inj ((show Tryd.prog.funcNamed "senvy/senvylaw01.TasteNarrower" = some 13 by kernel_rfl).symm.trans hf) |>.symm
      obtain rfl : fn = Tryd.f13 := (Option.some.inj (Tryd.func13.symm.trans hfn)).symm
      exact ⟨by kernel_rfl, fun j t ht => by
        rw [Tryd.params13] at ht
        have hm : t ∈ [26, 5, 5, 70] := by simpa using Array.mem_of_getElem? ht
        have hall : ([26, 5, 5, 70].all fun u => !Tryd.prog.wantsStandIn u) = true := by kernel_rfl
        exact (show Tryd.prog.wantsStandIn t = false by simpa using List.all_eq_true.1 hall t hm)⟩)
    (by kernel_rfl)
end Go.Proofs.YtmedkmbfggphdaaDoor
