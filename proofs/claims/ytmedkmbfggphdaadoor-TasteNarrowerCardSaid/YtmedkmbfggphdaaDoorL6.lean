/- The walk of the examples. -/
import Derived.Test.YtmedkmbfggphdaaDoorM19
import Derived.Test.YtmedkmbfggphdaaDoorK4
set_option linter.unusedSimpArgs false
set_option linter.unusedVariables false
set_option linter.constructorNameAsVariable false
namespace Go.Proofs.YtmedkmbfggphdaaDoor
open Go.RowKit

/-- The cells of a range. -/
structure RG (g : Nat) (lo hi : Int) (w : World) : Prop where
  c0 : w.cell? ⟨g, 0, none⟩ = some (.int .i64 lo)
  c1 : w.cell? ⟨g, 1, none⟩ = some (.int .i64 hi)
  lt : g < w.heap.size
theorem RG.pure {g : Nat} {lo hi : Int} {w w' : World} (h : RG g lo hi w) (hp : Pure w w') : RG g lo hi w' := ⟨((pcell hp).1 _ _ h.lt).trans h.c0, ((pcell hp).1 _ _ h.lt).trans h.c1, Nat.lt_of_lt_of_le h.lt hp.size⟩
theorem RG.new (w : World) (T : TypeId) (lo hi : Int) : RG w.heap.size lo hi (w.alloc (.cells #[.int .i64 lo, .int .i64 hi] T)) := by
  have h : (w.alloc (.cells #[.int .i64 lo, .int .i64 hi] T)).heap[w.heap.size]? = some (.cells #[.int .i64 lo, .int .i64 hi] T (0, 0)) := World.alloc_heap_new w _
  exact ⟨by rw [cell_of_row _ _ _ _ _ _ h]; rfl, by rw [cell_of_row _ _ _ _ _ _ h]; rfl, (Array.getElem?_eq_some_iff.1 h).1⟩

set_option maxRecDepth 20000 in
set_option maxHeartbeats 20000000 in
theorem Works_any (w : World) (hg : Gl w) : Calls Tryd.prog 20 #[] w fun e w' => e = .returned (.bool true) ∧ Pure w w' := by
  have hmx : Tryd.prog.follows .mixedOrders = true := by kernel_rfl
  go_enter Tryd.func20, Tryd.ntmps20
  have HG : Hid (Gl w) := hg
  clear hg
  go_wp2_with fail
  refine (two_any w).mono ?_
  rintro e w1 ⟨⟨pA, cA, rfl, kA⟩, hp1⟩
  have HK : Hid (BookAt w1.heap.size w1 pA bkA) := kA
  have HP1 : Hid (Pure w w1) := hp1
  clear kA hp1
  go_wp2_with fail
  refine (one_any w1).mono ?_
  rintro e w2 ⟨⟨pB, cB, rfl, kB⟩, hp2⟩
  have HL : Hid (BookAt w2.heap.size w2 pB bkB) := kB
  have HP2 : Hid (Pure w1 w2) := hp2
  clear kB hp2
  go_wp2_with fail
  obtain ⟨X, hX⟩ : ∃ X, (w2.alloc (.cells (bookC bkA pA cA) 26)).alloc (.cells (bookC bkB pB cB) 26) = X := ⟨_, rfl⟩
  have hp3 : Pure w2 X := by rw [← hX]; exact ((Diff.refl w2).alloc _).alloc _
  have HP : Hid (Pure w X) := (HP1.out.trans HP2.out).trans hp3
  have hA : BoxB w2.heap.size bkA pA cA X := by rw [← hX]; exact (BoxB.new w2 bkA pA cA 26).pure ((Diff.refl _).alloc _)
  have hB : BoxB (w2.heap.size + 1) bkB pB cB X := by rw [← hX]; have := BoxB.new (w2.alloc (.cells (bookC bkA pA cA) 26)) bkB pB cB 26; rwa [World.size_alloc] at this
  rw [hX]
  obtain ⟨gA, hgA⟩ : ∃ gA, w2.heap.size = gA := ⟨_, rfl⟩
  obtain ⟨gB, hgB⟩ : ∃ gB, gA + 1 = gB := ⟨_, rfl⟩
  rw [hgA] at hA hB ⊢
  rw [hgB] at hB ⊢
  have HW : Hid (WI gA gB pA pB cA cB X) := ⟨hA, hB, (HK.out.diff (HP2.out.trans hp3) (Nat.le_refl _) (fun _ _ => id)).mono (HP2.out.trans hp3).size, (HL.out.diff hp3 (Nat.le_refl _) (fun _ _ => id)).mono hp3.size, HG.out.diff HP.out (fun _ _ => id)⟩
  clear hX hp3 hA hB hgA hgB HK HL HP1 HP2
  refine reg_invW (fun d a W => ∃ s1 s3 s7 s9 : Nat, a = { tmps := #[Value.bool false, Value.pointer (some { block := gA, off := 0 }), Value.pointer (some { block := gB, off := 0 }), (bif d 12 then Value.int IntKind.i64 0 else undef), (bif d 13 then Value.int IntKind.i64 17 else undef), undef, undef, undef, undef, undef, undef, undef, undef, undef, undef, undef, undef, undef, undef, undef, undef, undef, undef, undef, undef, undef, undef, undef, undef, undef, undef, undef, undef, undef, undef, undef, undef, undef, undef, undef, bookV bkA pA cA, bookV bkB pB cB, (bif d 0 then bookV bkA pA cA else undef), (bif d 1 then Value.slice (some { block := s1, off := 0 }) 2 2 else undef), (bif d 2 then Value.slice (some { block := s1, off := 0 }) 2 2 else undef), (bif d 3 then Value.slice (some { block := s3, off := 0 }) 3 3 else undef), (bif d 4 then Value.slice (some { block := s3, off := 0 }) 3 3 else undef), (bif d 5 then Value.int IntKind.i64 0 else undef), (bif d 6 then bookV bkA pA cA else undef), (bif d 7 then Value.slice (some { block := s7, off := 0 }) 2 2 else undef), (bif d 8 then Value.slice (some { block := s7, off := 0 }) 2 2 else undef), (bif d 9 then Value.slice (some { block := s9, off := 0 }) 3 3 else undef), (bif d 10 then Value.slice (some { block := s9, off := 0 }) 3 3 else undef), (bif d 11 then Value.int IntKind.i64 17 else undef), undef, undef, undef, undef, undef, undef, undef, undef, undef, undef, undef, undef, undef, undef, undef, undef, undef, undef, undef, undef, undef, undef, undef, undef, undef, undef, undef, undef, undef, undef, undef, undef, undef, undef, undef, undef, undef, undef, undef, undef, undef, undef, undef, undef, undef, undef, undef, undef, undef, undef, undef, undef, undef, undef, undef, undef, undef, undef, undef, undef, undef, undef, undef, undef, undef, undef, undef, undef, undef, undef, undef, undef, undef, undef, undef, undef, undef, undef, undef, undef, undef, undef, undef, undef, undef, undef, undef, undef, undef, undef, undef, undef, undef, undef, undef, undef, undef, undef, undef, undef, undef, undef, undef, undef, undef, undef, undef, undef, undef, undef, undef, undef, undef, undef, undef, undef, undef, undef, undef, undef, undef, undef, undef, undef, undef, undef, undef, undef, undef, undef, undef, undef, undef, undef, undef, undef, undef, undef, undef, undef, undef, undef, undef, undef, undef, undef, undef, undef, undef, undef, undef, undef, undef, undef, undef, undef, undef, undef, undef, undef, undef, undef, undef, undef, undef, undef, undef, undef, undef, undef, undef, undef, undef, undef, undef, undef, undef, undef, undef, undef, undef, undef, undef, undef, undef, undef, undef, undef, undef, undef, undef, undef, undef, undef, undef, undef, undef, undef, undef, undef, undef, undef, undef, undef, undef, undef, undef, undef, undef, undef, undef, undef, undef, undef, undef, undef, undef, undef, undef], defers := [] } ∧ (Pure X W ∧ (d 1 = true → RowL W (some ⟨s1, 0, none⟩) [50, 41]) ∧ (d 3 = true → RowL W (some ⟨s3, 0, none⟩) [0, 1, 3]) ∧ (d 7 = true → RowL W (some ⟨s7, 0, none⟩) [52, 41]) ∧ (d 9 = true → RowL W (some ⟨s9, 0, none⟩) [0, 1, 5]))) hmx (by kernel_rfl) ?_ ?_ ?_
  · exact ⟨0, 0, 0, 0, rfl, (Diff.refl X).drew, fun h => absurd h (by simp), fun h => absurd h (by simp), fun h => absurd h (by simp), fun h => absurd h (by simp)⟩
  · refine ⟨?_, ?_, ?_, ?_, ?_, ?_, ?_, ?_, ?_, ?_, ?_, ?_, ?_, ?_, trivial⟩
    · rintro d a W hdi hdep hcl ⟨s1, s3, s7, s9, rfl, hw⟩ K hK
      replace hdi : d 0 = false := hdi
      obtain ⟨-, -, f5, f8, f10, f11, f12, f13, -⟩ := hcl.facts 0 hdi rfl hdep [] [5, 8, 10, 11, 12, 13] (by kernel_rfl) (by kernel_rfl)
      clear hdep hcl
      obtain ⟨c0, c1, c2, c3, -⟩ := (HW.out.pure hw.1).bA
      go_simp
      exact hK _ _ ⟨s1, s3, s7, s9, by simp [upd, hdi, f5, f8, f10, f11, f12, f13], hw.1, fun h => hw.2.1 (by simpa [upd] using h), fun h => hw.2.2.1 (by simpa [upd] using h), fun h => hw.2.2.2.1 (by simpa [upd] using h), fun h => hw.2.2.2.2 (by simpa [upd] using h)⟩
    · rintro d a W hdi hdep hcl ⟨s1, s3, s7, s9, rfl, hw⟩ K hK
      replace hdi : d 1 = false := hdi
      obtain ⟨-, -, f2, f4, f5, f8, f10, f11, f12, f13, -⟩ := hcl.facts 1 hdi rfl hdep [] [2, 4, 5, 8, 10, 11, 12, 13] (by kernel_rfl) (by kernel_rfl)
      clear hdep hcl
      go_simp
      exact hK _ _ ⟨W.heap.size, s3, s7, s9, by simp [upd, hdi, f2, f4, f5, f8, f10, f11, f12, f13], hw.1.alloc _, fun _ => RowL.new W 2 [50, 41], fun h => (hw.2.2.1 (by simpa [upd] using h)).pure ((Diff.refl W).alloc _), fun h => (hw.2.2.2.1 (by simpa [upd] using h)).pure ((Diff.refl W).alloc _), fun h => (hw.2.2.2.2 (by simpa [upd] using h)).pure ((Diff.refl W).alloc _)⟩
    · rintro d a W hdi hdep hcl ⟨s1, s3, s7, s9, rfl, hw⟩ K hK
      replace hdi : d 2 = false := hdi
      obtain ⟨-, ⟨e1, -⟩, f4, f5, f8, f10, f11, f12, f13, -⟩ := hcl.facts 2 hdi rfl hdep [1] [4, 5, 8, 10, 11, 12, 13] (by kernel_rfl) (by kernel_rfl)
      clear hdep hcl
      go_simp
      refine (longs_any W _ _ _ _ rfl).mono ?_
      rintro e w5 ⟨rfl, hp5⟩
      exact hK _ _ ⟨s1, s3, s7, s9, by simp [upd, hdi, e1, f4, f5, f8, f10, f11, f12, f13], hw.1.trans hp5, fun h => (hw.2.1 (by simpa [upd] using h)).pure hp5, fun h => (hw.2.2.1 (by simpa [upd] using h)).pure hp5, fun h => (hw.2.2.2.1 (by simpa [upd] using h)).pure hp5, fun h => (hw.2.2.2.2 (by simpa [upd] using h)).pure hp5⟩
    · rintro d a W hdi hdep hcl ⟨s1, s3, s7, s9, rfl, hw⟩ K hK
      replace hdi : d 3 = false := hdi
      obtain ⟨-, -, f4, f5, f8, f10, f11, f12, f13, -⟩ := hcl.facts 3 hdi rfl hdep [] [4, 5, 8, 10, 11, 12, 13] (by kernel_rfl) (by kernel_rfl)
      clear hdep hcl
      go_simp
      exact hK _ _ ⟨s1, W.heap.size, s7, s9, by simp [upd, hdi, f4, f5, f8, f10, f11, f12, f13], hw.1.alloc _, fun h => (hw.2.1 (by simpa [upd] using h)).pure ((Diff.refl W).alloc _), fun _ => RowL.new W 2 [0, 1, 3], fun h => (hw.2.2.2.1 (by simpa [upd] using h)).pure ((Diff.refl W).alloc _), fun h => (hw.2.2.2.2 (by simpa [upd] using h)).pure ((Diff.refl W).alloc _)⟩
    · rintro d a W hdi hdep hcl ⟨s1, s3, s7, s9, rfl, hw⟩ K hK
      replace hdi : d 4 = false := hdi
      obtain ⟨-, ⟨e1, e2, e3, -⟩, f5, f8, f10, f11, f12, f13, -⟩ := hcl.facts 4 hdi rfl hdep [1, 2, 3] [5, 8, 10, 11, 12, 13] (by kernel_rfl) (by kernel_rfl)
      clear hdep hcl
      go_simp
      refine (longs_any W _ _ _ _ rfl).mono ?_
      rintro e w5 ⟨rfl, hp5⟩
      exact hK _ _ ⟨s1, s3, s7, s9, by simp [upd, hdi, e1, e2, e3, f5, f8, f10, f11, f12, f13], hw.1.trans hp5, fun h => (hw.2.1 (by simpa [upd] using h)).pure hp5, fun h => (hw.2.2.1 (by simpa [upd] using h)).pure hp5, fun h => (hw.2.2.2.1 (by simpa [upd] using h)).pure hp5, fun h => (hw.2.2.2.2 (by simpa [upd] using h)).pure hp5⟩
    · rintro d a W hdi hdep hcl ⟨s1, s3, s7, s9, rfl, hw⟩ K hK
      replace hdi : d 5 = false := hdi
      obtain ⟨-, ⟨e0, e1, e2, e3, e4, -⟩, f8, f10, f11, f12, f13, -⟩ := hcl.facts 5 hdi rfl hdep [0, 1, 2, 3, 4] [8, 10, 11, 12, 13] (by kernel_rfl) (by kernel_rfl)
      clear hdep hcl
      go_simp
      refine (ctA (HW.out.pure hw.1) 2 3 (hw.2.1 e1) (hw.2.2.1 e3) (by decide) (by decide) truthA1).mono ?_
      rintro e w5 ⟨rfl, hp5⟩
      exact hK _ _ ⟨s1, s3, s7, s9, by simp [upd, hdi, e0, e1, e2, e3, e4, f8, f10, f11, f12, f13], hw.1.trans hp5, fun h => (hw.2.1 (by simpa [upd] using h)).pure hp5, fun h => (hw.2.2.1 (by simpa [upd] using h)).pure hp5, fun h => (hw.2.2.2.1 (by simpa [upd] using h)).pure hp5, fun h => (hw.2.2.2.2 (by simpa [upd] using h)).pure hp5⟩
    · rintro d a W hdi hdep hcl ⟨s1, s3, s7, s9, rfl, hw⟩ K hK
      replace hdi : d 6 = false := hdi
      obtain ⟨-, -, f11, f12, f13, -⟩ := hcl.facts 6 hdi rfl hdep [] [11, 12, 13] (by kernel_rfl) (by kernel_rfl)
      clear hdep hcl
      obtain ⟨c0, c1, c2, c3, -⟩ := (HW.out.pure hw.1).bA
      go_simp
      exact hK _ _ ⟨s1, s3, s7, s9, by simp [upd, hdi, f11, f12, f13], hw.1, fun h => hw.2.1 (by simpa [upd] using h), fun h => hw.2.2.1 (by simpa [upd] using h), fun h => hw.2.2.2.1 (by simpa [upd] using h), fun h => hw.2.2.2.2 (by simpa [upd] using h)⟩
    · rintro d a W hdi hdep hcl ⟨s1, s3, s7, s9, rfl, hw⟩ K hK
      replace hdi : d 7 = false := hdi
      obtain ⟨-, -, f8, f10, f11, f12, f13, -⟩ := hcl.facts 7 hdi rfl hdep [] [8, 10, 11, 12, 13] (by kernel_rfl) (by kernel_rfl)
      clear hdep hcl
      go_simp
      exact hK _ _ ⟨s1, s3, W.heap.size, s9, by simp [upd, hdi, f8, f10, f11, f12, f13], hw.1.alloc _, fun h => (hw.2.1 (by simpa [upd] using h)).pure ((Diff.refl W).alloc _), fun h => (hw.2.2.1 (by simpa [upd] using h)).pure ((Diff.refl W).alloc _), fun _ => RowL.new W 2 [52, 41], fun h => (hw.2.2.2.2 (by simpa [upd] using h)).pure ((Diff.refl W).alloc _)⟩
    · rintro d a W hdi hdep hcl ⟨s1, s3, s7, s9, rfl, hw⟩ K hK
      replace hdi : d 8 = false := hdi
      obtain ⟨-, ⟨e0, e1, e2, e3, e4, e5, e7, -⟩, f10, f11, f12, f13, -⟩ := hcl.facts 8 hdi rfl hdep [0, 1, 2, 3, 4, 5, 7] [10, 11, 12, 13] (by kernel_rfl) (by kernel_rfl)
      clear hdep hcl
      go_simp
      refine (longs_any W _ _ _ _ rfl).mono ?_
      rintro e w5 ⟨rfl, hp5⟩
      exact hK _ _ ⟨s1, s3, s7, s9, by simp [upd, hdi, e0, e1, e2, e3, e4, e5, e7, f10, f11, f12, f13], hw.1.trans hp5, fun h => (hw.2.1 (by simpa [upd] using h)).pure hp5, fun h => (hw.2.2.1 (by simpa [upd] using h)).pure hp5, fun h => (hw.2.2.2.1 (by simpa [upd] using h)).pure hp5, fun h => (hw.2.2.2.2 (by simpa [upd] using h)).pure hp5⟩
    · rintro d a W hdi hdep hcl ⟨s1, s3, s7, s9, rfl, hw⟩ K hK
      replace hdi : d 9 = false := hdi
      obtain ⟨-, -, f10, f11, f12, f13, -⟩ := hcl.facts 9 hdi rfl hdep [] [10, 11, 12, 13] (by kernel_rfl) (by kernel_rfl)
      clear hdep hcl
      go_simp
      exact hK _ _ ⟨s1, s3, s7, W.heap.size, by simp [upd, hdi, f10, f11, f12, f13], hw.1.alloc _, fun h => (hw.2.1 (by simpa [upd] using h)).pure ((Diff.refl W).alloc _), fun h => (hw.2.2.1 (by simpa [upd] using h)).pure ((Diff.refl W).alloc _), fun h => (hw.2.2.2.1 (by simpa [upd] using h)).pure ((Diff.refl W).alloc _), fun _ => RowL.new W 2 [0, 1, 5]⟩
    · rintro d a W hdi hdep hcl ⟨s1, s3, s7, s9, rfl, hw⟩ K hK
      replace hdi : d 10 = false := hdi
      obtain ⟨-, ⟨e0, e1, e2, e3, e4, e5, e7, e8, e9, -⟩, f11, f12, f13, -⟩ := hcl.facts 10 hdi rfl hdep [0, 1, 2, 3, 4, 5, 7, 8, 9] [11, 12, 13] (by kernel_rfl) (by kernel_rfl)
      clear hdep hcl
      go_simp
      refine (longs_any W _ _ _ _ rfl).mono ?_
      rintro e w5 ⟨rfl, hp5⟩
      exact hK _ _ ⟨s1, s3, s7, s9, by simp [upd, hdi, e0, e1, e2, e3, e4, e5, e7, e8, e9, f11, f12, f13], hw.1.trans hp5, fun h => (hw.2.1 (by simpa [upd] using h)).pure hp5, fun h => (hw.2.2.1 (by simpa [upd] using h)).pure hp5, fun h => (hw.2.2.2.1 (by simpa [upd] using h)).pure hp5, fun h => (hw.2.2.2.2 (by simpa [upd] using h)).pure hp5⟩
    · rintro d a W hdi hdep hcl ⟨s1, s3, s7, s9, rfl, hw⟩ K hK
      replace hdi : d 11 = false := hdi
      obtain ⟨-, ⟨e0, e1, e2, e3, e4, e5, e6, e7, e8, e9, e10, -⟩, f12, f13, -⟩ := hcl.facts 11 hdi rfl hdep [0, 1, 2, 3, 4, 5, 6, 7, 8, 9, 10] [12, 13] (by kernel_rfl) (by kernel_rfl)
      clear hdep hcl
      go_simp
      refine (ctA (HW.out.pure hw.1) 2 3 (hw.2.2.2.1 e7) (hw.2.2.2.2 e9) (by decide) (by decide) truthA2).mono ?_
      rintro e w5 ⟨rfl, hp5⟩
      exact hK _ _ ⟨s1, s3, s7, s9, by simp [upd, hdi, e0, e1, e2, e3, e4, e5, e6, e7, e8, e9, e10, f12, f13], hw.1.trans hp5, fun h => (hw.2.1 (by simpa [upd] using h)).pure hp5, fun h => (hw.2.2.1 (by simpa [upd] using h)).pure hp5, fun h => (hw.2.2.2.1 (by simpa [upd] using h)).pure hp5, fun h => (hw.2.2.2.2 (by simpa [upd] using h)).pure hp5⟩
    · rintro d a W hdi hdep hcl ⟨s1, s3, s7, s9, rfl, hw⟩ K hK
      replace hdi : d 12 = false := hdi
      obtain ⟨-, ⟨e0, e1, e2, e3, e4, e5, e6, e7, e8, e9, e10, e11, -⟩, f13, -⟩ := hcl.facts 12 hdi rfl hdep [0, 1, 2, 3, 4, 5, 6, 7, 8, 9, 10, 11] [13] (by kernel_rfl) (by kernel_rfl)
      clear hdep hcl
      go_simp
      exact hK _ _ ⟨s1, s3, s7, s9, by simp [upd, hdi, e0, e1, e2, e3, e4, e5, e6, e7, e8, e9, e10, e11, f13], hw.1, fun h => hw.2.1 (by simpa [upd] using h), fun h => hw.2.2.1 (by simpa [upd] using h), fun h => hw.2.2.2.1 (by simpa [upd] using h), fun h => hw.2.2.2.2 (by simpa [upd] using h)⟩
    · rintro d a W hdi hdep hcl ⟨s1, s3, s7, s9, rfl, hw⟩ K hK
      replace hdi : d 13 = false := hdi
      obtain ⟨-, ⟨e0, e1, e2, e3, e4, e5, e6, e7, e8, e9, e10, e11, e12, -⟩, -⟩ := hcl.facts 13 hdi rfl hdep [0, 1, 2, 3, 4, 5, 6, 7, 8, 9, 10, 11, 12] [] (by kernel_rfl) (by kernel_rfl)
      clear hdep hcl
      go_simp
      exact hK _ _ ⟨s1, s3, s7, s9, by simp [upd, hdi, e0, e1, e2, e3, e4, e5, e6, e7, e8, e9, e10, e11, e12], hw.1, fun h => hw.2.1 (by simpa [upd] using h), fun h => hw.2.2.1 (by simpa [upd] using h), fun h => hw.2.2.2.1 (by simpa [upd] using h), fun h => hw.2.2.2.2 (by simpa [upd] using h)⟩
  · rintro d a W hall ⟨s1, s3, s7, s9, rfl, hw⟩
    simp [List.range_succ] at hall
    obtain ⟨e0, e1, e2, e3, e4, e5, e6, e7, e8, e9, e10, e11, e12, e13⟩ := hall
    simp only [e0, e1, e2, e3, e4, e5, e6, e7, e8, e9, e10, e11, e12, e13, cond_true] at hw ⊢
    clear e0 e1 e2 e3 e4 e5 e6 e7 e8 e9 e10 e11 e12 e13
    obtain ⟨hp5, -⟩ := hw
    have HW_ := Lib.hid (HW.out.pure hp5)
    have HP_ : Hid (Pure w _) := HP.out.trans hp5
    clear HW
    have HW := Lib.hid HW_.out
    clear HW_
    clear HP
    have HP := Lib.hid HP_.out
    clear HP_
    clear hp5
    obtain ⟨X3, hXX⟩ : ∃ Y, W = Y := ⟨_, rfl⟩
    rw [hXX] at HW HP ⊢
    clear hXX
    clear W d w1 w2
    go_wp2_with fail
    refine reg_invW (fun d a W => ∃ t1 t3 t7 t9 : Nat, a = { tmps := #[Value.bool false, Value.pointer (some { block := gA, off := 0 }), Value.pointer (some { block := gB, off := 0 }), Value.int IntKind.i64 0, Value.int IntKind.i64 17, (bif d 12 then Value.int IntKind.i64 15 else undef), (bif d 13 then Value.int IntKind.i64 17 else undef), undef, undef, undef, undef, undef, undef, undef, undef, undef, undef, undef, undef, undef, undef, undef, undef, undef, undef, undef, undef, undef, undef, undef, undef, undef, undef, undef, undef, undef, undef, undef, undef, undef, bookV bkA pA cA, bookV bkB pB cB, bookV bkA pA cA, Value.slice (some { block := s1, off := 0 }) 2 2, Value.slice (some { block := s1, off := 0 }) 2 2, Value.slice (some { block := s3, off := 0 }) 3 3, Value.slice (some { block := s3, off := 0 }) 3 3, Value.int IntKind.i64 0, bookV bkA pA cA, Value.slice (some { block := s7, off := 0 }) 2 2, Value.slice (some { block := s7, off := 0 }) 2 2, Value.slice (some { block := s9, off := 0 }) 3 3, Value.slice (some { block := s9, off := 0 }) 3 3, Value.int IntKind.i64 17, (bif d 0 then bookV bkA pA cA else undef), (bif d 1 then Value.slice (some { block := t1, off := 0 }) 2 2 else undef), (bif d 2 then Value.slice (some { block := t1, off := 0 }) 2 2 else undef), (bif d 3 then Value.slice (some { block := t3, off := 0 }) 2 2 else undef), (bif d 4 then Value.slice (some { block := t3, off := 0 }) 2 2 else undef), (bif d 5 then Value.int IntKind.i64 15 else undef), (bif d 6 then bookV bkB pB cB else undef), (bif d 7 then Value.slice (some { block := t7, off := 0 }) 1 1 else undef), (bif d 8 then Value.slice (some { block := t7, off := 0 }) 1 1 else undef), (bif d 9 then Value.slice (some { block := t9, off := 0 }) 2 2 else undef), (bif d 10 then Value.slice (some { block := t9, off := 0 }) 2 2 else undef), (bif d 11 then Value.int IntKind.i64 17 else undef), undef, undef, undef, undef, undef, undef, undef, undef, undef, undef, undef, undef, undef, undef, undef, undef, undef, undef, undef, undef, undef, undef, undef, undef, undef, undef, undef, undef, undef, undef, undef, undef, undef, undef, undef, undef, undef, undef, undef, undef, undef, undef, undef, undef, undef, undef, undef, undef, undef, undef, undef, undef, undef, undef, undef, undef, undef, undef, undef, undef, undef, undef, undef, undef, undef, undef, undef, undef, undef, undef, undef, undef, undef, undef, undef, undef, undef, undef, undef, undef, undef, undef, undef, undef, undef, undef, undef, undef, undef, undef, undef, undef, undef, undef, undef, undef, undef, undef, undef, undef, undef, undef, undef, undef, undef, undef, undef, undef, undef, undef, undef, undef, undef, undef, undef, undef, undef, undef, undef, undef, undef, undef, undef, undef, undef, undef, undef, undef, undef, undef, undef, undef, undef, undef, undef, undef, undef, undef, undef, undef, undef, undef, undef, undef, undef, undef, undef, undef, undef, undef, undef, undef, undef, undef, undef, undef, undef, undef, undef, undef, undef, undef, undef, undef, undef, undef, undef, undef, undef, undef, undef, undef, undef, undef, undef, undef, undef, undef, undef, undef, undef, undef, undef, undef, undef, undef, undef, undef, undef, undef, undef, undef, undef, undef, undef, undef, undef, undef, undef, undef, undef, undef, undef, undef, undef, undef, undef], defers := [] } ∧ (Pure X3 W ∧ (d 1 = true → RowL W (some ⟨t1, 0, none⟩) [50, 41]) ∧ (d 3 = true → RowL W (some ⟨t3, 0, none⟩) [0, 1]) ∧ (d 7 = true → RowL W (some ⟨t7, 0, none⟩) [50]) ∧ (d 9 = true → RowL W (some ⟨t9, 0, none⟩) [0, 3]))) hmx (by kernel_rfl) ?_ ?_ ?_
    · exact ⟨0, 0, 0, 0, rfl, (Diff.refl X3).drew, fun h => absurd h (by simp), fun h => absurd h (by simp), fun h => absurd h (by simp), fun h => absurd h (by simp)⟩
    · refine ⟨?_, ?_, ?_, ?_, ?_, ?_, ?_, ?_, ?_, ?_, ?_, ?_, ?_, ?_, trivial⟩
      · rintro d a W hdi hdep hcl ⟨t1, t3, t7, t9, rfl, hw⟩ K hK
        replace hdi : d 0 = false := hdi
        obtain ⟨-, -, f5, f8, f10, f11, f12, f13, -⟩ := hcl.facts 0 hdi rfl hdep [] [5, 8, 10, 11, 12, 13] (by kernel_rfl) (by kernel_rfl)
        clear hdep hcl
        obtain ⟨c0, c1, c2, c3, -⟩ := (HW.out.pure hw.1).bA
        go_simp
        exact hK _ _ ⟨t1, t3, t7, t9, by simp [upd, hdi, f5, f8, f10, f11, f12, f13], hw.1, fun h => hw.2.1 (by simpa [upd] using h), fun h => hw.2.2.1 (by simpa [upd] using h), fun h => hw.2.2.2.1 (by simpa [upd] using h), fun h => hw.2.2.2.2 (by simpa [upd] using h)⟩
      · rintro d a W hdi hdep hcl ⟨t1, t3, t7, t9, rfl, hw⟩ K hK
        replace hdi : d 1 = false := hdi
        obtain ⟨-, -, f2, f4, f5, f8, f10, f11, f12, f13, -⟩ := hcl.facts 1 hdi rfl hdep [] [2, 4, 5, 8, 10, 11, 12, 13] (by kernel_rfl) (by kernel_rfl)
        clear hdep hcl
        go_simp
        exact hK _ _ ⟨W.heap.size, t3, t7, t9, by simp [upd, hdi, f2, f4, f5, f8, f10, f11, f12, f13], hw.1.alloc _, fun _ => RowL.new W 2 [50, 41], fun h => (hw.2.2.1 (by simpa [upd] using h)).pure ((Diff.refl W).alloc _), fun h => (hw.2.2.2.1 (by simpa [upd] using h)).pure ((Diff.refl W).alloc _), fun h => (hw.2.2.2.2 (by simpa [upd] using h)).pure ((Diff.refl W).alloc _)⟩
      · rintro d a W hdi hdep hcl ⟨t1, t3, t7, t9, rfl, hw⟩ K hK
        replace hdi : d 2 = false := hdi
        obtain ⟨-, ⟨e1, -⟩, f4, f5, f8, f10, f11, f12, f13, -⟩ := hcl.facts 2 hdi rfl hdep [1] [4, 5, 8, 10, 11, 12, 13] (by kernel_rfl) (by kernel_rfl)
        clear hdep hcl
        go_simp
        refine (longs_any W _ _ _ _ rfl).mono ?_
        rintro e w5 ⟨rfl, hp5⟩
        exact hK _ _ ⟨t1, t3, t7, t9, by simp [upd, hdi, e1, f4, f5, f8, f10, f11, f12, f13], hw.1.trans hp5, fun h => (hw.2.1 (by simpa [upd] using h)).pure hp5, fun h => (hw.2.2.1 (by simpa [upd] using h)).pure hp5, fun h => (hw.2.2.2.1 (by simpa [upd] using h)).pure hp5, fun h => (hw.2.2.2.2 (by simpa [upd] using h)).pure hp5⟩
      · rintro d a W hdi hdep hcl ⟨t1, t3, t7, t9, rfl, hw⟩ K hK
        replace hdi : d 3 = false := hdi
        obtain ⟨-, -, f4, f5, f8, f10, f11, f12, f13, -⟩ := hcl.facts 3 hdi rfl hdep [] [4, 5, 8, 10, 11, 12, 13] (by kernel_rfl) (by kernel_rfl)
        clear hdep hcl
        go_simp
        exact hK _ _ ⟨t1, W.heap.size, t7, t9, by simp [upd, hdi, f4, f5, f8, f10, f11, f12, f13], hw.1.alloc _, fun h => (hw.2.1 (by simpa [upd] using h)).pure ((Diff.refl W).alloc _), fun _ => RowL.new W 2 [0, 1], fun h => (hw.2.2.2.1 (by simpa [upd] using h)).pure ((Diff.refl W).alloc _), fun h => (hw.2.2.2.2 (by simpa [upd] using h)).pure ((Diff.refl W).alloc _)⟩
      · rintro d a W hdi hdep hcl ⟨t1, t3, t7, t9, rfl, hw⟩ K hK
        replace hdi : d 4 = false := hdi
        obtain ⟨-, ⟨e1, e2, e3, -⟩, f5, f8, f10, f11, f12, f13, -⟩ := hcl.facts 4 hdi rfl hdep [1, 2, 3] [5, 8, 10, 11, 12, 13] (by kernel_rfl) (by kernel_rfl)
        clear hdep hcl
        go_simp
        refine (longs_any W _ _ _ _ rfl).mono ?_
        rintro e w5 ⟨rfl, hp5⟩
        exact hK _ _ ⟨t1, t3, t7, t9, by simp [upd, hdi, e1, e2, e3, f5, f8, f10, f11, f12, f13], hw.1.trans hp5, fun h => (hw.2.1 (by simpa [upd] using h)).pure hp5, fun h => (hw.2.2.1 (by simpa [upd] using h)).pure hp5, fun h => (hw.2.2.2.1 (by simpa [upd] using h)).pure hp5, fun h => (hw.2.2.2.2 (by simpa [upd] using h)).pure hp5⟩
      · rintro d a W hdi hdep hcl ⟨t1, t3, t7, t9, rfl, hw⟩ K hK
        replace hdi : d 5 = false := hdi
        obtain ⟨-, ⟨e0, e1, e2, e3, e4, -⟩, f8, f10, f11, f12, f13, -⟩ := hcl.facts 5 hdi rfl hdep [0, 1, 2, 3, 4] [8, 10, 11, 12, 13] (by kernel_rfl) (by kernel_rfl)
        clear hdep hcl
        go_simp
        refine (ctA (HW.out.pure hw.1) 2 2 (hw.2.1 e1) (hw.2.2.1 e3) (by decide) (by decide) truthA3).mono ?_
        rintro e w5 ⟨rfl, hp5⟩
        exact hK _ _ ⟨t1, t3, t7, t9, by simp [upd, hdi, e0, e1, e2, e3, e4, f8, f10, f11, f12, f13], hw.1.trans hp5, fun h => (hw.2.1 (by simpa [upd] using h)).pure hp5, fun h => (hw.2.2.1 (by simpa [upd] using h)).pure hp5, fun h => (hw.2.2.2.1 (by simpa [upd] using h)).pure hp5, fun h => (hw.2.2.2.2 (by simpa [upd] using h)).pure hp5⟩
      · rintro d a W hdi hdep hcl ⟨t1, t3, t7, t9, rfl, hw⟩ K hK
        replace hdi : d 6 = false := hdi
        obtain ⟨-, -, f11, f12, f13, -⟩ := hcl.facts 6 hdi rfl hdep [] [11, 12, 13] (by kernel_rfl) (by kernel_rfl)
        clear hdep hcl
        obtain ⟨c0, c1, c2, c3, -⟩ := (HW.out.pure hw.1).bB
        go_simp
        exact hK _ _ ⟨t1, t3, t7, t9, by simp [upd, hdi, f11, f12, f13], hw.1, fun h => hw.2.1 (by simpa [upd] using h), fun h => hw.2.2.1 (by simpa [upd] using h), fun h => hw.2.2.2.1 (by simpa [upd] using h), fun h => hw.2.2.2.2 (by simpa [upd] using h)⟩
      · rintro d a W hdi hdep hcl ⟨t1, t3, t7, t9, rfl, hw⟩ K hK
        replace hdi : d 7 = false := hdi
        obtain ⟨-, -, f8, f10, f11, f12, f13, -⟩ := hcl.facts 7 hdi rfl hdep [] [8, 10, 11, 12, 13] (by kernel_rfl) (by kernel_rfl)
        clear hdep hcl
        go_simp
        exact hK _ _ ⟨t1, t3, W.heap.size, t9, by simp [upd, hdi, f8, f10, f11, f12, f13], hw.1.alloc _, fun h => (hw.2.1 (by simpa [upd] using h)).pure ((Diff.refl W).alloc _), fun h => (hw.2.2.1 (by simpa [upd] using h)).pure ((Diff.refl W).alloc _), fun _ => RowL.new W 2 [50], fun h => (hw.2.2.2.2 (by simpa [upd] using h)).pure ((Diff.refl W).alloc _)⟩
      · rintro d a W hdi hdep hcl ⟨t1, t3, t7, t9, rfl, hw⟩ K hK
        replace hdi : d 8 = false := hdi
        obtain ⟨-, ⟨e0, e1, e2, e3, e4, e5, e7, -⟩, f10, f11, f12, f13, -⟩ := hcl.facts 8 hdi rfl hdep [0, 1, 2, 3, 4, 5, 7] [10, 11, 12, 13] (by kernel_rfl) (by kernel_rfl)
        clear hdep hcl
        go_simp
        refine (longs_any W _ _ _ _ rfl).mono ?_
        rintro e w5 ⟨rfl, hp5⟩
        exact hK _ _ ⟨t1, t3, t7, t9, by simp [upd, hdi, e0, e1, e2, e3, e4, e5, e7, f10, f11, f12, f13], hw.1.trans hp5, fun h => (hw.2.1 (by simpa [upd] using h)).pure hp5, fun h => (hw.2.2.1 (by simpa [upd] using h)).pure hp5, fun h => (hw.2.2.2.1 (by simpa [upd] using h)).pure hp5, fun h => (hw.2.2.2.2 (by simpa [upd] using h)).pure hp5⟩
      · rintro d a W hdi hdep hcl ⟨t1, t3, t7, t9, rfl, hw⟩ K hK
        replace hdi : d 9 = false := hdi
        obtain ⟨-, -, f10, f11, f12, f13, -⟩ := hcl.facts 9 hdi rfl hdep [] [10, 11, 12, 13] (by kernel_rfl) (by kernel_rfl)
        clear hdep hcl
        go_simp
        exact hK _ _ ⟨t1, t3, t7, W.heap.size, by simp [upd, hdi, f10, f11, f12, f13], hw.1.alloc _, fun h => (hw.2.1 (by simpa [upd] using h)).pure ((Diff.refl W).alloc _), fun h => (hw.2.2.1 (by simpa [upd] using h)).pure ((Diff.refl W).alloc _), fun h => (hw.2.2.2.1 (by simpa [upd] using h)).pure ((Diff.refl W).alloc _), fun _ => RowL.new W 2 [0, 3]⟩
      · rintro d a W hdi hdep hcl ⟨t1, t3, t7, t9, rfl, hw⟩ K hK
        replace hdi : d 10 = false := hdi
        obtain ⟨-, ⟨e0, e1, e2, e3, e4, e5, e7, e8, e9, -⟩, f11, f12, f13, -⟩ := hcl.facts 10 hdi rfl hdep [0, 1, 2, 3, 4, 5, 7, 8, 9] [11, 12, 13] (by kernel_rfl) (by kernel_rfl)
        clear hdep hcl
        go_simp
        refine (longs_any W _ _ _ _ rfl).mono ?_
        rintro e w5 ⟨rfl, hp5⟩
        exact hK _ _ ⟨t1, t3, t7, t9, by simp [upd, hdi, e0, e1, e2, e3, e4, e5, e7, e8, e9, f11, f12, f13], hw.1.trans hp5, fun h => (hw.2.1 (by simpa [upd] using h)).pure hp5, fun h => (hw.2.2.1 (by simpa [upd] using h)).pure hp5, fun h => (hw.2.2.2.1 (by simpa [upd] using h)).pure hp5, fun h => (hw.2.2.2.2 (by simpa [upd] using h)).pure hp5⟩
      · rintro d a W hdi hdep hcl ⟨t1, t3, t7, t9, rfl, hw⟩ K hK
        replace hdi : d 11 = false := hdi
        obtain ⟨-, ⟨e0, e1, e2, e3, e4, e5, e6, e7, e8, e9, e10, -⟩, f12, f13, -⟩ := hcl.facts 11 hdi rfl hdep [0, 1, 2, 3, 4, 5, 6, 7, 8, 9, 10] [12, 13] (by kernel_rfl) (by kernel_rfl)
        clear hdep hcl
        go_simp
        refine (ctB (HW.out.pure hw.1) 1 2 (hw.2.2.2.1 e7) (hw.2.2.2.2 e9) (by decide) (by decide) truthB1).mono ?_
        rintro e w5 ⟨rfl, hp5⟩
        exact hK _ _ ⟨t1, t3, t7, t9, by simp [upd, hdi, e0, e1, e2, e3, e4, e5, e6, e7, e8, e9, e10, f12, f13], hw.1.trans hp5, fun h => (hw.2.1 (by simpa [upd] using h)).pure hp5, fun h => (hw.2.2.1 (by simpa [upd] using h)).pure hp5, fun h => (hw.2.2.2.1 (by simpa [upd] using h)).pure hp5, fun h => (hw.2.2.2.2 (by simpa [upd] using h)).pure hp5⟩
      · rintro d a W hdi hdep hcl ⟨t1, t3, t7, t9, rfl, hw⟩ K hK
        replace hdi : d 12 = false := hdi
        obtain ⟨-, ⟨e0, e1, e2, e3, e4, e5, e6, e7, e8, e9, e10, e11, -⟩, f13, -⟩ := hcl.facts 12 hdi rfl hdep [0, 1, 2, 3, 4, 5, 6, 7, 8, 9, 10, 11] [13] (by kernel_rfl) (by kernel_rfl)
        clear hdep hcl
        go_simp
        exact hK _ _ ⟨t1, t3, t7, t9, by simp [upd, hdi, e0, e1, e2, e3, e4, e5, e6, e7, e8, e9, e10, e11, f13], hw.1, fun h => hw.2.1 (by simpa [upd] using h), fun h => hw.2.2.1 (by simpa [upd] using h), fun h => hw.2.2.2.1 (by simpa [upd] using h), fun h => hw.2.2.2.2 (by simpa [upd] using h)⟩
      · rintro d a W hdi hdep hcl ⟨t1, t3, t7, t9, rfl, hw⟩ K hK
        replace hdi : d 13 = false := hdi
        obtain ⟨-, ⟨e0, e1, e2, e3, e4, e5, e6, e7, e8, e9, e10, e11, e12, -⟩, -⟩ := hcl.facts 13 hdi rfl hdep [0, 1, 2, 3, 4, 5, 6, 7, 8, 9, 10, 11, 12] [] (by kernel_rfl) (by kernel_rfl)
        clear hdep hcl
        go_simp
        exact hK _ _ ⟨t1, t3, t7, t9, by simp [upd, hdi, e0, e1, e2, e3, e4, e5, e6, e7, e8, e9, e10, e11, e12], hw.1, fun h => hw.2.1 (by simpa [upd] using h), fun h => hw.2.2.1 (by simpa [upd] using h), fun h => hw.2.2.2.1 (by simpa [upd] using h), fun h => hw.2.2.2.2 (by simpa [upd] using h)⟩
    · rintro d a W hall ⟨t1, t3, t7, t9, rfl, hw⟩
      simp [List.range_succ] at hall
      obtain ⟨e0, e1, e2, e3, e4, e5, e6, e7, e8, e9, e10, e11, e12, e13⟩ := hall
      simp only [e0, e1, e2, e3, e4, e5, e6, e7, e8, e9, e10, e11, e12, e13, cond_true] at hw ⊢
      clear e0 e1 e2 e3 e4 e5 e6 e7 e8 e9 e10 e11 e12 e13
      obtain ⟨hp5, -⟩ := hw
      have HW_ := Lib.hid (HW.out.pure hp5)
      have HP_ : Hid (Pure w _) := HP.out.trans hp5
      clear HW
      have HW := Lib.hid HW_.out
      clear HW_
      clear HP
      have HP := Lib.hid HP_.out
      clear HP_
      clear hp5
      obtain ⟨X4, hXX⟩ : ∃ Y, W = Y := ⟨_, rfl⟩
      rw [hXX] at HW HP ⊢
      clear hXX
      clear W d X3
      obtain ⟨⟨a0, a1, a2, a3, al⟩, ⟨b0, b1, b2, b3, bl⟩, -, -, -⟩ := HW.out
      go_wp2_with fail
      refine (leastA HW.out).mono ?_
      rintro e w1 ⟨q1, r1, rfl, hr1, hr2, hp⟩
      have R1 : Hid (RowL w1 q1 [50, 41]) := hr1
      have R2 : Hid (RowL w1 r1 [0, 1, 3]) := hr2
      clear hr1 hr2
      clear a0 a1 a2 a3 al b0 b1 b2 b3 bl
      have HW_ := Lib.hid (HW.out.pure hp)
      have HP_ : Hid (Pure w _) := HP.out.trans hp
      clear HW
      have HW := Lib.hid HW_.out
      clear HW_
      clear HP
      have HP := Lib.hid HP_.out
      clear HP_
      clear hp
      obtain ⟨⟨a0, a1, a2, a3, al⟩, ⟨b0, b1, b2, b3, bl⟩, -, -, -⟩ := HW.out
      go_wp2_with fail
      refine (greatA HW.out).mono ?_
      rintro e w2 ⟨q2, r2, rfl, hr1, hr2, hp⟩
      have R3 : Hid (RowL w2 q2 [52, 44]) := hr1
      have R4 : Hid (RowL w2 r2 [0, 3, 6]) := hr2
      clear hr1 hr2
      clear a0 a1 a2 a3 al b0 b1 b2 b3 bl
      have HW_ := Lib.hid (HW.out.pure hp)
      have R1_ := Lib.hid (R1.out.pure hp)
      have R2_ := Lib.hid (R2.out.pure hp)
      have HP_ : Hid (Pure w _) := HP.out.trans hp
      clear HW
      have HW := Lib.hid HW_.out
      clear HW_
      clear R1
      have R1 := Lib.hid R1_.out
      clear R1_
      clear R2
      have R2 := Lib.hid R2_.out
      clear R2_
      clear HP
      have HP := Lib.hid HP_.out
      clear HP_
      clear hp
      obtain ⟨⟨a0, a1, a2, a3, al⟩, ⟨b0, b1, b2, b3, bl⟩, -, -, -⟩ := HW.out
      go_wp2_with fail
      refine (greatB HW.out).mono ?_
      rintro e w3 ⟨rfl, hp⟩
      clear a0 a1 a2 a3 al b0 b1 b2 b3 bl
      have HW_ := Lib.hid (HW.out.pure hp)
      have R1_ := Lib.hid (R1.out.pure hp)
      have R2_ := Lib.hid (R2.out.pure hp)
      have R3_ := Lib.hid (R3.out.pure hp)
      have R4_ := Lib.hid (R4.out.pure hp)
      have HP_ : Hid (Pure w _) := HP.out.trans hp
      clear HW
      have HW := Lib.hid HW_.out
      clear HW_
      clear R1
      have R1 := Lib.hid R1_.out
      clear R1_
      clear R2
      have R2 := Lib.hid R2_.out
      clear R2_
      clear R3
      have R3 := Lib.hid R3_.out
      clear R3_
      clear R4
      have R4 := Lib.hid R4_.out
      clear R4_
      clear HP
      have HP := Lib.hid HP_.out
      clear HP_
      clear hp
      obtain ⟨⟨a0, a1, a2, a3, al⟩, ⟨b0, b1, b2, b3, bl⟩, -, -, -⟩ := HW.out
      go_wp2_with fail
      refine (spanA1 HW.out).mono ?_
      rintro e w4 ⟨rfl, hp⟩
      clear a0 a1 a2 a3 al b0 b1 b2 b3 bl
      have HW_ := Lib.hid (HW.out.pure hp)
      have R1_ := Lib.hid (R1.out.pure hp)
      have R2_ := Lib.hid (R2.out.pure hp)
      have R3_ := Lib.hid (R3.out.pure hp)
      have R4_ := Lib.hid (R4.out.pure hp)
      have HP_ : Hid (Pure w _) := HP.out.trans hp
      clear HW
      have HW := Lib.hid HW_.out
      clear HW_
      clear R1
      have R1 := Lib.hid R1_.out
      clear R1_
      clear R2
      have R2 := Lib.hid R2_.out
      clear R2_
      clear R3
      have R3 := Lib.hid R3_.out
      clear R3_
      clear R4
      have R4 := Lib.hid R4_.out
      clear R4_
      clear HP
      have HP := Lib.hid HP_.out
      clear HP_
      clear hp
      obtain ⟨⟨a0, a1, a2, a3, al⟩, ⟨b0, b1, b2, b3, bl⟩, -, -, -⟩ := HW.out
      go_wp2_with fail
      clear a0 a1 a2 a3 al b0 b1 b2 b3 bl
      obtain ⟨X5, hX⟩ : ∃ Y, w4.alloc (.cells #[.int .i64 41, .int .i64 44] 23) = Y := ⟨_, rfl⟩
      have hp : Pure w4 X5 := by rw [← hX]; exact (Diff.refl _).alloc _
      have G1 : Hid (RG w4.heap.size 41 44 X5) := by rw [← hX]; exact RG.new _ _ _ _
      rw [hX]
      clear hX
      obtain ⟨g1, hg⟩ : ∃ g, w4.heap.size = g := ⟨_, rfl⟩
      rw [hg] at G1 ⊢
      clear hg
      have HW_ := Lib.hid (HW.out.pure hp)
      have R1_ := Lib.hid (R1.out.pure hp)
      have R2_ := Lib.hid (R2.out.pure hp)
      have R3_ := Lib.hid (R3.out.pure hp)
      have R4_ := Lib.hid (R4.out.pure hp)
      have HP_ : Hid (Pure w _) := HP.out.trans hp
      clear HW
      have HW := Lib.hid HW_.out
      clear HW_
      clear R1
      have R1 := Lib.hid R1_.out
      clear R1_
      clear R2
      have R2 := Lib.hid R2_.out
      clear R2_
      clear R3
      have R3 := Lib.hid R3_.out
      clear R3_
      clear R4
      have R4 := Lib.hid R4_.out
      clear R4_
      clear HP
      have HP := Lib.hid HP_.out
      clear HP_
      clear hp
      refine (spanA2 HW.out).mono ?_
      rintro e w5 ⟨rfl, hp⟩
      have HW_ := Lib.hid (HW.out.pure hp)
      have R1_ := Lib.hid (R1.out.pure hp)
      have R2_ := Lib.hid (R2.out.pure hp)
      have R3_ := Lib.hid (R3.out.pure hp)
      have R4_ := Lib.hid (R4.out.pure hp)
      have G1_ := Lib.hid (G1.out.pure hp)
      have HP_ : Hid (Pure w _) := HP.out.trans hp
      clear HW
      have HW := Lib.hid HW_.out
      clear HW_
      clear R1
      have R1 := Lib.hid R1_.out
      clear R1_
      clear R2
      have R2 := Lib.hid R2_.out
      clear R2_
      clear R3
      have R3 := Lib.hid R3_.out
      clear R3_
      clear R4
      have R4 := Lib.hid R4_.out
      clear R4_
      clear G1
      have G1 := Lib.hid G1_.out
      clear G1_
      clear HP
      have HP := Lib.hid HP_.out
      clear HP_
      clear hp
      obtain ⟨⟨a0, a1, a2, a3, al⟩, ⟨b0, b1, b2, b3, bl⟩, -, -, -⟩ := HW.out
      go_wp2_with fail
      clear a0 a1 a2 a3 al b0 b1 b2 b3 bl
      obtain ⟨X6, hX⟩ : ∃ Y, w5.alloc (.cells #[.int .i64 0, .int .i64 0] 23) = Y := ⟨_, rfl⟩
      have hp : Pure w5 X6 := by rw [← hX]; exact (Diff.refl _).alloc _
      have G2 : Hid (RG w5.heap.size 0 0 X6) := by rw [← hX]; exact RG.new _ _ _ _
      rw [hX]
      clear hX
      obtain ⟨g2, hg⟩ : ∃ g, w5.heap.size = g := ⟨_, rfl⟩
      rw [hg] at G2 ⊢
      clear hg
      have HW_ := Lib.hid (HW.out.pure hp)
      have R1_ := Lib.hid (R1.out.pure hp)
      have R2_ := Lib.hid (R2.out.pure hp)
      have R3_ := Lib.hid (R3.out.pure hp)
      have R4_ := Lib.hid (R4.out.pure hp)
      have G1_ := Lib.hid (G1.out.pure hp)
      have HP_ : Hid (Pure w _) := HP.out.trans hp
      clear HW
      have HW := Lib.hid HW_.out
      clear HW_
      clear R1
      have R1 := Lib.hid R1_.out
      clear R1_
      clear R2
      have R2 := Lib.hid R2_.out
      clear R2_
      clear R3
      have R3 := Lib.hid R3_.out
      clear R3_
      clear R4
      have R4 := Lib.hid R4_.out
      clear R4_
      clear G1
      have G1 := Lib.hid G1_.out
      clear G1_
      clear HP
      have HP := Lib.hid HP_.out
      clear HP_
      clear hp
      clear G2
      refine (apartA HW.out).mono ?_
      rintro e w6 ⟨rfl, hp⟩
      have HW_ := Lib.hid (HW.out.pure hp)
      have R1_ := Lib.hid (R1.out.pure hp)
      have R2_ := Lib.hid (R2.out.pure hp)
      have R3_ := Lib.hid (R3.out.pure hp)
      have R4_ := Lib.hid (R4.out.pure hp)
      have G1_ := Lib.hid (G1.out.pure hp)
      have HP_ : Hid (Pure w _) := HP.out.trans hp
      clear HW
      have HW := Lib.hid HW_.out
      clear HW_
      clear R1
      have R1 := Lib.hid R1_.out
      clear R1_
      clear R2
      have R2 := Lib.hid R2_.out
      clear R2_
      clear R3
      have R3 := Lib.hid R3_.out
      clear R3_
      clear R4
      have R4 := Lib.hid R4_.out
      clear R4_
      clear G1
      have G1 := Lib.hid G1_.out
      clear G1_
      clear HP
      have HP := Lib.hid HP_.out
      clear HP_
      clear hp
      obtain ⟨⟨a0, a1, a2, a3, al⟩, ⟨b0, b1, b2, b3, bl⟩, -, -, -⟩ := HW.out
      go_wp2_with fail
      clear a0 a1 a2 a3 al b0 b1 b2 b3 bl
      obtain ⟨X7, hX⟩ : ∃ Y, w6.alloc (.cells #[.int .i64 6, .int .i64 10] 23) = Y := ⟨_, rfl⟩
      have hp : Pure w6 X7 := by rw [← hX]; exact (Diff.refl _).alloc _
      have G3 : Hid (RG w6.heap.size 6 10 X7) := by rw [← hX]; exact RG.new _ _ _ _
      rw [hX]
      clear hX
      obtain ⟨g3, hg⟩ : ∃ g, w6.heap.size = g := ⟨_, rfl⟩
      rw [hg] at G3 ⊢
      clear hg
      have HW_ := Lib.hid (HW.out.pure hp)
      have R1_ := Lib.hid (R1.out.pure hp)
      have R2_ := Lib.hid (R2.out.pure hp)
      have R3_ := Lib.hid (R3.out.pure hp)
      have R4_ := Lib.hid (R4.out.pure hp)
      have G1_ := Lib.hid (G1.out.pure hp)
      have HP_ : Hid (Pure w _) := HP.out.trans hp
      clear HW
      have HW := Lib.hid HW_.out
      clear HW_
      clear R1
      have R1 := Lib.hid R1_.out
      clear R1_
      clear R2
      have R2 := Lib.hid R2_.out
      clear R2_
      clear R3
      have R3 := Lib.hid R3_.out
      clear R3_
      clear R4
      have R4 := Lib.hid R4_.out
      clear R4_
      clear G1
      have G1 := Lib.hid G1_.out
      clear G1_
      clear HP
      have HP := Lib.hid HP_.out
      clear HP_
      clear hp
      have hp0 : Hid (Pure X7 X7.drew) := (Diff.refl X7).drew
      have KEY : Hid (∀ w', Pure X7 w' → w'.cell? ⟨gB, 0, none⟩ = some (.int .i64 bkB.lo) ∧ w'.cell? ⟨gB, 1, none⟩ = some (.int .i64 bkB.hi) ∧ w'.cell? ⟨gB, 2, none⟩ = some (.int .i64 bkB.lots) ∧ w'.cell? ⟨gB, 3, none⟩ = some (.slice pB bkB.n cB) ∧ Hid (Pure X7 w')) := fun w' hp => by
        obtain ⟨c0, c1, c2, c3, cl⟩ := (HW.out.pure hp).bB
        exact ⟨c0, c1, c2, c3, hp⟩
      go_region_held3 (fun w' => w'.cell? ⟨gB, 0, none⟩ = some (.int .i64 bkB.lo) ∧ w'.cell? ⟨gB, 1, none⟩ = some (.int .i64 bkB.hi) ∧ w'.cell? ⟨gB, 2, none⟩ = some (.int .i64 bkB.lots) ∧ w'.cell? ⟨gB, 3, none⟩ = some (.slice pB bkB.n cB) ∧ Hid (Pure X7 w'))
        (exact KEY.out _ (by first | exact hp0.out | exact hp0.out.alloc _ | exact (hp0.out.alloc _).trans hp5 | exact ((hp0.out.alloc _).trans hp5).trans hp6))
        (first | (go_at_call 59; refine (of_any _ _ _ _ _ rfl).mono ?_; rintro e w5 ⟨rfl, hp5⟩) | (go_at_call 39; refine (crB (HW.out.pure ((hp0.out.alloc _).trans hp5)) 3 (by decide) ((RowL.new X7 3 [1, 2, 3]).pure ((Diff.refl _).drew.trans hp5)) rdB1).mono ?_; rintro e X8 ⟨rfl, hp6⟩))
      rename_i hHeld
      obtain ⟨-, -, -, -, hp⟩ := hHeld
      clear KEY hp0
      have HW_ := Lib.hid (HW.out.pure hp.out)
      have R1_ := Lib.hid (R1.out.pure hp.out)
      have R2_ := Lib.hid (R2.out.pure hp.out)
      have R3_ := Lib.hid (R3.out.pure hp.out)
      have R4_ := Lib.hid (R4.out.pure hp.out)
      have G1_ := Lib.hid (G1.out.pure hp.out)
      have G3_ := Lib.hid (G3.out.pure hp.out)
      have HP_ : Hid (Pure w _) := HP.out.trans hp.out
      clear HW
      have HW := Lib.hid HW_.out
      clear HW_
      clear R1
      have R1 := Lib.hid R1_.out
      clear R1_
      clear R2
      have R2 := Lib.hid R2_.out
      clear R2_
      clear R3
      have R3 := Lib.hid R3_.out
      clear R3_
      clear R4
      have R4 := Lib.hid R4_.out
      clear R4_
      clear G1
      have G1 := Lib.hid G1_.out
      clear G1_
      clear G3
      have G3 := Lib.hid G3_.out
      clear G3_
      clear HP
      have HP := Lib.hid HP_.out
      clear HP_
      clear hp
      clear hp6 hp5
      go_wp2_with fail
      have hp0 : Hid (Pure X8 X8.drew) := (Diff.refl X8).drew
      have KEY : Hid (∀ w', Pure X8 w' → w'.cell? ⟨gB, 0, none⟩ = some (.int .i64 bkB.lo) ∧ w'.cell? ⟨gB, 1, none⟩ = some (.int .i64 bkB.hi) ∧ w'.cell? ⟨gB, 2, none⟩ = some (.int .i64 bkB.lots) ∧ w'.cell? ⟨gB, 3, none⟩ = some (.slice pB bkB.n cB) ∧ Hid (Pure X8 w')) := fun w' hp => by
        obtain ⟨c0, c1, c2, c3, cl⟩ := (HW.out.pure hp).bB
        exact ⟨c0, c1, c2, c3, hp⟩
      go_region_held3 (fun w' => w'.cell? ⟨gB, 0, none⟩ = some (.int .i64 bkB.lo) ∧ w'.cell? ⟨gB, 1, none⟩ = some (.int .i64 bkB.hi) ∧ w'.cell? ⟨gB, 2, none⟩ = some (.int .i64 bkB.lots) ∧ w'.cell? ⟨gB, 3, none⟩ = some (.slice pB bkB.n cB) ∧ Hid (Pure X8 w'))
        (exact KEY.out _ (by first | exact hp0.out | exact hp0.out.alloc _ | exact (hp0.out.alloc _).trans hp5 | exact ((hp0.out.alloc _).trans hp5).trans hp6))
        (first | (go_at_call 59; refine (of_any _ _ _ _ _ rfl).mono ?_; rintro e w5 ⟨rfl, hp5⟩) | (go_at_call 39; refine (crB (HW.out.pure ((hp0.out.alloc _).trans hp5)) 3 (by decide) ((RowL.new X8 3 [3, 2, 1]).pure ((Diff.refl _).drew.trans hp5)) rdB2).mono ?_; rintro e X9 ⟨rfl, hp6⟩))
      rename_i hHeld
      obtain ⟨-, -, -, -, hp⟩ := hHeld
      clear KEY hp0
      have HW_ := Lib.hid (HW.out.pure hp.out)
      have R1_ := Lib.hid (R1.out.pure hp.out)
      have R2_ := Lib.hid (R2.out.pure hp.out)
      have R3_ := Lib.hid (R3.out.pure hp.out)
      have R4_ := Lib.hid (R4.out.pure hp.out)
      have G1_ := Lib.hid (G1.out.pure hp.out)
      have G3_ := Lib.hid (G3.out.pure hp.out)
      have HP_ : Hid (Pure w _) := HP.out.trans hp.out
      clear HW
      have HW := Lib.hid HW_.out
      clear HW_
      clear R1
      have R1 := Lib.hid R1_.out
      clear R1_
      clear R2
      have R2 := Lib.hid R2_.out
      clear R2_
      clear R3
      have R3 := Lib.hid R3_.out
      clear R3_
      clear R4
      have R4 := Lib.hid R4_.out
      clear R4_
      clear G1
      have G1 := Lib.hid G1_.out
      clear G1_
      clear G3
      have G3 := Lib.hid G3_.out
      clear G3_
      clear HP
      have HP := Lib.hid HP_.out
      clear HP_
      clear hp
      clear hp6 hp5
      go_wp2_with fail
      have hp0 : Hid (Pure X9 X9.drew) := (Diff.refl X9).drew
      have KEY : Hid (∀ w', Pure X9 w' → w'.cell? ⟨gB, 0, none⟩ = some (.int .i64 bkB.lo) ∧ w'.cell? ⟨gB, 1, none⟩ = some (.int .i64 bkB.hi) ∧ w'.cell? ⟨gB, 2, none⟩ = some (.int .i64 bkB.lots) ∧ w'.cell? ⟨gB, 3, none⟩ = some (.slice pB bkB.n cB) ∧ Hid (Pure X9 w')) := fun w' hp => by
        obtain ⟨c0, c1, c2, c3, cl⟩ := (HW.out.pure hp).bB
        exact ⟨c0, c1, c2, c3, hp⟩
      go_region_held3 (fun w' => w'.cell? ⟨gB, 0, none⟩ = some (.int .i64 bkB.lo) ∧ w'.cell? ⟨gB, 1, none⟩ = some (.int .i64 bkB.hi) ∧ w'.cell? ⟨gB, 2, none⟩ = some (.int .i64 bkB.lots) ∧ w'.cell? ⟨gB, 3, none⟩ = some (.slice pB bkB.n cB) ∧ Hid (Pure X9 w'))
        (exact KEY.out _ (by first | exact hp0.out | exact hp0.out.alloc _ | exact (hp0.out.alloc _).trans hp5 | exact ((hp0.out.alloc _).trans hp5).trans hp6))
        (first | (go_at_call 59; refine (of_any _ _ _ _ _ rfl).mono ?_; rintro e w5 ⟨rfl, hp5⟩) | (go_at_call 39; refine (crB (HW.out.pure ((hp0.out.alloc _).trans hp5)) 2 (by decide) ((RowL.new X9 3 [1, 1]).pure ((Diff.refl _).drew.trans hp5)) rdB3).mono ?_; rintro e X10 ⟨rfl, hp6⟩))
      rename_i hHeld
      obtain ⟨-, -, -, -, hp⟩ := hHeld
      clear KEY hp0
      have HW_ := Lib.hid (HW.out.pure hp.out)
      have R1_ := Lib.hid (R1.out.pure hp.out)
      have R2_ := Lib.hid (R2.out.pure hp.out)
      have R3_ := Lib.hid (R3.out.pure hp.out)
      have R4_ := Lib.hid (R4.out.pure hp.out)
      have G1_ := Lib.hid (G1.out.pure hp.out)
      have G3_ := Lib.hid (G3.out.pure hp.out)
      have HP_ : Hid (Pure w _) := HP.out.trans hp.out
      clear HW
      have HW := Lib.hid HW_.out
      clear HW_
      clear R1
      have R1 := Lib.hid R1_.out
      clear R1_
      clear R2
      have R2 := Lib.hid R2_.out
      clear R2_
      clear R3
      have R3 := Lib.hid R3_.out
      clear R3_
      clear R4
      have R4 := Lib.hid R4_.out
      clear R4_
      clear G1
      have G1 := Lib.hid G1_.out
      clear G1_
      clear G3
      have G3 := Lib.hid G3_.out
      clear G3_
      clear HP
      have HP := Lib.hid HP_.out
      clear HP_
      clear hp
      clear hp6 hp5
      obtain ⟨⟨a0, a1, a2, a3, al⟩, ⟨b0, b1, b2, b3, bl⟩, -, -, -⟩ := HW.out
      go_wp2_with fail
      refine (crB HW.out (xs := []) 0 (by decide) (fun k hk => absurd hk (by simp)) (rdB4 _)).mono ?_
      rintro e X11 ⟨rfl, hp⟩
      clear a0 a1 a2 a3 al b0 b1 b2 b3 bl
      have HW_ := Lib.hid (HW.out.pure hp)
      have R1_ := Lib.hid (R1.out.pure hp)
      have R2_ := Lib.hid (R2.out.pure hp)
      have R3_ := Lib.hid (R3.out.pure hp)
      have R4_ := Lib.hid (R4.out.pure hp)
      have G1_ := Lib.hid (G1.out.pure hp)
      have G3_ := Lib.hid (G3.out.pure hp)
      have HP_ : Hid (Pure w _) := HP.out.trans hp
      clear HW
      have HW := Lib.hid HW_.out
      clear HW_
      clear R1
      have R1 := Lib.hid R1_.out
      clear R1_
      clear R2
      have R2 := Lib.hid R2_.out
      clear R2_
      clear R3
      have R3 := Lib.hid R3_.out
      clear R3_
      clear R4
      have R4 := Lib.hid R4_.out
      clear R4_
      clear G1
      have G1 := Lib.hid G1_.out
      clear G1_
      clear G3
      have G3 := Lib.hid G3_.out
      clear G3_
      clear HP
      have HP := Lib.hid HP_.out
      clear HP_
      clear hp
      go_wp2_with fail
      have hp0 : Hid (Pure X11 X11.drew) := (Diff.refl X11).drew
      have KEY : Hid (∀ w', Pure X11 w' → w'.cell? ⟨gA, 0, none⟩ = some (.int .i64 bkA.lo) ∧ w'.cell? ⟨gA, 1, none⟩ = some (.int .i64 bkA.hi) ∧ w'.cell? ⟨gA, 2, none⟩ = some (.int .i64 bkA.lots) ∧ w'.cell? ⟨gA, 3, none⟩ = some (.slice pA bkA.n cA) ∧ Hid (Pure X11 w')) := fun w' hp => by
        obtain ⟨c0, c1, c2, c3, cl⟩ := (HW.out.pure hp).bA
        exact ⟨c0, c1, c2, c3, hp⟩
      go_region_held3 (fun w' => w'.cell? ⟨gA, 0, none⟩ = some (.int .i64 bkA.lo) ∧ w'.cell? ⟨gA, 1, none⟩ = some (.int .i64 bkA.hi) ∧ w'.cell? ⟨gA, 2, none⟩ = some (.int .i64 bkA.lots) ∧ w'.cell? ⟨gA, 3, none⟩ = some (.slice pA bkA.n cA) ∧ Hid (Pure X11 w'))
        (exact KEY.out _ (by first | exact hp0.out | exact hp0.out.alloc _ | exact (hp0.out.alloc _).trans hp5 | exact ((hp0.out.alloc _).trans hp5).trans hp6))
        (first | (go_at_call 59; refine (of_any _ _ _ _ _ rfl).mono ?_; rintro e w5 ⟨rfl, hp5⟩) | (go_at_call 39; refine (crA (HW.out.pure ((hp0.out.alloc _).trans hp5)) 3 (by decide) ((RowL.new X11 3 [0, 2, 4]).pure ((Diff.refl _).drew.trans hp5)) rdA1).mono ?_; rintro e X12 ⟨rfl, hp6⟩))
      rename_i hHeld
      obtain ⟨-, -, -, -, hp⟩ := hHeld
      clear KEY hp0
      have HW_ := Lib.hid (HW.out.pure hp.out)
      have R1_ := Lib.hid (R1.out.pure hp.out)
      have R2_ := Lib.hid (R2.out.pure hp.out)
      have R3_ := Lib.hid (R3.out.pure hp.out)
      have R4_ := Lib.hid (R4.out.pure hp.out)
      have G1_ := Lib.hid (G1.out.pure hp.out)
      have G3_ := Lib.hid (G3.out.pure hp.out)
      have HP_ : Hid (Pure w _) := HP.out.trans hp.out
      clear HW
      have HW := Lib.hid HW_.out
      clear HW_
      clear R1
      have R1 := Lib.hid R1_.out
      clear R1_
      clear R2
      have R2 := Lib.hid R2_.out
      clear R2_
      clear R3
      have R3 := Lib.hid R3_.out
      clear R3_
      clear R4
      have R4 := Lib.hid R4_.out
      clear R4_
      clear G1
      have G1 := Lib.hid G1_.out
      clear G1_
      clear G3
      have G3 := Lib.hid G3_.out
      clear G3_
      clear HP
      have HP := Lib.hid HP_.out
      clear HP_
      clear hp
      clear hp6 hp5
      obtain ⟨⟨a0, a1, a2, a3, al⟩, ⟨b0, b1, b2, b3, bl⟩, -, -, -⟩ := HW.out
      go_wp2_with fail
      refine (rndA HW.out).mono ?_
      rintro e X13 ⟨rfl, hp⟩
      clear a0 a1 a2 a3 al b0 b1 b2 b3 bl
      have HW_ := Lib.hid (HW.out.pure hp)
      have R1_ := Lib.hid (R1.out.pure hp)
      have R2_ := Lib.hid (R2.out.pure hp)
      have R3_ := Lib.hid (R3.out.pure hp)
      have R4_ := Lib.hid (R4.out.pure hp)
      have G1_ := Lib.hid (G1.out.pure hp)
      have G3_ := Lib.hid (G3.out.pure hp)
      have HP_ : Hid (Pure w _) := HP.out.trans hp
      clear HW
      have HW := Lib.hid HW_.out
      clear HW_
      clear R1
      have R1 := Lib.hid R1_.out
      clear R1_
      clear R2
      have R2 := Lib.hid R2_.out
      clear R2_
      clear R3
      have R3 := Lib.hid R3_.out
      clear R3_
      clear R4
      have R4 := Lib.hid R4_.out
      clear R4_
      clear G1
      have G1 := Lib.hid G1_.out
      clear G1_
      clear G3
      have G3 := Lib.hid G3_.out
      clear G3_
      clear HP
      have HP := Lib.hid HP_.out
      clear HP_
      clear hp
      obtain ⟨⟨a0, a1, a2, a3, al⟩, ⟨b0, b1, b2, b3, bl⟩, -, -, -⟩ := HW.out
      go_wp2_with fail
      refine (rndB HW.out).mono ?_
      rintro e X14 ⟨rr, m, q5, c5, hm, hl, hrr, rfl, hr5, hp⟩
      have R5 : Hid (RowL X14 q5 rr) := hr5
      have HM : Hid (0 < m) := hm
      have HL : Hid (rr.length ≤ 1000) := hl
      have HR : Hid (roundC bkB (nthI rr) rr.length = (m, 0)) := hrr
      clear hr5 hm hl hrr
      clear a0 a1 a2 a3 al b0 b1 b2 b3 bl
      have HW_ := Lib.hid (HW.out.pure hp)
      have R1_ := Lib.hid (R1.out.pure hp)
      have R2_ := Lib.hid (R2.out.pure hp)
      have R3_ := Lib.hid (R3.out.pure hp)
      have R4_ := Lib.hid (R4.out.pure hp)
      have G1_ := Lib.hid (G1.out.pure hp)
      have G3_ := Lib.hid (G3.out.pure hp)
      have HP_ : Hid (Pure w _) := HP.out.trans hp
      clear HW
      have HW := Lib.hid HW_.out
      clear HW_
      clear R1
      have R1 := Lib.hid R1_.out
      clear R1_
      clear R2
      have R2 := Lib.hid R2_.out
      clear R2_
      clear R3
      have R3 := Lib.hid R3_.out
      clear R3_
      clear R4
      have R4 := Lib.hid R4_.out
      clear R4_
      clear G1
      have G1 := Lib.hid G1_.out
      clear G1_
      clear G3
      have G3 := Lib.hid G3_.out
      clear G3_
      clear HP
      have HP := Lib.hid HP_.out
      clear HP_
      clear hp
      obtain ⟨⟨a0, a1, a2, a3, al⟩, ⟨b0, b1, b2, b3, bl⟩, -, -, -⟩ := HW.out
      obtain ⟨ln, hln⟩ : ∃ n, rr.length = n := ⟨_, rfl⟩
      have HLN := Lib.hid hln
      rw [hln]
      clear hln
      go_wp2_with fail
      refine (wrB HW.out).mono ?_
      rintro e X15 ⟨q6, c6, rfl, hr6, hp⟩
      have R6 : Hid (RowL X15 q6 [0, 1]) := hr6
      clear hr6
      clear a0 a1 a2 a3 al b0 b1 b2 b3 bl
      have HW_ := Lib.hid (HW.out.pure hp)
      have R1_ := Lib.hid (R1.out.pure hp)
      have R2_ := Lib.hid (R2.out.pure hp)
      have R3_ := Lib.hid (R3.out.pure hp)
      have R4_ := Lib.hid (R4.out.pure hp)
      have G1_ := Lib.hid (G1.out.pure hp)
      have G3_ := Lib.hid (G3.out.pure hp)
      have R5_ := Lib.hid (R5.out.pure hp)
      have HP_ : Hid (Pure w _) := HP.out.trans hp
      clear HW
      have HW := Lib.hid HW_.out
      clear HW_
      clear R1
      have R1 := Lib.hid R1_.out
      clear R1_
      clear R2
      have R2 := Lib.hid R2_.out
      clear R2_
      clear R3
      have R3 := Lib.hid R3_.out
      clear R3_
      clear R4
      have R4 := Lib.hid R4_.out
      clear R4_
      clear G1
      have G1 := Lib.hid G1_.out
      clear G1_
      clear G3
      have G3 := Lib.hid G3_.out
      clear G3_
      clear R5
      have R5 := Lib.hid R5_.out
      clear R5_
      clear HP
      have HP := Lib.hid HP_.out
      clear HP_
      clear hp
      obtain ⟨⟨a0, a1, a2, a3, al⟩, ⟨b0, b1, b2, b3, bl⟩, -, -, -⟩ := HW.out
      go_wp2_with fail
      have hrr := rrB HW.out c5 HL.out HR.out R5.out
      rw [HLN.out] at hrr
      refine hrr.mono ?_
      rintro e X16 ⟨rfl, hp⟩
      clear hrr
      clear a0 a1 a2 a3 al b0 b1 b2 b3 bl
      have HW_ := Lib.hid (HW.out.pure hp)
      have R1_ := Lib.hid (R1.out.pure hp)
      have R2_ := Lib.hid (R2.out.pure hp)
      have R3_ := Lib.hid (R3.out.pure hp)
      have R4_ := Lib.hid (R4.out.pure hp)
      have G1_ := Lib.hid (G1.out.pure hp)
      have G3_ := Lib.hid (G3.out.pure hp)
      have R5_ := Lib.hid (R5.out.pure hp)
      have R6_ := Lib.hid (R6.out.pure hp)
      have HP_ : Hid (Pure w _) := HP.out.trans hp
      clear HW
      have HW := Lib.hid HW_.out
      clear HW_
      clear R1
      have R1 := Lib.hid R1_.out
      clear R1_
      clear R2
      have R2 := Lib.hid R2_.out
      clear R2_
      clear R3
      have R3 := Lib.hid R3_.out
      clear R3_
      clear R4
      have R4 := Lib.hid R4_.out
      clear R4_
      clear G1
      have G1 := Lib.hid G1_.out
      clear G1_
      clear G3
      have G3 := Lib.hid G3_.out
      clear G3_
      clear R5
      have R5 := Lib.hid R5_.out
      clear R5_
      clear R6
      have R6 := Lib.hid R6_.out
      clear R6_
      clear HP
      have HP := Lib.hid HP_.out
      clear HP_
      clear hp
      have hm0 : 0 < m := HM.out
      go_wp2_with fail
      have hp0 : Hid (Pure X16 X16.drew) := (Diff.refl X16).drew
      have KEY : Hid (∀ w', Pure X16 w' → w'.cell? ⟨g1, 0, none⟩ = some (.int .i64 41) ∧ w'.cell? ⟨g1, 1, none⟩ = some (.int .i64 44) ∧ w'.cell? ⟨g3, 0, none⟩ = some (.int .i64 6) ∧ w'.cell? ⟨g3, 1, none⟩ = some (.int .i64 10) ∧ Hid (Pure X16 w')) := fun w' hp => by
        obtain ⟨c0, c1, -⟩ := (G1.out.pure hp)
        obtain ⟨d0, d1, -⟩ := (G3.out.pure hp)
        exact ⟨c0, c1, d0, d1, hp⟩
      clear hm0
      have hm1 : (decide (0 < m)) = true := decide_eq_true HM.out
      have hm2 : ¬ m ≤ 0 := by have := HM.out; omega
      go_region_held3 (fun w' => w'.cell? ⟨g1, 0, none⟩ = some (.int .i64 41) ∧ w'.cell? ⟨g1, 1, none⟩ = some (.int .i64 44) ∧ w'.cell? ⟨g3, 0, none⟩ = some (.int .i64 6) ∧ w'.cell? ⟨g3, 1, none⟩ = some (.int .i64 10) ∧ Hid (Pure X16 w'))
        (exact KEY.out _ (by first | exact hp0.out | exact hpW.out | exact hpW.out.alloc _ | exact ((Diff.refl X16).alloc _).drew))
        (first | (go_at_call 58; refine (longs_any _ _ _ _ _ rfl).mono ?_; rintro e w5 ⟨rfl, hp5⟩; have hpW : Hid (Pure X16 w5) := (by first | exact Lib.hid ((hpW.out.alloc _).trans hp5) | exact Lib.hid ((((Diff.refl X16).alloc _).drew).trans hp5))) | (go_at_call 59; refine (of_any _ _ _ _ _ rfl).mono ?_; rintro e w5 ⟨rfl, hp5⟩; have hpW : Hid (Pure X16 w5) := (by first | exact Lib.hid ((hpW.out.alloc _).trans hp5) | exact Lib.hid ((((Diff.refl X16).alloc _).drew).trans hp5))) | (go_at_call 33; (first | refine Calls.mono (LongsL _ _ rfl (by decide) (R1.out.pure hpW.out) ?_) ?_ | refine Calls.mono (LongsL _ _ rfl (by decide) (R2.out.pure hpW.out) ?_) ?_ | refine Calls.mono (LongsL _ _ rfl (by decide) (R3.out.pure hpW.out) ?_) ?_ | refine Calls.mono (LongsL _ _ rfl (by decide) (R4.out.pure hpW.out) ?_) ?_); (first | exact (RowL.new _ 2 _).pure hp5 | exact (RowL.new X16 2 _).pure ((Diff.refl _).drew.trans hp5)); rintro e w6 ⟨rfl, hp6⟩; have hpW : Hid (Pure X16 w6) := Lib.hid (hpW.out.trans hp6)) | (go_at_call 46; refine Calls.mono (IntsL _ _ rfl (by decide) (R6.out.pure hpW.out) ?_) ?_; (first | exact (RowL.new _ 3 _).pure hp5); rintro e w6 ⟨rfl, hp6⟩; have hpW : Hid (Pure X16 w6) := Lib.hid (hpW.out.trans hp6)) | (go_at_call 49; refine (to_any _ _ _).mono ?_; rintro e w7 ⟨rfl, hp7⟩; have hpW : Hid (Pure X16 w7) := Lib.hid (hpW.out.trans hp7)))
      rename_i hHeld
      obtain ⟨-, -, -, -, hpe⟩ := hHeld
      clear KEY
      go_wp2_with fail
      exact bodyPost_ret (v := .bool true) (by simp [results, Tryd.results20, go_sem]) rfl ⟨rfl, HP.out.trans hpe.out⟩
end Go.Proofs.YtmedkmbfggphdaaDoor
