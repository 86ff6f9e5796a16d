/- The walk of the chapter's examples. -/
import Derived.Test.YtmedkmbfggphdaaDoorM19
import Derived.Test.YtmedkmbfggphdaaDoorL6
set_option linter.unusedSimpArgs false
set_option linter.unusedVariables false
set_option linter.constructorNameAsVariable false
namespace Go.Proofs.YtmedkmbfggphdaaDoor
open Go.RowKit

set_option maxRecDepth 20000 in
set_option maxHeartbeats 20000000 in
theorem Known_any (w : World) (hg : Gl w) : Calls Tryd.prog 18 #[] w fun e w' => e = .returned (.bool true) ∧ Pure w w' := by
  have hmx : Tryd.prog.follows .mixedOrders = true := by kernel_rfl
  go_enter Tryd.func18, Tryd.ntmps18
  have HG : Hid (Gl w) := hg
  clear hg
  go_wp2_with fail
  refine (two_any w).mono ?_
  rintro e w1 ⟨⟨pA, cA, rfl, kA⟩, hp1⟩
  have HK : Hid (BookAt w1.heap.size w1 pA bkA) := kA
  have HP1 : Hid (Pure w w1) := hp1
  clear kA hp1
  go_wp2_with fail
  refine (one_any w1).mono ?_
  rintro e w2 ⟨⟨pB, cB, rfl, kB⟩, hp2⟩
  have HL : Hid (BookAt w2.heap.size w2 pB bkB) := kB
  have HP2 : Hid (Pure w1 w2) := hp2
  clear kB hp2
  go_wp2_with fail
  obtain ⟨X, hX⟩ : ∃ X, (w2.alloc (.cells (bookC bkA pA cA) 26)).alloc (.cells (bookC bkB pB cB) 26) = X := ⟨_, rfl⟩
  have hp3 : Pure w2 X := by rw [← hX]; exact ((Diff.refl w2).alloc _).alloc _
  have HP : Hid (Pure w X) := (HP1.out.trans HP2.out).trans hp3
  have hA : BoxB w2.heap.size bkA pA cA X := by rw [← hX]; exact (BoxB.new w2 bkA pA cA 26).pure ((Diff.refl _).alloc _)
  have hB : BoxB (w2.heap.size + 1) bkB pB cB X := by rw [← hX]; have := BoxB.new (w2.alloc (.cells (bookC bkA pA cA) 26)) bkB pB cB 26; rwa [World.size_alloc] at this
  rw [hX]
  obtain ⟨gA, hgA⟩ : ∃ gA, w2.heap.size = gA := ⟨_, rfl⟩
  obtain ⟨gB, hgB⟩ : ∃ gB, gA + 1 = gB := ⟨_, rfl⟩
  rw [hgA] at hA hB ⊢
  rw [hgB] at hB ⊢
  have HW : Hid (WI gA gB pA pB cA cB X) := ⟨hA, hB, (HK.out.diff (HP2.out.trans hp3) (Nat.le_refl _) (fun _ _ => id)).mono (HP2.out.trans hp3).size, (HL.out.diff hp3 (Nat.le_refl _) (fun _ _ => id)).mono hp3.size, HG.out.diff HP.out (fun _ _ => id)⟩
  clear hX hp3 hA hB hgA hgB HK HL HP1 HP2
  refine reg_invW (fun d a W => ∃ s1 s3 : Nat, a = { tmps := #[Value.bool false, Value.pointer (some { block := gA, off := 0 }), Value.pointer (some { block := gB, off := 0 }), (bif d 6 then Value.int IntKind.i64 0 else undef), undef, undef, undef, undef, undef, undef, undef, undef, undef, undef, undef, undef, undef, undef, undef, undef, bookV bkA pA cA, bookV bkB pB cB, (bif d 0 then bookV bkA pA cA else undef), (bif d 1 then Value.slice (some { block := s1, off := 0 }) 2 2 else undef), (bif d 2 then Value.slice (some { block := s1, off := 0 }) 2 2 else undef), (bif d 3 then Value.slice (some { block := s3, off := 0 }) 3 3 else undef), (bif d 4 then Value.slice (some { block := s3, off := 0 }) 3 3 else undef), (bif d 5 then Value.int IntKind.i64 0 else undef), undef, undef, undef, undef, undef, undef, undef, undef, undef, undef, undef, undef, undef, undef, undef, undef, undef, undef, undef, undef, undef, undef, undef, undef, undef, undef, undef, undef, undef, undef, undef, undef, undef, undef, undef, undef, undef, undef, undef, undef, undef, undef, undef, undef, undef, undef, undef, undef, undef, undef, undef, undef, undef, undef, undef, undef, undef, undef, undef, undef, undef, undef, undef, undef, undef, undef, undef, undef, undef, undef, undef, undef, undef, undef, undef, undef, undef, undef, undef, undef, undef, undef, undef, undef, undef, undef, undef, undef, undef, undef, undef, undef, undef, undef, undef, undef, undef, undef, undef, undef, undef, undef, undef, undef, undef, undef, undef, undef, undef, undef, undef], defers := [] } ∧ (Pure X W ∧ (d 1 = true → RowL W (some ⟨s1, 0, none⟩) [52, 44]) ∧ (d 3 = true → RowL W (some ⟨s3, 0, none⟩) [0, 3, 6]))) hmx (by kernel_rfl) ?_ ?_ ?_
  · exact ⟨0, 0, rfl, (Diff.refl X).drew, fun h => absurd h (by simp), fun h => absurd h (by simp)⟩
  · refine ⟨?_, ?_, ?_, ?_, ?_, ?_, ?_, trivial⟩
    · rintro d a W hdi hdep hcl ⟨s1, s3, rfl, hw⟩ K hK
      replace hdi : d 0 = false := hdi
      have f5 : d 5 = false := hcl.neg hdi 5 (by kernel_rfl)
      have f6 : d 6 = false := hcl.neg hdi 6 (by kernel_rfl)
      clear hdep hcl
      obtain ⟨c0, c1, c2, c3, -⟩ := (HW.out.pure hw.1).bA
      go_simp
      exact hK _ _ ⟨s1, s3, by simp [upd, hdi, f5, f6], hw.1, fun h => hw.2.1 (by simpa [upd] using h), fun h => hw.2.2 (by simpa [upd] using h)⟩
    · rintro d a W hdi hdep hcl ⟨s1, s3, rfl, hw⟩ K hK
      replace hdi : d 1 = false := hdi
      have f2 : d 2 = false := hcl.neg hdi 2 (by kernel_rfl)
      have f4 : d 4 = false := hcl.neg hdi 4 (by kernel_rfl)
      have f5 : d 5 = false := hcl.neg hdi 5 (by kernel_rfl)
      have f6 : d 6 = false := hcl.neg hdi 6 (by kernel_rfl)
      clear hdep hcl
      go_simp
      exact hK _ _ ⟨W.heap.size, s3, by simp [upd, hdi, f2, f4, f5, f6], hw.1.alloc _, fun _ => RowL.new W 2 [52, 44], fun h => (hw.2.2 (by simpa [upd] using h)).pure ((Diff.refl W).alloc _)⟩
    · rintro d a W hdi hdep hcl ⟨s1, s3, rfl, hw⟩ K hK
      replace hdi : d 2 = false := hdi
      have e1 : d 1 = true := hcl.pos 2 rfl hdep 1 29 (by kernel_rfl)
      have f4 : d 4 = false := hcl.neg hdi 4 (by kernel_rfl)
      have f5 : d 5 = false := hcl.neg hdi 5 (by kernel_rfl)
      have f6 : d 6 = false := hcl.neg hdi 6 (by kernel_rfl)
      clear hdep hcl
      go_simp
      refine (longs_any W _ _ _ _ rfl).mono ?_
      rintro e w5 ⟨rfl, hp5⟩
      exact hK _ _ ⟨s1, s3, by simp [upd, hdi, e1, f4, f5, f6], hw.1.trans hp5, fun h => (hw.2.1 (by simpa [upd] using h)).pure hp5, fun h => (hw.2.2 (by simpa [upd] using h)).pure hp5⟩
    · rintro d a W hdi hdep hcl ⟨s1, s3, rfl, hw⟩ K hK
      replace hdi : d 3 = false := hdi
      have f4 : d 4 = false := hcl.neg hdi 4 (by kernel_rfl)
      have f5 : d 5 = false := hcl.neg hdi 5 (by kernel_rfl)
      have f6 : d 6 = false := hcl.neg hdi 6 (by kernel_rfl)
      clear hdep hcl
      go_simp
      exact hK _ _ ⟨s1, W.heap.size, by simp [upd, hdi, f4, f5, f6], hw.1.alloc _, fun h => (hw.2.1 (by simpa [upd] using h)).pure ((Diff.refl W).alloc _), fun _ => RowL.new W 2 [0, 3, 6]⟩
    · rintro d a W hdi hdep hcl ⟨s1, s3, rfl, hw⟩ K hK
      replace hdi : d 4 = false := hdi
      have e1 : d 1 = true := hcl.pos 4 rfl hdep 1 29 (by kernel_rfl)
      have e2 : d 2 = true := hcl.pos 4 rfl hdep 2 29 (by kernel_rfl)
      have e3 : d 3 = true := hcl.pos 4 rfl hdep 3 29 (by kernel_rfl)
      have f5 : d 5 = false := hcl.neg hdi 5 (by kernel_rfl)
      have f6 : d 6 = false := hcl.neg hdi 6 (by kernel_rfl)
      clear hdep hcl
      go_simp
      refine (longs_any W _ _ _ _ rfl).mono ?_
      rintro e w5 ⟨rfl, hp5⟩
      exact hK _ _ ⟨s1, s3, by simp [upd, hdi, e1, e2, e3, f5, f6], hw.1.trans hp5, fun h => (hw.2.1 (by simpa [upd] using h)).pure hp5, fun h => (hw.2.2 (by simpa [upd] using h)).pure hp5⟩
    · rintro d a W hdi hdep hcl ⟨s1, s3, rfl, hw⟩ K hK
      replace hdi : d 5 = false := hdi
      have e0 : d 0 = true := hcl.pos 5 rfl hdep 0 29 (by kernel_rfl)
      have e1 : d 1 = true := hcl.pos 5 rfl hdep 1 29 (by kernel_rfl)
      have e2 : d 2 = true := hcl.pos 5 rfl hdep 2 29 (by kernel_rfl)
      have e3 : d 3 = true := hcl.pos 5 rfl hdep 3 29 (by kernel_rfl)
      have e4 : d 4 = true := hcl.pos 5 rfl hdep 4 29 (by kernel_rfl)
      have f6 : d 6 = false := hcl.neg hdi 6 (by kernel_rfl)
      clear hdep hcl
      go_simp
      refine (ctA (HW.out.pure hw.1) 2 3 (hw.2.1 e1) (hw.2.2 e3) (by decide) (by decide) truthA4).mono ?_
      rintro e w5 ⟨rfl, hp5⟩
      exact hK _ _ ⟨s1, s3, by simp [upd, hdi, e0, e1, e2, e3, e4, f6], hw.1.trans hp5, fun h => (hw.2.1 (by simpa [upd] using h)).pure hp5, fun h => (hw.2.2 (by simpa [upd] using h)).pure hp5⟩
    · rintro d a W hdi hdep hcl ⟨s1, s3, rfl, hw⟩ K hK
      replace hdi : d 6 = false := hdi
      have e0 : d 0 = true := hcl.pos 6 rfl hdep 0 29 (by kernel_rfl)
      have e1 : d 1 = true := hcl.pos 6 rfl hdep 1 29 (by kernel_rfl)
      have e2 : d 2 = true := hcl.pos 6 rfl hdep 2 29 (by kernel_rfl)
      have e3 : d 3 = true := hcl.pos 6 rfl hdep 3 29 (by kernel_rfl)
      have e4 : d 4 = true := hcl.pos 6 rfl hdep 4 29 (by kernel_rfl)
      have e5 : d 5 = true := hcl.pos 6 rfl hdep 5 29 (by kernel_rfl)
      clear hdep hcl
      go_simp
      exact hK _ _ ⟨s1, s3, by simp [upd, hdi, e0, e1, e2, e3, e4, e5], hw.1, fun h => hw.2.1 (by simpa [upd] using h), fun h => hw.2.2 (by simpa [upd] using h)⟩
  · rintro d a W hall ⟨s1, s3, rfl, hw⟩
    simp [List.range_succ] at hall
    obtain ⟨e0, e1, e2, e3, e4, e5, e6⟩ := hall
    simp only [e0, e1, e2, e3, e4, e5, e6, cond_true] at hw ⊢
    clear e0 e1 e2 e3 e4 e5 e6
    obtain ⟨hp5, -⟩ := hw
    have HW_ := Lib.hid (HW.out.pure hp5)
    have HP_ : Hid (Pure w _) := HP.out.trans hp5
    clear HW
    have HW := Lib.hid HW_.out
    clear HW_
    clear HP
    have HP := Lib.hid HP_.out
    clear HP_
    clear hp5
    obtain ⟨X3, hXX⟩ : ∃ Y, W = Y := ⟨_, rfl⟩
    rw [hXX] at HW HP ⊢
    clear hXX
    clear W d w1 w2 X
    obtain ⟨⟨a0, a1, a2, a3, al⟩, ⟨b0, b1, b2, b3, bl⟩, -, -, -⟩ := HW.out
    go_wp2_with fail
    refine (spanA0 HW.out).mono ?_
    rintro e w1 ⟨rfl, hp⟩
    clear a0 a1 a2 a3 al b0 b1 b2 b3 bl
    have HW_ := Lib.hid (HW.out.pure hp)
    have HP_ : Hid (Pure w _) := HP.out.trans hp
    clear HW
    have HW := Lib.hid HW_.out
    clear HW_
    clear HP
    have HP := Lib.hid HP_.out
    clear HP_
    clear hp
    obtain ⟨⟨a0, a1, a2, a3, al⟩, ⟨b0, b1, b2, b3, bl⟩, -, -, -⟩ := HW.out
    go_wp2_with fail
    clear a0 a1 a2 a3 al b0 b1 b2 b3 bl
    obtain ⟨X4, hX⟩ : ∃ Y, w1.alloc (.cells #[.int .i64 50, .int .i64 52] 23) = Y := ⟨_, rfl⟩
    have hp : Pure w1 X4 := by rw [← hX]; exact (Diff.refl _).alloc _
    have G1 : Hid (RG w1.heap.size 50 52 X4) := by rw [← hX]; exact RG.new _ _ _ _
    rw [hX]
    clear hX
    obtain ⟨g1, hg⟩ : ∃ g, w1.heap.size = g := ⟨_, rfl⟩
    rw [hg] at G1 ⊢
    clear hg
    have HW_ := Lib.hid (HW.out.pure hp)
    have HP_ : Hid (Pure w _) := HP.out.trans hp
    clear HW
    have HW := Lib.hid HW_.out
    clear HW_
    clear HP
    have HP := Lib.hid HP_.out
    clear HP_
    clear hp
    refine (apartA10 HW.out).mono ?_
    rintro e w2 ⟨rfl, hp⟩
    have HW_ := Lib.hid (HW.out.pure hp)
    have G1_ := Lib.hid (G1.out.pure hp)
    have HP_ : Hid (Pure w _) := HP.out.trans hp
    clear HW
    have HW := Lib.hid HW_.out
    clear HW_
    clear G1
    have G1 := Lib.hid G1_.out
    clear G1_
    clear HP
    have HP := Lib.hid HP_.out
    clear HP_
    clear hp
    obtain ⟨⟨a0, a1, a2, a3, al⟩, ⟨b0, b1, b2, b3, bl⟩, -, -, -⟩ := HW.out
    go_wp2_with fail
    clear a0 a1 a2 a3 al b0 b1 b2 b3 bl
    obtain ⟨X5, hX⟩ : ∃ Y, w2.alloc (.cells #[.int .i64 (-10), .int .i64 (-6)] 23) = Y := ⟨_, rfl⟩
    have hp : Pure w2 X5 := by rw [← hX]; exact (Diff.refl _).alloc _
    have G2 : Hid (RG w2.heap.size (-10) (-6) X5) := by rw [← hX]; exact RG.new _ _ _ _
    rw [hX]
    clear hX
    obtain ⟨g2, hg⟩ : ∃ g, w2.heap.size = g := ⟨_, rfl⟩
    rw [hg] at G2 ⊢
    clear hg
    have HW_ := Lib.hid (HW.out.pure hp)
    have G1_ := Lib.hid (G1.out.pure hp)
    have HP_ : Hid (Pure w _) := HP.out.trans hp
    clear HW
    have HW := Lib.hid HW_.out
    clear HW_
    clear G1
    have G1 := Lib.hid G1_.out
    clear G1_
    clear HP
    have HP := Lib.hid HP_.out
    clear HP_
    clear hp
    refine (apartA11 HW.out).mono ?_
    rintro e w3 ⟨rfl, hp⟩
    have HW_ := Lib.hid (HW.out.pure hp)
    have G1_ := Lib.hid (G1.out.pure hp)
    have G2_ := Lib.hid (G2.out.pure hp)
    have HP_ : Hid (Pure w _) := HP.out.trans hp
    clear HW
    have HW := Lib.hid HW_.out
    clear HW_
    clear G1
    have G1 := Lib.hid G1_.out
    clear G1_
    clear G2
    have G2 := Lib.hid G2_.out
    clear G2_
    clear HP
    have HP := Lib.hid HP_.out
    clear HP_
    clear hp
    obtain ⟨⟨a0, a1, a2, a3, al⟩, ⟨b0, b1, b2, b3, bl⟩, -, -, -⟩ := HW.out
    go_wp2_with fail
    clear a0 a1 a2 a3 al b0 b1 b2 b3 bl
    obtain ⟨X6, hX⟩ : ∃ Y, w3.alloc (.cells #[.int .i64 0, .int .i64 0] 23) = Y := ⟨_, rfl⟩
    have hp : Pure w3 X6 := by rw [← hX]; exact (Diff.refl _).alloc _
    have G3 : Hid (RG w3.heap.size 0 0 X6) := by rw [← hX]; exact RG.new _ _ _ _
    rw [hX]
    clear hX
    obtain ⟨g3, hg⟩ : ∃ g, w3.heap.size = g := ⟨_, rfl⟩
    rw [hg] at G3 ⊢
    clear hg
    have HW_ := Lib.hid (HW.out.pure hp)
    have G1_ := Lib.hid (G1.out.pure hp)
    have G2_ := Lib.hid (G2.out.pure hp)
    have HP_ : Hid (Pure w _) := HP.out.trans hp
    clear HW
    have HW := Lib.hid HW_.out
    clear HW_
    clear G1
    have G1 := Lib.hid G1_.out
    clear G1_
    clear G2
    have G2 := Lib.hid G2_.out
    clear G2_
    clear HP
    have HP := Lib.hid HP_.out
    clear HP_
    clear hp
    have hp0 : Hid (Pure X6 X6.drew) := (Diff.refl X6).drew
    have KEY : Hid (∀ w', Pure X6 w' → w'.cell? ⟨gB, 0, none⟩ = some (.int .i64 bkB.lo) ∧ w'.cell? ⟨gB, 1, none⟩ = some (.int .i64 bkB.hi) ∧ w'.cell? ⟨gB, 2, none⟩ = some (.int .i64 bkB.lots) ∧ w'.cell? ⟨gB, 3, none⟩ = some (.slice pB bkB.n cB) ∧ Hid (Pure X6 w')) := fun w' hp => by
      obtain ⟨c0, c1, c2, c3, cl⟩ := (HW.out.pure hp).bB
      exact ⟨c0, c1, c2, c3, hp⟩
    go_region_held3 (fun w' => w'.cell? ⟨gB, 0, none⟩ = some (.int .i64 bkB.lo) ∧ w'.cell? ⟨gB, 1, none⟩ = some (.int .i64 bkB.hi) ∧ w'.cell? ⟨gB, 2, none⟩ = some (.int .i64 bkB.lots) ∧ w'.cell? ⟨gB, 3, none⟩ = some (.slice pB bkB.n cB) ∧ Hid (Pure X6 w'))
      (exact KEY.out _ (by first | exact hp0.out | exact hp0.out.alloc _ | exact (hp0.out.alloc _).trans hp5 | exact ((hp0.out.alloc _).trans hp5).trans hp6))
      (first | (go_at_call 59; refine (of_any _ _ _ _ _ rfl).mono ?_; rintro e w5 ⟨rfl, hp5⟩) | (go_at_call 39; refine (crB (HW.out.pure ((hp0.out.alloc _).trans hp5)) 2 (by decide) ((RowL.new X6 3 [1, 3]).pure ((Diff.refl _).drew.trans hp5)) rdB5).mono ?_; rintro e X7 ⟨rfl, hp6⟩))
    rename_i hHeld
    obtain ⟨-, -, -, -, hp⟩ := hHeld
    clear KEY hp0
    have HW_ := Lib.hid (HW.out.pure hp.out)
    have G1_ := Lib.hid (G1.out.pure hp.out)
    have G2_ := Lib.hid (G2.out.pure hp.out)
    have G3_ := Lib.hid (G3.out.pure hp.out)
    have HP_ : Hid (Pure w _) := HP.out.trans hp.out
    clear HW
    have HW := Lib.hid HW_.out
    clear HW_
    clear G1
    have G1 := Lib.hid G1_.out
    clear G1_
    clear G2
    have G2 := Lib.hid G2_.out
    clear G2_
    clear G3
    have G3 := Lib.hid G3_.out
    clear G3_
    clear HP
    have HP := Lib.hid HP_.out
    clear HP_
    clear hp
    clear hp6 hp5
    go_wp2_with fail
    have hp0 : Hid (Pure X7 X7.drew) := (Diff.refl X7).drew
    have KEY : Hid (∀ w', Pure X7 w' → w'.cell? ⟨gB, 0, none⟩ = some (.int .i64 bkB.lo) ∧ w'.cell? ⟨gB, 1, none⟩ = some (.int .i64 bkB.hi) ∧ w'.cell? ⟨gB, 2, none⟩ = some (.int .i64 bkB.lots) ∧ w'.cell? ⟨gB, 3, none⟩ = some (.slice pB bkB.n cB) ∧ Hid (Pure X7 w')) := fun w' hp => by
      obtain ⟨c0, c1, c2, c3, cl⟩ := (HW.out.pure hp).bB
      exact ⟨c0, c1, c2, c3, hp⟩
    go_region_held3 (fun w' => w'.cell? ⟨gB, 0, none⟩ = some (.int .i64 bkB.lo) ∧ w'.cell? ⟨gB, 1, none⟩ = some (.int .i64 bkB.hi) ∧ w'.cell? ⟨gB, 2, none⟩ = some (.int .i64 bkB.lots) ∧ w'.cell? ⟨gB, 3, none⟩ = some (.slice pB bkB.n cB) ∧ Hid (Pure X7 w'))
      (exact KEY.out _ (by first | exact hp0.out | exact hp0.out.alloc _ | exact (hp0.out.alloc _).trans hp5 | exact ((hp0.out.alloc _).trans hp5).trans hp6))
      (first | (go_at_call 59; refine (of_any _ _ _ _ _ rfl).mono ?_; rintro e w5 ⟨rfl, hp5⟩) | (go_at_call 39; refine (crB (HW.out.pure ((hp0.out.alloc _).trans hp5)) 2 (by decide) ((RowL.new X7 3 [2, 0]).pure ((Diff.refl _).drew.trans hp5)) rdB6).mono ?_; rintro e X8 ⟨rfl, hp6⟩))
    rename_i hHeld
    obtain ⟨-, -, -, -, hp⟩ := hHeld
    clear KEY hp0
    have HW_ := Lib.hid (HW.out.pure hp.out)
    have G1_ := Lib.hid (G1.out.pure hp.out)
    have G2_ := Lib.hid (G2.out.pure hp.out)
    have G3_ := Lib.hid (G3.out.pure hp.out)
    have HP_ : Hid (Pure w _) := HP.out.trans hp.out
    clear HW
    have HW := Lib.hid HW_.out
    clear HW_
    clear G1
    have G1 := Lib.hid G1_.out
    clear G1_
    clear G2
    have G2 := Lib.hid G2_.out
    clear G2_
    clear G3
    have G3 := Lib.hid G3_.out
    clear G3_
    clear HP
    have HP := Lib.hid HP_.out
    clear HP_
    clear hp
    clear hp6 hp5
    go_wp2_with fail
    have hp0 : Hid (Pure X8 X8.drew) := (Diff.refl X8).drew
    have KEY : Hid (∀ w', Pure X8 w' → w'.cell? ⟨gB, 0, none⟩ = some (.int .i64 bkB.lo) ∧ w'.cell? ⟨gB, 1, none⟩ = some (.int .i64 bkB.hi) ∧ w'.cell? ⟨gB, 2, none⟩ = some (.int .i64 bkB.lots) ∧ w'.cell? ⟨gB, 3, none⟩ = some (.slice pB bkB.n cB) ∧ Hid (Pure X8 w')) := fun w' hp => by
      obtain ⟨c0, c1, c2, c3, cl⟩ := (HW.out.pure hp).bB
      exact ⟨c0, c1, c2, c3, hp⟩
    go_region_held3 (fun w' => w'.cell? ⟨gB, 0, none⟩ = some (.int .i64 bkB.lo) ∧ w'.cell? ⟨gB, 1, none⟩ = some (.int .i64 bkB.hi) ∧ w'.cell? ⟨gB, 2, none⟩ = some (.int .i64 bkB.lots) ∧ w'.cell? ⟨gB, 3, none⟩ = some (.slice pB bkB.n cB) ∧ Hid (Pure X8 w'))
      (exact KEY.out _ (by first | exact hp0.out | exact hp0.out.alloc _ | exact (hp0.out.alloc _).trans hp5 | exact ((hp0.out.alloc _).trans hp5).trans hp6))
      (first | (go_at_call 59; refine (of_any _ _ _ _ _ rfl).mono ?_; rintro e w5 ⟨rfl, hp5⟩) | (go_at_call 39; refine (crB (HW.out.pure ((hp0.out.alloc _).trans hp5)) 1 (by decide) ((RowL.new X8 3 [4]).pure ((Diff.refl _).drew.trans hp5)) rdB7).mono ?_; rintro e X9 ⟨rfl, hp6⟩))
    rename_i hHeld
    obtain ⟨-, -, -, -, hp⟩ := hHeld
    clear KEY hp0
    have HW_ := Lib.hid (HW.out.pure hp.out)
    have G1_ := Lib.hid (G1.out.pure hp.out)
    have G2_ := Lib.hid (G2.out.pure hp.out)
    have G3_ := Lib.hid (G3.out.pure hp.out)
    have HP_ : Hid (Pure w _) := HP.out.trans hp.out
    clear HW
    have HW := Lib.hid HW_.out
    clear HW_
    clear G1
    have G1 := Lib.hid G1_.out
    clear G1_
    clear G2
    have G2 := Lib.hid G2_.out
    clear G2_
    clear G3
    have G3 := Lib.hid G3_.out
    clear G3_
    clear HP
    have HP := Lib.hid HP_.out
    clear HP_
    clear hp
    clear hp6 hp5
    go_wp2_with fail
    have hp0 : Hid (Pure X9 X9.drew) := (Diff.refl X9).drew
    have KEY : Hid (∀ w', Pure X9 w' → w'.cell? ⟨gA, 0, none⟩ = some (.int .i64 bkA.lo) ∧ w'.cell? ⟨gA, 1, none⟩ = some (.int .i64 bkA.hi) ∧ w'.cell? ⟨gA, 2, none⟩ = some (.int .i64 bkA.lots) ∧ w'.cell? ⟨gA, 3, none⟩ = some (.slice pA bkA.n cA) ∧ Hid (Pure X9 w')) := fun w' hp => by
      obtain ⟨c0, c1, c2, c3, cl⟩ := (HW.out.pure hp).bA
      exact ⟨c0, c1, c2, c3, hp⟩
    go_region_held3 (fun w' => w'.cell? ⟨gA, 0, none⟩ = some (.int .i64 bkA.lo) ∧ w'.cell? ⟨gA, 1, none⟩ = some (.int .i64 bkA.hi) ∧ w'.cell? ⟨gA, 2, none⟩ = some (.int .i64 bkA.lots) ∧ w'.cell? ⟨gA, 3, none⟩ = some (.slice pA bkA.n cA) ∧ Hid (Pure X9 w'))
      (exact KEY.out _ (by first | exact hp0.out | exact hp0.out.alloc _ | exact (hp0.out.alloc _).trans hp5 | exact ((hp0.out.alloc _).trans hp5).trans hp6))
      (first | (go_at_call 59; refine (of_any _ _ _ _ _ rfl).mono ?_; rintro e w5 ⟨rfl, hp5⟩) | (go_at_call 39; refine (crA (HW.out.pure ((hp0.out.alloc _).trans hp5)) 4 (by decide) ((RowL.new X9 3 [1, 3, 4, 5]).pure ((Diff.refl _).drew.trans hp5)) rdA2).mono ?_; rintro e X10 ⟨rfl, hp6⟩))
    rename_i hHeld
    obtain ⟨-, -, -, -, hp⟩ := hHeld
    clear KEY hp0
    have HW_ := Lib.hid (HW.out.pure hp.out)
    have G1_ := Lib.hid (G1.out.pure hp.out)
    have G2_ := Lib.hid (G2.out.pure hp.out)
    have G3_ := Lib.hid (G3.out.pure hp.out)
    have HP_ : Hid (Pure w _) := HP.out.trans hp.out
    clear HW
    have HW := Lib.hid HW_.out
    clear HW_
    clear G1
    have G1 := Lib.hid G1_.out
    clear G1_
    clear G2
    have G2 := Lib.hid G2_.out
    clear G2_
    clear G3
    have G3 := Lib.hid G3_.out
    clear G3_
    clear HP
    have HP := Lib.hid HP_.out
    clear HP_
    clear hp
    clear hp6 hp5
    obtain ⟨⟨a0, a1, a2, a3, al⟩, ⟨b0, b1, b2, b3, bl⟩, -, -, -⟩ := HW.out
    go_wp2_with fail
    refine (wrA HW.out).mono ?_
    rintro e X11 ⟨q6, c6, rfl, hr6, hp⟩
    have R6 : Hid (RowL X11 q6 [0, 1, 2]) := hr6
    clear hr6
    clear a0 a1 a2 a3 al b0 b1 b2 b3 bl
    have HW_ := Lib.hid (HW.out.pure hp)
    have G1_ := Lib.hid (G1.out.pure hp)
    have G2_ := Lib.hid (G2.out.pure hp)
    have G3_ := Lib.hid (G3.out.pure hp)
    have HP_ : Hid (Pure w _) := HP.out.trans hp
    clear HW
    have HW := Lib.hid HW_.out
    clear HW_
    clear G1
    have G1 := Lib.hid G1_.out
    clear G1_
    clear G2
    have G2 := Lib.hid G2_.out
    clear G2_
    clear G3
    have G3 := Lib.hid G3_.out
    clear G3_
    clear HP
    have HP := Lib.hid HP_.out
    clear HP_
    clear hp
    obtain ⟨⟨a0, a1, a2, a3, al⟩, ⟨b0, b1, b2, b3, bl⟩, -, -, -⟩ := HW.out
    go_wp2_with fail
    clear a0 a1 a2 a3 al b0 b1 b2 b3 bl
    have hp0 : Hid (Pure X11 X11.drew) := (Diff.refl X11).drew
    have hpW : Hid (Pure X11 X11.drew) := (Diff.refl X11).drew
    have KEY : Hid (∀ w', Pure X11 w' → w'.cell? ⟨g1, 0, none⟩ = some (.int .i64 50) ∧ w'.cell? ⟨g1, 1, none⟩ = some (.int .i64 52) ∧ w'.cell? ⟨g2, 0, none⟩ = some (.int .i64 (-10)) ∧ w'.cell? ⟨g2, 1, none⟩ = some (.int .i64 (-6)) ∧ w'.cell? ⟨g3, 0, none⟩ = some (.int .i64 0) ∧ w'.cell? ⟨g3, 1, none⟩ = some (.int .i64 0) ∧ w'.cell? ⟨gB, 0, none⟩ = some (.int .i64 bkB.lo) ∧ w'.cell? ⟨gB, 1, none⟩ = some (.int .i64 bkB.hi) ∧ w'.cell? ⟨gB, 2, none⟩ = some (.int .i64 bkB.lots) ∧ w'.cell? ⟨gB, 3, none⟩ = some (.slice pB bkB.n cB) ∧ Hid (Pure X11 w')) := fun w' hp => by
      obtain ⟨c0, c1, -⟩ := (G1.out.pure hp)
      obtain ⟨d0, d1, -⟩ := (G2.out.pure hp)
      obtain ⟨f0, f1, -⟩ := (G3.out.pure hp)
      obtain ⟨e0, e1, e2, e3, -⟩ := (HW.out.pure hp).bB
      exact ⟨c0, c1, d0, d1, f0, f1, e0, e1, e2, e3, hp⟩
    go_region_held3 (fun w' => w'.cell? ⟨g1, 0, none⟩ = some (.int .i64 50) ∧ w'.cell? ⟨g1, 1, none⟩ = some (.int .i64 52) ∧ w'.cell? ⟨g2, 0, none⟩ = some (.int .i64 (-10)) ∧ w'.cell? ⟨g2, 1, none⟩ = some (.int .i64 (-6)) ∧ w'.cell? ⟨g3, 0, none⟩ = some (.int .i64 0) ∧ w'.cell? ⟨g3, 1, none⟩ = some (.int .i64 0) ∧ w'.cell? ⟨gB, 0, none⟩ = some (.int .i64 bkB.lo) ∧ w'.cell? ⟨gB, 1, none⟩ = some (.int .i64 bkB.hi) ∧ w'.cell? ⟨gB, 2, none⟩ = some (.int .i64 bkB.lots) ∧ w'.cell? ⟨gB, 3, none⟩ = some (.slice pB bkB.n cB) ∧ Hid (Pure X11 w'))
      (exact KEY.out _ (by first | exact hpW.out | exact hpW.out.alloc _))
      (first | (go_at_call 49; refine (to_any _ _ _).mono ?_; rintro e w7 ⟨rfl, hp7⟩; have hpW : Hid (Pure X11 w7) := Lib.hid (hpW.out.trans hp7)) | (go_at_call 59; refine (of_any _ _ _ _ _ rfl).mono ?_; rintro e w5 ⟨rfl, hp5⟩; have hpW : Hid (Pure X11 w5) := Lib.hid ((hpW.out.alloc _).trans hp5)) | (go_at_call 46; refine Calls.mono (IntsL _ _ rfl (by decide) (R6.out.pure hpW.out) ?_) ?_; (first | exact (RowL.new _ 3 _).pure hp5); rintro e w6 ⟨rfl, hp6⟩; have hpW : Hid (Pure X11 w6) := Lib.hid (hpW.out.trans hp6)) | (go_at_call 23; refine Calls.mono (cbB (HW.out.pure hpW.out)) ?_; rintro e w8 ⟨rfl, hp8⟩; have hpW : Hid (Pure X11 w8) := Lib.hid (hpW.out.trans hp8)) | (go_at_call 20; refine Calls.mono (Works_any _ (HW.out.pure hpW.out).gl) ?_; rintro e w9 ⟨rfl, hp9⟩; have hpW : Hid (Pure X11 w9) := Lib.hid (hpW.out.trans hp9)))
    rename_i hHeld
    obtain ⟨-, -, -, -, -, -, -, -, -, -, hpe⟩ := hHeld
    clear KEY
    go_wp2_with fail
    exact bodyPost_ret (v := .bool true) (by simp [results, Tryd.results18, go_sem]) rfl ⟨rfl, HP.out.trans hpe.out⟩
end Go.Proofs.YtmedkmbfggphdaaDoor
