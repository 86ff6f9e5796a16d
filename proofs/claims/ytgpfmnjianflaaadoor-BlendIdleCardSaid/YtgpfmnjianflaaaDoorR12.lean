/- Walk of the reference's AtLeast. -/
import Derived.Test.YtgpfmnjianflaaaDoorR11
set_option linter.unusedSimpArgs false
set_option linter.unusedVariables false
set_option linter.constructorNameAsVariable false
namespace Go.Proofs.YtgpfmnjianflaaaDoor
open Go.RowKit

theorem least_has {L : LT} {t : Int} (hok : L.Ok) (ht : 0 ≤ t ∧ t ≤ 100) : atE L t = if hasB (atP L t).1 (atP L t).2 = true then 0 else 19 := by
  rcases least_join hok ht with ⟨_, h1, h2, _⟩ | ⟨_, h1, h2⟩
  · rw [if_pos (hasB_den h2.den), h1]
  · rw [h2, if_neg (by decide), h1]
theorem refL_small {L : LT} {t : Int} (hok : L.Ok) (ht : 0 ≤ t ∧ t ≤ 100) {i : Nat} (hi : i ≤ L.n) : (-1000000000 ≤ (L.refL t i).1 ∧ (L.refL t i).1 ≤ 1000000000) ∧ -1000000000 ≤ (L.refL t i).2 ∧ (L.refL t i).2 ≤ 1000000000 := by
  rcases refL_is hok ht i hi with ⟨h1, _⟩ | ⟨h1, _⟩
  · rw [h1]; exact ⟨⟨by decide, by decide⟩, by decide, by decide⟩
  · have := h1.b0; have := h1.b1; have := h1.a0; have := h1.a1
    exact ⟨⟨by omega, by omega⟩, by omega, by omega⟩
set_option maxRecDepth 20000 in
set_option maxHeartbeats 4000000 in
theorem RAtLeast_any (w : World) (L : LT) (p : Option Addr) (cap : Nat) (t : Int) (hn : L.n ≤ 1000) (hl : LotsAt w.heap.size w p L) :
    Calls Tryd.prog 29 #[.slice p L.n cap, .int .i64 t] w fun e w' => e = .returned (.tuple #[.agg #[.int .i64 (atP L t).1, .int .i64 (atP L t).2], .int .i64 (atE L t)]) ∧ Pure w w' := by
  have hmx : Tryd.prog.follows .mixedOrders = true := by kernel_rfl
  have HL := Lib.hid hl
  clear hl
  go_enter Tryd.func29, Tryd.ntmps29
  go_wp2_with fail
  obtain ⟨X0, hX0⟩ : ∃ V : World, w.alloc (.cells #[.int .i64 0, .int .i64 0] 29) = V := ⟨_, rfl⟩
  have k0 : Blk w.heap.size 29 #[.int .i64 0, .int .i64 0] X0 := by rw [← hX0]; exact Blk.new _ _ _
  have hP : Pure w X0 := by rw [← hX0]; exact (Diff.refl _).alloc _
  rw [hX0]
  clear hX0
  refine (Rsharped_any X0 L p cap t hn (HL.out.to hP)).mono ?_
  rintro e w1 ⟨rfl, hp1⟩
  have HP1 := Lib.hid (hP.trans hp1)
  have K1 := Lib.hid (k0.to hp1)
  clear hP hp1 k0
  obtain ⟨c, hc⟩ : ∃ c, sharpE L t = c := ⟨_, rfl⟩
  have HC := Lib.hid hc
  rw [hc]
  clear hc
  by_cases h0 : c = 0
  · subst h0
    obtain ⟨hok, ht⟩ := sharpE_ok.1 HC.out
    have HOK := Lib.hid hok
    have HT := Lib.hid ht
    go_wp2_with fail
    refine (RCheapestOf_any w1 L p cap t ht HOK.out.in hn (HL.out.to HP1.out)).mono ?_
    rintro e w2 ⟨rfl, hp2⟩
    have hfin := refL_least hok ht
    have hhas := least_has hok ht
    rw [← hfin] at hhas
    have HFIN := Lib.hid hfin
    have HHAS := Lib.hid hhas
    clear hok ht hfin hhas
    have hr0 : L.refC t = L.refL t 0 := rfl
    rw [hr0]
    clear hr0
    obtain ⟨R, hR⟩ : ∃ R, L.refL t = R := ⟨_, rfl⟩
    have HRS : Hid (∀ i, R (i + 1) = if (decide (t ≤ L.s i) && chB (redN (L.p i) 1) (redD (L.p i) 1) (R i).1 (R i).2) = true then (redN (L.p i) 1, redD (L.p i) 1) else R i) := by rw [← hR]; exact fun i => rfl
    have HRM : Hid (∀ i, i ≤ L.n → (-1000000000 ≤ (R i).1 ∧ (R i).1 ≤ 1000000000) ∧ -1000000000 ≤ (R i).2 ∧ (R i).2 ≤ 1000000000) := by rw [← hR]; exact fun i hi => refL_small HOK.out HT.out hi
    rw [hR] at HFIN HHAS ⊢
    clear hR
    go_wp2_with fail
    obtain ⟨X, hX⟩ : ∃ V : World, w2.alloc (.cells #[.int .i64 (R 0).1, .int .i64 (R 0).2] 29) = V := ⟨_, rfl⟩
    have k6 : Blk w2.heap.size 29 #[.int .i64 (R 0).1, .int .i64 (R 0).2] X := by rw [← hX]; exact Blk.new _ _ _
    have hPX : Pure w2 X := by rw [← hX]; exact (Diff.refl _).alloc _
    obtain ⟨G, hG⟩ : ∃ G, w2.heap.size = G := ⟨_, rfl⟩
    have HGK : Hid (w.heap.size < G) := by have := (K1.out.to hp2).lt; exact (by omega : w.heap.size < G)
    rw [hX, hG]
    rw [hG] at k6
    have HPX := Lib.hid (HP1.out.trans (hp2.trans hPX))
    have KX := Lib.hid ((K1.out.to hp2).to hPX)
    have HCO : Hid (CO X G (R 0) X) := ⟨Diff.refl _, k6⟩
    have HLX := Lib.hid (HL.out.to HPX.out)
    have HLW : Hid (∀ b o, p = some ⟨b, o, none⟩ → 0 < L.n → b < G) := fun b o e h => by
      obtain ⟨b', o', e', hb', -⟩ := HL.out 0 h
      rw [e] at e'; cases e'
      have := HGK.out; have := K1.out.lt; omega
    clear hX hG k6 hPX hp2
    go_loopw [7, 8] (fun fd i wr => ∃ k : Nat, k ≤ L.n ∧ i = .int .i64 k ∧ fd = .bool (hasB (R k).1 (R k).2) ∧ Hid (CO X G (R k) wr)) (fun _ i _ => L.n - (intOf i).toNat)
    case atStart => exact ⟨0, Nat.zero_le _, rfl, rfl, HCO.out⟩
    case round =>
      obtain ⟨k, hk, rfl, rfl, HK⟩ := hrel
      by_cases hlt : k < L.n
      · obtain ⟨b, o, rfl, hb, hs0, hs1⟩ := HLX.out k hlt
        have hbG : ¬ b = G := by have := HLW.out b o rfl (by omega); omega
        have d0 := (HK.out.diff.cell (p := ⟨b, o + k * 2, none⟩) hb hbG).trans hs0
        have d1 := (HK.out.diff.cell (p := ⟨b, o + k * 2 + 1, none⟩) hb hbG).trans hs1
        have lb := Nat.lt_of_lt_of_le hb HK.out.diff.size
        have hki : (k : Int) < (L.n : Int) := by omega
        have hbi := HOK.out.p0 k hlt
        have hbj := HOK.out.p1 k hlt
        have HST := Lib.hid (HRS.out k)
        have HSM := Lib.hid (HRM.out k hk)
        obtain ⟨c, hc⟩ : ∃ c, R k = c := ⟨_, rfl⟩
        rw [hc] at HK HST HSM ⊢
        have HR1 := Lib.hid (red_one (L.p k))
        rw [HR1.out.1, HR1.out.2] at HST
        clear hc
        have e0 := HK.out.blk.at 0
        have e1 := HK.out.blk.at 1
        have el := HK.out.blk.lt
        by_cases hge : t ≤ L.s k
        · cases hv : hasB c.1 c.2 with
          | false =>
            have HN : Hid (R (k + 1) = (L.p k, 1)) := by
              show _ = _
              rw [HST.out, if_pos (by rw [Bool.and_eq_true]; exact ⟨by simpa using hge, by unfold chB; rw [hasB_den Int.zero_lt_one, hv]; rfl⟩)]
            go_wp2_with fail
            refine reg_invW (fun d a W => a = { tmps := #[Value.slice (some { block := b, off := o }) L.n cap, Value.int IntKind.i64 t, undef, undef, Value.pointer (some { block := w.heap.size, off := 0 }), Value.int IntKind.i64 0, Value.pointer (some { block := G, off := 0 }), Value.bool false, Value.int IntKind.i64 (k : Int), Value.slice (some { block := b, off := o }) L.n cap, Value.int IntKind.i64 t, Value.int IntKind.i64 0, Value.bool false, undef, undef, undef, undef, Value.tuple #[Value.agg #[Value.int IntKind.i64 (R 0).fst, Value.int IntKind.i64 (R 0).snd], Value.bool (hasB (R 0).fst (R 0).snd)], Value.slice (some { block := b, off := o }) L.n cap, Value.int IntKind.i64 t, Value.tuple #[Value.agg #[Value.int IntKind.i64 (R 0).fst, Value.int IntKind.i64 (R 0).snd], Value.bool (hasB (R 0).fst (R 0).snd)], Value.agg #[Value.int IntKind.i64 (R 0).fst, Value.int IntKind.i64 (R 0).snd], Value.bool (hasB (R 0).fst (R 0).snd), Value.int IntKind.i64 (k : Int), Value.slice (some { block := b, off := o }) L.n cap, Value.int IntKind.i64 (L.n : Int), Value.bool true, u27, u28, (bif d 0 then Value.slice (some { block := b, off := o }) L.n cap else u29), (bif d 1 then Value.int IntKind.i64 ((k : Nat)) else u30), (bif d 2 then Value.pointer (some { block := b, off := o + k * 2 }) else u31), (bif d 3 then Value.pointer (some { block := b, off := o + k * 2 }) else u32), (bif d 4 then Value.int IntKind.i64 (L.s k) else u33), (bif d 5 then Value.int IntKind.i64 (t) else u34), (bif d 6 then Value.bool true else u35), (bif d 7 then Value.bool true else u36), (bif d 8 then Value.bool false else u37), (bif d 9 then Value.bool true else u38), (bif d 10 then Value.bool true else u39), (bif d 11 then undef else u40), (bif d 12 then undef else u41), (bif d 13 then undef else u42), (bif d 14 then undef else u43), (bif d 15 then undef else u44), (bif d 16 then undef else u45), (bif d 17 then undef else u46), (bif d 18 then undef else u47), (bif d 19 then Value.bool true else u48), (bif d 20 then Value.bool true else u49), u50, u51, u52, u53, u54, u55, undef, undef, undef, undef], defers := [] } ∧ CO X G c W) hmx (by kernel_rfl) ?_ ?_ ?_
            · exact ⟨rfl, HK.out.pure (Diff.refl _).drew⟩
            · refine ⟨?_, ?_, ?_, ?_, ?_, ?_, ?_, ?_, ?_, ?_, ?_, ?_, ?_, ?_, ?_, ?_, ?_, ?_, ?_, ?_, ?_, trivial⟩
              · rintro d a W hdi hdep hcl ⟨rfl, hw⟩ K hK
                have E := hcl.facts 0 hdi rfl hdep [] [2, 3, 4, 6, 7, 8, 9, 10, 11, 12, 13, 14, 15, 16, 17, 18, 19, 20] (by kernel_rfl) (by kernel_rfl)
                simp only [AllT, AllF] at E
                clear hdi hdep hcl
                go_simp
                exact hK _ _ ⟨by simp [upd, E], hw⟩
              · rintro d a W hdi hdep hcl ⟨rfl, hw⟩ K hK
                have E := hcl.facts 1 hdi rfl hdep [] [2, 3, 4, 6, 7, 8, 9, 10, 11, 12, 13, 14, 15, 16, 17, 18, 19, 20] (by kernel_rfl) (by kernel_rfl)
                simp only [AllT, AllF] at E
                clear hdi hdep hcl
                go_simp
                exact hK _ _ ⟨by simp [upd, E], hw⟩
              · rintro d a W hdi hdep hcl ⟨rfl, hw⟩ K hK
                have E := hcl.facts 2 hdi rfl hdep [0, 1] [3, 4, 6, 7, 8, 9, 10, 11, 12, 13, 14, 15, 16, 17, 18, 19, 20] (by kernel_rfl) (by kernel_rfl)
                simp only [AllT, AllF] at E
                clear hdi hdep hcl
                go_simp
                exact hK _ _ ⟨by simp [upd, E], hw⟩
              · rintro d a W hdi hdep hcl ⟨rfl, hw⟩ K hK
                have E := hcl.facts 3 hdi rfl hdep [0, 1, 2] [4, 6, 7, 8, 9, 10, 11, 12, 13, 14, 15, 16, 17, 18, 19, 20] (by kernel_rfl) (by kernel_rfl)
                simp only [AllT, AllF] at E
                clear hdi hdep hcl
                go_simp
                exact hK _ _ ⟨by simp [upd, E], hw⟩
              · rintro d a W hdi hdep hcl ⟨rfl, hw⟩ K hK
                have E := hcl.facts 4 hdi rfl hdep [0, 1, 2, 3] [6, 7, 8, 9, 10, 11, 12, 13, 14, 15, 16, 17, 18, 19, 20] (by kernel_rfl) (by kernel_rfl)
                simp only [AllT, AllF] at E
                clear hdi hdep hcl
                have z0 := (hw.diff.cell (p := ⟨b, o + k * 2, none⟩) hb hbG).trans hs0
                have zl := Nat.lt_of_lt_of_le hb hw.diff.size
                go_simp
                exact hK _ _ ⟨by simp [upd, E], hw⟩
              · rintro d a W hdi hdep hcl ⟨rfl, hw⟩ K hK
                have E := hcl.facts 5 hdi rfl hdep [] [6, 7, 8, 9, 10, 11, 12, 13, 14, 15, 16, 17, 18, 19, 20] (by kernel_rfl) (by kernel_rfl)
                simp only [AllT, AllF] at E
                clear hdi hdep hcl
                go_simp
                exact hK _ _ ⟨by simp [upd, E], hw⟩
              · rintro d a W hdi hdep hcl ⟨rfl, hw⟩ K hK
                have E := hcl.facts 6 hdi rfl hdep [0, 1, 2, 3, 4, 5] [7, 8, 9, 10, 11, 12, 13, 14, 15, 16, 17, 18, 19, 20] (by kernel_rfl) (by kernel_rfl)
                simp only [AllT, AllF] at E
                clear hdi hdep hcl
                go_simp
                exact hK _ _ ⟨by simp [upd, E], hw⟩
              · rintro d a W hdi hdep hcl ⟨rfl, hw⟩ K hK
                have E := hcl.facts 7 hdi rfl hdep [0, 1, 2, 3, 4, 5, 6] [8, 9, 10, 11, 12, 13, 14, 15, 16, 17, 18, 19, 20] (by kernel_rfl) (by kernel_rfl)
                simp only [AllT, AllF] at E
                clear hdi hdep hcl
                go_simp
                exact hK _ _ ⟨by simp [upd, E], hw⟩
              · rintro d a W hdi hdep hcl ⟨rfl, hw⟩ K hK
                have E := hcl.facts 8 hdi rfl hdep [0, 1, 2, 3, 4, 5, 6, 7] [9, 10, 11, 12, 13, 14, 15, 16, 17, 18, 19, 20] (by kernel_rfl) (by kernel_rfl)
                simp only [AllT, AllF] at E
                clear hdi hdep hcl
                go_simp
                exact hK _ _ ⟨by simp [upd, E], hw⟩
              · rintro d a W hdi hdep hcl ⟨rfl, hw⟩ K hK
                have E := hcl.facts 9 hdi rfl hdep [0, 1, 2, 3, 4, 5, 6, 7, 8] [10, 11, 12, 13, 14, 15, 16, 17, 18, 19, 20] (by kernel_rfl) (by kernel_rfl)
                simp only [AllT, AllF] at E
                clear hdi hdep hcl
                go_simp
                exact hK _ _ ⟨by simp [upd, E], hw⟩
              · rintro d a W hdi hdep hcl ⟨rfl, hw⟩ K hK
                have E := hcl.facts 10 hdi rfl hdep [0, 1, 2, 3, 4, 5, 6, 7, 8, 9] [11, 12, 13, 14, 15, 16, 17, 18, 19, 20] (by kernel_rfl) (by kernel_rfl)
                simp only [AllT, AllF] at E
                clear hdi hdep hcl
                go_simp
                exact hK _ _ ⟨by simp [upd, E], hw⟩
              · rintro d a W hdi hdep hcl ⟨rfl, hw⟩ K hK
                have E := hcl.facts 11 hdi rfl hdep [0, 1, 2, 3, 4, 5, 6, 7, 8, 9, 10] [13, 14, 15, 16, 18, 19, 20] (by kernel_rfl) (by kernel_rfl)
                simp only [AllT, AllF] at E
                clear hdi hdep hcl
                go_simp
                exact hK _ _ ⟨by simp [upd, E], hw⟩
              · rintro d a W hdi hdep hcl ⟨rfl, hw⟩ K hK
                have E := hcl.facts 12 hdi rfl hdep [0, 1, 2, 3, 4, 5, 6, 7, 8, 9, 10] [13, 14, 15, 16, 18, 19, 20] (by kernel_rfl) (by kernel_rfl)
                simp only [AllT, AllF] at E
                clear hdi hdep hcl
                go_simp
                exact hK _ _ ⟨by simp [upd, E], hw⟩
              · rintro d a W hdi hdep hcl ⟨rfl, hw⟩ K hK
                have E := hcl.facts 13 hdi rfl hdep [0, 1, 2, 3, 4, 5, 6, 7, 8, 9, 10, 11, 12] [14, 15, 16, 18, 19, 20] (by kernel_rfl) (by kernel_rfl)
                simp only [AllT, AllF] at E
                clear hdi hdep hcl
                go_simp
                exact hK _ _ ⟨by simp [upd, E], hw⟩
              · rintro d a W hdi hdep hcl ⟨rfl, hw⟩ K hK
                have E := hcl.facts 14 hdi rfl hdep [0, 1, 2, 3, 4, 5, 6, 7, 8, 9, 10, 11, 12, 13] [15, 16, 18, 19, 20] (by kernel_rfl) (by kernel_rfl)
                simp only [AllT, AllF] at E
                clear hdi hdep hcl
                go_simp
                exact hK _ _ ⟨by simp [upd, E], hw⟩
              · rintro d a W hdi hdep hcl ⟨rfl, hw⟩ K hK
                have E := hcl.facts 15 hdi rfl hdep [0, 1, 2, 3, 4, 5, 6, 7, 8, 9, 10, 11, 12, 13, 14] [16, 18, 19, 20] (by kernel_rfl) (by kernel_rfl)
                simp only [AllT, AllF] at E
                clear hdi hdep hcl
                go_simp
                exact hK _ _ ⟨by simp [upd, E], hw⟩
              · rintro d a W hdi hdep hcl ⟨rfl, hw⟩ K hK
                have E := hcl.facts 16 hdi rfl hdep [0, 1, 2, 3, 4, 5, 6, 7, 8, 9, 10, 11, 12, 13, 14, 15] [18, 19, 20] (by kernel_rfl) (by kernel_rfl)
                simp only [AllT, AllF] at E
                clear hdi hdep hcl
                go_simp
                exact hK _ _ ⟨by simp [upd, E], hw⟩
              · rintro d a W hdi hdep hcl ⟨rfl, hw⟩ K hK
                have E := hcl.facts 17 hdi rfl hdep [0, 1, 2, 3, 4, 5, 6, 7, 8, 9, 10] [18, 19, 20] (by kernel_rfl) (by kernel_rfl)
                simp only [AllT, AllF] at E
                clear hdi hdep hcl
                go_simp
                exact hK _ _ ⟨by simp [upd, E], hw⟩
              · rintro d a W hdi hdep hcl ⟨rfl, hw⟩ K hK
                have E := hcl.facts 18 hdi rfl hdep [0, 1, 2, 3, 4, 5, 6, 7, 8, 9, 10, 11, 12, 13, 14, 15, 16, 17] [19, 20] (by kernel_rfl) (by kernel_rfl)
                simp only [AllT, AllF] at E
                clear hdi hdep hcl
                go_simp
                exact hK _ _ ⟨by simp [upd, E], hw⟩
              · rintro d a W hdi hdep hcl ⟨rfl, hw⟩ K hK
                have E := hcl.facts 19 hdi rfl hdep [0, 1, 2, 3, 4, 5, 6, 7, 8, 9, 10, 11, 12, 13, 14, 15, 16, 17, 18] [20] (by kernel_rfl) (by kernel_rfl)
                simp only [AllT, AllF] at E
                clear hdi hdep hcl
                go_simp
                exact hK _ _ ⟨by simp [upd, E], hw⟩
              · rintro d a W hdi hdep hcl ⟨rfl, hw⟩ K hK
                have E := hcl.facts 20 hdi rfl hdep [0, 1, 2, 3, 4, 5, 6, 7, 8, 9, 10, 11, 12, 13, 14, 15, 16, 17, 18, 19] [] (by kernel_rfl) (by kernel_rfl)
                simp only [AllT, AllF] at E
                clear hdi hdep hcl
                go_simp
                exact hK _ _ ⟨by simp [upd, E], hw⟩
            · rintro d a W hall ⟨rfl, hw⟩
              have E := AllT.all hall [0, 1, 2, 3, 4, 5, 6, 7, 8, 9, 10, 11, 12, 13, 14, 15, 16, 17, 18, 19, 20] (by kernel_rfl)
              simp only [AllT] at E
              simp only [E, cond_true] at hw ⊢
              clear E hall
              have HKw := Lib.hid hw
              have z1 := (hw.diff.cell (p := ⟨b, o + k * 2 + 1, none⟩) hb hbG).trans hs1
              have zl := Nat.lt_of_lt_of_le hb hw.diff.size
              clear hw
              go_wp2_with fail
              refine (RBy_any W (L.p k) 1 ⟨by omega, by omega⟩ ⟨by omega, by omega⟩).mono ?_
              rintro e W9 ⟨rfl, hp9⟩
              have HK9 := Lib.hid (HKw.out.pure hp9)
              rw [HR1.out.1, HR1.out.2]
              have f0 := HK9.out.blk.at 0
              have f1 := HK9.out.blk.at 1
              have fz := fun o => HK9.out.blk.fz o
              have fl := HK9.out.blk.lt
              clear hp9 z1 zl
              go_wp2
              go_roundw
              case rel => exact ⟨k + 1, by omega, by go_num, by rw [HN.out]; show _ = Value.bool (hasB (L.p k) 1); rw [hasB_den Int.zero_lt_one], by rw [HN.out]; exact HK9.out.set (L.p k, 1)⟩
              case measure => simp [intOf]; omega
          | true =>
            have HRB : Hid ((-1000000000 ≤ redN (L.p k) 1 ∧ redN (L.p k) 1 ≤ 1000000000) ∧ -1000000000 ≤ redD (L.p k) 1 ∧ redD (L.p k) 1 ≤ 1000000000) := by rw [HR1.out.1, HR1.out.2]; exact ⟨⟨by omega, by omega⟩, by omega, by omega⟩
            go_wp2_with fail
            refine reg_invW (fun d a W => a = { tmps := #[Value.slice (some { block := b, off := o }) L.n cap, Value.int IntKind.i64 t, undef, undef, Value.pointer (some { block := w.heap.size, off := 0 }), Value.int IntKind.i64 0, Value.pointer (some { block := G, off := 0 }), Value.bool true, Value.int IntKind.i64 (k : Int), Value.slice (some { block := b, off := o }) L.n cap, Value.int IntKind.i64 t, Value.int IntKind.i64 0, Value.bool false, undef, undef, undef, undef, Value.tuple #[Value.agg #[Value.int IntKind.i64 (R 0).fst, Value.int IntKind.i64 (R 0).snd], Value.bool (hasB (R 0).fst (R 0).snd)], Value.slice (some { block := b, off := o }) L.n cap, Value.int IntKind.i64 t, Value.tuple #[Value.agg #[Value.int IntKind.i64 (R 0).fst, Value.int IntKind.i64 (R 0).snd], Value.bool (hasB (R 0).fst (R 0).snd)], Value.agg #[Value.int IntKind.i64 (R 0).fst, Value.int IntKind.i64 (R 0).snd], Value.bool (hasB (R 0).fst (R 0).snd), Value.int IntKind.i64 (k : Int), Value.slice (some { block := b, off := o }) L.n cap, Value.int IntKind.i64 (L.n : Int), Value.bool true, u27, u28, (bif d 0 then Value.slice (some { block := b, off := o }) L.n cap else u29), (bif d 1 then Value.int IntKind.i64 ((k : Nat)) else u30), (bif d 2 then Value.pointer (some { block := b, off := o + k * 2 }) else u31), (bif d 3 then Value.pointer (some { block := b, off := o + k * 2 }) else u32), (bif d 4 then Value.int IntKind.i64 (L.s k) else u33), (bif d 5 then Value.int IntKind.i64 (t) else u34), (bif d 6 then Value.bool true else u35), (bif d 7 then Value.bool true else u36), (bif d 8 then Value.bool true else u37), (bif d 9 then Value.bool false else u38), (bif d 10 then Value.bool false else u39), (bif d 11 then Value.slice (some { block := b, off := o }) L.n cap else u40), (bif d 12 then Value.int IntKind.i64 ((k : Nat)) else u41), (bif d 13 then Value.pointer (some { block := b, off := o + k * 2 }) else u42), (bif d 14 then Value.pointer (some { block := b, off := o + k * 2 + 1 }) else u43), (bif d 15 then Value.int IntKind.i64 (L.p k) else u44), (bif d 16 then Value.agg #[Value.int IntKind.i64 (redN (L.p k) 1), Value.int IntKind.i64 (redD (L.p k) 1)] else u45), (bif d 17 then Value.agg #[Value.int IntKind.i64 c.1, Value.int IntKind.i64 c.2] else u46), (bif d 18 then Value.bool (decide (redN (L.p k) 1 * c.2 < c.1 * redD (L.p k) 1)) else u47), (bif d 19 then Value.bool (decide (redN (L.p k) 1 * c.2 < c.1 * redD (L.p k) 1)) else u48), (bif d 20 then Value.bool (decide (redN (L.p k) 1 * c.2 < c.1 * redD (L.p k) 1)) else u49), u50, u51, u52, u53, u54, u55, undef, undef, undef, undef], defers := [] } ∧ CO X G c W) hmx (by kernel_rfl) ?_ ?_ ?_
            · exact ⟨rfl, HK.out.pure (Diff.refl _).drew⟩
            · refine ⟨?_, ?_, ?_, ?_, ?_, ?_, ?_, ?_, ?_, ?_, ?_, ?_, ?_, ?_, ?_, ?_, ?_, ?_, ?_, ?_, ?_, trivial⟩
              · rintro d a W hdi hdep hcl ⟨rfl, hw⟩ K hK
                have E := hcl.facts 0 hdi rfl hdep [] [2, 3, 4, 6, 7, 8, 9, 10, 11, 12, 13, 14, 15, 16, 17, 18, 19, 20] (by kernel_rfl) (by kernel_rfl)
                simp only [AllT, AllF] at E
                clear hdi hdep hcl
                go_simp
                exact hK _ _ ⟨by simp [upd, E], hw⟩
              · rintro d a W hdi hdep hcl ⟨rfl, hw⟩ K hK
                have E := hcl.facts 1 hdi rfl hdep [] [2, 3, 4, 6, 7, 8, 9, 10, 11, 12, 13, 14, 15, 16, 17, 18, 19, 20] (by kernel_rfl) (by kernel_rfl)
                simp only [AllT, AllF] at E
                clear hdi hdep hcl
                go_simp
                exact hK _ _ ⟨by simp [upd, E], hw⟩
              · rintro d a W hdi hdep hcl ⟨rfl, hw⟩ K hK
                have E := hcl.facts 2 hdi rfl hdep [0, 1] [3, 4, 6, 7, 8, 9, 10, 11, 12, 13, 14, 15, 16, 17, 18, 19, 20] (by kernel_rfl) (by kernel_rfl)
                simp only [AllT, AllF] at E
                clear hdi hdep hcl
                go_simp
                exact hK _ _ ⟨by simp [upd, E], hw⟩
              · rintro d a W hdi hdep hcl ⟨rfl, hw⟩ K hK
                have E := hcl.facts 3 hdi rfl hdep [0, 1, 2] [4, 6, 7, 8, 9, 10, 11, 12, 13, 14, 15, 16, 17, 18, 19, 20] (by kernel_rfl) (by kernel_rfl)
                simp only [AllT, AllF] at E
                clear hdi hdep hcl
                go_simp
                exact hK _ _ ⟨by simp [upd, E], hw⟩
              · rintro d a W hdi hdep hcl ⟨rfl, hw⟩ K hK
                have E := hcl.facts 4 hdi rfl hdep [0, 1, 2, 3] [6, 7, 8, 9, 10, 11, 12, 13, 14, 15, 16, 17, 18, 19, 20] (by kernel_rfl) (by kernel_rfl)
                simp only [AllT, AllF] at E
                clear hdi hdep hcl
                have z0 := (hw.diff.cell (p := ⟨b, o + k * 2, none⟩) hb hbG).trans hs0
                have zl := Nat.lt_of_lt_of_le hb hw.diff.size
                go_simp
                exact hK _ _ ⟨by simp [upd, E], hw⟩
              · rintro d a W hdi hdep hcl ⟨rfl, hw⟩ K hK
                have E := hcl.facts 5 hdi rfl hdep [] [6, 7, 8, 9, 10, 11, 12, 13, 14, 15, 16, 17, 18, 19, 20] (by kernel_rfl) (by kernel_rfl)
                simp only [AllT, AllF] at E
                clear hdi hdep hcl
                go_simp
                exact hK _ _ ⟨by simp [upd, E], hw⟩
              · rintro d a W hdi hdep hcl ⟨rfl, hw⟩ K hK
                have E := hcl.facts 6 hdi rfl hdep [0, 1, 2, 3, 4, 5] [7, 8, 9, 10, 11, 12, 13, 14, 15, 16, 17, 18, 19, 20] (by kernel_rfl) (by kernel_rfl)
                simp only [AllT, AllF] at E
                clear hdi hdep hcl
                go_simp
                exact hK _ _ ⟨by simp [upd, E], hw⟩
              · rintro d a W hdi hdep hcl ⟨rfl, hw⟩ K hK
                have E := hcl.facts 7 hdi rfl hdep [0, 1, 2, 3, 4, 5, 6] [8, 9, 10, 11, 12, 13, 14, 15, 16, 17, 18, 19, 20] (by kernel_rfl) (by kernel_rfl)
                simp only [AllT, AllF] at E
                clear hdi hdep hcl
                go_simp
                exact hK _ _ ⟨by simp [upd, E], hw⟩
              · rintro d a W hdi hdep hcl ⟨rfl, hw⟩ K hK
                have E := hcl.facts 8 hdi rfl hdep [0, 1, 2, 3, 4, 5, 6, 7] [9, 10, 11, 12, 13, 14, 15, 16, 17, 18, 19, 20] (by kernel_rfl) (by kernel_rfl)
                simp only [AllT, AllF] at E
                clear hdi hdep hcl
                go_simp
                exact hK _ _ ⟨by simp [upd, E], hw⟩
              · rintro d a W hdi hdep hcl ⟨rfl, hw⟩ K hK
                have E := hcl.facts 9 hdi rfl hdep [0, 1, 2, 3, 4, 5, 6, 7, 8] [10, 11, 12, 13, 14, 15, 16, 17, 18, 19, 20] (by kernel_rfl) (by kernel_rfl)
                simp only [AllT, AllF] at E
                clear hdi hdep hcl
                go_simp
                exact hK _ _ ⟨by simp [upd, E], hw⟩
              · rintro d a W hdi hdep hcl ⟨rfl, hw⟩ K hK
                have E := hcl.facts 10 hdi rfl hdep [0, 1, 2, 3, 4, 5, 6, 7, 8, 9] [11, 12, 13, 14, 15, 16, 17, 18, 19, 20] (by kernel_rfl) (by kernel_rfl)
                simp only [AllT, AllF] at E
                clear hdi hdep hcl
                go_simp
                exact hK _ _ ⟨by simp [upd, E], hw⟩
              · rintro d a W hdi hdep hcl ⟨rfl, hw⟩ K hK
                have E := hcl.facts 11 hdi rfl hdep [0, 1, 2, 3, 4, 5, 6, 7, 8, 9, 10] [13, 14, 15, 16, 18, 19, 20] (by kernel_rfl) (by kernel_rfl)
                simp only [AllT, AllF] at E
                clear hdi hdep hcl
                go_simp
                exact hK _ _ ⟨by simp [upd, E], hw⟩
              · rintro d a W hdi hdep hcl ⟨rfl, hw⟩ K hK
                have E := hcl.facts 12 hdi rfl hdep [0, 1, 2, 3, 4, 5, 6, 7, 8, 9, 10] [13, 14, 15, 16, 18, 19, 20] (by kernel_rfl) (by kernel_rfl)
                simp only [AllT, AllF] at E
                clear hdi hdep hcl
                go_simp
                exact hK _ _ ⟨by simp [upd, E], hw⟩
              · rintro d a W hdi hdep hcl ⟨rfl, hw⟩ K hK
                have E := hcl.facts 13 hdi rfl hdep [0, 1, 2, 3, 4, 5, 6, 7, 8, 9, 10, 11, 12] [14, 15, 16, 18, 19, 20] (by kernel_rfl) (by kernel_rfl)
                simp only [AllT, AllF] at E
                clear hdi hdep hcl
                go_simp
                exact hK _ _ ⟨by simp [upd, E], hw⟩
              · rintro d a W hdi hdep hcl ⟨rfl, hw⟩ K hK
                have E := hcl.facts 14 hdi rfl hdep [0, 1, 2, 3, 4, 5, 6, 7, 8, 9, 10, 11, 12, 13] [15, 16, 18, 19, 20] (by kernel_rfl) (by kernel_rfl)
                simp only [AllT, AllF] at E
                clear hdi hdep hcl
                go_simp
                exact hK _ _ ⟨by simp [upd, E], hw⟩
              · rintro d a W hdi hdep hcl ⟨rfl, hw⟩ K hK
                have E := hcl.facts 15 hdi rfl hdep [0, 1, 2, 3, 4, 5, 6, 7, 8, 9, 10, 11, 12, 13, 14] [16, 18, 19, 20] (by kernel_rfl) (by kernel_rfl)
                simp only [AllT, AllF] at E
                clear hdi hdep hcl
                have z1 := (hw.diff.cell (p := ⟨b, o + k * 2 + 1, none⟩) hb hbG).trans hs1
                have zl := Nat.lt_of_lt_of_le hb hw.diff.size
                go_simp
                exact hK _ _ ⟨by simp [upd, E], hw⟩
              · rintro d a W hdi hdep hcl ⟨rfl, hw⟩ K hK
                have E := hcl.facts 16 hdi rfl hdep [0, 1, 2, 3, 4, 5, 6, 7, 8, 9, 10, 11, 12, 13, 14, 15] [18, 19, 20] (by kernel_rfl) (by kernel_rfl)
                simp only [AllT, AllF] at E
                clear hdi hdep hcl
                go_simp
                refine Calls.mono (RBy_any W (L.p k) 1 ⟨by omega, by omega⟩ ⟨by omega, by omega⟩) ?_
                rintro e w9 ⟨rfl, hp9⟩
                exact hK _ _ ⟨by simp [upd, E], hw.pure hp9⟩
              · rintro d a W hdi hdep hcl ⟨rfl, hw⟩ K hK
                have E := hcl.facts 17 hdi rfl hdep [0, 1, 2, 3, 4, 5, 6, 7, 8, 9, 10] [18, 19, 20] (by kernel_rfl) (by kernel_rfl)
                simp only [AllT, AllF] at E
                clear hdi hdep hcl
                have z0 := hw.blk.at 0
                have z1 := hw.blk.at 1
                have zl := hw.blk.lt
                go_simp
                exact hK _ _ ⟨by simp [upd, E], hw⟩
              · rintro d a W hdi hdep hcl ⟨rfl, hw⟩ K hK
                have E := hcl.facts 18 hdi rfl hdep [0, 1, 2, 3, 4, 5, 6, 7, 8, 9, 10, 11, 12, 13, 14, 15, 16, 17] [19, 20] (by kernel_rfl) (by kernel_rfl)
                simp only [AllT, AllF] at E
                clear hdi hdep hcl
                go_simp
                refine Calls.mono (RLess_any W (redN (L.p k) 1) (redD (L.p k) 1) c.1 c.2 HRB.out.1 HRB.out.2 HSM.out.1 HSM.out.2) ?_
                rintro e w9 ⟨rfl, hp9⟩
                exact hK _ _ ⟨by simp [upd, E], hw.pure hp9⟩
              · rintro d a W hdi hdep hcl ⟨rfl, hw⟩ K hK
                have E := hcl.facts 19 hdi rfl hdep [0, 1, 2, 3, 4, 5, 6, 7, 8, 9, 10, 11, 12, 13, 14, 15, 16, 17, 18] [20] (by kernel_rfl) (by kernel_rfl)
                simp only [AllT, AllF] at E
                clear hdi hdep hcl
                go_simp
                exact hK _ _ ⟨by simp [upd, E], hw⟩
              · rintro d a W hdi hdep hcl ⟨rfl, hw⟩ K hK
                have E := hcl.facts 20 hdi rfl hdep [0, 1, 2, 3, 4, 5, 6, 7, 8, 9, 10, 11, 12, 13, 14, 15, 16, 17, 18, 19] [] (by kernel_rfl) (by kernel_rfl)
                simp only [AllT, AllF] at E
                clear hdi hdep hcl
                go_simp
                exact hK _ _ ⟨by simp [upd, E], hw⟩
            · rintro d a W hall ⟨rfl, hw⟩
              have E := AllT.all hall [0, 1, 2, 3, 4, 5, 6, 7, 8, 9, 10, 11, 12, 13, 14, 15, 16, 17, 18, 19, 20] (by kernel_rfl)
              simp only [AllT] at E
              simp only [E, cond_true] at hw ⊢
              clear E hall
              cases hd : decide (redN (L.p k) 1 * c.2 < c.1 * redD (L.p k) 1) with
              | false =>
                have HN : Hid (R (k + 1) = c) := by
                  show _ = _
                  rw [HST.out, if_neg (by rw [Bool.and_eq_true]; rintro ⟨-, h⟩; unfold chB at h; rw [HR1.out.1, HR1.out.2] at hd; rw [hasB_den Int.zero_lt_one, hv, hd] at h; cases h)]
                have HKw := Lib.hid hw
                clear hw
                go_wp2
                go_roundw
                case rel => exact ⟨k + 1, by omega, by go_num, by rw [HN.out] <;> rw [hv], by rw [HN.out]; exact HKw.out⟩
                case measure => simp [intOf]; omega
              | true =>
                have HN : Hid (R (k + 1) = (L.p k, 1)) := by
                  show _ = _
                  rw [HST.out, if_pos (by rw [Bool.and_eq_true]; refine ⟨by simpa using hge, ?_⟩; unfold chB; rw [HR1.out.1, HR1.out.2] at hd; rw [hasB_den Int.zero_lt_one, hv, hd]; rfl)]
                have HKw := Lib.hid hw
                have z1 := (hw.diff.cell (p := ⟨b, o + k * 2 + 1, none⟩) hb hbG).trans hs1
                have zl := Nat.lt_of_lt_of_le hb hw.diff.size
                clear hw
                go_wp2_with fail
                refine (RBy_any W (L.p k) 1 ⟨by omega, by omega⟩ ⟨by omega, by omega⟩).mono ?_
                rintro e W9 ⟨rfl, hp9⟩
                have HK9 := Lib.hid (HKw.out.pure hp9)
                rw [HR1.out.1, HR1.out.2]
                have f0 := HK9.out.blk.at 0
                have f1 := HK9.out.blk.at 1
                have fz := fun o => HK9.out.blk.fz o
                have fl := HK9.out.blk.lt
                clear hp9 z1 zl
                go_wp2
                go_roundw
                case rel => exact ⟨k + 1, by omega, by go_num, by rw [HN.out]; show _ = Value.bool (hasB (L.p k) 1); rw [hasB_den Int.zero_lt_one], by rw [HN.out]; exact HK9.out.set (L.p k, 1)⟩
                case measure => simp [intOf]; omega
        · have HN : Hid (R (k + 1) = c) := by
            show _ = _
            rw [HST.out, if_neg (by rw [Bool.and_eq_true]; intro h; exact hge (by simpa using h.1))]
          go_wp2_with fail
          refine reg_invW (fun d a W => a = { tmps := #[Value.slice (some { block := b, off := o }) L.n cap, Value.int IntKind.i64 t, undef, undef, Value.pointer (some { block := w.heap.size, off := 0 }), Value.int IntKind.i64 0, Value.pointer (some { block := G, off := 0 }), Value.bool (hasB c.1 c.2), Value.int IntKind.i64 (k : Int), Value.slice (some { block := b, off := o }) L.n cap, Value.int IntKind.i64 t, Value.int IntKind.i64 0, Value.bool false, undef, undef, undef, undef, Value.tuple #[Value.agg #[Value.int IntKind.i64 (R 0).fst, Value.int IntKind.i64 (R 0).snd], Value.bool (hasB (R 0).fst (R 0).snd)], Value.slice (some { block := b, off := o }) L.n cap, Value.int IntKind.i64 t, Value.tuple #[Value.agg #[Value.int IntKind.i64 (R 0).fst, Value.int IntKind.i64 (R 0).snd], Value.bool (hasB (R 0).fst (R 0).snd)], Value.agg #[Value.int IntKind.i64 (R 0).fst, Value.int IntKind.i64 (R 0).snd], Value.bool (hasB (R 0).fst (R 0).snd), Value.int IntKind.i64 (k : Int), Value.slice (some { block := b, off := o }) L.n cap, Value.int IntKind.i64 (L.n : Int), Value.bool true, u27, u28, (bif d 0 then Value.slice (some { block := b, off := o }) L.n cap else u29), (bif d 1 then Value.int IntKind.i64 ((k : Nat)) else u30), (bif d 2 then Value.pointer (some { block := b, off := o + k * 2 }) else u31), (bif d 3 then Value.pointer (some { block := b, off := o + k * 2 }) else u32), (bif d 4 then Value.int IntKind.i64 (L.s k) else u33), (bif d 5 then Value.int IntKind.i64 (t) else u34), (bif d 6 then Value.bool false else u35), (bif d 7 then Value.bool false else u36), (bif d 8 then undef else u37), (bif d 9 then undef else u38), (bif d 10 then undef else u39), (bif d 11 then undef else u40), (bif d 12 then undef else u41), (bif d 13 then undef else u42), (bif d 14 then undef else u43), (bif d 15 then undef else u44), (bif d 16 then undef else u45), (bif d 17 then undef else u46), (bif d 18 then undef else u47), (bif d 19 then undef else u48), (bif d 20 then Value.bool false else u49), u50, u51, u52, u53, u54, u55, undef, undef, undef, undef], defers := [] } ∧ CO X G c W) hmx (by kernel_rfl) ?_ ?_ ?_
          · exact ⟨rfl, HK.out.pure (Diff.refl _).drew⟩
          · refine ⟨?_, ?_, ?_, ?_, ?_, ?_, ?_, ?_, ?_, ?_, ?_, ?_, ?_, ?_, ?_, ?_, ?_, ?_, ?_, ?_, ?_, trivial⟩
            · rintro d a W hdi hdep hcl ⟨rfl, hw⟩ K hK
              have E := hcl.facts 0 hdi rfl hdep [] [2, 3, 4, 6, 7, 8, 9, 10, 11, 12, 13, 14, 15, 16, 17, 18, 19, 20] (by kernel_rfl) (by kernel_rfl)
              simp only [AllT, AllF] at E
              clear hdi hdep hcl
              go_simp
              exact hK _ _ ⟨by simp [upd, E], hw⟩
            · rintro d a W hdi hdep hcl ⟨rfl, hw⟩ K hK
              have E := hcl.facts 1 hdi rfl hdep [] [2, 3, 4, 6, 7, 8, 9, 10, 11, 12, 13, 14, 15, 16, 17, 18, 19, 20] (by kernel_rfl) (by kernel_rfl)
              simp only [AllT, AllF] at E
              clear hdi hdep hcl
              go_simp
              exact hK _ _ ⟨by simp [upd, E], hw⟩
            · rintro d a W hdi hdep hcl ⟨rfl, hw⟩ K hK
              have E := hcl.facts 2 hdi rfl hdep [0, 1] [3, 4, 6, 7, 8, 9, 10, 11, 12, 13, 14, 15, 16, 17, 18, 19, 20] (by kernel_rfl) (by kernel_rfl)
              simp only [AllT, AllF] at E
              clear hdi hdep hcl
              go_simp
              exact hK _ _ ⟨by simp [upd, E], hw⟩
            · rintro d a W hdi hdep hcl ⟨rfl, hw⟩ K hK
              have E := hcl.facts 3 hdi rfl hdep [0, 1, 2] [4, 6, 7, 8, 9, 10, 11, 12, 13, 14, 15, 16, 17, 18, 19, 20] (by kernel_rfl) (by kernel_rfl)
              simp only [AllT, AllF] at E
              clear hdi hdep hcl
              go_simp
              exact hK _ _ ⟨by simp [upd, E], hw⟩
            · rintro d a W hdi hdep hcl ⟨rfl, hw⟩ K hK
              have E := hcl.facts 4 hdi rfl hdep [0, 1, 2, 3] [6, 7, 8, 9, 10, 11, 12, 13, 14, 15, 16, 17, 18, 19, 20] (by kernel_rfl) (by kernel_rfl)
              simp only [AllT, AllF] at E
              clear hdi hdep hcl
              have z0 := (hw.diff.cell (p := ⟨b, o + k * 2, none⟩) hb hbG).trans hs0
              have zl := Nat.lt_of_lt_of_le hb hw.diff.size
              go_simp
              exact hK _ _ ⟨by simp [upd, E], hw⟩
            · rintro d a W hdi hdep hcl ⟨rfl, hw⟩ K hK
              have E := hcl.facts 5 hdi rfl hdep [] [6, 7, 8, 9, 10, 11, 12, 13, 14, 15, 16, 17, 18, 19, 20] (by kernel_rfl) (by kernel_rfl)
              simp only [AllT, AllF] at E
              clear hdi hdep hcl
              go_simp
              exact hK _ _ ⟨by simp [upd, E], hw⟩
            · rintro d a W hdi hdep hcl ⟨rfl, hw⟩ K hK
              have E := hcl.facts 6 hdi rfl hdep [0, 1, 2, 3, 4, 5] [7, 8, 9, 10, 11, 12, 13, 14, 15, 16, 17, 18, 19, 20] (by kernel_rfl) (by kernel_rfl)
              simp only [AllT, AllF] at E
              clear hdi hdep hcl
              go_simp
              exact hK _ _ ⟨by simp [upd, E]; omega, hw⟩
            · rintro d a W hdi hdep hcl ⟨rfl, hw⟩ K hK
              have E := hcl.facts 7 hdi rfl hdep [0, 1, 2, 3, 4, 5, 6] [8, 9, 10, 11, 12, 13, 14, 15, 16, 17, 18, 19, 20] (by kernel_rfl) (by kernel_rfl)
              simp only [AllT, AllF] at E
              clear hdi hdep hcl
              go_simp
              exact hK _ _ ⟨by simp [upd, E], hw⟩
            · rintro d a W hdi hdep hcl ⟨rfl, hw⟩ K hK
              have E := hcl.facts 8 hdi rfl hdep [0, 1, 2, 3, 4, 5, 6, 7] [9, 10, 11, 12, 13, 14, 15, 16, 17, 18, 19, 20] (by kernel_rfl) (by kernel_rfl)
              simp only [AllT, AllF] at E
              clear hdi hdep hcl
              go_simp
              exact hK _ _ ⟨by simp [upd, E], hw⟩
            · rintro d a W hdi hdep hcl ⟨rfl, hw⟩ K hK
              have E := hcl.facts 9 hdi rfl hdep [0, 1, 2, 3, 4, 5, 6, 7, 8] [10, 11, 12, 13, 14, 15, 16, 17, 18, 19, 20] (by kernel_rfl) (by kernel_rfl)
              simp only [AllT, AllF] at E
              clear hdi hdep hcl
              go_simp
              exact hK _ _ ⟨by simp [upd, E], hw⟩
            · rintro d a W hdi hdep hcl ⟨rfl, hw⟩ K hK
              have E := hcl.facts 10 hdi rfl hdep [0, 1, 2, 3, 4, 5, 6, 7, 8, 9] [11, 12, 13, 14, 15, 16, 17, 18, 19, 20] (by kernel_rfl) (by kernel_rfl)
              simp only [AllT, AllF] at E
              clear hdi hdep hcl
              go_simp
              exact hK _ _ ⟨by simp [upd, E], hw⟩
            · rintro d a W hdi hdep hcl ⟨rfl, hw⟩ K hK
              have E := hcl.facts 11 hdi rfl hdep [0, 1, 2, 3, 4, 5, 6, 7, 8, 9, 10] [13, 14, 15, 16, 18, 19, 20] (by kernel_rfl) (by kernel_rfl)
              simp only [AllT, AllF] at E
              clear hdi hdep hcl
              go_simp
              exact hK _ _ ⟨by simp [upd, E], hw⟩
            · rintro d a W hdi hdep hcl ⟨rfl, hw⟩ K hK
              have E := hcl.facts 12 hdi rfl hdep [0, 1, 2, 3, 4, 5, 6, 7, 8, 9, 10] [13, 14, 15, 16, 18, 19, 20] (by kernel_rfl) (by kernel_rfl)
              simp only [AllT, AllF] at E
              clear hdi hdep hcl
              go_simp
              exact hK _ _ ⟨by simp [upd, E], hw⟩
            · rintro d a W hdi hdep hcl ⟨rfl, hw⟩ K hK
              have E := hcl.facts 13 hdi rfl hdep [0, 1, 2, 3, 4, 5, 6, 7, 8, 9, 10, 11, 12] [14, 15, 16, 18, 19, 20] (by kernel_rfl) (by kernel_rfl)
              simp only [AllT, AllF] at E
              clear hdi hdep hcl
              go_simp
              exact hK _ _ ⟨by simp [upd, E], hw⟩
            · rintro d a W hdi hdep hcl ⟨rfl, hw⟩ K hK
              have E := hcl.facts 14 hdi rfl hdep [0, 1, 2, 3, 4, 5, 6, 7, 8, 9, 10, 11, 12, 13] [15, 16, 18, 19, 20] (by kernel_rfl) (by kernel_rfl)
              simp only [AllT, AllF] at E
              clear hdi hdep hcl
              go_simp
              exact hK _ _ ⟨by simp [upd, E], hw⟩
            · rintro d a W hdi hdep hcl ⟨rfl, hw⟩ K hK
              have E := hcl.facts 15 hdi rfl hdep [0, 1, 2, 3, 4, 5, 6, 7, 8, 9, 10, 11, 12, 13, 14] [16, 18, 19, 20] (by kernel_rfl) (by kernel_rfl)
              simp only [AllT, AllF] at E
              clear hdi hdep hcl
              go_simp
              exact hK _ _ ⟨by simp [upd, E], hw⟩
            · rintro d a W hdi hdep hcl ⟨rfl, hw⟩ K hK
              have E := hcl.facts 16 hdi rfl hdep [0, 1, 2, 3, 4, 5, 6, 7, 8, 9, 10, 11, 12, 13, 14, 15] [18, 19, 20] (by kernel_rfl) (by kernel_rfl)
              simp only [AllT, AllF] at E
              clear hdi hdep hcl
              go_simp
              exact hK _ _ ⟨by simp [upd, E], hw⟩
            · rintro d a W hdi hdep hcl ⟨rfl, hw⟩ K hK
              have E := hcl.facts 17 hdi rfl hdep [0, 1, 2, 3, 4, 5, 6, 7, 8, 9, 10] [18, 19, 20] (by kernel_rfl) (by kernel_rfl)
              simp only [AllT, AllF] at E
              clear hdi hdep hcl
              go_simp
              exact hK _ _ ⟨by simp [upd, E], hw⟩
            · rintro d a W hdi hdep hcl ⟨rfl, hw⟩ K hK
              have E := hcl.facts 18 hdi rfl hdep [0, 1, 2, 3, 4, 5, 6, 7, 8, 9, 10, 11, 12, 13, 14, 15, 16, 17] [19, 20] (by kernel_rfl) (by kernel_rfl)
              simp only [AllT, AllF] at E
              clear hdi hdep hcl
              go_simp
              exact hK _ _ ⟨by simp [upd, E], hw⟩
            · rintro d a W hdi hdep hcl ⟨rfl, hw⟩ K hK
              have E := hcl.facts 19 hdi rfl hdep [0, 1, 2, 3, 4, 5, 6, 7, 8, 9, 10, 11, 12, 13, 14, 15, 16, 17, 18] [20] (by kernel_rfl) (by kernel_rfl)
              simp only [AllT, AllF] at E
              clear hdi hdep hcl
              go_simp
              exact hK _ _ ⟨by simp [upd, E], hw⟩
            · rintro d a W hdi hdep hcl ⟨rfl, hw⟩ K hK
              have E := hcl.facts 20 hdi rfl hdep [0, 1, 2, 3, 4, 5, 6, 7, 8, 9, 10, 11, 12, 13, 14, 15, 16, 17, 18, 19] [] (by kernel_rfl) (by kernel_rfl)
              simp only [AllT, AllF] at E
              clear hdi hdep hcl
              go_simp
              exact hK _ _ ⟨by simp [upd, E], hw⟩
          · rintro d a W hall ⟨rfl, hw⟩
            have E := AllT.all hall [0, 1, 2, 3, 4, 5, 6, 7, 8, 9, 10, 11, 12, 13, 14, 15, 16, 17, 18, 19, 20] (by kernel_rfl)
            simp only [AllT] at E
            simp only [E, cond_true] at hw ⊢
            clear E hall
            have HKw := Lib.hid hw
            clear hw
            go_wp2
            go_roundw
            case rel => exact ⟨k + 1, by omega, by go_num, by rw [HN.out] <;> rw [hv], by rw [HN.out]; exact HKw.out⟩
            case measure => simp [intOf]; omega
      · obtain rfl : k = L.n := by omega
        rw [HFIN.out] at HK HHAS ⊢
        obtain ⟨x, hx⟩ : ∃ x, atP L t = x := ⟨_, rfl⟩
        have HXX := Lib.hid hx
        rw [hx] at HK HHAS ⊢
        clear hx
        have HPr : Hid (Pure w wr) := HPX.out.trans' HK.out.diff (fun z hz e => by have e' : z = G := e; have := HGK.out; omega)
        have K4 : Hid (Blk w.heap.size 29 #[.int .i64 0, .int .i64 0] wr) := KX.out.diff HK.out.diff (by have := HGK.out; show ¬ w.heap.size = G; omega)
        have c0 := HK.out.blk.at 0
        have c1 := HK.out.blk.at 1
        have cl := HK.out.blk.lt
        have e0 := K4.out.at 0
        have e1 := K4.out.at 1
        have fz := fun o => K4.out.fz o
        have el := K4.out.lt
        cases hv : hasB x.1 x.2 with
        | true =>
          have HE : Hid (atE L t = 0) := by show _ = _; rw [HHAS.out, if_pos hv]
          clear hv
          go_wp2
          rw [HE.out, HXX.out]
          have z := K4.out.set2 (Value.int IntKind.i64 x.1) (Value.int IntKind.i64 x.2)
          have HPZ := HPr.out.set2 (g := w.heap.size) (by omega) (Value.int IntKind.i64 x.1) (Value.int IntKind.i64 x.2)
          obtain ⟨Y, hY⟩ : ∃ Y, (wr.setCell { block := w.heap.size, off := 0 } (Value.int IntKind.i64 x.1)).setCell { block := w.heap.size, off := 1 } (Value.int IntKind.i64 x.2) = Y := ⟨_, rfl⟩
          first | rw [hY] at z HPZ HR9 ⊢ | rw [hY] at z HPZ ⊢
          clear hY
          exact bodyPost_ret (v := .tuple #[.agg #[.int .i64 x.1, .int .i64 x.2], .int .i64 0]) (by simp [results, Tryd.results29, go_sem, z.at 0, z.at 1]) rfl ⟨rfl, HPZ⟩
        | false =>
          have HE : Hid (atE L t = 19) := by show _ = _; rw [HHAS.out, if_neg (by rw [hv]; simp)]
          have HX0 : Hid (atP L t = pr0) := by show _ = _; rw [HXX.out]; exact hasB_pr hv
          clear hv
          go_wp2
          rw [HE.out, HX0.out]
          have z := K4.out.set2 (Value.int IntKind.i64 0) (Value.int IntKind.i64 0)
          have HPZ := HPr.out.set2 (g := w.heap.size) (by omega) (Value.int IntKind.i64 0) (Value.int IntKind.i64 0)
          obtain ⟨Y, hY⟩ : ∃ Y, (wr.setCell { block := w.heap.size, off := 0 } (Value.int IntKind.i64 0)).setCell { block := w.heap.size, off := 1 } (Value.int IntKind.i64 0) = Y := ⟨_, rfl⟩
          first | rw [hY] at z HPZ HR9 ⊢ | rw [hY] at z HPZ ⊢
          clear hY
          exact bodyPost_ret (v := .tuple #[.agg #[.int .i64 0, .int .i64 0], .int .i64 19]) (by simp [results, Tryd.results29, go_sem, z.at 0, z.at 1]) rfl ⟨rfl, HPZ⟩
  · have hb : (c != 0) = true := by simpa using h0
    have HE : Hid (atE L t = c ∧ atP L t = pr0) := by
      unfold atE atP
      rw [if_neg (by rw [HC.out]; exact h0), if_neg (by rw [HC.out]; exact h0), HC.out]; exact ⟨rfl, rfl⟩
    go_wp2_with fail
    refine (Rsharped_any w1 L p cap t hn (HL.out.to HP1.out)).mono ?_
    rintro e w2 ⟨rfl, hp2⟩
    have HP2 := Lib.hid (HP1.out.trans hp2)
    have K2 := Lib.hid (K1.out.to hp2)
    clear hp2
    rw [HC.out]
    have c0 := K2.out.at 0
    have c1 := K2.out.at 1
    have fz := fun o => K2.out.fz o
    have l0 := K2.out.lt
    go_wp2
    rw [HE.out.1, HE.out.2]
    have z := K2.out.set2 (Value.int IntKind.i64 0) (Value.int IntKind.i64 0)
    have HPZ := HP2.out.set2 (g := w.heap.size) (by omega) (Value.int IntKind.i64 0) (Value.int IntKind.i64 0)
    obtain ⟨Y, hY⟩ : ∃ Y, (w2.setCell { block := w.heap.size, off := 0 } (Value.int IntKind.i64 0)).setCell { block := w.heap.size, off := 1 } (Value.int IntKind.i64 0) = Y := ⟨_, rfl⟩
    first | rw [hY] at z HPZ HR9 ⊢ | rw [hY] at z HPZ ⊢
    clear hY
    exact bodyPost_ret (v := .tuple #[.agg #[.int .i64 0, .int .i64 0], .int .i64 c]) (by simp [results, Tryd.results29, go_sem, z.at 0, z.at 1]) rfl ⟨rfl, HPZ⟩
end Go.Proofs.YtgpfmnjianflaaaDoor
