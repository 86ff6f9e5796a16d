/- The reference: the walk of CheckBook. -/
import Derived.Test.YtmedkmbfggphdaaDoorM12
import Derived.Test.YtmedkmbfggphdaaDoorK4
set_option linter.unusedSimpArgs false
set_option linter.unusedVariables false
set_option linter.constructorNameAsVariable false
namespace Go.Proofs.YtmedkmbfggphdaaDoor
open Go.RowKit

/-- The cells of a book in a box. -/
structure BoxB (g : Nat) (b : BK) (p : Option Addr) (cap : Nat) (w : World) : Prop where
  c0 : w.cell? ⟨g, 0, none⟩ = some (.int .i64 b.lo)
  c1 : w.cell? ⟨g, 1, none⟩ = some (.int .i64 b.hi)
  c2 : w.cell? ⟨g, 2, none⟩ = some (.int .i64 b.lots)
  c3 : w.cell? ⟨g, 3, none⟩ = some (.slice p b.n cap)
  lt : g < w.heap.size
theorem BoxB.of {g T : Nat} {b : BK} {p : Option Addr} {cap : Nat} {w : World} (h : w.heap[g]? = some (.cells (bookC b p cap) T (0, 0))) : BoxB g b p cap w :=
  ⟨by rw [cell_of_row w _ _ _ _ _ h]; rfl, by rw [cell_of_row w _ _ _ _ _ h]; rfl, by rw [cell_of_row w _ _ _ _ _ h]; rfl, by rw [cell_of_row w _ _ _ _ _ h]; rfl, (Array.getElem?_eq_some_iff.1 h).1⟩
theorem BoxB.pure {g : Nat} {b : BK} {p : Option Addr} {cap : Nat} {w w' : World} (h : BoxB g b p cap w) (hp : Pure w w') : BoxB g b p cap w' :=
  ⟨((pcell hp).1 _ _ h.lt).trans h.c0, ((pcell hp).1 _ _ h.lt).trans h.c1, ((pcell hp).1 _ _ h.lt).trans h.c2, ((pcell hp).1 _ _ h.lt).trans h.c3, Nat.lt_of_lt_of_le h.lt hp.size⟩
theorem BoxB.new (w : World) (b : BK) (p : Option Addr) (cap T : Nat) : BoxB w.heap.size b p cap (w.alloc (.cells (bookC b p cap) T)) := BoxB.of (World.alloc_heap_new w _)

set_option maxRecDepth 20000 in
set_option maxHeartbeats 4000000 in
theorem RCheckBook_any (w : World) (b : BK) (p : Option Addr) (cap : Nat) (hs : b.Small) (hb : BookAt w.heap.size w p b) :
    Calls Tryd.prog 24 #[bookV b p cap] w fun e w' => e = .returned (.int .i64 (checkB b)) ∧ Pure w w' := by
  have hmx : Tryd.prog.follows .mixedOrders = true := by kernel_rfl
  have hn := hs.1
  rw [← checkR_eq]
  go_enter Tryd.func24, Tryd.ntmps24
  go_wp2_with fail
  obtain ⟨X, hX⟩ : ∃ X, w.alloc (.cells (bookC b p cap) 26) = X := ⟨_, rfl⟩
  have hP : Hid (Pure w X) := by rw [← hX]; exact (Diff.refl w).alloc _
  have hX1 : BoxB w.heap.size b p cap X := by rw [← hX]; exact BoxB.new w b p cap 26
  rw [hX]
  clear hX
  have HB := Lib.hid hX1
  obtain ⟨c0, c1, c2, c3, cl⟩ := hX1
  go_wp2_with fail
  refine (isRange_any _ _ _ _ _).mono ?_
  rintro e w1 ⟨rfl, hp1⟩
  have hP1 : Hid (Pure w w1) := hP.out.trans hp1
  have HB1 := Lib.hid (HB.out.pure hp1)
  have hHB := Lib.hid hb
  clear c0 c1 c2 c3 cl HB hp1 hP hb
  obtain ⟨c0, c1, c2, c3, cl⟩ := HB1.out
  cases h1 : (decide (0 ≤ b.lo) && (decide (b.lo ≤ b.hi) && decide (b.hi ≤ 50))) with
  | false =>
    have HF : Hid (checkR b = 3) := by show _ = _; unfold checkR; rw [if_pos h1]
    clear h1
    go_wp2
    go_ret
    exact ⟨by rw [HF.out]; rfl, hP1.out⟩
  | true =>
    have H1 := Lib.hid h1
    clear h1
    by_cases hl : (1 ≤ b.lots ∧ b.lots ≤ 6) ∧ (b.n : Int) ≤ 4
    · have H2 : Hid ((wIn 1 6 b.lots && decide (b.n ≤ 4)) = true) := by
        show _ = _
        have hb4 : b.n ≤ 4 := by omega
        simp [wIn, hl.1.1, hl.1.2, hb4]
      obtain ⟨⟨hl1, hl6⟩, hn4⟩ := hl
      go_wp2_with fail
      go_loop [3, 4] (fun a i => ∃ k : Nat, k ≤ b.n ∧ i = .int .i64 k ∧ a = .int .i64 (b.upto k) ∧ Hid (rowsFit b k = true)) (fun _ i => b.n - (intOf i).toNat)
      case atStart => exact ⟨0, Nat.zero_le _, rfl, rfl, rfl⟩
      case round =>
        obtain ⟨k, hk, rfl, rfl, HR⟩ := hrel
        have hu := b.upto_le hs k hk
        by_cases hlt : k < b.n
        · obtain ⟨blk, o, q', c, rfl, hblk, hc0, -⟩ := hHB.out k hlt
          have hc := ((pcell hP1.out).1 _ _ hblk).trans hc0
          have hblk1 : blk < w1.heap.size := Nat.lt_of_lt_of_le hblk hP1.out.size
          have hm := hs.2 k hlt
          have HU : Hid (b.upto (k + 1) = b.upto k + b.m k) := rfl
          have hki : (k : Int) < b.n := by omega
          have hk0 : (0 : Int) ≤ k := by omega
          clear hc0
          by_cases hmm : b.m k ≠ 0 ∧ b.m k ≤ 12
          · have HS : Hid (rowsFit b (k + 1) = true) := by show _ = _; rw [rowsFit_succ, HR.out]; simp [hmm.1, hmm.2]
            obtain ⟨hm0, hm12⟩ := hmm
            have hmi0 : ((b.m k : Int) == 0) = false := by simp; omega
            have hmi : (b.m k : Int) ≤ 12 := by omega
            go_wp2_with fail
            exact ⟨⟨k + 1, by omega, by go_num, by rw [HU.out]; go_num, HS.out⟩, by simp [intOf]; omega⟩
          · have HF : Hid (checkR b = 6) := by
              show _ = _
              have hz : (b.m k != 0 && decide (b.m k ≤ 12)) = false := by
                rw [Bool.eq_false_iff]
                intro h
                simp only [Bool.and_eq_true, bne_iff_ne, ne_eq, decide_eq_true_eq] at h
                exact hmm h
              unfold checkR
              rw [if_neg (by rw [H1.out]; simp), if_neg (by rw [H2.out]; simp), if_pos (rowsFit_false hlt hz)]
            by_cases hm0 : b.m k = 0
            · have hmq : ((b.m k : Int) == 0) = true := by simp [hm0]
              clear hmm
              go_wp2
              go_ret
              exact ⟨by rw [HF.out]; rfl, hP1.out⟩
            · have hmi0 : ((b.m k : Int) == 0) = false := by simp; omega
              have hmi : 12 < (b.m k : Int) := by omega
              clear hmm
              go_wp2
              go_ret
              exact ⟨by rw [HF.out]; rfl, hP1.out⟩
        · obtain rfl : k = b.n := by omega
          have HT : Hid (b.upto b.n = b.total) := rfl
          obtain ⟨t, ht⟩ : ∃ t, b.total = t := ⟨_, rfl⟩
          rw [HT.out, ht]
          rw [HT.out, ht] at hu
          have HTT := Lib.hid ht
          by_cases h12 : t ≤ 12
          · have hpos : ∀ k, k < b.n → 0 < b.m k := fun k hk => by
              have h := List.all_eq_true.1 HR.out k (by simpa using hk)
              simp only [Bool.and_eq_true, bne_iff_ne, ne_eq] at h
              omega
            have hti : (t : Int) ≤ 12 := by omega
            have htas := Tastes_flat w1 b p cap hs hpos ((hHB.out.diff hP1.out (Nat.le_refl _) (fun _ _ => id)).mono hP1.out.size)
            clear ht hu hpos
            go_wp2_with fail
            refine htas.mono ?_
            rintro e w2 ⟨u, rfl, hfl, hp2⟩
            have hP2 : Hid (Pure w w2) := hP1.out.trans hp2
            have HB2 := Lib.hid (HB1.out.pure hp2)
            clear htas c0 c1 c2 c3 cl hp2
            obtain ⟨pu, cu, rfl, hcell⟩ := hfl
            rw [HTT.out]
            have HC := Lib.hid hcell
            clear hcell
            go_wp2_with fail
            obtain ⟨gb, hgb⟩ : ∃ gb, w.heap.size = gb := ⟨_, rfl⟩
            rw [hgb] at HB2 ⊢
            go_loopw [6] (fun i wr => ∃ q : Nat, q ≤ t ∧ i = .int .i64 q ∧ Hid (flatOk b q = true) ∧ Hid (Pure w2 wr)) (fun i _ => t - (intOf i).toNat)
            case atStart => exact ⟨0, Nat.zero_le _, rfl, rfl, Diff.refl _⟩
            case round =>
              obtain ⟨q, hq, rfl, HFL, HPr⟩ := hrel
              by_cases hqt : q < t
              · obtain ⟨g, rfl, hg, z0, z1, z2⟩ := HC.out q (by rw [HTT.out]; exact hqt)
                obtain ⟨x, hx⟩ : ∃ x, (b.at' q).2 = x := ⟨_, rfl⟩
                rw [hx] at z0 z1 z2
                have HX := Lib.hid hx
                have hqi : (q : Int) < t := by omega
                have hq0 : (0 : Int) ≤ q := by omega
                have hgr : g < wr.heap.size := Nat.lt_of_lt_of_le hg HPr.out.size
                have k0 := ((pcell HPr.out).1 _ _ hg).trans z0
                have k1 := ((pcell HPr.out).1 _ _ hg).trans z1
                have k2 := ((pcell HPr.out).1 _ _ hg).trans z2
                obtain ⟨c0, c1, c2, c3, cl⟩ := HB2.out.pure HPr.out
                clear z0 z1 z2 hx
                have hS1 : Hid (flatOk b (q + 1) = tsB b x) := by show _ = _; rw [flatOk_succ, HFL.out, HX.out]; rfl
                have hp0 : Hid (Pure wr wr.drew) := (Diff.refl wr).drew
                have KEY : Hid (∀ w', Pure wr w' → (w'.cell? ⟨gb, 2, none⟩ = some (.int .i64 b.lots) ∧ gb < w'.heap.size ∧ g < w'.heap.size ∧ w'.cell? ⟨g, q * 3, none⟩ = some (.int .i64 x.lot) ∧ w'.cell? ⟨g, q * 3 + 1, none⟩ = some (.int .i64 x.lo) ∧ w'.cell? ⟨g, q * 3 + 2, none⟩ = some (.int .i64 x.hi) ∧ Hid (Pure wr w'))) :=
                  fun w' hp => ⟨((pcell hp).1 _ _ cl).trans c2, Nat.lt_of_lt_of_le cl hp.size, Nat.lt_of_lt_of_le hgr hp.size, ((pcell hp).1 _ _ hgr).trans k0, ((pcell hp).1 _ _ hgr).trans k1, ((pcell hp).1 _ _ hgr).trans k2, hp⟩
                by_cases hlo : 0 ≤ x.lot
                · by_cases hhi : x.lot < b.lots
                  · go_wp2_with fail
                    have hlo' : ¬ x.lot < 0 := by omega
                    have hhi' : ¬ b.lots ≤ x.lot := by omega
                    refine reg_invW (fun d a W => a = { tmps := #[bookV b p cap, Value.pointer (some { block := gb, off := 0 }), u2, Value.int IntKind.i64 (t : Int), Value.int IntKind.i64 (b.n : Int), Value.slice (some { block := g, off := 0 }) t cu, Value.int IntKind.i64 (q : Int), Value.pointer (some { block := gb, off := 0 }), Value.agg #[Value.int IntKind.i64 b.lo, Value.int IntKind.i64 b.hi], Value.bool true, Value.bool false, Value.pointer (some { block := gb, off := 2 }), Value.int IntKind.i64 b.lots, Value.bool (decide (b.lots < 1)), Value.bool (decide (b.lots < 1)), Value.pointer (some { block := gb, off := 2 }), Value.int IntKind.i64 b.lots, Value.bool (decide (6 < b.lots)), Value.bool (decide (b.lots < 1) || decide (6 < b.lots)), Value.bool (decide (b.lots < 1) || decide (6 < b.lots)), Value.pointer (some { block := gb, off := 3 }), Value.slice p b.n cap, Value.int IntKind.i64 (b.n : Int), Value.bool (decide (4 < (b.n : Int))), Value.bool (decide (b.lots < 1) || decide (6 < b.lots) || decide (4 < (b.n : Int))), Value.int IntKind.i64 (b.n : Int), Value.pointer (some { block := gb, off := 3 }), Value.slice p b.n cap, Value.int IntKind.i64 (b.n : Int), Value.bool false, u30, u31, u32, u33, u34, u35, u36, u37, u38, u39, u40, u41, u42, u43, u44, u45, u46, u47, u48, u49, u50, u51, u52, u53, u54, u55, Value.int IntKind.i64 (t : Int), Value.bool (decide (12 < (t : Int))), Value.agg #[Value.int IntKind.i64 b.lo, Value.int IntKind.i64 b.hi, Value.int IntKind.i64 b.lots, Value.slice p b.n cap], Value.slice (some { block := g, off := 0 }) t cu, Value.int IntKind.i64 (q : Int), Value.slice (some { block := g, off := 0 }) t cu, Value.int IntKind.i64 (t : Int), Value.bool true, u64, u65, (bif d 0 then Value.slice (some { block := g, off := 0 }) t cu else u66), (bif d 1 then Value.int IntKind.i64 (q : Int) else u67), (bif d 2 then Value.pointer (some { block := g, off := q * 3 }) else u68), (bif d 3 then Value.pointer (some { block := g, off := q * 3 }) else u69), (bif d 4 then Value.int IntKind.i64 x.lot else u70), (bif d 5 then Value.bool false else u71), (bif d 6 then Value.bool false else u72), (bif d 7 then Value.slice (some { block := g, off := 0 }) t cu else u73), (bif d 8 then Value.int IntKind.i64 (q : Int) else u74), (bif d 9 then Value.pointer (some { block := g, off := q * 3 }) else u75), (bif d 10 then Value.pointer (some { block := g, off := q * 3 }) else u76), (bif d 11 then Value.int IntKind.i64 x.lot else u77), (bif d 12 then Value.pointer (some { block := gb, off := 2 }) else u78), (bif d 13 then Value.int IntKind.i64 b.lots else u79), (bif d 14 then Value.bool false else u80), (bif d 15 then Value.bool false else u81), (bif d 16 then Value.bool false else u82), (bif d 17 then Value.slice (some { block := g, off := 0 }) t cu else u83), (bif d 18 then Value.int IntKind.i64 (q : Int) else u84), (bif d 19 then Value.pointer (some { block := g, off := q * 3 }) else u85), (bif d 20 then Value.pointer (some { block := g, off := q * 3 + 1 }) else u86), (bif d 21 then Value.agg #[Value.int IntKind.i64 x.lo, Value.int IntKind.i64 x.hi] else u87), (bif d 22 then Value.bool (decide (-1000 ≤ x.lo) && (decide (x.lo ≤ x.hi) && decide (x.hi ≤ 1000))) else u88), (bif d 23 then Value.bool (!(decide (-1000 ≤ x.lo) && (decide (x.lo ≤ x.hi) && decide (x.hi ≤ 1000)))) else u89), (bif d 24 then Value.bool (!(decide (-1000 ≤ x.lo) && (decide (x.lo ≤ x.hi) && decide (x.hi ≤ 1000)))) else u90)], defers := [] } ∧ Pure wr W) hmx (by kernel_rfl) ?_ ?_ ?_
                    · exact ⟨rfl, (Diff.refl wr).drew⟩
                    · refine ⟨?_, ?_, ?_, ?_, ?_, ?_, ?_, ?_, ?_, ?_, ?_, ?_, ?_, ?_, ?_, ?_, ?_, ?_, ?_, ?_, ?_, ?_, ?_, ?_, ?_, trivial⟩
                      · rintro d a W hdi hdep hcl ⟨rfl, hw⟩ K hK
                        replace hdi : d 0 = false := hdi
                        obtain ⟨-, -, f2, f3, f4, f5, f6, f7, f8, f9, f10, f11, f12, f13, f14, f15, f16, f17, f18, f19, f20, f21, f22, f23, f24, -⟩ := hcl.facts 0 hdi rfl hdep [] [2, 3, 4, 5, 6, 7, 8, 9, 10, 11, 12, 13, 14, 15, 16, 17, 18, 19, 20, 21, 22, 23, 24] (by kernel_rfl) (by kernel_rfl)
                        clear hdep hcl
                        go_simp
                        exact hK _ _ ⟨by simp [upd, hdi, f2, f3, f4, f5, f6, f7, f8, f9, f10, f11, f12, f13, f14, f15, f16, f17, f18, f19, f20, f21, f22, f23, f24], hw⟩
                      · rintro d a W hdi hdep hcl ⟨rfl, hw⟩ K hK
                        replace hdi : d 1 = false := hdi
                        obtain ⟨-, -, f2, f3, f4, f5, f6, f7, f8, f9, f10, f11, f12, f13, f14, f15, f16, f17, f18, f19, f20, f21, f22, f23, f24, -⟩ := hcl.facts 1 hdi rfl hdep [] [2, 3, 4, 5, 6, 7, 8, 9, 10, 11, 12, 13, 14, 15, 16, 17, 18, 19, 20, 21, 22, 23, 24] (by kernel_rfl) (by kernel_rfl)
                        clear hdep hcl
                        go_simp
                        exact hK _ _ ⟨by simp [upd, hdi, f2, f3, f4, f5, f6, f7, f8, f9, f10, f11, f12, f13, f14, f15, f16, f17, f18, f19, f20, f21, f22, f23, f24], hw⟩
                      · rintro d a W hdi hdep hcl ⟨rfl, hw⟩ K hK
                        replace hdi : d 2 = false := hdi
                        obtain ⟨-, ⟨e0, e1, -⟩, f3, f4, f5, f6, f7, f8, f9, f10, f11, f12, f13, f14, f15, f16, f17, f18, f19, f20, f21, f22, f23, f24, -⟩ := hcl.facts 2 hdi rfl hdep [0, 1] [3, 4, 5, 6, 7, 8, 9, 10, 11, 12, 13, 14, 15, 16, 17, 18, 19, 20, 21, 22, 23, 24] (by kernel_rfl) (by kernel_rfl)
                        clear hdep hcl
                        go_simp
                        exact hK _ _ ⟨by simp [upd, hdi, e0, e1, f3, f4, f5, f6, f7, f8, f9, f10, f11, f12, f13, f14, f15, f16, f17, f18, f19, f20, f21, f22, f23, f24], hw⟩
                      · rintro d a W hdi hdep hcl ⟨rfl, hw⟩ K hK
                        replace hdi : d 3 = false := hdi
                        obtain ⟨-, ⟨e0, e1, e2, -⟩, f4, f5, f6, f7, f8, f9, f10, f11, f12, f13, f14, f15, f16, f17, f18, f19, f20, f21, f22, f23, f24, -⟩ := hcl.facts 3 hdi rfl hdep [0, 1, 2] [4, 5, 6, 7, 8, 9, 10, 11, 12, 13, 14, 15, 16, 17, 18, 19, 20, 21, 22, 23, 24] (by kernel_rfl) (by kernel_rfl)
                        clear hdep hcl
                        go_simp
                        exact hK _ _ ⟨by simp [upd, hdi, e0, e1, e2, f4, f5, f6, f7, f8, f9, f10, f11, f12, f13, f14, f15, f16, f17, f18, f19, f20, f21, f22, f23, f24], hw⟩
                      · rintro d a W hdi hdep hcl ⟨rfl, hw⟩ K hK
                        replace hdi : d 4 = false := hdi
                        obtain ⟨-, ⟨e0, e1, e2, e3, -⟩, f5, f6, f7, f8, f9, f10, f11, f12, f13, f14, f15, f16, f17, f18, f19, f20, f21, f22, f23, f24, -⟩ := hcl.facts 4 hdi rfl hdep [0, 1, 2, 3] [5, 6, 7, 8, 9, 10, 11, 12, 13, 14, 15, 16, 17, 18, 19, 20, 21, 22, 23, 24] (by kernel_rfl) (by kernel_rfl)
                        clear hdep hcl
                        have hk := KEY.out _ hw
                        obtain ⟨y1, y2, y3, y4, y5, y6, -⟩ := hk
                        go_simp
                        exact hK _ _ ⟨by simp [upd, hdi, e0, e1, e2, e3, f5, f6, f7, f8, f9, f10, f11, f12, f13, f14, f15, f16, f17, f18, f19, f20, f21, f22, f23, f24], hw⟩
                      · rintro d a W hdi hdep hcl ⟨rfl, hw⟩ K hK
                        replace hdi : d 5 = false := hdi
                        obtain ⟨-, ⟨e0, e1, e2, e3, e4, -⟩, f6, f7, f8, f9, f10, f11, f12, f13, f14, f15, f16, f17, f18, f19, f20, f21, f22, f23, f24, -⟩ := hcl.facts 5 hdi rfl hdep [0, 1, 2, 3, 4] [6, 7, 8, 9, 10, 11, 12, 13, 14, 15, 16, 17, 18, 19, 20, 21, 22, 23, 24] (by kernel_rfl) (by kernel_rfl)
                        clear hdep hcl
                        go_simp
                        exact hK _ _ ⟨by simp [upd, hdi, e0, e1, e2, e3, e4, f6, f7, f8, f9, f10, f11, f12, f13, f14, f15, f16, f17, f18, f19, f20, f21, f22, f23, f24], hw⟩
                      · rintro d a W hdi hdep hcl ⟨rfl, hw⟩ K hK
                        replace hdi : d 6 = false := hdi
                        obtain ⟨-, ⟨e0, e1, e2, e3, e4, e5, -⟩, f7, f8, f9, f10, f11, f12, f13, f14, f15, f16, f17, f18, f19, f20, f21, f22, f23, f24, -⟩ := hcl.facts 6 hdi rfl hdep [0, 1, 2, 3, 4, 5] [7, 8, 9, 10, 11, 12, 13, 14, 15, 16, 17, 18, 19, 20, 21, 22, 23, 24] (by kernel_rfl) (by kernel_rfl)
                        clear hdep hcl
                        go_simp
                        exact hK _ _ ⟨by simp [upd, hdi, e0, e1, e2, e3, e4, e5, f7, f8, f9, f10, f11, f12, f13, f14, f15, f16, f17, f18, f19, f20, f21, f22, f23, f24], hw⟩
                      · rintro d a W hdi hdep hcl ⟨rfl, hw⟩ K hK
                        replace hdi : d 7 = false := hdi
                        obtain ⟨-, ⟨e0, e1, e2, e3, e4, e5, e6, -⟩, f9, f10, f11, f14, f15, f16, f17, f18, f19, f20, f21, f22, f23, f24, -⟩ := hcl.facts 7 hdi rfl hdep [0, 1, 2, 3, 4, 5, 6] [9, 10, 11, 14, 15, 16, 17, 18, 19, 20, 21, 22, 23, 24] (by kernel_rfl) (by kernel_rfl)
                        clear hdep hcl
                        go_simp
                        exact hK _ _ ⟨by simp [upd, hdi, e0, e1, e2, e3, e4, e5, e6, f9, f10, f11, f14, f15, f16, f17, f18, f19, f20, f21, f22, f23, f24], hw⟩
                      · rintro d a W hdi hdep hcl ⟨rfl, hw⟩ K hK
                        replace hdi : d 8 = false := hdi
                        obtain ⟨-, ⟨e0, e1, e2, e3, e4, e5, e6, -⟩, f9, f10, f11, f14, f15, f16, f17, f18, f19, f20, f21, f22, f23, f24, -⟩ := hcl.facts 8 hdi rfl hdep [0, 1, 2, 3, 4, 5, 6] [9, 10, 11, 14, 15, 16, 17, 18, 19, 20, 21, 22, 23, 24] (by kernel_rfl) (by kernel_rfl)
                        clear hdep hcl
                        go_simp
                        exact hK _ _ ⟨by simp [upd, hdi, e0, e1, e2, e3, e4, e5, e6, f9, f10, f11, f14, f15, f16, f17, f18, f19, f20, f21, f22, f23, f24], hw⟩
                      · rintro d a W hdi hdep hcl ⟨rfl, hw⟩ K hK
                        replace hdi : d 9 = false := hdi
                        obtain ⟨-, ⟨e0, e1, e2, e3, e4, e5, e6, e7, e8, -⟩, f10, f11, f14, f15, f16, f17, f18, f19, f20, f21, f22, f23, f24, -⟩ := hcl.facts 9 hdi rfl hdep [0, 1, 2, 3, 4, 5, 6, 7, 8] [10, 11, 14, 15, 16, 17, 18, 19, 20, 21, 22, 23, 24] (by kernel_rfl) (by kernel_rfl)
                        clear hdep hcl
                        go_simp
                        exact hK _ _ ⟨by simp [upd, hdi, e0, e1, e2, e3, e4, e5, e6, e7, e8, f10, f11, f14, f15, f16, f17, f18, f19, f20, f21, f22, f23, f24], hw⟩
                      · rintro d a W hdi hdep hcl ⟨rfl, hw⟩ K hK
                        replace hdi : d 10 = false := hdi
                        obtain ⟨-, ⟨e0, e1, e2, e3, e4, e5, e6, e7, e8, e9, -⟩, f11, f14, f15, f16, f17, f18, f19, f20, f21, f22, f23, f24, -⟩ := hcl.facts 10 hdi rfl hdep [0, 1, 2, 3, 4, 5, 6, 7, 8, 9] [11, 14, 15, 16, 17, 18, 19, 20, 21, 22, 23, 24] (by kernel_rfl) (by kernel_rfl)
                        clear hdep hcl
                        go_simp
                        exact hK _ _ ⟨by simp [upd, hdi, e0, e1, e2, e3, e4, e5, e6, e7, e8, e9, f11, f14, f15, f16, f17, f18, f19, f20, f21, f22, f23, f24], hw⟩
                      · rintro d a W hdi hdep hcl ⟨rfl, hw⟩ K hK
                        replace hdi : d 11 = false := hdi
                        obtain ⟨-, ⟨e0, e1, e2, e3, e4, e5, e6, e7, e8, e9, e10, -⟩, f14, f15, f16, f17, f18, f19, f20, f21, f22, f23, f24, -⟩ := hcl.facts 11 hdi rfl hdep [0, 1, 2, 3, 4, 5, 6, 7, 8, 9, 10] [14, 15, 16, 17, 18, 19, 20, 21, 22, 23, 24] (by kernel_rfl) (by kernel_rfl)
                        clear hdep hcl
                        have hk := KEY.out _ hw
                        obtain ⟨y1, y2, y3, y4, y5, y6, -⟩ := hk
                        go_simp
                        exact hK _ _ ⟨by simp [upd, hdi, e0, e1, e2, e3, e4, e5, e6, e7, e8, e9, e10, f14, f15, f16, f17, f18, f19, f20, f21, f22, f23, f24], hw⟩
                      · rintro d a W hdi hdep hcl ⟨rfl, hw⟩ K hK
                        replace hdi : d 12 = false := hdi
                        obtain ⟨-, ⟨e0, e1, e2, e3, e4, e5, e6, -⟩, f13, f14, f15, f16, f17, f18, f19, f20, f21, f22, f23, f24, -⟩ := hcl.facts 12 hdi rfl hdep [0, 1, 2, 3, 4, 5, 6] [13, 14, 15, 16, 17, 18, 19, 20, 21, 22, 23, 24] (by kernel_rfl) (by kernel_rfl)
                        clear hdep hcl
                        go_simp
                        exact hK _ _ ⟨by simp [upd, hdi, e0, e1, e2, e3, e4, e5, e6, f13, f14, f15, f16, f17, f18, f19, f20, f21, f22, f23, f24], hw⟩
                      · rintro d a W hdi hdep hcl ⟨rfl, hw⟩ K hK
                        replace hdi : d 13 = false := hdi
                        obtain ⟨-, ⟨e0, e1, e2, e3, e4, e5, e6, e12, -⟩, f14, f15, f16, f17, f18, f19, f20, f21, f22, f23, f24, -⟩ := hcl.facts 13 hdi rfl hdep [0, 1, 2, 3, 4, 5, 6, 12] [14, 15, 16, 17, 18, 19, 20, 21, 22, 23, 24] (by kernel_rfl) (by kernel_rfl)
                        clear hdep hcl
                        have hk := KEY.out _ hw
                        obtain ⟨y1, y2, y3, y4, y5, y6, -⟩ := hk
                        go_simp
                        exact hK _ _ ⟨by simp [upd, hdi, e0, e1, e2, e3, e4, e5, e6, e12, f14, f15, f16, f17, f18, f19, f20, f21, f22, f23, f24], hw⟩
                      · rintro d a W hdi hdep hcl ⟨rfl, hw⟩ K hK
                        replace hdi : d 14 = false := hdi
                        obtain ⟨-, ⟨e0, e1, e2, e3, e4, e5, e6, e7, e8, e9, e10, e11, e12, e13, -⟩, f15, f16, f17, f18, f19, f20, f21, f22, f23, f24, -⟩ := hcl.facts 14 hdi rfl hdep [0, 1, 2, 3, 4, 5, 6, 7, 8, 9, 10, 11, 12, 13] [15, 16, 17, 18, 19, 20, 21, 22, 23, 24] (by kernel_rfl) (by kernel_rfl)
                        clear hdep hcl
                        go_simp
                        exact hK _ _ ⟨by simp [upd, hdi, e0, e1, e2, e3, e4, e5, e6, e7, e8, e9, e10, e11, e12, e13, f15, f16, f17, f18, f19, f20, f21, f22, f23, f24], hw⟩
                      · rintro d a W hdi hdep hcl ⟨rfl, hw⟩ K hK
                        replace hdi : d 15 = false := hdi
                        obtain ⟨-, ⟨e0, e1, e2, e3, e4, e5, e6, e7, e8, e9, e10, e11, e12, e13, e14, -⟩, f16, f17, f18, f19, f20, f21, f22, f23, f24, -⟩ := hcl.facts 15 hdi rfl hdep [0, 1, 2, 3, 4, 5, 6, 7, 8, 9, 10, 11, 12, 13, 14] [16, 17, 18, 19, 20, 21, 22, 23, 24] (by kernel_rfl) (by kernel_rfl)
                        clear hdep hcl
                        go_simp
                        exact hK _ _ ⟨by simp [upd, hdi, e0, e1, e2, e3, e4, e5, e6, e7, e8, e9, e10, e11, e12, e13, e14, f16, f17, f18, f19, f20, f21, f22, f23, f24], hw⟩
                      · rintro d a W hdi hdep hcl ⟨rfl, hw⟩ K hK
                        replace hdi : d 16 = false := hdi
                        obtain ⟨-, ⟨e0, e1, e2, e3, e4, e5, e6, e7, e8, e9, e10, e11, e12, e13, e14, e15, -⟩, f17, f18, f19, f20, f21, f22, f23, f24, -⟩ := hcl.facts 16 hdi rfl hdep [0, 1, 2, 3, 4, 5, 6, 7, 8, 9, 10, 11, 12, 13, 14, 15] [17, 18, 19, 20, 21, 22, 23, 24] (by kernel_rfl) (by kernel_rfl)
                        clear hdep hcl
                        go_simp
                        exact hK _ _ ⟨by simp [upd, hdi, e0, e1, e2, e3, e4, e5, e6, e7, e8, e9, e10, e11, e12, e13, e14, e15, f17, f18, f19, f20, f21, f22, f23, f24], hw⟩
                      · rintro d a W hdi hdep hcl ⟨rfl, hw⟩ K hK
                        replace hdi : d 17 = false := hdi
                        obtain ⟨-, ⟨e0, e1, e2, e3, e4, e5, e6, e7, e8, e9, e10, e11, e12, e13, e14, e15, e16, -⟩, f19, f20, f21, f22, f23, f24, -⟩ := hcl.facts 17 hdi rfl hdep [0, 1, 2, 3, 4, 5, 6, 7, 8, 9, 10, 11, 12, 13, 14, 15, 16] [19, 20, 21, 22, 23, 24] (by kernel_rfl) (by kernel_rfl)
                        clear hdep hcl
                        go_simp
                        exact hK _ _ ⟨by simp [upd, hdi, e0, e1, e2, e3, e4, e5, e6, e7, e8, e9, e10, e11, e12, e13, e14, e15, e16, f19, f20, f21, f22, f23, f24], hw⟩
                      · rintro d a W hdi hdep hcl ⟨rfl, hw⟩ K hK
                        replace hdi : d 18 = false := hdi
                        obtain ⟨-, ⟨e0, e1, e2, e3, e4, e5, e6, e7, e8, e9, e10, e11, e12, e13, e14, e15, e16, -⟩, f19, f20, f21, f22, f23, f24, -⟩ := hcl.facts 18 hdi rfl hdep [0, 1, 2, 3, 4, 5, 6, 7, 8, 9, 10, 11, 12, 13, 14, 15, 16] [19, 20, 21, 22, 23, 24] (by kernel_rfl) (by kernel_rfl)
                        clear hdep hcl
                        go_simp
                        exact hK _ _ ⟨by simp [upd, hdi, e0, e1, e2, e3, e4, e5, e6, e7, e8, e9, e10, e11, e12, e13, e14, e15, e16, f19, f20, f21, f22, f23, f24], hw⟩
                      · rintro d a W hdi hdep hcl ⟨rfl, hw⟩ K hK
                        replace hdi : d 19 = false := hdi
                        obtain ⟨-, ⟨e0, e1, e2, e3, e4, e5, e6, e7, e8, e9, e10, e11, e12, e13, e14, e15, e16, e17, e18, -⟩, f20, f21, f22, f23, f24, -⟩ := hcl.facts 19 hdi rfl hdep [0, 1, 2, 3, 4, 5, 6, 7, 8, 9, 10, 11, 12, 13, 14, 15, 16, 17, 18] [20, 21, 22, 23, 24] (by kernel_rfl) (by kernel_rfl)
                        clear hdep hcl
                        go_simp
                        exact hK _ _ ⟨by simp [upd, hdi, e0, e1, e2, e3, e4, e5, e6, e7, e8, e9, e10, e11, e12, e13, e14, e15, e16, e17, e18, f20, f21, f22, f23, f24], hw⟩
                      · rintro d a W hdi hdep hcl ⟨rfl, hw⟩ K hK
                        replace hdi : d 20 = false := hdi
                        obtain ⟨-, ⟨e0, e1, e2, e3, e4, e5, e6, e7, e8, e9, e10, e11, e12, e13, e14, e15, e16, e17, e18, e19, -⟩, f21, f22, f23, f24, -⟩ := hcl.facts 20 hdi rfl hdep [0, 1, 2, 3, 4, 5, 6, 7, 8, 9, 10, 11, 12, 13, 14, 15, 16, 17, 18, 19] [21, 22, 23, 24] (by kernel_rfl) (by kernel_rfl)
                        clear hdep hcl
                        go_simp
                        exact hK _ _ ⟨by simp [upd, hdi, e0, e1, e2, e3, e4, e5, e6, e7, e8, e9, e10, e11, e12, e13, e14, e15, e16, e17, e18, e19, f21, f22, f23, f24], hw⟩
                      · rintro d a W hdi hdep hcl ⟨rfl, hw⟩ K hK
                        replace hdi : d 21 = false := hdi
                        obtain ⟨-, ⟨e0, e1, e2, e3, e4, e5, e6, e7, e8, e9, e10, e11, e12, e13, e14, e15, e16, e17, e18, e19, e20, -⟩, f22, f23, f24, -⟩ := hcl.facts 21 hdi rfl hdep [0, 1, 2, 3, 4, 5, 6, 7, 8, 9, 10, 11, 12, 13, 14, 15, 16, 17, 18, 19, 20] [22, 23, 24] (by kernel_rfl) (by kernel_rfl)
                        clear hdep hcl
                        have hk := KEY.out _ hw
                        obtain ⟨y1, y2, y3, y4, y5, y6, -⟩ := hk
                        go_simp
                        exact hK _ _ ⟨by simp [upd, hdi, e0, e1, e2, e3, e4, e5, e6, e7, e8, e9, e10, e11, e12, e13, e14, e15, e16, e17, e18, e19, e20, f22, f23, f24], hw⟩
                      · rintro d a W hdi hdep hcl ⟨rfl, hw⟩ K hK
                        replace hdi : d 22 = false := hdi
                        obtain ⟨-, ⟨e0, e1, e2, e3, e4, e5, e6, e7, e8, e9, e10, e11, e12, e13, e14, e15, e16, e17, e18, e19, e20, e21, -⟩, f23, f24, -⟩ := hcl.facts 22 hdi rfl hdep [0, 1, 2, 3, 4, 5, 6, 7, 8, 9, 10, 11, 12, 13, 14, 15, 16, 17, 18, 19, 20, 21] [23, 24] (by kernel_rfl) (by kernel_rfl)
                        clear hdep hcl
                        go_simp
                        refine (isRange_any _ _ _ _ _).mono ?_
                        rintro e w5 ⟨rfl, hp5⟩
                        refine hK _ _ ⟨by simp [upd, hdi, e0, e1, e2, e3, e4, e5, e6, e7, e8, e9, e10, e11, e12, e13, e14, e15, e16, e17, e18, e19, e20, e21, f23, f24], hw.trans hp5⟩
                      · rintro d a W hdi hdep hcl ⟨rfl, hw⟩ K hK
                        replace hdi : d 23 = false := hdi
                        obtain ⟨-, ⟨e0, e1, e2, e3, e4, e5, e6, e7, e8, e9, e10, e11, e12, e13, e14, e15, e16, e17, e18, e19, e20, e21, e22, -⟩, f24, -⟩ := hcl.facts 23 hdi rfl hdep [0, 1, 2, 3, 4, 5, 6, 7, 8, 9, 10, 11, 12, 13, 14, 15, 16, 17, 18, 19, 20, 21, 22] [24] (by kernel_rfl) (by kernel_rfl)
                        clear hdep hcl
                        go_simp
                        exact hK _ _ ⟨by simp [upd, hdi, e0, e1, e2, e3, e4, e5, e6, e7, e8, e9, e10, e11, e12, e13, e14, e15, e16, e17, e18, e19, e20, e21, e22, f24], hw⟩
                      · rintro d a W hdi hdep hcl ⟨rfl, hw⟩ K hK
                        replace hdi : d 24 = false := hdi
                        obtain ⟨-, ⟨e0, e1, e2, e3, e4, e5, e6, e7, e8, e9, e10, e11, e12, e13, e14, e15, e16, e17, e18, e19, e20, e21, e22, e23, -⟩, -⟩ := hcl.facts 24 hdi rfl hdep [0, 1, 2, 3, 4, 5, 6, 7, 8, 9, 10, 11, 12, 13, 14, 15, 16, 17, 18, 19, 20, 21, 22, 23] [] (by kernel_rfl) (by kernel_rfl)
                        clear hdep hcl
                        go_simp
                        exact hK _ _ ⟨by simp [upd, hdi, e0, e1, e2, e3, e4, e5, e6, e7, e8, e9, e10, e11, e12, e13, e14, e15, e16, e17, e18, e19, e20, e21, e22, e23], hw⟩
                    · rintro d a W hall ⟨rfl, hw⟩
                      simp [List.range_succ] at hall
                      obtain ⟨e0, e1, e2, e3, e4, e5, e6, e7, e8, e9, e10, e11, e12, e13, e14, e15, e16, e17, e18, e19, e20, e21, e22, e23, e24⟩ := hall
                      simp only [e0, e1, e2, e3, e4, e5, e6, e7, e8, e9, e10, e11, e12, e13, e14, e15, e16, e17, e18, e19, e20, e21, e22, e23, e24, cond_true] at hw ⊢
                      clear e0 e1 e2 e3 e4 e5 e6 e7 e8 e9 e10 e11 e12 e13 e14 e15 e16 e17 e18 e19 e20 e21 e22 e23 e24
                      cases hisr : (decide (-1000 ≤ x.lo) && (decide (x.lo ≤ x.hi) && decide (x.hi ≤ 1000))) with
                      | true =>
                        have HS : Hid (flatOk b (q + 1) = true) := by show _ = _; rw [hS1.out]; simp only [Bool.and_eq_true, decide_eq_true_eq] at hisr; simp [tsB, wIn, hlo, hhi]; omega
                        have HW : Hid (Pure w2 W) := HPr.out.trans hw
                        clear hisr hw
                        simp only [Bool.not_true]
                        go_wp2_with fail
                        exact ⟨⟨q + 1, by omega, by go_num, HS.out, HW.out⟩, by simp [intOf]; omega⟩
                      | false =>
                        have HF : Hid (checkR b = 3) := by
                          show _ = _
                          unfold checkR
                          rw [if_neg (by rw [H1.out]; simp), if_neg (by rw [H2.out]; simp), if_neg (by rw [HR.out]; simp), if_neg (by rw [HTT.out]; omega), if_pos (flatOk_false (q := q) (by rw [HTT.out]; exact hqt) (by rw [HX.out]; rw [Bool.eq_false_iff] at hisr ⊢; intro h; apply hisr; simp only [tsB, wIn, Bool.and_eq_true, decide_eq_true_eq] at h ⊢; omega))]
                        have HW : Hid (Pure w W) := hP2.out.trans (HPr.out.trans hw)
                        clear hisr hw
                        simp only [Bool.not_false]
                        go_wp2_with fail
                        exact bodyPost_ret (v := .int .i64 3) (by simp [results, Tryd.results24, go_sem]) rfl ⟨by rw [HF.out], HW.out⟩
                  · go_wp2_with fail
                    have hlo' : ¬ x.lot < 0 := by omega
                    have hhi' : b.lots ≤ x.lot := by omega
                    refine reg_invW (fun d a W => a = { tmps := #[bookV b p cap, Value.pointer (some { block := gb, off := 0 }), u2, Value.int IntKind.i64 (t : Int), Value.int IntKind.i64 (b.n : Int), Value.slice (some { block := g, off := 0 }) t cu, Value.int IntKind.i64 (q : Int), Value.pointer (some { block := gb, off := 0 }), Value.agg #[Value.int IntKind.i64 b.lo, Value.int IntKind.i64 b.hi], Value.bool true, Value.bool false, Value.pointer (some { block := gb, off := 2 }), Value.int IntKind.i64 b.lots, Value.bool (decide (b.lots < 1)), Value.bool (decide (b.lots < 1)), Value.pointer (some { block := gb, off := 2 }), Value.int IntKind.i64 b.lots, Value.bool (decide (6 < b.lots)), Value.bool (decide (b.lots < 1) || decide (6 < b.lots)), Value.bool (decide (b.lots < 1) || decide (6 < b.lots)), Value.pointer (some { block := gb, off := 3 }), Value.slice p b.n cap, Value.int IntKind.i64 (b.n : Int), Value.bool (decide (4 < (b.n : Int))), Value.bool (decide (b.lots < 1) || decide (6 < b.lots) || decide (4 < (b.n : Int))), Value.int IntKind.i64 (b.n : Int), Value.pointer (some { block := gb, off := 3 }), Value.slice p b.n cap, Value.int IntKind.i64 (b.n : Int), Value.bool false, u30, u31, u32, u33, u34, u35, u36, u37, u38, u39, u40, u41, u42, u43, u44, u45, u46, u47, u48, u49, u50, u51, u52, u53, u54, u55, Value.int IntKind.i64 (t : Int), Value.bool (decide (12 < (t : Int))), Value.agg #[Value.int IntKind.i64 b.lo, Value.int IntKind.i64 b.hi, Value.int IntKind.i64 b.lots, Value.slice p b.n cap], Value.slice (some { block := g, off := 0 }) t cu, Value.int IntKind.i64 (q : Int), Value.slice (some { block := g, off := 0 }) t cu, Value.int IntKind.i64 (t : Int), Value.bool true, u64, u65, (bif d 0 then Value.slice (some { block := g, off := 0 }) t cu else u66), (bif d 1 then Value.int IntKind.i64 (q : Int) else u67), (bif d 2 then Value.pointer (some { block := g, off := q * 3 }) else u68), (bif d 3 then Value.pointer (some { block := g, off := q * 3 }) else u69), (bif d 4 then Value.int IntKind.i64 x.lot else u70), (bif d 5 then Value.bool false else u71), (bif d 6 then Value.bool false else u72), (bif d 7 then Value.slice (some { block := g, off := 0 }) t cu else u73), (bif d 8 then Value.int IntKind.i64 (q : Int) else u74), (bif d 9 then Value.pointer (some { block := g, off := q * 3 }) else u75), (bif d 10 then Value.pointer (some { block := g, off := q * 3 }) else u76), (bif d 11 then Value.int IntKind.i64 x.lot else u77), (bif d 12 then Value.pointer (some { block := gb, off := 2 }) else u78), (bif d 13 then Value.int IntKind.i64 b.lots else u79), (bif d 14 then Value.bool true else u80), (bif d 15 then Value.bool true else u81), (bif d 16 then Value.bool true else u82), (bif d 17 then undef else u83), (bif d 18 then undef else u84), (bif d 19 then undef else u85), (bif d 20 then undef else u86), (bif d 21 then undef else u87), (bif d 22 then undef else u88), (bif d 23 then undef else u89), (bif d 24 then Value.bool true else u90)], defers := [] } ∧ Pure wr W) hmx (by kernel_rfl) ?_ ?_ ?_
                    · exact ⟨rfl, (Diff.refl wr).drew⟩
                    · refine ⟨?_, ?_, ?_, ?_, ?_, ?_, ?_, ?_, ?_, ?_, ?_, ?_, ?_, ?_, ?_, ?_, ?_, ?_, ?_, ?_, ?_, ?_, ?_, ?_, ?_, trivial⟩
                      · rintro d a W hdi hdep hcl ⟨rfl, hw⟩ K hK
                        replace hdi : d 0 = false := hdi
                        obtain ⟨-, -, f2, f3, f4, f5, f6, f7, f8, f9, f10, f11, f12, f13, f14, f15, f16, f17, f18, f19, f20, f21, f22, f23, f24, -⟩ := hcl.facts 0 hdi rfl hdep [] [2, 3, 4, 5, 6, 7, 8, 9, 10, 11, 12, 13, 14, 15, 16, 17, 18, 19, 20, 21, 22, 23, 24] (by kernel_rfl) (by kernel_rfl)
                        clear hdep hcl
                        go_simp
                        exact hK _ _ ⟨by simp [upd, hdi, f2, f3, f4, f5, f6, f7, f8, f9, f10, f11, f12, f13, f14, f15, f16, f17, f18, f19, f20, f21, f22, f23, f24], hw⟩
                      · rintro d a W hdi hdep hcl ⟨rfl, hw⟩ K hK
                        replace hdi : d 1 = false := hdi
                        obtain ⟨-, -, f2, f3, f4, f5, f6, f7, f8, f9, f10, f11, f12, f13, f14, f15, f16, f17, f18, f19, f20, f21, f22, f23, f24, -⟩ := hcl.facts 1 hdi rfl hdep [] [2, 3, 4, 5, 6, 7, 8, 9, 10, 11, 12, 13, 14, 15, 16, 17, 18, 19, 20, 21, 22, 23, 24] (by kernel_rfl) (by kernel_rfl)
                        clear hdep hcl
                        go_simp
                        exact hK _ _ ⟨by simp [upd, hdi, f2, f3, f4, f5, f6, f7, f8, f9, f10, f11, f12, f13, f14, f15, f16, f17, f18, f19, f20, f21, f22, f23, f24], hw⟩
                      · rintro d a W hdi hdep hcl ⟨rfl, hw⟩ K hK
                        replace hdi : d 2 = false := hdi
                        obtain ⟨-, ⟨e0, e1, -⟩, f3, f4, f5, f6, f7, f8, f9, f10, f11, f12, f13, f14, f15, f16, f17, f18, f19, f20, f21, f22, f23, f24, -⟩ := hcl.facts 2 hdi rfl hdep [0, 1] [3, 4, 5, 6, 7, 8, 9, 10, 11, 12, 13, 14, 15, 16, 17, 18, 19, 20, 21, 22, 23, 24] (by kernel_rfl) (by kernel_rfl)
                        clear hdep hcl
                        go_simp
                        exact hK _ _ ⟨by simp [upd, hdi, e0, e1, f3, f4, f5, f6, f7, f8, f9, f10, f11, f12, f13, f14, f15, f16, f17, f18, f19, f20, f21, f22, f23, f24], hw⟩
                      · rintro d a W hdi hdep hcl ⟨rfl, hw⟩ K hK
                        replace hdi : d 3 = false := hdi
                        obtain ⟨-, ⟨e0, e1, e2, -⟩, f4, f5, f6, f7, f8, f9, f10, f11, f12, f13, f14, f15, f16, f17, f18, f19, f20, f21, f22, f23, f24, -⟩ := hcl.facts 3 hdi rfl hdep [0, 1, 2] [4, 5, 6, 7, 8, 9, 10, 11, 12, 13, 14, 15, 16, 17, 18, 19, 20, 21, 22, 23, 24] (by kernel_rfl) (by kernel_rfl)
                        clear hdep hcl
                        go_simp
                        exact hK _ _ ⟨by simp [upd, hdi, e0, e1, e2, f4, f5, f6, f7, f8, f9, f10, f11, f12, f13, f14, f15, f16, f17, f18, f19, f20, f21, f22, f23, f24], hw⟩
                      · rintro d a W hdi hdep hcl ⟨rfl, hw⟩ K hK
                        replace hdi : d 4 = false := hdi
                        obtain ⟨-, ⟨e0, e1, e2, e3, -⟩, f5, f6, f7, f8, f9, f10, f11, f12, f13, f14, f15, f16, f17, f18, f19, f20, f21, f22, f23, f24, -⟩ := hcl.facts 4 hdi rfl hdep [0, 1, 2, 3] [5, 6, 7, 8, 9, 10, 11, 12, 13, 14, 15, 16, 17, 18, 19, 20, 21, 22, 23, 24] (by kernel_rfl) (by kernel_rfl)
                        clear hdep hcl
                        have hk := KEY.out _ hw
                        obtain ⟨y1, y2, y3, y4, y5, y6, -⟩ := hk
                        go_simp
                        exact hK _ _ ⟨by simp [upd, hdi, e0, e1, e2, e3, f5, f6, f7, f8, f9, f10, f11, f12, f13, f14, f15, f16, f17, f18, f19, f20, f21, f22, f23, f24], hw⟩
                      · rintro d a W hdi hdep hcl ⟨rfl, hw⟩ K hK
                        replace hdi : d 5 = false := hdi
                        obtain ⟨-, ⟨e0, e1, e2, e3, e4, -⟩, f6, f7, f8, f9, f10, f11, f12, f13, f14, f15, f16, f17, f18, f19, f20, f21, f22, f23, f24, -⟩ := hcl.facts 5 hdi rfl hdep [0, 1, 2, 3, 4] [6, 7, 8, 9, 10, 11, 12, 13, 14, 15, 16, 17, 18, 19, 20, 21, 22, 23, 24] (by kernel_rfl) (by kernel_rfl)
                        clear hdep hcl
                        go_simp
                        exact hK _ _ ⟨by simp [upd, hdi, e0, e1, e2, e3, e4, f6, f7, f8, f9, f10, f11, f12, f13, f14, f15, f16, f17, f18, f19, f20, f21, f22, f23, f24], hw⟩
                      · rintro d a W hdi hdep hcl ⟨rfl, hw⟩ K hK
                        replace hdi : d 6 = false := hdi
                        obtain ⟨-, ⟨e0, e1, e2, e3, e4, e5, -⟩, f7, f8, f9, f10, f11, f12, f13, f14, f15, f16, f17, f18, f19, f20, f21, f22, f23, f24, -⟩ := hcl.facts 6 hdi rfl hdep [0, 1, 2, 3, 4, 5] [7, 8, 9, 10, 11, 12, 13, 14, 15, 16, 17, 18, 19, 20, 21, 22, 23, 24] (by kernel_rfl) (by kernel_rfl)
                        clear hdep hcl
                        go_simp
                        exact hK _ _ ⟨by simp [upd, hdi, e0, e1, e2, e3, e4, e5, f7, f8, f9, f10, f11, f12, f13, f14, f15, f16, f17, f18, f19, f20, f21, f22, f23, f24], hw⟩
                      · rintro d a W hdi hdep hcl ⟨rfl, hw⟩ K hK
                        replace hdi : d 7 = false := hdi
                        obtain ⟨-, ⟨e0, e1, e2, e3, e4, e5, e6, -⟩, f9, f10, f11, f14, f15, f16, f17, f18, f19, f20, f21, f22, f23, f24, -⟩ := hcl.facts 7 hdi rfl hdep [0, 1, 2, 3, 4, 5, 6] [9, 10, 11, 14, 15, 16, 17, 18, 19, 20, 21, 22, 23, 24] (by kernel_rfl) (by kernel_rfl)
                        clear hdep hcl
                        go_simp
                        exact hK _ _ ⟨by simp [upd, hdi, e0, e1, e2, e3, e4, e5, e6, f9, f10, f11, f14, f15, f16, f17, f18, f19, f20, f21, f22, f23, f24], hw⟩
                      · rintro d a W hdi hdep hcl ⟨rfl, hw⟩ K hK
                        replace hdi : d 8 = false := hdi
                        obtain ⟨-, ⟨e0, e1, e2, e3, e4, e5, e6, -⟩, f9, f10, f11, f14, f15, f16, f17, f18, f19, f20, f21, f22, f23, f24, -⟩ := hcl.facts 8 hdi rfl hdep [0, 1, 2, 3, 4, 5, 6] [9, 10, 11, 14, 15, 16, 17, 18, 19, 20, 21, 22, 23, 24] (by kernel_rfl) (by kernel_rfl)
                        clear hdep hcl
                        go_simp
                        exact hK _ _ ⟨by simp [upd, hdi, e0, e1, e2, e3, e4, e5, e6, f9, f10, f11, f14, f15, f16, f17, f18, f19, f20, f21, f22, f23, f24], hw⟩
                      · rintro d a W hdi hdep hcl ⟨rfl, hw⟩ K hK
                        replace hdi : d 9 = false := hdi
                        obtain ⟨-, ⟨e0, e1, e2, e3, e4, e5, e6, e7, e8, -⟩, f10, f11, f14, f15, f16, f17, f18, f19, f20, f21, f22, f23, f24, -⟩ := hcl.facts 9 hdi rfl hdep [0, 1, 2, 3, 4, 5, 6, 7, 8] [10, 11, 14, 15, 16, 17, 18, 19, 20, 21, 22, 23, 24] (by kernel_rfl) (by kernel_rfl)
                        clear hdep hcl
                        go_simp
                        exact hK _ _ ⟨by simp [upd, hdi, e0, e1, e2, e3, e4, e5, e6, e7, e8, f10, f11, f14, f15, f16, f17, f18, f19, f20, f21, f22, f23, f24], hw⟩
                      · rintro d a W hdi hdep hcl ⟨rfl, hw⟩ K hK
                        replace hdi : d 10 = false := hdi
                        obtain ⟨-, ⟨e0, e1, e2, e3, e4, e5, e6, e7, e8, e9, -⟩, f11, f14, f15, f16, f17, f18, f19, f20, f21, f22, f23, f24, -⟩ := hcl.facts 10 hdi rfl hdep [0, 1, 2, 3, 4, 5, 6, 7, 8, 9] [11, 14, 15, 16, 17, 18, 19, 20, 21, 22, 23, 24] (by kernel_rfl) (by kernel_rfl)
                        clear hdep hcl
                        go_simp
                        exact hK _ _ ⟨by simp [upd, hdi, e0, e1, e2, e3, e4, e5, e6, e7, e8, e9, f11, f14, f15, f16, f17, f18, f19, f20, f21, f22, f23, f24], hw⟩
                      · rintro d a W hdi hdep hcl ⟨rfl, hw⟩ K hK
                        replace hdi : d 11 = false := hdi
                        obtain ⟨-, ⟨e0, e1, e2, e3, e4, e5, e6, e7, e8, e9, e10, -⟩, f14, f15, f16, f17, f18, f19, f20, f21, f22, f23, f24, -⟩ := hcl.facts 11 hdi rfl hdep [0, 1, 2, 3, 4, 5, 6, 7, 8, 9, 10] [14, 15, 16, 17, 18, 19, 20, 21, 22, 23, 24] (by kernel_rfl) (by kernel_rfl)
                        clear hdep hcl
                        have hk := KEY.out _ hw
                        obtain ⟨y1, y2, y3, y4, y5, y6, -⟩ := hk
                        go_simp
                        exact hK _ _ ⟨by simp [upd, hdi, e0, e1, e2, e3, e4, e5, e6, e7, e8, e9, e10, f14, f15, f16, f17, f18, f19, f20, f21, f22, f23, f24], hw⟩
                      · rintro d a W hdi hdep hcl ⟨rfl, hw⟩ K hK
                        replace hdi : d 12 = false := hdi
                        obtain ⟨-, ⟨e0, e1, e2, e3, e4, e5, e6, -⟩, f13, f14, f15, f16, f17, f18, f19, f20, f21, f22, f23, f24, -⟩ := hcl.facts 12 hdi rfl hdep [0, 1, 2, 3, 4, 5, 6] [13, 14, 15, 16, 17, 18, 19, 20, 21, 22, 23, 24] (by kernel_rfl) (by kernel_rfl)
                        clear hdep hcl
                        go_simp
                        exact hK _ _ ⟨by simp [upd, hdi, e0, e1, e2, e3, e4, e5, e6, f13, f14, f15, f16, f17, f18, f19, f20, f21, f22, f23, f24], hw⟩
                      · rintro d a W hdi hdep hcl ⟨rfl, hw⟩ K hK
                        replace hdi : d 13 = false := hdi
                        obtain ⟨-, ⟨e0, e1, e2, e3, e4, e5, e6, e12, -⟩, f14, f15, f16, f17, f18, f19, f20, f21, f22, f23, f24, -⟩ := hcl.facts 13 hdi rfl hdep [0, 1, 2, 3, 4, 5, 6, 12] [14, 15, 16, 17, 18, 19, 20, 21, 22, 23, 24] (by kernel_rfl) (by kernel_rfl)
                        clear hdep hcl
                        have hk := KEY.out _ hw
                        obtain ⟨y1, y2, y3, y4, y5, y6, -⟩ := hk
                        go_simp
                        exact hK _ _ ⟨by simp [upd, hdi, e0, e1, e2, e3, e4, e5, e6, e12, f14, f15, f16, f17, f18, f19, f20, f21, f22, f23, f24], hw⟩
                      · rintro d a W hdi hdep hcl ⟨rfl, hw⟩ K hK
                        replace hdi : d 14 = false := hdi
                        obtain ⟨-, ⟨e0, e1, e2, e3, e4, e5, e6, e7, e8, e9, e10, e11, e12, e13, -⟩, f15, f16, f17, f18, f19, f20, f21, f22, f23, f24, -⟩ := hcl.facts 14 hdi rfl hdep [0, 1, 2, 3, 4, 5, 6, 7, 8, 9, 10, 11, 12, 13] [15, 16, 17, 18, 19, 20, 21, 22, 23, 24] (by kernel_rfl) (by kernel_rfl)
                        clear hdep hcl
                        go_simp
                        exact hK _ _ ⟨by simp [upd, hdi, e0, e1, e2, e3, e4, e5, e6, e7, e8, e9, e10, e11, e12, e13, f15, f16, f17, f18, f19, f20, f21, f22, f23, f24], hw⟩
                      · rintro d a W hdi hdep hcl ⟨rfl, hw⟩ K hK
                        replace hdi : d 15 = false := hdi
                        obtain ⟨-, ⟨e0, e1, e2, e3, e4, e5, e6, e7, e8, e9, e10, e11, e12, e13, e14, -⟩, f16, f17, f18, f19, f20, f21, f22, f23, f24, -⟩ := hcl.facts 15 hdi rfl hdep [0, 1, 2, 3, 4, 5, 6, 7, 8, 9, 10, 11, 12, 13, 14] [16, 17, 18, 19, 20, 21, 22, 23, 24] (by kernel_rfl) (by kernel_rfl)
                        clear hdep hcl
                        go_simp
                        exact hK _ _ ⟨by simp [upd, hdi, e0, e1, e2, e3, e4, e5, e6, e7, e8, e9, e10, e11, e12, e13, e14, f16, f17, f18, f19, f20, f21, f22, f23, f24], hw⟩
                      · rintro d a W hdi hdep hcl ⟨rfl, hw⟩ K hK
                        replace hdi : d 16 = false := hdi
                        obtain ⟨-, ⟨e0, e1, e2, e3, e4, e5, e6, e7, e8, e9, e10, e11, e12, e13, e14, e15, -⟩, f17, f18, f19, f20, f21, f22, f23, f24, -⟩ := hcl.facts 16 hdi rfl hdep [0, 1, 2, 3, 4, 5, 6, 7, 8, 9, 10, 11, 12, 13, 14, 15] [17, 18, 19, 20, 21, 22, 23, 24] (by kernel_rfl) (by kernel_rfl)
                        clear hdep hcl
                        go_simp
                        exact hK _ _ ⟨by simp [upd, hdi, e0, e1, e2, e3, e4, e5, e6, e7, e8, e9, e10, e11, e12, e13, e14, e15, f17, f18, f19, f20, f21, f22, f23, f24], hw⟩
                      · rintro d a W hdi hdep hcl ⟨rfl, hw⟩ K hK
                        replace hdi : d 17 = false := hdi
                        obtain ⟨-, ⟨e0, e1, e2, e3, e4, e5, e6, e7, e8, e9, e10, e11, e12, e13, e14, e15, e16, -⟩, f19, f20, f21, f22, f23, f24, -⟩ := hcl.facts 17 hdi rfl hdep [0, 1, 2, 3, 4, 5, 6, 7, 8, 9, 10, 11, 12, 13, 14, 15, 16] [19, 20, 21, 22, 23, 24] (by kernel_rfl) (by kernel_rfl)
                        clear hdep hcl
                        go_simp
                        exact hK _ _ ⟨by simp [upd, hdi, e0, e1, e2, e3, e4, e5, e6, e7, e8, e9, e10, e11, e12, e13, e14, e15, e16, f19, f20, f21, f22, f23, f24], hw⟩
                      · rintro d a W hdi hdep hcl ⟨rfl, hw⟩ K hK
                        replace hdi : d 18 = false := hdi
                        obtain ⟨-, ⟨e0, e1, e2, e3, e4, e5, e6, e7, e8, e9, e10, e11, e12, e13, e14, e15, e16, -⟩, f19, f20, f21, f22, f23, f24, -⟩ := hcl.facts 18 hdi rfl hdep [0, 1, 2, 3, 4, 5, 6, 7, 8, 9, 10, 11, 12, 13, 14, 15, 16] [19, 20, 21, 22, 23, 24] (by kernel_rfl) (by kernel_rfl)
                        clear hdep hcl
                        go_simp
                        exact hK _ _ ⟨by simp [upd, hdi, e0, e1, e2, e3, e4, e5, e6, e7, e8, e9, e10, e11, e12, e13, e14, e15, e16, f19, f20, f21, f22, f23, f24], hw⟩
                      · rintro d a W hdi hdep hcl ⟨rfl, hw⟩ K hK
                        replace hdi : d 19 = false := hdi
                        obtain ⟨-, ⟨e0, e1, e2, e3, e4, e5, e6, e7, e8, e9, e10, e11, e12, e13, e14, e15, e16, e17, e18, -⟩, f20, f21, f22, f23, f24, -⟩ := hcl.facts 19 hdi rfl hdep [0, 1, 2, 3, 4, 5, 6, 7, 8, 9, 10, 11, 12, 13, 14, 15, 16, 17, 18] [20, 21, 22, 23, 24] (by kernel_rfl) (by kernel_rfl)
                        clear hdep hcl
                        go_simp
                        exact hK _ _ ⟨by simp [upd, hdi, e0, e1, e2, e3, e4, e5, e6, e7, e8, e9, e10, e11, e12, e13, e14, e15, e16, e17, e18, f20, f21, f22, f23, f24], hw⟩
                      · rintro d a W hdi hdep hcl ⟨rfl, hw⟩ K hK
                        replace hdi : d 20 = false := hdi
                        obtain ⟨-, ⟨e0, e1, e2, e3, e4, e5, e6, e7, e8, e9, e10, e11, e12, e13, e14, e15, e16, e17, e18, e19, -⟩, f21, f22, f23, f24, -⟩ := hcl.facts 20 hdi rfl hdep [0, 1, 2, 3, 4, 5, 6, 7, 8, 9, 10, 11, 12, 13, 14, 15, 16, 17, 18, 19] [21, 22, 23, 24] (by kernel_rfl) (by kernel_rfl)
                        clear hdep hcl
                        go_simp
                        exact hK _ _ ⟨by simp [upd, hdi, e0, e1, e2, e3, e4, e5, e6, e7, e8, e9, e10, e11, e12, e13, e14, e15, e16, e17, e18, e19, f21, f22, f23, f24], hw⟩
                      · rintro d a W hdi hdep hcl ⟨rfl, hw⟩ K hK
                        replace hdi : d 21 = false := hdi
                        obtain ⟨-, ⟨e0, e1, e2, e3, e4, e5, e6, e7, e8, e9, e10, e11, e12, e13, e14, e15, e16, e17, e18, e19, e20, -⟩, f22, f23, f24, -⟩ := hcl.facts 21 hdi rfl hdep [0, 1, 2, 3, 4, 5, 6, 7, 8, 9, 10, 11, 12, 13, 14, 15, 16, 17, 18, 19, 20] [22, 23, 24] (by kernel_rfl) (by kernel_rfl)
                        clear hdep hcl
                        have hk := KEY.out _ hw
                        obtain ⟨y1, y2, y3, y4, y5, y6, -⟩ := hk
                        go_simp
                        exact hK _ _ ⟨by simp [upd, hdi, e0, e1, e2, e3, e4, e5, e6, e7, e8, e9, e10, e11, e12, e13, e14, e15, e16, e17, e18, e19, e20, f22, f23, f24], hw⟩
                      · rintro d a W hdi hdep hcl ⟨rfl, hw⟩ K hK
                        replace hdi : d 22 = false := hdi
                        obtain ⟨-, ⟨e0, e1, e2, e3, e4, e5, e6, e7, e8, e9, e10, e11, e12, e13, e14, e15, e16, e17, e18, e19, e20, e21, -⟩, f23, f24, -⟩ := hcl.facts 22 hdi rfl hdep [0, 1, 2, 3, 4, 5, 6, 7, 8, 9, 10, 11, 12, 13, 14, 15, 16, 17, 18, 19, 20, 21] [23, 24] (by kernel_rfl) (by kernel_rfl)
                        clear hdep hcl
                        go_simp
                        exact hK _ _ ⟨by simp [upd, hdi, e0, e1, e2, e3, e4, e5, e6, e7, e8, e9, e10, e11, e12, e13, e14, e15, e16, e17, e18, e19, e20, e21, f23, f24], hw⟩
                      · rintro d a W hdi hdep hcl ⟨rfl, hw⟩ K hK
                        replace hdi : d 23 = false := hdi
                        obtain ⟨-, ⟨e0, e1, e2, e3, e4, e5, e6, e7, e8, e9, e10, e11, e12, e13, e14, e15, e16, e17, e18, e19, e20, e21, e22, -⟩, f24, -⟩ := hcl.facts 23 hdi rfl hdep [0, 1, 2, 3, 4, 5, 6, 7, 8, 9, 10, 11, 12, 13, 14, 15, 16, 17, 18, 19, 20, 21, 22] [24] (by kernel_rfl) (by kernel_rfl)
                        clear hdep hcl
                        go_simp
                        exact hK _ _ ⟨by simp [upd, hdi, e0, e1, e2, e3, e4, e5, e6, e7, e8, e9, e10, e11, e12, e13, e14, e15, e16, e17, e18, e19, e20, e21, e22, f24], hw⟩
                      · rintro d a W hdi hdep hcl ⟨rfl, hw⟩ K hK
                        replace hdi : d 24 = false := hdi
                        obtain ⟨-, ⟨e0, e1, e2, e3, e4, e5, e6, e7, e8, e9, e10, e11, e12, e13, e14, e15, e16, e17, e18, e19, e20, e21, e22, e23, -⟩, -⟩ := hcl.facts 24 hdi rfl hdep [0, 1, 2, 3, 4, 5, 6, 7, 8, 9, 10, 11, 12, 13, 14, 15, 16, 17, 18, 19, 20, 21, 22, 23] [] (by kernel_rfl) (by kernel_rfl)
                        clear hdep hcl
                        go_simp
                        exact hK _ _ ⟨by simp [upd, hdi, e0, e1, e2, e3, e4, e5, e6, e7, e8, e9, e10, e11, e12, e13, e14, e15, e16, e17, e18, e19, e20, e21, e22, e23], hw⟩
                    · rintro d a W hall ⟨rfl, hw⟩
                      simp [List.range_succ] at hall
                      obtain ⟨e0, e1, e2, e3, e4, e5, e6, e7, e8, e9, e10, e11, e12, e13, e14, e15, e16, e17, e18, e19, e20, e21, e22, e23, e24⟩ := hall
                      simp only [e0, e1, e2, e3, e4, e5, e6, e7, e8, e9, e10, e11, e12, e13, e14, e15, e16, e17, e18, e19, e20, e21, e22, e23, e24, cond_true] at hw ⊢
                      clear e0 e1 e2 e3 e4 e5 e6 e7 e8 e9 e10 e11 e12 e13 e14 e15 e16 e17 e18 e19 e20 e21 e22 e23 e24
                      have HF : Hid (checkR b = 3) := by
                        show _ = _
                        unfold checkR
                        rw [if_neg (by rw [H1.out]; simp), if_neg (by rw [H2.out]; simp), if_neg (by rw [HR.out]; simp), if_neg (by rw [HTT.out]; omega), if_pos (flatOk_false (q := q) (by rw [HTT.out]; exact hqt) (by rw [HX.out, Bool.eq_false_iff]; intro h; simp only [tsB, wIn, Bool.and_eq_true, decide_eq_true_eq] at h; omega))]
                      have HW : Hid (Pure w W) := hP2.out.trans (HPr.out.trans hw)
                      clear hw
                      go_wp2_with fail
                      exact bodyPost_ret (v := .int .i64 3) (by simp [results, Tryd.results24, go_sem]) rfl ⟨by rw [HF.out], HW.out⟩
                · go_wp2_with fail
                  have hlo' : x.lot < 0 := by omega
                  refine reg_invW (fun d a W => a = { tmps := #[bookV b p cap, Value.pointer (some { block := gb, off := 0 }), u2, Value.int IntKind.i64 (t : Int), Value.int IntKind.i64 (b.n : Int), Value.slice (some { block := g, off := 0 }) t cu, Value.int IntKind.i64 (q : Int), Value.pointer (some { block := gb, off := 0 }), Value.agg #[Value.int IntKind.i64 b.lo, Value.int IntKind.i64 b.hi], Value.bool true, Value.bool false, Value.pointer (some { block := gb, off := 2 }), Value.int IntKind.i64 b.lots, Value.bool (decide (b.lots < 1)), Value.bool (decide (b.lots < 1)), Value.pointer (some { block := gb, off := 2 }), Value.int IntKind.i64 b.lots, Value.bool (decide (6 < b.lots)), Value.bool (decide (b.lots < 1) || decide (6 < b.lots)), Value.bool (decide (b.lots < 1) || decide (6 < b.lots)), Value.pointer (some { block := gb, off := 3 }), Value.slice p b.n cap, Value.int IntKind.i64 (b.n : Int), Value.bool (decide (4 < (b.n : Int))), Value.bool (decide (b.lots < 1) || decide (6 < b.lots) || decide (4 < (b.n : Int))), Value.int IntKind.i64 (b.n : Int), Value.pointer (some { block := gb, off := 3 }), Value.slice p b.n cap, Value.int IntKind.i64 (b.n : Int), Value.bool false, u30, u31, u32, u33, u34, u35, u36, u37, u38, u39, u40, u41, u42, u43, u44, u45, u46, u47, u48, u49, u50, u51, u52, u53, u54, u55, Value.int IntKind.i64 (t : Int), Value.bool (decide (12 < (t : Int))), Value.agg #[Value.int IntKind.i64 b.lo, Value.int IntKind.i64 b.hi, Value.int IntKind.i64 b.lots, Value.slice p b.n cap], Value.slice (some { block := g, off := 0 }) t cu, Value.int IntKind.i64 (q : Int), Value.slice (some { block := g, off := 0 }) t cu, Value.int IntKind.i64 (t : Int), Value.bool true, u64, u65, (bif d 0 then Value.slice (some { block := g, off := 0 }) t cu else u66), (bif d 1 then Value.int IntKind.i64 (q : Int) else u67), (bif d 2 then Value.pointer (some { block := g, off := q * 3 }) else u68), (bif d 3 then Value.pointer (some { block := g, off := q * 3 }) else u69), (bif d 4 then Value.int IntKind.i64 x.lot else u70), (bif d 5 then Value.bool true else u71), (bif d 6 then Value.bool true else u72), (bif d 7 then undef else u73), (bif d 8 then undef else u74), (bif d 9 then undef else u75), (bif d 10 then undef else u76), (bif d 11 then undef else u77), (bif d 12 then undef else u78), (bif d 13 then undef else u79), (bif d 14 then undef else u80), (bif d 15 then Value.bool true else u81), (bif d 16 then Value.bool true else u82), (bif d 17 then undef else u83), (bif d 18 then undef else u84), (bif d 19 then undef else u85), (bif d 20 then undef else u86), (bif d 21 then undef else u87), (bif d 22 then undef else u88), (bif d 23 then undef else u89), (bif d 24 then Value.bool true else u90)], defers := [] } ∧ Pure wr W) hmx (by kernel_rfl) ?_ ?_ ?_
                  · exact ⟨rfl, (Diff.refl wr).drew⟩
                  · refine ⟨?_, ?_, ?_, ?_, ?_, ?_, ?_, ?_, ?_, ?_, ?_, ?_, ?_, ?_, ?_, ?_, ?_, ?_, ?_, ?_, ?_, ?_, ?_, ?_, ?_, trivial⟩
                    · rintro d a W hdi hdep hcl ⟨rfl, hw⟩ K hK
                      replace hdi : d 0 = false := hdi
                      obtain ⟨-, -, f2, f3, f4, f5, f6, f7, f8, f9, f10, f11, f12, f13, f14, f15, f16, f17, f18, f19, f20, f21, f22, f23, f24, -⟩ := hcl.facts 0 hdi rfl hdep [] [2, 3, 4, 5, 6, 7, 8, 9, 10, 11, 12, 13, 14, 15, 16, 17, 18, 19, 20, 21, 22, 23, 24] (by kernel_rfl) (by kernel_rfl)
                      clear hdep hcl
                      go_simp
                      exact hK _ _ ⟨by simp [upd, hdi, f2, f3, f4, f5, f6, f7, f8, f9, f10, f11, f12, f13, f14, f15, f16, f17, f18, f19, f20, f21, f22, f23, f24], hw⟩
                    · rintro d a W hdi hdep hcl ⟨rfl, hw⟩ K hK
                      replace hdi : d 1 = false := hdi
                      obtain ⟨-, -, f2, f3, f4, f5, f6, f7, f8, f9, f10, f11, f12, f13, f14, f15, f16, f17, f18, f19, f20, f21, f22, f23, f24, -⟩ := hcl.facts 1 hdi rfl hdep [] [2, 3, 4, 5, 6, 7, 8, 9, 10, 11, 12, 13, 14, 15, 16, 17, 18, 19, 20, 21, 22, 23, 24] (by kernel_rfl) (by kernel_rfl)
                      clear hdep hcl
                      go_simp
                      exact hK _ _ ⟨by simp [upd, hdi, f2, f3, f4, f5, f6, f7, f8, f9, f10, f11, f12, f13, f14, f15, f16, f17, f18, f19, f20, f21, f22, f23, f24], hw⟩
                    · rintro d a W hdi hdep hcl ⟨rfl, hw⟩ K hK
                      replace hdi : d 2 = false := hdi
                      obtain ⟨-, ⟨e0, e1, -⟩, f3, f4, f5, f6, f7, f8, f9, f10, f11, f12, f13, f14, f15, f16, f17, f18, f19, f20, f21, f22, f23, f24, -⟩ := hcl.facts 2 hdi rfl hdep [0, 1] [3, 4, 5, 6, 7, 8, 9, 10, 11, 12, 13, 14, 15, 16, 17, 18, 19, 20, 21, 22, 23, 24] (by kernel_rfl) (by kernel_rfl)
                      clear hdep hcl
                      go_simp
                      exact hK _ _ ⟨by simp [upd, hdi, e0, e1, f3, f4, f5, f6, f7, f8, f9, f10, f11, f12, f13, f14, f15, f16, f17, f18, f19, f20, f21, f22, f23, f24], hw⟩
                    · rintro d a W hdi hdep hcl ⟨rfl, hw⟩ K hK
                      replace hdi : d 3 = false := hdi
                      obtain ⟨-, ⟨e0, e1, e2, -⟩, f4, f5, f6, f7, f8, f9, f10, f11, f12, f13, f14, f15, f16, f17, f18, f19, f20, f21, f22, f23, f24, -⟩ := hcl.facts 3 hdi rfl hdep [0, 1, 2] [4, 5, 6, 7, 8, 9, 10, 11, 12, 13, 14, 15, 16, 17, 18, 19, 20, 21, 22, 23, 24] (by kernel_rfl) (by kernel_rfl)
                      clear hdep hcl
                      go_simp
                      exact hK _ _ ⟨by simp [upd, hdi, e0, e1, e2, f4, f5, f6, f7, f8, f9, f10, f11, f12, f13, f14, f15, f16, f17, f18, f19, f20, f21, f22, f23, f24], hw⟩
                    · rintro d a W hdi hdep hcl ⟨rfl, hw⟩ K hK
                      replace hdi : d 4 = false := hdi
                      obtain ⟨-, ⟨e0, e1, e2, e3, -⟩, f5, f6, f7, f8, f9, f10, f11, f12, f13, f14, f15, f16, f17, f18, f19, f20, f21, f22, f23, f24, -⟩ := hcl.facts 4 hdi rfl hdep [0, 1, 2, 3] [5, 6, 7, 8, 9, 10, 11, 12, 13, 14, 15, 16, 17, 18, 19, 20, 21, 22, 23, 24] (by kernel_rfl) (by kernel_rfl)
                      clear hdep hcl
                      have hk := KEY.out _ hw
                      obtain ⟨y1, y2, y3, y4, y5, y6, -⟩ := hk
                      go_simp
                      exact hK _ _ ⟨by simp [upd, hdi, e0, e1, e2, e3, f5, f6, f7, f8, f9, f10, f11, f12, f13, f14, f15, f16, f17, f18, f19, f20, f21, f22, f23, f24], hw⟩
                    · rintro d a W hdi hdep hcl ⟨rfl, hw⟩ K hK
                      replace hdi : d 5 = false := hdi
                      obtain ⟨-, ⟨e0, e1, e2, e3, e4, -⟩, f6, f7, f8, f9, f10, f11, f12, f13, f14, f15, f16, f17, f18, f19, f20, f21, f22, f23, f24, -⟩ := hcl.facts 5 hdi rfl hdep [0, 1, 2, 3, 4] [6, 7, 8, 9, 10, 11, 12, 13, 14, 15, 16, 17, 18, 19, 20, 21, 22, 23, 24] (by kernel_rfl) (by kernel_rfl)
                      clear hdep hcl
                      go_simp
                      exact hK _ _ ⟨by simp [upd, hdi, e0, e1, e2, e3, e4, f6, f7, f8, f9, f10, f11, f12, f13, f14, f15, f16, f17, f18, f19, f20, f21, f22, f23, f24], hw⟩
                    · rintro d a W hdi hdep hcl ⟨rfl, hw⟩ K hK
                      replace hdi : d 6 = false := hdi
                      obtain ⟨-, ⟨e0, e1, e2, e3, e4, e5, -⟩, f7, f8, f9, f10, f11, f12, f13, f14, f15, f16, f17, f18, f19, f20, f21, f22, f23, f24, -⟩ := hcl.facts 6 hdi rfl hdep [0, 1, 2, 3, 4, 5] [7, 8, 9, 10, 11, 12, 13, 14, 15, 16, 17, 18, 19, 20, 21, 22, 23, 24] (by kernel_rfl) (by kernel_rfl)
                      clear hdep hcl
                      go_simp
                      exact hK _ _ ⟨by simp [upd, hdi, e0, e1, e2, e3, e4, e5, f7, f8, f9, f10, f11, f12, f13, f14, f15, f16, f17, f18, f19, f20, f21, f22, f23, f24], hw⟩
                    · rintro d a W hdi hdep hcl ⟨rfl, hw⟩ K hK
                      replace hdi : d 7 = false := hdi
                      obtain ⟨-, ⟨e0, e1, e2, e3, e4, e5, e6, -⟩, f9, f10, f11, f14, f15, f16, f17, f18, f19, f20, f21, f22, f23, f24, -⟩ := hcl.facts 7 hdi rfl hdep [0, 1, 2, 3, 4, 5, 6] [9, 10, 11, 14, 15, 16, 17, 18, 19, 20, 21, 22, 23, 24] (by kernel_rfl) (by kernel_rfl)
                      clear hdep hcl
                      go_simp
                      exact hK _ _ ⟨by simp [upd, hdi, e0, e1, e2, e3, e4, e5, e6, f9, f10, f11, f14, f15, f16, f17, f18, f19, f20, f21, f22, f23, f24], hw⟩
                    · rintro d a W hdi hdep hcl ⟨rfl, hw⟩ K hK
                      replace hdi : d 8 = false := hdi
                      obtain ⟨-, ⟨e0, e1, e2, e3, e4, e5, e6, -⟩, f9, f10, f11, f14, f15, f16, f17, f18, f19, f20, f21, f22, f23, f24, -⟩ := hcl.facts 8 hdi rfl hdep [0, 1, 2, 3, 4, 5, 6] [9, 10, 11, 14, 15, 16, 17, 18, 19, 20, 21, 22, 23, 24] (by kernel_rfl) (by kernel_rfl)
                      clear hdep hcl
                      go_simp
                      exact hK _ _ ⟨by simp [upd, hdi, e0, e1, e2, e3, e4, e5, e6, f9, f10, f11, f14, f15, f16, f17, f18, f19, f20, f21, f22, f23, f24], hw⟩
                    · rintro d a W hdi hdep hcl ⟨rfl, hw⟩ K hK
                      replace hdi : d 9 = false := hdi
                      obtain ⟨-, ⟨e0, e1, e2, e3, e4, e5, e6, e7, e8, -⟩, f10, f11, f14, f15, f16, f17, f18, f19, f20, f21, f22, f23, f24, -⟩ := hcl.facts 9 hdi rfl hdep [0, 1, 2, 3, 4, 5, 6, 7, 8] [10, 11, 14, 15, 16, 17, 18, 19, 20, 21, 22, 23, 24] (by kernel_rfl) (by kernel_rfl)
                      clear hdep hcl
                      go_simp
                      exact hK _ _ ⟨by simp [upd, hdi, e0, e1, e2, e3, e4, e5, e6, e7, e8, f10, f11, f14, f15, f16, f17, f18, f19, f20, f21, f22, f23, f24], hw⟩
                    · rintro d a W hdi hdep hcl ⟨rfl, hw⟩ K hK
                      replace hdi : d 10 = false := hdi
                      obtain ⟨-, ⟨e0, e1, e2, e3, e4, e5, e6, e7, e8, e9, -⟩, f11, f14, f15, f16, f17, f18, f19, f20, f21, f22, f23, f24, -⟩ := hcl.facts 10 hdi rfl hdep [0, 1, 2, 3, 4, 5, 6, 7, 8, 9] [11, 14, 15, 16, 17, 18, 19, 20, 21, 22, 23, 24] (by kernel_rfl) (by kernel_rfl)
                      clear hdep hcl
                      go_simp
                      exact hK _ _ ⟨by simp [upd, hdi, e0, e1, e2, e3, e4, e5, e6, e7, e8, e9, f11, f14, f15, f16, f17, f18, f19, f20, f21, f22, f23, f24], hw⟩
                    · rintro d a W hdi hdep hcl ⟨rfl, hw⟩ K hK
                      replace hdi : d 11 = false := hdi
                      obtain ⟨-, ⟨e0, e1, e2, e3, e4, e5, e6, e7, e8, e9, e10, -⟩, f14, f15, f16, f17, f18, f19, f20, f21, f22, f23, f24, -⟩ := hcl.facts 11 hdi rfl hdep [0, 1, 2, 3, 4, 5, 6, 7, 8, 9, 10] [14, 15, 16, 17, 18, 19, 20, 21, 22, 23, 24] (by kernel_rfl) (by kernel_rfl)
                      clear hdep hcl
                      have hk := KEY.out _ hw
                      obtain ⟨y1, y2, y3, y4, y5, y6, -⟩ := hk
                      go_simp
                      exact hK _ _ ⟨by simp [upd, hdi, e0, e1, e2, e3, e4, e5, e6, e7, e8, e9, e10, f14, f15, f16, f17, f18, f19, f20, f21, f22, f23, f24], hw⟩
                    · rintro d a W hdi hdep hcl ⟨rfl, hw⟩ K hK
                      replace hdi : d 12 = false := hdi
                      obtain ⟨-, ⟨e0, e1, e2, e3, e4, e5, e6, -⟩, f13, f14, f15, f16, f17, f18, f19, f20, f21, f22, f23, f24, -⟩ := hcl.facts 12 hdi rfl hdep [0, 1, 2, 3, 4, 5, 6] [13, 14, 15, 16, 17, 18, 19, 20, 21, 22, 23, 24] (by kernel_rfl) (by kernel_rfl)
                      clear hdep hcl
                      go_simp
                      exact hK _ _ ⟨by simp [upd, hdi, e0, e1, e2, e3, e4, e5, e6, f13, f14, f15, f16, f17, f18, f19, f20, f21, f22, f23, f24], hw⟩
                    · rintro d a W hdi hdep hcl ⟨rfl, hw⟩ K hK
                      replace hdi : d 13 = false := hdi
                      obtain ⟨-, ⟨e0, e1, e2, e3, e4, e5, e6, e12, -⟩, f14, f15, f16, f17, f18, f19, f20, f21, f22, f23, f24, -⟩ := hcl.facts 13 hdi rfl hdep [0, 1, 2, 3, 4, 5, 6, 12] [14, 15, 16, 17, 18, 19, 20, 21, 22, 23, 24] (by kernel_rfl) (by kernel_rfl)
                      clear hdep hcl
                      have hk := KEY.out _ hw
                      obtain ⟨y1, y2, y3, y4, y5, y6, -⟩ := hk
                      go_simp
                      exact hK _ _ ⟨by simp [upd, hdi, e0, e1, e2, e3, e4, e5, e6, e12, f14, f15, f16, f17, f18, f19, f20, f21, f22, f23, f24], hw⟩
                    · rintro d a W hdi hdep hcl ⟨rfl, hw⟩ K hK
                      replace hdi : d 14 = false := hdi
                      obtain ⟨-, ⟨e0, e1, e2, e3, e4, e5, e6, e7, e8, e9, e10, e11, e12, e13, -⟩, f15, f16, f17, f18, f19, f20, f21, f22, f23, f24, -⟩ := hcl.facts 14 hdi rfl hdep [0, 1, 2, 3, 4, 5, 6, 7, 8, 9, 10, 11, 12, 13] [15, 16, 17, 18, 19, 20, 21, 22, 23, 24] (by kernel_rfl) (by kernel_rfl)
                      clear hdep hcl
                      go_simp
                      exact hK _ _ ⟨by simp [upd, hdi, e0, e1, e2, e3, e4, e5, e6, e7, e8, e9, e10, e11, e12, e13, f15, f16, f17, f18, f19, f20, f21, f22, f23, f24], hw⟩
                    · rintro d a W hdi hdep hcl ⟨rfl, hw⟩ K hK
                      replace hdi : d 15 = false := hdi
                      obtain ⟨-, ⟨e0, e1, e2, e3, e4, e5, e6, e7, e8, e9, e10, e11, e12, e13, e14, -⟩, f16, f17, f18, f19, f20, f21, f22, f23, f24, -⟩ := hcl.facts 15 hdi rfl hdep [0, 1, 2, 3, 4, 5, 6, 7, 8, 9, 10, 11, 12, 13, 14] [16, 17, 18, 19, 20, 21, 22, 23, 24] (by kernel_rfl) (by kernel_rfl)
                      clear hdep hcl
                      go_simp
                      exact hK _ _ ⟨by simp [upd, hdi, e0, e1, e2, e3, e4, e5, e6, e7, e8, e9, e10, e11, e12, e13, e14, f16, f17, f18, f19, f20, f21, f22, f23, f24], hw⟩
                    · rintro d a W hdi hdep hcl ⟨rfl, hw⟩ K hK
                      replace hdi : d 16 = false := hdi
                      obtain ⟨-, ⟨e0, e1, e2, e3, e4, e5, e6, e7, e8, e9, e10, e11, e12, e13, e14, e15, -⟩, f17, f18, f19, f20, f21, f22, f23, f24, -⟩ := hcl.facts 16 hdi rfl hdep [0, 1, 2, 3, 4, 5, 6, 7, 8, 9, 10, 11, 12, 13, 14, 15] [17, 18, 19, 20, 21, 22, 23, 24] (by kernel_rfl) (by kernel_rfl)
                      clear hdep hcl
                      go_simp
                      exact hK _ _ ⟨by simp [upd, hdi, e0, e1, e2, e3, e4, e5, e6, e7, e8, e9, e10, e11, e12, e13, e14, e15, f17, f18, f19, f20, f21, f22, f23, f24], hw⟩
                    · rintro d a W hdi hdep hcl ⟨rfl, hw⟩ K hK
                      replace hdi : d 17 = false := hdi
                      obtain ⟨-, ⟨e0, e1, e2, e3, e4, e5, e6, e7, e8, e9, e10, e11, e12, e13, e14, e15, e16, -⟩, f19, f20, f21, f22, f23, f24, -⟩ := hcl.facts 17 hdi rfl hdep [0, 1, 2, 3, 4, 5, 6, 7, 8, 9, 10, 11, 12, 13, 14, 15, 16] [19, 20, 21, 22, 23, 24] (by kernel_rfl) (by kernel_rfl)
                      clear hdep hcl
                      go_simp
                      exact hK _ _ ⟨by simp [upd, hdi, e0, e1, e2, e3, e4, e5, e6, e7, e8, e9, e10, e11, e12, e13, e14, e15, e16, f19, f20, f21, f22, f23, f24], hw⟩
                    · rintro d a W hdi hdep hcl ⟨rfl, hw⟩ K hK
                      replace hdi : d 18 = false := hdi
                      obtain ⟨-, ⟨e0, e1, e2, e3, e4, e5, e6, e7, e8, e9, e10, e11, e12, e13, e14, e15, e16, -⟩, f19, f20, f21, f22, f23, f24, -⟩ := hcl.facts 18 hdi rfl hdep [0, 1, 2, 3, 4, 5, 6, 7, 8, 9, 10, 11, 12, 13, 14, 15, 16] [19, 20, 21, 22, 23, 24] (by kernel_rfl) (by kernel_rfl)
                      clear hdep hcl
                      go_simp
                      exact hK _ _ ⟨by simp [upd, hdi, e0, e1, e2, e3, e4, e5, e6, e7, e8, e9, e10, e11, e12, e13, e14, e15, e16, f19, f20, f21, f22, f23, f24], hw⟩
                    · rintro d a W hdi hdep hcl ⟨rfl, hw⟩ K hK
                      replace hdi : d 19 = false := hdi
                      obtain ⟨-, ⟨e0, e1, e2, e3, e4, e5, e6, e7, e8, e9, e10, e11, e12, e13, e14, e15, e16, e17, e18, -⟩, f20, f21, f22, f23, f24, -⟩ := hcl.facts 19 hdi rfl hdep [0, 1, 2, 3, 4, 5, 6, 7, 8, 9, 10, 11, 12, 13, 14, 15, 16, 17, 18] [20, 21, 22, 23, 24] (by kernel_rfl) (by kernel_rfl)
                      clear hdep hcl
                      go_simp
                      exact hK _ _ ⟨by simp [upd, hdi, e0, e1, e2, e3, e4, e5, e6, e7, e8, e9, e10, e11, e12, e13, e14, e15, e16, e17, e18, f20, f21, f22, f23, f24], hw⟩
                    · rintro d a W hdi hdep hcl ⟨rfl, hw⟩ K hK
                      replace hdi : d 20 = false := hdi
                      obtain ⟨-, ⟨e0, e1, e2, e3, e4, e5, e6, e7, e8, e9, e10, e11, e12, e13, e14, e15, e16, e17, e18, e19, -⟩, f21, f22, f23, f24, -⟩ := hcl.facts 20 hdi rfl hdep [0, 1, 2, 3, 4, 5, 6, 7, 8, 9, 10, 11, 12, 13, 14, 15, 16, 17, 18, 19] [21, 22, 23, 24] (by kernel_rfl) (by kernel_rfl)
                      clear hdep hcl
                      go_simp
                      exact hK _ _ ⟨by simp [upd, hdi, e0, e1, e2, e3, e4, e5, e6, e7, e8, e9, e10, e11, e12, e13, e14, e15, e16, e17, e18, e19, f21, f22, f23, f24], hw⟩
                    · rintro d a W hdi hdep hcl ⟨rfl, hw⟩ K hK
                      replace hdi : d 21 = false := hdi
                      obtain ⟨-, ⟨e0, e1, e2, e3, e4, e5, e6, e7, e8, e9, e10, e11, e12, e13, e14, e15, e16, e17, e18, e19, e20, -⟩, f22, f23, f24, -⟩ := hcl.facts 21 hdi rfl hdep [0, 1, 2, 3, 4, 5, 6, 7, 8, 9, 10, 11, 12, 13, 14, 15, 16, 17, 18, 19, 20] [22, 23, 24] (by kernel_rfl) (by kernel_rfl)
                      clear hdep hcl
                      have hk := KEY.out _ hw
                      obtain ⟨y1, y2, y3, y4, y5, y6, -⟩ := hk
                      go_simp
                      exact hK _ _ ⟨by simp [upd, hdi, e0, e1, e2, e3, e4, e5, e6, e7, e8, e9, e10, e11, e12, e13, e14, e15, e16, e17, e18, e19, e20, f22, f23, f24], hw⟩
                    · rintro d a W hdi hdep hcl ⟨rfl, hw⟩ K hK
                      replace hdi : d 22 = false := hdi
                      obtain ⟨-, ⟨e0, e1, e2, e3, e4, e5, e6, e7, e8, e9, e10, e11, e12, e13, e14, e15, e16, e17, e18, e19, e20, e21, -⟩, f23, f24, -⟩ := hcl.facts 22 hdi rfl hdep [0, 1, 2, 3, 4, 5, 6, 7, 8, 9, 10, 11, 12, 13, 14, 15, 16, 17, 18, 19, 20, 21] [23, 24] (by kernel_rfl) (by kernel_rfl)
                      clear hdep hcl
                      go_simp
                      exact hK _ _ ⟨by simp [upd, hdi, e0, e1, e2, e3, e4, e5, e6, e7, e8, e9, e10, e11, e12, e13, e14, e15, e16, e17, e18, e19, e20, e21, f23, f24], hw⟩
                    · rintro d a W hdi hdep hcl ⟨rfl, hw⟩ K hK
                      replace hdi : d 23 = false := hdi
                      obtain ⟨-, ⟨e0, e1, e2, e3, e4, e5, e6, e7, e8, e9, e10, e11, e12, e13, e14, e15, e16, e17, e18, e19, e20, e21, e22, -⟩, f24, -⟩ := hcl.facts 23 hdi rfl hdep [0, 1, 2, 3, 4, 5, 6, 7, 8, 9, 10, 11, 12, 13, 14, 15, 16, 17, 18, 19, 20, 21, 22] [24] (by kernel_rfl) (by kernel_rfl)
                      clear hdep hcl
                      go_simp
                      exact hK _ _ ⟨by simp [upd, hdi, e0, e1, e2, e3, e4, e5, e6, e7, e8, e9, e10, e11, e12, e13, e14, e15, e16, e17, e18, e19, e20, e21, e22, f24], hw⟩
                    · rintro d a W hdi hdep hcl ⟨rfl, hw⟩ K hK
                      replace hdi : d 24 = false := hdi
                      obtain ⟨-, ⟨e0, e1, e2, e3, e4, e5, e6, e7, e8, e9, e10, e11, e12, e13, e14, e15, e16, e17, e18, e19, e20, e21, e22, e23, -⟩, -⟩ := hcl.facts 24 hdi rfl hdep [0, 1, 2, 3, 4, 5, 6, 7, 8, 9, 10, 11, 12, 13, 14, 15, 16, 17, 18, 19, 20, 21, 22, 23] [] (by kernel_rfl) (by kernel_rfl)
                      clear hdep hcl
                      go_simp
                      exact hK _ _ ⟨by simp [upd, hdi, e0, e1, e2, e3, e4, e5, e6, e7, e8, e9, e10, e11, e12, e13, e14, e15, e16, e17, e18, e19, e20, e21, e22, e23], hw⟩
                  · rintro d a W hall ⟨rfl, hw⟩
                    simp [List.range_succ] at hall
                    obtain ⟨e0, e1, e2, e3, e4, e5, e6, e7, e8, e9, e10, e11, e12, e13, e14, e15, e16, e17, e18, e19, e20, e21, e22, e23, e24⟩ := hall
                    simp only [e0, e1, e2, e3, e4, e5, e6, e7, e8, e9, e10, e11, e12, e13, e14, e15, e16, e17, e18, e19, e20, e21, e22, e23, e24, cond_true] at hw ⊢
                    clear e0 e1 e2 e3 e4 e5 e6 e7 e8 e9 e10 e11 e12 e13 e14 e15 e16 e17 e18 e19 e20 e21 e22 e23 e24
                    have HF : Hid (checkR b = 3) := by
                      show _ = _
                      unfold checkR
                      rw [if_neg (by rw [H1.out]; simp), if_neg (by rw [H2.out]; simp), if_neg (by rw [HR.out]; simp), if_neg (by rw [HTT.out]; omega), if_pos (flatOk_false (q := q) (by rw [HTT.out]; exact hqt) (by rw [HX.out, Bool.eq_false_iff]; intro h; simp only [tsB, wIn, Bool.and_eq_true, decide_eq_true_eq] at h; omega))]
                    have HW : Hid (Pure w W) := hP2.out.trans (HPr.out.trans hw)
                    clear hw
                    go_wp2_with fail
                    exact bodyPost_ret (v := .int .i64 3) (by simp [results, Tryd.results24, go_sem]) rfl ⟨by rw [HF.out], HW.out⟩
              · obtain rfl : t = q := by omega
                have HF : Hid (checkR b = 0) := by
                  show _ = _
                  unfold checkR
                  rw [if_neg (by rw [H1.out]; simp), if_neg (by rw [H2.out]; simp), if_neg (by rw [HR.out]; simp), if_neg (by rw [HTT.out]; omega), if_neg (by rw [HTT.out, HFL.out]; simp)]
                have HW : Hid (Pure w wr) := hP2.out.trans HPr.out
                go_wp2_with fail
                exact bodyPost_ret (v := .int .i64 0) (by simp [results, Tryd.results24, go_sem]) rfl ⟨by rw [HF.out], HW.out⟩
          · have HF : Hid (checkR b = 6) := by
              show _ = _
              unfold checkR
              rw [if_neg (by rw [H1.out]; simp), if_neg (by rw [H2.out]; simp), if_neg (by rw [HR.out]; simp), if_pos (by omega)]
            have hti : 12 < (t : Int) := by omega
            clear ht hu
            go_wp2
            go_ret
            exact ⟨by rw [HF.out]; rfl, hP1.out⟩
    · have HF : Hid (checkR b = 6) := by
        show _ = _
        have hz : (wIn 1 6 b.lots && decide (b.n ≤ 4)) = false := by
          rw [Bool.eq_false_iff]
          intro h
          simp only [wIn, Bool.and_eq_true, decide_eq_true_eq] at h
          exact hl ⟨⟨h.1.1, h.1.2⟩, by omega⟩
        unfold checkR
        rw [if_neg (by rw [H1.out]; simp), if_pos hz]
      go_wp2 <;> (go_ret; exact ⟨by rw [HF.out]; rfl, hP1.out⟩)
end Go.Proofs.YtmedkmbfggphdaaDoor
