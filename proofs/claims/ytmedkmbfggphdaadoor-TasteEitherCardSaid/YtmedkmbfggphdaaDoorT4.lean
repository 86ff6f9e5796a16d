/- TasteTruths: the least truth and the greatest one are what the reference says. The walk of the law, for any book in memory. -/
import Derived.Test.YtmedkmbfggphdaaDoorT0
import Derived.Test.YtmedkmbfggphdaaDoorJ3
set_option linter.unusedSimpArgs false
set_option linter.unusedVariables false
set_option linter.constructorNameAsVariable false
namespace Go.Proofs.YtmedkmbfggphdaaDoor
open Go.RowKit

/-- Two lists of numbers and an error. -/
def TrQ (E : Int) (n m : Nat) (f g : Nat → Int) (e : Ending) (w' : World) : Prop :=
  ∃ q c q' c', e = .returned (.tuple #[.slice q n c, .slice q' m c', .int .i64 E]) ∧ Row w'.heap.size w' q n (fun k => .int .i64 (f k)) ∧ Row w'.heap.size w' q' m (fun k => .int .i64 (g k))
def trE (b : BK) : Int := if checkB b ≠ 0 then checkB b else if noneB b.es = true then 17 else 0
def trN (b : BK) : Nat := if trE b = 0 then b.lots.toNat else 0
def trM (b : BK) : Nat := if trE b = 0 then b.total else 0
theorem trE_bad {b : BK} (h : checkB b ≠ 0) : trE b = checkB b ∧ trN b = 0 ∧ trM b = 0 := by
  have e : trE b = checkB b := by unfold trE; rw [if_pos h]
  exact ⟨e, by unfold trN; rw [e, if_neg h], by unfold trM; rw [e, if_neg h]⟩
theorem trE_none {b : BK} (h : ¬ checkB b ≠ 0) (hn : noneB b.es = true) : trE b = 17 ∧ trN b = 0 ∧ trM b = 0 := by
  have e : trE b = 17 := by unfold trE; rw [if_neg h, if_pos hn]
  exact ⟨e, by unfold trN; rw [e]; rfl, by unfold trM; rw [e]; rfl⟩
theorem trE_ok {b : BK} (h : ¬ checkB b ≠ 0) (hn : ¬ noneB b.es = true) : trE b = 0 ∧ trN b = b.lots.toNat ∧ trM b = b.total := by
  have e : trE b = 0 := by unfold trE; rw [if_neg h, if_neg hn]
  exact ⟨e, by unfold trN; rw [e]; rfl, by unfold trM; rw [e]; rfl⟩
theorem tr_small (b : BK) : trN b ≤ 6 ∧ trM b ≤ 12 := by
  by_cases h : checkB b ≠ 0
  · obtain ⟨_, e1, e2⟩ := trE_bad h; omega
  · by_cases hn : noneB b.es = true
    · obtain ⟨_, e1, e2⟩ := trE_none h hn; omega
    · obtain ⟨_, e1, e2⟩ := trE_ok h hn
      have hv := checkB_valid (b := b) (by omega)
      have := hv.lots6
      have := hv.tot
      omega
theorem row_none (B : Nat) (w : World) (f : Nat → Value) : Row B w none 0 f := fun k hk => by omega
theorem TrQ.of_truth {b : BK} {pick : Int → Int → Int} {w : World} {e : Ending} {w' : World} (h : truthQ b pick w e w') :
    TrQ (trE b) (trN b) (trM b) (fun j => pickT b.T pick (1 + j)) (fun j => pickT b.T pick (1 + b.lots.toNat + j)) e w' := by
  unfold truthQ at h
  split at h
  · rename_i hc
    obtain ⟨e1, e2, e3⟩ := trE_bad hc
    rw [e1, e2, e3]
    exact ⟨none, 0, none, 0, h, row_none _ _ _, row_none _ _ _⟩
  · rename_i hc
    split at h
    · rename_i hn
      obtain ⟨e1, e2, e3⟩ := trE_none hc hn
      rw [e1, e2, e3]
      exact ⟨none, 0, none, 0, h, row_none _ _ _, row_none _ _ _⟩
    · rename_i hn
      obtain ⟨e1, e2, e3⟩ := trE_ok hc hn
      rw [e1, e2, e3]
      obtain ⟨g1, g2, L, hL, h1, h2, he, r1, r2⟩ := h
      have hL' : b.lots.toNat = L := by omega
      rw [hL']
      exact ⟨_, _, _, _, he, fun k hk => ⟨g1, 0, rfl, r1.lt, by rw [Nat.zero_add]; exact r1.cell hk⟩, fun k hk => ⟨g2, 0, rfl, r2.lt, by rw [Nat.zero_add]; exact r2.cell hk⟩⟩
theorem TrQ.of_end {b : BK} {gr : Bool} {w : World} {e : Ending} {w' : World} (h : endQ b gr w e w') :
    TrQ (trE b) (trN b) (trM b) (fun j => endV b gr (1 + j)) (fun j => endV b gr (1 + b.lots.toNat + j)) e w' := by
  unfold endQ at h
  split at h
  · rename_i hc
    obtain ⟨e1, e2, e3⟩ := trE_bad hc
    rw [e1, e2, e3]
    exact ⟨none, 0, none, 0, h, row_none _ _ _, row_none _ _ _⟩
  · rename_i hc
    split at h
    · rename_i hn
      obtain ⟨e1, e2, e3⟩ := trE_none hc hn
      rw [e1, e2, e3]
      exact ⟨none, 0, none, 0, h, row_none _ _ _, row_none _ _ _⟩
    · rename_i hn
      obtain ⟨e1, e2, e3⟩ := trE_ok hc hn
      rw [e1, e2, e3]
      obtain ⟨L, u, v, hL, he, r1, r2⟩ := h
      have hL' : b.lots.toNat = L := by omega
      rw [hL']
      obtain ⟨q, c, rfl, h1⟩ := row_of_own r1
      obtain ⟨q', c', rfl, h2⟩ := row_of_own r2
      exact ⟨_, _, _, _, he, h1, h2⟩
theorem pick_lo (b : BK) (x : Nat) : pickT b.T pickLo x = endV b false x := by
  unfold pickT endV pickLo
  rw [show ix x 0 = x * 19 by simp [ix], cond_false]
theorem pick_hi (b : BK) (x : Nat) : pickT b.T pickHi x = endV b true x := by
  unfold pickT endV pickHi
  rw [show ix 0 x = x by simp [ix], cond_true]

set_option maxRecDepth 20000 in
set_option maxHeartbeats 8000000 in
theorem Truths_any (w : World) (b : BK) (p : Option Addr) (cap : Nat) (hb : BookAt w.heap.size w p b) (hg : Gl w) :
    Calls Tryd.prog 4 #[bookV b p cap] w fun e w' => e = .returned (.bool true) ∧ Pure w w' := by
  have HB := Lib.hid hb
  have HG := Lib.hid hg
  clear hb hg
  go_enter Tryd.func4, Tryd.ntmps4
  go_wp2_with fail
  obtain ⟨X, hX⟩ : ∃ X, w.alloc (.cells (bookC b p cap) 26) = X := ⟨_, rfl⟩
  have hP : Hid (Pure w X) := by rw [← hX]; exact (Diff.refl w).alloc _
  have hX1 : BoxB w.heap.size b p cap X := by rw [← hX]; exact BoxB.new w b p cap 26
  obtain ⟨g0, hg0⟩ : ∃ g, w.heap.size = g := ⟨_, rfl⟩
  rw [hX]
  rw [hg0] at hX1 ⊢
  clear hX hg0
  have H0 := Lib.hid hX1
  obtain ⟨c0, c1, c2, c3, cl⟩ := hX1
  refine (great_any X b p cap (HB.out.to hP.out)).mono ?_
  rintro e w1 ⟨rfl, hp1⟩
  have hP1 : Hid (Pure w w1) := hP.out.trans hp1
  have H1 := Lib.hid (H0.out.pure hp1)
  clear c0 c1 c2 c3 cl hp1 hP H0
  obtain ⟨c0, c1, c2, c3, cl⟩ := H1.out
  cases hgr : hugeB b with
  | true =>
    go_wp2_with fail
    refine (Works_any w1 (HG.out.to hP1.out)).mono ?_
    rintro e w2 ⟨rfl, hp2⟩
    have hP2 : Hid (Pure w w2) := hP1.out.trans hp2
    clear hp2
    go_wp2_with fail
    exact bodyPost_ret (v := .bool true) (by simp [results, Tryd.results4, go_sem]) rfl ⟨rfl, hP2.out⟩
  | false =>
    have hs := small_of_huge hgr
    go_wp2_with fail
    refine (twinBook_any w1 b p cap hs (HB.out.to hP1.out)).mono ?_
    rintro e w2 ⟨p', cap', rfl, hb2, hp2⟩
    have hP2 : Hid (Pure w w2) := hP1.out.trans hp2
    have H2 := Lib.hid (H1.out.pure hp2)
    have HT := Lib.hid hb2
    clear c0 c1 c2 c3 cl hp2 hP1 H1 hb2
    obtain ⟨c0, c1, c2, c3, cl⟩ := H2.out
    go_wp2_with fail
    clear c0 c1 c2 c3 cl
    obtain ⟨w3, hw3⟩ : ∃ w3, w2.alloc (.cells (bookC b p' cap') 26) = w3 := ⟨_, rfl⟩
    have hp : Pure w2 w3 := by rw [← hw3]; exact (Diff.refl w2).alloc _
    have hC : BoxB w2.heap.size b p' cap' w3 := by rw [← hw3]; exact BoxB.new w2 b p' cap' 26
    obtain ⟨g1, hg1⟩ : ∃ g, w2.heap.size = g := ⟨_, rfl⟩
    rw [hw3]
    rw [hg1] at hC ⊢
    have hP3 : Hid (Pure w w3) := hP2.out.trans hp
    have HA3 := Lib.hid (H2.out.pure hp)
    have HC3 := Lib.hid hC
    have HB3 := Lib.hid (HB.out.to hP3.out)
    have HG3 := Lib.hid (HG.out.to hP3.out)
    have HT3 := Lib.hid (HT.out.to hp)
    have hsm := tr_small b
    have hn := hsm.1
    have hm := hsm.2
    clear hw3 hg1 hp hC H2 HT HB HG hP2 hsm
    obtain ⟨za0, za1, za2, za3, zal⟩ := HA3.out
    obtain ⟨zc0, zc1, zc2, zc3, zcl⟩ := HC3.out
    refine (Least_any w3 b p' cap' hs HT3.out HG3.out).mono ?_
    rintro e w4 ⟨hq, hp⟩
    obtain ⟨p0, c0, q0, d0, rfl, hr0a, hr0b⟩ := TrQ.of_truth hq
    have hP4 : Hid (Pure w w4) := hP3.out.trans hp
    have HA4 := Lib.hid (HA3.out.pure hp)
    have HC4 := Lib.hid (HC3.out.pure hp)
    have HB4 := Lib.hid (HB3.out.to hp)
    have HT4 := Lib.hid (HT3.out.to hp)
    have HG4 := Lib.hid (HG3.out.to hp)
    have R0a4 := Lib.hid (hr0a)
    have R0b4 := Lib.hid (hr0b)
    clear hp hP3 HA3 HC3 za0 za1 za2 za3 zal zc0 zc1 zc2 zc3 zcl HB3 HT3 HG3
    obtain ⟨za0, za1, za2, za3, zal⟩ := HA4.out
    obtain ⟨zc0, zc1, zc2, zc3, zcl⟩ := HC4.out
    clear hq hr0a hr0b
    go_wp2_with fail
    refine (RLeast_any w4 b p cap hs HB4.out).mono ?_
    rintro e w5 ⟨hq, hp⟩
    obtain ⟨p1, c1, q1, d1, rfl, hr1a, hr1b⟩ := TrQ.of_end hq
    have hP5 : Hid (Pure w w5) := hP4.out.trans hp
    have HA5 := Lib.hid (HA4.out.pure hp)
    have HC5 := Lib.hid (HC4.out.pure hp)
    have HB5 := Lib.hid (HB4.out.to hp)
    have HT5 := Lib.hid (HT4.out.to hp)
    have HG5 := Lib.hid (HG4.out.to hp)
    have R0a5 := Lib.hid (R0a4.out.to hp)
    have R0b5 := Lib.hid (R0b4.out.to hp)
    have R1a5 := Lib.hid (hr1a)
    have R1b5 := Lib.hid (hr1b)
    clear hp hP4 HA4 HC4 za0 za1 za2 za3 zal zc0 zc1 zc2 zc3 zcl HB4 HT4 HG4 R0a4 R0b4
    obtain ⟨za0, za1, za2, za3, zal⟩ := HA5.out
    obtain ⟨zc0, zc1, zc2, zc3, zcl⟩ := HC5.out
    clear hq hr1a hr1b
    go_wp2_with fail
    refine (Greatest_any w5 b p' cap' hs HT5.out HG5.out).mono ?_
    rintro e w6 ⟨hq, hp⟩
    obtain ⟨p2, c2, q2, d2, rfl, hr2a, hr2b⟩ := TrQ.of_truth hq
    have hP6 : Hid (Pure w w6) := hP5.out.trans hp
    have HA6 := Lib.hid (HA5.out.pure hp)
    have HC6 := Lib.hid (HC5.out.pure hp)
    have HB6 := Lib.hid (HB5.out.to hp)
    have HT6 := Lib.hid (HT5.out.to hp)
    have HG6 := Lib.hid (HG5.out.to hp)
    have R0a6 := Lib.hid (R0a5.out.to hp)
    have R0b6 := Lib.hid (R0b5.out.to hp)
    have R1a6 := Lib.hid (R1a5.out.to hp)
    have R1b6 := Lib.hid (R1b5.out.to hp)
    have R2a6 := Lib.hid (hr2a)
    have R2b6 := Lib.hid (hr2b)
    clear hp hP5 HA5 HC5 za0 za1 za2 za3 zal zc0 zc1 zc2 zc3 zcl HB5 HT5 HG5 R0a5 R0b5 R1a5 R1b5
    obtain ⟨za0, za1, za2, za3, zal⟩ := HA6.out
    obtain ⟨zc0, zc1, zc2, zc3, zcl⟩ := HC6.out
    clear hq hr2a hr2b
    go_wp2_with fail
    refine (RGreatest_any w6 b p cap hs HB6.out).mono ?_
    rintro e w7 ⟨hq, hp⟩
    obtain ⟨p3, c3, q3, d3, rfl, hr3a, hr3b⟩ := TrQ.of_end hq
    have hP7 : Hid (Pure w w7) := hP6.out.trans hp
    have HA7 := Lib.hid (HA6.out.pure hp)
    have HC7 := Lib.hid (HC6.out.pure hp)
    have HB7 := Lib.hid (HB6.out.to hp)
    have HT7 := Lib.hid (HT6.out.to hp)
    have HG7 := Lib.hid (HG6.out.to hp)
    have R0a7 := Lib.hid (R0a6.out.to hp)
    have R0b7 := Lib.hid (R0b6.out.to hp)
    have R1a7 := Lib.hid (R1a6.out.to hp)
    have R1b7 := Lib.hid (R1b6.out.to hp)
    have R2a7 := Lib.hid (R2a6.out.to hp)
    have R2b7 := Lib.hid (R2b6.out.to hp)
    have R3a7 := Lib.hid (hr3a)
    have R3b7 := Lib.hid (hr3b)
    clear hp hP6 HA6 HC6 za0 za1 za2 za3 zal zc0 zc1 zc2 zc3 zcl HB6 HT6 HG6 R0a6 R0b6 R1a6 R1b6 R2a6 R2b6
    obtain ⟨za0, za1, za2, za3, zal⟩ := HA7.out
    obtain ⟨zc0, zc1, zc2, zc3, zcl⟩ := HC7.out
    clear hq hr3a hr3b
    go_wp2_with fail
    refine (Longs_same w7 p0 p1 (trN b) c0 c1 _ _ (by omega) (fun k _ => pick_lo b _) R0a7.out R1a7.out).mono ?_
    rintro e w8 ⟨rfl, hp⟩
    have hP8 : Hid (Pure w w8) := hP7.out.trans hp
    have HA8 := Lib.hid (HA7.out.pure hp)
    have HC8 := Lib.hid (HC7.out.pure hp)
    have HB8 := Lib.hid (HB7.out.to hp)
    have HT8 := Lib.hid (HT7.out.to hp)
    have HG8 := Lib.hid (HG7.out.to hp)
    have R0a8 := Lib.hid (R0a7.out.to hp)
    have R0b8 := Lib.hid (R0b7.out.to hp)
    have R1a8 := Lib.hid (R1a7.out.to hp)
    have R1b8 := Lib.hid (R1b7.out.to hp)
    have R2a8 := Lib.hid (R2a7.out.to hp)
    have R2b8 := Lib.hid (R2b7.out.to hp)
    have R3a8 := Lib.hid (R3a7.out.to hp)
    have R3b8 := Lib.hid (R3b7.out.to hp)
    clear hp hP7 HA7 HC7 za0 za1 za2 za3 zal zc0 zc1 zc2 zc3 zcl HB7 HT7 HG7 R0a7 R0b7 R1a7 R1b7 R2a7 R2b7 R3a7 R3b7
    obtain ⟨za0, za1, za2, za3, zal⟩ := HA8.out
    obtain ⟨zc0, zc1, zc2, zc3, zcl⟩ := HC8.out
    go_wp2_with fail
    refine (Longs_same w8 q0 q1 (trM b) d0 d1 _ _ (by omega) (fun k _ => pick_lo b _) R0b8.out R1b8.out).mono ?_
    rintro e w9 ⟨rfl, hp⟩
    have hP9 : Hid (Pure w w9) := hP8.out.trans hp
    have HA9 := Lib.hid (HA8.out.pure hp)
    have HC9 := Lib.hid (HC8.out.pure hp)
    have HB9 := Lib.hid (HB8.out.to hp)
    have HT9 := Lib.hid (HT8.out.to hp)
    have HG9 := Lib.hid (HG8.out.to hp)
    have R0a9 := Lib.hid (R0a8.out.to hp)
    have R0b9 := Lib.hid (R0b8.out.to hp)
    have R1a9 := Lib.hid (R1a8.out.to hp)
    have R1b9 := Lib.hid (R1b8.out.to hp)
    have R2a9 := Lib.hid (R2a8.out.to hp)
    have R2b9 := Lib.hid (R2b8.out.to hp)
    have R3a9 := Lib.hid (R3a8.out.to hp)
    have R3b9 := Lib.hid (R3b8.out.to hp)
    clear hp hP8 HA8 HC8 za0 za1 za2 za3 zal zc0 zc1 zc2 zc3 zcl HB8 HT8 HG8 R0a8 R0b8 R1a8 R1b8 R2a8 R2b8 R3a8 R3b8
    obtain ⟨za0, za1, za2, za3, zal⟩ := HA9.out
    obtain ⟨zc0, zc1, zc2, zc3, zcl⟩ := HC9.out
    go_wp2_with fail
    refine (Longs_same w9 p2 p3 (trN b) c2 c3 _ _ (by omega) (fun k _ => pick_hi b _) R2a9.out R3a9.out).mono ?_
    rintro e w10 ⟨rfl, hp⟩
    have hP10 : Hid (Pure w w10) := hP9.out.trans hp
    have HA10 := Lib.hid (HA9.out.pure hp)
    have HC10 := Lib.hid (HC9.out.pure hp)
    have HB10 := Lib.hid (HB9.out.to hp)
    have HT10 := Lib.hid (HT9.out.to hp)
    have HG10 := Lib.hid (HG9.out.to hp)
    have R0a10 := Lib.hid (R0a9.out.to hp)
    have R0b10 := Lib.hid (R0b9.out.to hp)
    have R1a10 := Lib.hid (R1a9.out.to hp)
    have R1b10 := Lib.hid (R1b9.out.to hp)
    have R2a10 := Lib.hid (R2a9.out.to hp)
    have R2b10 := Lib.hid (R2b9.out.to hp)
    have R3a10 := Lib.hid (R3a9.out.to hp)
    have R3b10 := Lib.hid (R3b9.out.to hp)
    clear hp hP9 HA9 HC9 za0 za1 za2 za3 zal zc0 zc1 zc2 zc3 zcl HB9 HT9 HG9 R0a9 R0b9 R1a9 R1b9 R2a9 R2b9 R3a9 R3b9
    obtain ⟨za0, za1, za2, za3, zal⟩ := HA10.out
    obtain ⟨zc0, zc1, zc2, zc3, zcl⟩ := HC10.out
    go_wp2_with fail
    refine (Longs_same w10 q2 q3 (trM b) d2 d3 _ _ (by omega) (fun k _ => pick_hi b _) R2b10.out R3b10.out).mono ?_
    rintro e w11 ⟨rfl, hp⟩
    have hP11 : Hid (Pure w w11) := hP10.out.trans hp
    have HA11 := Lib.hid (HA10.out.pure hp)
    have HC11 := Lib.hid (HC10.out.pure hp)
    have HB11 := Lib.hid (HB10.out.to hp)
    have HT11 := Lib.hid (HT10.out.to hp)
    have HG11 := Lib.hid (HG10.out.to hp)
    have R0a11 := Lib.hid (R0a10.out.to hp)
    have R0b11 := Lib.hid (R0b10.out.to hp)
    have R1a11 := Lib.hid (R1a10.out.to hp)
    have R1b11 := Lib.hid (R1b10.out.to hp)
    have R2a11 := Lib.hid (R2a10.out.to hp)
    have R2b11 := Lib.hid (R2b10.out.to hp)
    have R3a11 := Lib.hid (R3a10.out.to hp)
    have R3b11 := Lib.hid (R3b10.out.to hp)
    clear hp hP10 HA10 HC10 za0 za1 za2 za3 zal zc0 zc1 zc2 zc3 zcl HB10 HT10 HG10 R0a10 R0b10 R1a10 R1b10 R2a10 R2b10 R3a10 R3b10
    obtain ⟨za0, za1, za2, za3, zal⟩ := HA11.out
    obtain ⟨zc0, zc1, zc2, zc3, zcl⟩ := HC11.out
    go_wp2_with fail
    refine (alikeBook_any w11 b p' p cap' cap hs HT11.out HB11.out).mono ?_
    rintro e w12 ⟨rfl, hp⟩
    have hP12 : Hid (Pure w w12) := hP11.out.trans hp
    have HA12 := Lib.hid (HA11.out.pure hp)
    have HC12 := Lib.hid (HC11.out.pure hp)
    have HB12 := Lib.hid (HB11.out.to hp)
    have HT12 := Lib.hid (HT11.out.to hp)
    have HG12 := Lib.hid (HG11.out.to hp)
    have R0a12 := Lib.hid (R0a11.out.to hp)
    have R0b12 := Lib.hid (R0b11.out.to hp)
    have R1a12 := Lib.hid (R1a11.out.to hp)
    have R1b12 := Lib.hid (R1b11.out.to hp)
    have R2a12 := Lib.hid (R2a11.out.to hp)
    have R2b12 := Lib.hid (R2b11.out.to hp)
    have R3a12 := Lib.hid (R3a11.out.to hp)
    have R3b12 := Lib.hid (R3b11.out.to hp)
    clear hp hP11 HA11 HC11 za0 za1 za2 za3 zal zc0 zc1 zc2 zc3 zcl HB11 HT11 HG11 R0a11 R0b11 R1a11 R1b11 R2a11 R2b11 R3a11 R3b11
    obtain ⟨za0, za1, za2, za3, zal⟩ := HA12.out
    obtain ⟨zc0, zc1, zc2, zc3, zcl⟩ := HC12.out
    go_wp2_with fail
    refine (Works_any w12 HG12.out).mono ?_
    rintro e w13 ⟨rfl, hp⟩
    have hP13 : Hid (Pure w w13) := hP12.out.trans hp
    have HA13 := Lib.hid (HA12.out.pure hp)
    have HC13 := Lib.hid (HC12.out.pure hp)
    have HB13 := Lib.hid (HB12.out.to hp)
    have HT13 := Lib.hid (HT12.out.to hp)
    have HG13 := Lib.hid (HG12.out.to hp)
    have R0a13 := Lib.hid (R0a12.out.to hp)
    have R0b13 := Lib.hid (R0b12.out.to hp)
    have R1a13 := Lib.hid (R1a12.out.to hp)
    have R1b13 := Lib.hid (R1b12.out.to hp)
    have R2a13 := Lib.hid (R2a12.out.to hp)
    have R2b13 := Lib.hid (R2b12.out.to hp)
    have R3a13 := Lib.hid (R3a12.out.to hp)
    have R3b13 := Lib.hid (R3b12.out.to hp)
    clear hp hP12 HA12 HC12 za0 za1 za2 za3 zal zc0 zc1 zc2 zc3 zcl HB12 HT12 HG12 R0a12 R0b12 R1a12 R1b12 R2a12 R2b12 R3a12 R3b12
    obtain ⟨za0, za1, za2, za3, zal⟩ := HA13.out
    obtain ⟨zc0, zc1, zc2, zc3, zcl⟩ := HC13.out
    go_wp2_with fail
    exact bodyPost_ret (v := .bool true) (by simp [results, Tryd.results4, go_sem]) rfl ⟨rfl, hP13.out⟩
end Go.Proofs.YtmedkmbfggphdaaDoor
