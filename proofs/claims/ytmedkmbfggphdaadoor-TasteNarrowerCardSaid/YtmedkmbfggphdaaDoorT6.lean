/- TasteRounds: by how much a round proves is what the reference says; the round that is returned proves. The walk of the law, for any book in memory and any list of names. -/
import Derived.Test.YtmedkmbfggphdaaDoorH5
import Derived.Test.YtmedkmbfggphdaaDoorJ2
import Derived.Test.YtmedkmbfggphdaaDoorT7
set_option linter.unusedSimpArgs false
set_option linter.unusedVariables false
set_option linter.constructorNameAsVariable false
namespace Go.Proofs.YtmedkmbfggphdaaDoor
open Go.RowKit

/-- What Round answers, in one form. -/
def RoQ (b : BK) (e : Ending) (w' : World) : Prop :=
  ∃ q c l, e = .returned (.tuple #[.slice q (l : List Int).length c, .int .i64 (reB b)]) ∧ Row w'.heap.size w' q l.length (fun k => .int .i64 (nthI l k)) ∧ l.length ≤ 19 ∧ (reB b ≠ 0 → l = []) ∧ (reB b = 0 → ∃ m, 0 < m ∧ roundC b (nthI l) l.length = (m, 0))
theorem checkB_ne5 (b : BK) : checkB b ≠ 5 := by have := checkB_cases b; omega
theorem RoQ.of {b : BK} {w : World} {e : Ending} {w' : World} (h : roundQ b w e w') : RoQ b e w' := by
  unfold roundQ at h
  unfold RoQ reB
  split at h
  · rename_i hc
    rw [if_pos hc]
    exact ⟨none, 0, [], h, fun k hk => by simp at hk, by simp, fun _ => rfl, fun h0 => absurd h0 hc⟩
  · rename_i hc
    rw [if_neg hc]
    split at h
    · rename_i hn
      rw [if_pos hn]
      exact ⟨none, 0, [], h, fun k hk => by simp at hk, by simp, fun _ => rfl, fun h0 => by omega⟩
    · rename_i hn
      rw [if_neg hn]
      obtain ⟨v, r, hr, hl, rfl, ho⟩ := h
      obtain ⟨q, c, rfl, hrow⟩ := row_of_vals ho
      exact ⟨q, c, r, rfl, hrow, hl, fun h0 => absurd rfl h0, fun _ => rd_ok (by omega) hr⟩

set_option maxRecDepth 20000 in
set_option maxHeartbeats 8000000 in
theorem Rounds_any (w : World) (b : BK) (p : Option Addr) (cap : Nat) (rq : Option Addr) (n rc : Nat) (f : Nat → Int) (hb : BookAt w.heap.size w p b) (hr : Row w.heap.size w rq n fun k => .int .i64 (f k)) (hg : Gl w) :
    Calls Tryd.prog 6 #[bookV b p cap, .slice rq n rc] w fun e w' => e = .returned (.bool true) ∧ Pure w w' := by
  have HR := Lib.hid hr
  clear hr
  have HB := Lib.hid hb
  have HG := Lib.hid hg
  clear hb hg
  go_enter Tryd.func6, Tryd.ntmps6
  go_wp2_with fail
  obtain ⟨X, hX⟩ : ∃ X, w.alloc (.cells (bookC b p cap) 26) = X := ⟨_, rfl⟩
  have hP : Hid (Pure w X) := by rw [← hX]; exact (Diff.refl w).alloc _
  have hX1 : BoxB w.heap.size b p cap X := by rw [← hX]; exact BoxB.new w b p cap 26
  obtain ⟨g0, hg0⟩ : ∃ g, w.heap.size = g := ⟨_, rfl⟩
  rw [hX]
  rw [hg0] at hX1 ⊢
  clear hX hg0
  have H0 := Lib.hid hX1
  obtain ⟨c0, c1, c2, c3, cl⟩ := hX1
  refine (great_any X b p cap (HB.out.to hP.out)).mono ?_
  rintro e w1 ⟨rfl, hp1⟩
  have hP1 : Hid (Pure w w1) := hP.out.trans hp1
  have H1 := Lib.hid (H0.out.pure hp1)
  clear c0 c1 c2 c3 cl hp1 hP H0
  obtain ⟨c0, c1, c2, c3, cl⟩ := H1.out
  cases hgr : hugeB b with
  | true =>
    go_wp2_with fail
    refine (Works_any w1 (HG.out.to hP1.out)).mono ?_
    rintro e w2 ⟨rfl, hp2⟩
    have hP2 : Hid (Pure w w2) := hP1.out.trans hp2
    clear hp2
    go_wp2_with fail
    exact bodyPost_ret (v := .bool true) (by simp [results, Tryd.results6, go_sem]) rfl ⟨rfl, hP2.out⟩
  | false =>
    by_cases h30 : 30 < n
    · have h30i : 30 < (n : Int) := by omega
      go_wp2_with fail
      refine (Works_any w1 (HG.out.to hP1.out)).mono ?_
      rintro e w2 ⟨rfl, hp2⟩
      have hP2 : Hid (Pure w w2) := hP1.out.trans hp2
      clear hp2
      go_wp2_with fail
      exact bodyPost_ret (v := .bool true) (by simp [results, Tryd.results6, go_sem]) rfl ⟨rfl, hP2.out⟩
    have h30i : ¬ 30 < (n : Int) := by omega
    have hs := small_of_huge hgr
    go_wp2_with fail
    refine (twinBook_any w1 b p cap hs (HB.out.to hP1.out)).mono ?_
    rintro e w2 ⟨p', cap', rfl, hb2, hp2⟩
    have hP2 : Hid (Pure w w2) := hP1.out.trans hp2
    have H2 := Lib.hid (H1.out.pure hp2)
    have HT := Lib.hid hb2
    clear c0 c1 c2 c3 cl hp2 hP1 H1 hb2
    obtain ⟨c0, c1, c2, c3, cl⟩ := H2.out
    go_wp2_with fail
    clear c0 c1 c2 c3 cl
    obtain ⟨w3, hw3⟩ : ∃ w3, w2.alloc (.cells (bookC b p' cap') 26) = w3 := ⟨_, rfl⟩
    have hp : Pure w2 w3 := by rw [← hw3]; exact (Diff.refl w2).alloc _
    have hC : BoxB w2.heap.size b p' cap' w3 := by rw [← hw3]; exact BoxB.new w2 b p' cap' 26
    obtain ⟨g1, hg1⟩ : ∃ g, w2.heap.size = g := ⟨_, rfl⟩
    rw [hw3]
    rw [hg1] at hC ⊢
    have hP3 : Hid (Pure w w3) := hP2.out.trans hp
    have HA3 := Lib.hid (H2.out.pure hp)
    have HC3 := Lib.hid hC
    have HB3 := Lib.hid (HB.out.to hP3.out)
    have HG3 := Lib.hid (HG.out.to hP3.out)
    have HT3 := Lib.hid (HT.out.to hp)
    have HR3 := Lib.hid (HR.out.to hP3.out)
    clear hw3 hg1 hp hC H2 HT HB HG hP2 HR
    obtain ⟨za0, za1, za2, za3, zal⟩ := HA3.out
    obtain ⟨zc0, zc1, zc2, zc3, zcl⟩ := HC3.out
    have hn30 : n ≤ 30 := by omega
    refine (twinInts_any w3 rq n rc f (by omega) HR3.out).mono ?_
    rintro e w4 ⟨rq', rc', rfl, hro, hp⟩
    have hP4 : Hid (Pure w w4) := hP3.out.trans hp
    have HA4 := Lib.hid (HA3.out.pure hp)
    have HC4 := Lib.hid (HC3.out.pure hp)
    have HB4 := Lib.hid (HB3.out.to hp)
    have HT4 := Lib.hid (HT3.out.to hp)
    have HG4 := Lib.hid (HG3.out.to hp)
    have HR4 := Lib.hid (HR3.out.to hp)
    have HO4 := Lib.hid (hro)
    clear hp hP3 HA3 HC3 za0 za1 za2 za3 zal zc0 zc1 zc2 zc3 zcl HB3 HT3 HG3 HR3
    obtain ⟨za0, za1, za2, za3, zal⟩ := HA4.out
    obtain ⟨zc0, zc1, zc2, zc3, zcl⟩ := HC4.out
    clear hro
    go_wp2_with fail
    refine (CheckRound_any w4 b p' rq' cap' n rc' f hs HT4.out HG4.out (by omega) HO4.out).mono ?_
    rintro e w5 ⟨rfl, hp⟩
    have hP5 : Hid (Pure w w5) := hP4.out.trans hp
    have HA5 := Lib.hid (HA4.out.pure hp)
    have HC5 := Lib.hid (HC4.out.pure hp)
    have HB5 := Lib.hid (HB4.out.to hp)
    have HT5 := Lib.hid (HT4.out.to hp)
    have HG5 := Lib.hid (HG4.out.to hp)
    have HR5 := Lib.hid (HR4.out.to hp)
    have HO5 := Lib.hid (HO4.out.to hp)
    clear hp hP4 HA4 HC4 za0 za1 za2 za3 zal zc0 zc1 zc2 zc3 zcl HB4 HT4 HG4 HR4 HO4
    obtain ⟨za0, za1, za2, za3, zal⟩ := HA5.out
    obtain ⟨zc0, zc1, zc2, zc3, zcl⟩ := HC5.out
    go_wp2_with fail
    refine (RCheckRound_any w5 b p rq cap n rc f hs HB5.out (by omega) HR5.out).mono ?_
    rintro e w6 ⟨rfl, hp⟩
    have hP6 : Hid (Pure w w6) := hP5.out.trans hp
    have HA6 := Lib.hid (HA5.out.pure hp)
    have HC6 := Lib.hid (HC5.out.pure hp)
    have HB6 := Lib.hid (HB5.out.to hp)
    have HT6 := Lib.hid (HT5.out.to hp)
    have HG6 := Lib.hid (HG5.out.to hp)
    have HR6 := Lib.hid (HR5.out.to hp)
    have HO6 := Lib.hid (HO5.out.to hp)
    clear hp hP5 HA5 HC5 za0 za1 za2 za3 zal zc0 zc1 zc2 zc3 zcl HB5 HT5 HG5 HR5 HO5
    obtain ⟨za0, za1, za2, za3, zal⟩ := HA6.out
    obtain ⟨zc0, zc1, zc2, zc3, zcl⟩ := HC6.out
    go_wp2_with fail
    refine (Round_any w6 b p' cap' hs HT6.out HG6.out).mono ?_
    rintro e w7 ⟨hq, hp⟩
    obtain ⟨lq, lc, l, rfl, hrl, hl19, hbad, hok⟩ := RoQ.of hq
    have HBAD := Lib.hid hbad
    have HOK := Lib.hid hok
    have hP7 : Hid (Pure w w7) := hP6.out.trans hp
    have HA7 := Lib.hid (HA6.out.pure hp)
    have HC7 := Lib.hid (HC6.out.pure hp)
    have HB7 := Lib.hid (HB6.out.to hp)
    have HT7 := Lib.hid (HT6.out.to hp)
    have HG7 := Lib.hid (HG6.out.to hp)
    have HR7 := Lib.hid (HR6.out.to hp)
    have HO7 := Lib.hid (HO6.out.to hp)
    have HL7 := Lib.hid (hrl)
    clear hp hP6 HA6 HC6 za0 za1 za2 za3 zal zc0 zc1 zc2 zc3 zcl HB6 HT6 HG6 HR6 HO6
    obtain ⟨za0, za1, za2, za3, zal⟩ := HA7.out
    obtain ⟨zc0, zc1, zc2, zc3, zcl⟩ := HC7.out
    clear hrl hbad hok
    go_wp2_with fail
    refine (RoundError_any w7 b p cap hs HB7.out).mono ?_
    rintro e w8 ⟨rfl, hp⟩
    have hP8 : Hid (Pure w w8) := hP7.out.trans hp
    have HA8 := Lib.hid (HA7.out.pure hp)
    have HC8 := Lib.hid (HC7.out.pure hp)
    have HB8 := Lib.hid (HB7.out.to hp)
    have HT8 := Lib.hid (HT7.out.to hp)
    have HG8 := Lib.hid (HG7.out.to hp)
    have HR8 := Lib.hid (HR7.out.to hp)
    have HO8 := Lib.hid (HO7.out.to hp)
    have HL8 := Lib.hid (HL7.out.to hp)
    clear hp hP7 HA7 HC7 za0 za1 za2 za3 zal zc0 zc1 zc2 zc3 zcl HB7 HT7 HG7 HR7 HO7 HL7
    obtain ⟨za0, za1, za2, za3, zal⟩ := HA8.out
    obtain ⟨zc0, zc1, zc2, zc3, zcl⟩ := HC8.out
    obtain ⟨E, hE⟩ : ∃ E, reB b = E := ⟨_, rfl⟩
    rw [hE] at HBAD HOK ⊢
    obtain ⟨r1, hr1⟩ : ∃ r, (roundC b f n).1 = r := ⟨_, rfl⟩
    obtain ⟨r2, hr2⟩ : ∃ r, (roundC b f n).2 = r := ⟨_, rfl⟩
    rw [hr1, hr2]
    clear hE hr1 hr2
    have hli : ¬ 30 < (l.length : Int) := by omega
    by_cases hE0 : E = 0
    · subst hE0
      obtain ⟨m, hm, hrc⟩ := HOK.out rfl
      have HRC := Lib.hid hrc
      clear hrc
      go_wp2_with fail
      refine (RCheckRound_any w8 b p lq cap l.length lc (nthI l) hs HB8.out (by omega) HL8.out).mono ?_
      rintro e w9 ⟨rfl, hp⟩
      rw [HRC.out]
      have hP9 : Hid (Pure w w9) := hP8.out.trans hp
      have HA9 := Lib.hid (HA8.out.pure hp)
      have HC9 := Lib.hid (HC8.out.pure hp)
      have HB9 := Lib.hid (HB8.out.to hp)
      have HT9 := Lib.hid (HT8.out.to hp)
      have HG9 := Lib.hid (HG8.out.to hp)
      have HR9 := Lib.hid (HR8.out.to hp)
      have HO9 := Lib.hid (HO8.out.to hp)
      have HL9 := Lib.hid (HL8.out.to hp)
      clear hp hP8 HA8 HC8 za0 za1 za2 za3 zal zc0 zc1 zc2 zc3 zcl HB8 HT8 HG8 HR8 HO8 HL8
      obtain ⟨za0, za1, za2, za3, zal⟩ := HA9.out
      obtain ⟨zc0, zc1, zc2, zc3, zcl⟩ := HC9.out
      go_wp2_with fail
      refine (alikeBook_any w9 b p' p cap' cap hs HT9.out HB9.out).mono ?_
      rintro e w10 ⟨rfl, hp⟩
      have hP10 : Hid (Pure w w10) := hP9.out.trans hp
      have HA10 := Lib.hid (HA9.out.pure hp)
      have HC10 := Lib.hid (HC9.out.pure hp)
      have HB10 := Lib.hid (HB9.out.to hp)
      have HT10 := Lib.hid (HT9.out.to hp)
      have HG10 := Lib.hid (HG9.out.to hp)
      have HR10 := Lib.hid (HR9.out.to hp)
      have HO10 := Lib.hid (HO9.out.to hp)
      have HL10 := Lib.hid (HL9.out.to hp)
      clear hp hP9 HA9 HC9 za0 za1 za2 za3 zal zc0 zc1 zc2 zc3 zcl HB9 HT9 HG9 HR9 HO9 HL9
      obtain ⟨za0, za1, za2, za3, zal⟩ := HA10.out
      obtain ⟨zc0, zc1, zc2, zc3, zcl⟩ := HC10.out
      go_wp2_with fail
      refine (alikeInts_any w10 rq' rq n rc' rc f (by omega) HO10.out HR10.out).mono ?_
      rintro e w11 ⟨rfl, hp⟩
      have hP11 : Hid (Pure w w11) := hP10.out.trans hp
      have HA11 := Lib.hid (HA10.out.pure hp)
      have HC11 := Lib.hid (HC10.out.pure hp)
      have HB11 := Lib.hid (HB10.out.to hp)
      have HT11 := Lib.hid (HT10.out.to hp)
      have HG11 := Lib.hid (HG10.out.to hp)
      have HR11 := Lib.hid (HR10.out.to hp)
      have HO11 := Lib.hid (HO10.out.to hp)
      have HL11 := Lib.hid (HL10.out.to hp)
      clear hp hP10 HA10 HC10 za0 za1 za2 za3 zal zc0 zc1 zc2 zc3 zcl HB10 HT10 HG10 HR10 HO10 HL10
      obtain ⟨za0, za1, za2, za3, zal⟩ := HA11.out
      obtain ⟨zc0, zc1, zc2, zc3, zcl⟩ := HC11.out
      go_wp2_with fail
      refine (Works_any w11 HG11.out).mono ?_
      rintro e w12 ⟨rfl, hp⟩
      have hP12 : Hid (Pure w w12) := hP11.out.trans hp
      have HA12 := Lib.hid (HA11.out.pure hp)
      have HC12 := Lib.hid (HC11.out.pure hp)
      have HB12 := Lib.hid (HB11.out.to hp)
      have HT12 := Lib.hid (HT11.out.to hp)
      have HG12 := Lib.hid (HG11.out.to hp)
      have HR12 := Lib.hid (HR11.out.to hp)
      have HO12 := Lib.hid (HO11.out.to hp)
      have HL12 := Lib.hid (HL11.out.to hp)
      clear hp hP11 HA11 HC11 za0 za1 za2 za3 zal zc0 zc1 zc2 zc3 zcl HB11 HT11 HG11 HR11 HO11 HL11
      obtain ⟨za0, za1, za2, za3, zal⟩ := HA12.out
      obtain ⟨zc0, zc1, zc2, zc3, zcl⟩ := HC12.out
      go_wp2_with fail
      exact bodyPost_ret (v := .bool true) (by simp [results, Tryd.results6, go_sem]) rfl ⟨rfl, hP12.out⟩
    · have hl0 := HBAD.out hE0
      subst hl0
      go_wp2_with fail
      refine (alikeBook_any w8 b p' p cap' cap hs HT8.out HB8.out).mono ?_
      rintro e w9 ⟨rfl, hp⟩
      have hP9 : Hid (Pure w w9) := hP8.out.trans hp
      have HA9 := Lib.hid (HA8.out.pure hp)
      have HC9 := Lib.hid (HC8.out.pure hp)
      have HB9 := Lib.hid (HB8.out.to hp)
      have HT9 := Lib.hid (HT8.out.to hp)
      have HG9 := Lib.hid (HG8.out.to hp)
      have HR9 := Lib.hid (HR8.out.to hp)
      have HO9 := Lib.hid (HO8.out.to hp)
      have HL9 := Lib.hid (HL8.out.to hp)
      clear hp hP8 HA8 HC8 za0 za1 za2 za3 zal zc0 zc1 zc2 zc3 zcl HB8 HT8 HG8 HR8 HO8 HL8
      obtain ⟨za0, za1, za2, za3, zal⟩ := HA9.out
      obtain ⟨zc0, zc1, zc2, zc3, zcl⟩ := HC9.out
      go_wp2_with fail
      refine (alikeInts_any w9 rq' rq n rc' rc f (by omega) HO9.out HR9.out).mono ?_
      rintro e w10 ⟨rfl, hp⟩
      have hP10 : Hid (Pure w w10) := hP9.out.trans hp
      have HA10 := Lib.hid (HA9.out.pure hp)
      have HC10 := Lib.hid (HC9.out.pure hp)
      have HB10 := Lib.hid (HB9.out.to hp)
      have HT10 := Lib.hid (HT9.out.to hp)
      have HG10 := Lib.hid (HG9.out.to hp)
      have HR10 := Lib.hid (HR9.out.to hp)
      have HO10 := Lib.hid (HO9.out.to hp)
      have HL10 := Lib.hid (HL9.out.to hp)
      clear hp hP9 HA9 HC9 za0 za1 za2 za3 zal zc0 zc1 zc2 zc3 zcl HB9 HT9 HG9 HR9 HO9 HL9
      obtain ⟨za0, za1, za2, za3, zal⟩ := HA10.out
      obtain ⟨zc0, zc1, zc2, zc3, zcl⟩ := HC10.out
      go_wp2_with fail
      refine (Works_any w10 HG10.out).mono ?_
      rintro e w11 ⟨rfl, hp⟩
      have hP11 : Hid (Pure w w11) := hP10.out.trans hp
      have HA11 := Lib.hid (HA10.out.pure hp)
      have HC11 := Lib.hid (HC10.out.pure hp)
      have HB11 := Lib.hid (HB10.out.to hp)
      have HT11 := Lib.hid (HT10.out.to hp)
      have HG11 := Lib.hid (HG10.out.to hp)
      have HR11 := Lib.hid (HR10.out.to hp)
      have HO11 := Lib.hid (HO10.out.to hp)
      have HL11 := Lib.hid (HL10.out.to hp)
      clear hp hP10 HA10 HC10 za0 za1 za2 za3 zal zc0 zc1 zc2 zc3 zcl HB10 HT10 HG10 HR10 HO10 HL10
      obtain ⟨za0, za1, za2, za3, zal⟩ := HA11.out
      obtain ⟨zc0, zc1, zc2, zc3, zcl⟩ := HC11.out
      go_wp2_with fail
      exact bodyPost_ret (v := .bool true) (by simp [results, Tryd.results6, go_sem]) rfl ⟨rfl, hP11.out⟩
end Go.Proofs.YtmedkmbfggphdaaDoor
