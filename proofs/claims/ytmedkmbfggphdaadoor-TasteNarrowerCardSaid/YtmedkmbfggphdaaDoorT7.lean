/- TasteWrongs: the tastes one of which can be wrong are what the reference says. The walk of the law, for any book in memory. -/
import Derived.Test.YtmedkmbfggphdaaDoorT0
import Derived.Test.YtmedkmbfggphdaaDoorJ6
set_option linter.unusedSimpArgs false
set_option linter.unusedVariables false
set_option linter.constructorNameAsVariable false
namespace Go.Proofs.YtmedkmbfggphdaaDoor
open Go.RowKit

/-- A list of numbers and an error. -/
def WrQ (E : Int) (l : List Int) (e : Ending) (w' : World) : Prop :=
  ∃ q c, e = .returned (.tuple #[.slice q l.length c, .int .i64 E]) ∧ Row w'.heap.size w' q l.length (fun k => .int .i64 (nthI l k))
def wrE (b : BK) : Int := if checkB b ≠ 0 then checkB b else 0
def wrL (b : BK) : List Int := if checkB b ≠ 0 then [] else wrongTo b b.lots.toNat b.total
theorem row_of_vals {W : World} {B : Nat} {e : TypeId} {u : Value} {l : List Int} (h : W.ownsRow B e 1 u l.length (vals l)) : ∃ q c, u = .slice q l.length c ∧ Row W.heap.size W q l.length (fun k => .int .i64 (nthI l k)) := by
  obtain ⟨q, c, rfl, hc⟩ := slice_of_own h
  refine ⟨q, c, rfl, fun k hk => ?_⟩
  obtain ⟨g, rfl, hg, hx⟩ := hc k hk
  refine ⟨g, 0, rfl, hg, ?_⟩
  rw [Nat.zero_add, hx]
  have hn : nthI l k = l[k] := by unfold nthI; rw [List.getD_eq_getElem?_getD]; simp [hk]
  simp only [hn]
  simp [vals, hk]
theorem WrQ.of {b : BK} {w : World} {e : Ending} {w' : World} (h : wrongQ b w e w') : WrQ (wrE b) (wrL b) e w' := by
  unfold wrongQ at h
  unfold WrQ wrE wrL
  split at h
  · rename_i hc
    rw [if_pos hc, if_pos hc]
    exact ⟨none, 0, h, fun k hk => by simp at hk⟩
  · rename_i hc
    rw [if_neg hc, if_neg hc]
    obtain ⟨L, u, hL, rfl, ho⟩ := h
    have hL' : b.lots.toNat = L := by omega
    rw [hL']
    obtain ⟨q, c, rfl, hr⟩ := row_of_vals ho
    exact ⟨q, c, rfl, hr⟩
theorem Wrong_q (w : World) (b : BK) (p : Option Addr) (cap : Nat) (hs : b.Small) (hb : BookAt w.heap.size w p b) (hg : Gl w) :
    Calls Tryd.prog 44 #[bookV b p cap] w fun e w' => WrQ (wrE b) (wrL b) e w' ∧ Pure w w' := by
  refine (Wrong_any w b p cap hs hb hg).mono ?_
  rintro e w' ⟨h, hp⟩
  refine ⟨WrQ.of (w := w) ?_, hp⟩
  unfold wrongQ
  split
  · rename_i hc; rw [if_pos hc] at h; exact h
  · rename_i hc
    rw [if_neg hc] at h
    obtain ⟨u, L, h1, h2, h3⟩ := h
    exact ⟨L, u, h1, h2, h3⟩
theorem wrL_length (b : BK) : (wrL b).length ≤ 12 := by
  unfold wrL
  split
  · simp
  · rename_i hc
    have := wrongTo_length b b.lots.toNat b.total
    have := (checkB_valid (b := b) (by omega)).tot
    omega

set_option maxRecDepth 20000 in
set_option maxHeartbeats 8000000 in
theorem Wrongs_any (w : World) (b : BK) (p : Option Addr) (cap : Nat) (hb : BookAt w.heap.size w p b) (hg : Gl w) :
    Calls Tryd.prog 7 #[bookV b p cap] w fun e w' => e = .returned (.bool true) ∧ Pure w w' := by
  have HB := Lib.hid hb
  have HG := Lib.hid hg
  clear hb hg
  go_enter Tryd.func7, Tryd.ntmps7
  go_wp2_with fail
  obtain ⟨X, hX⟩ : ∃ X, w.alloc (.cells (bookC b p cap) 26) = X := ⟨_, rfl⟩
  have hP : Hid (Pure w X) := by rw [← hX]; exact (Diff.refl w).alloc _
  have hX1 : BoxB w.heap.size b p cap X := by rw [← hX]; exact BoxB.new w b p cap 26
  obtain ⟨g0, hg0⟩ : ∃ g, w.heap.size = g := ⟨_, rfl⟩
  rw [hX]
  rw [hg0] at hX1 ⊢
  clear hX hg0
  have H0 := Lib.hid hX1
  obtain ⟨c0, c1, c2, c3, cl⟩ := hX1
  refine (great_any X b p cap (HB.out.to hP.out)).mono ?_
  rintro e w1 ⟨rfl, hp1⟩
  have hP1 : Hid (Pure w w1) := hP.out.trans hp1
  have H1 := Lib.hid (H0.out.pure hp1)
  clear c0 c1 c2 c3 cl hp1 hP H0
  obtain ⟨c0, c1, c2, c3, cl⟩ := H1.out
  cases hgr : hugeB b with
  | true =>
    go_wp2_with fail
    refine (Works_any w1 (HG.out.to hP1.out)).mono ?_
    rintro e w2 ⟨rfl, hp2⟩
    have hP2 : Hid (Pure w w2) := hP1.out.trans hp2
    clear hp2
    go_wp2_with fail
    exact bodyPost_ret (v := .bool true) (by simp [results, Tryd.results7, go_sem]) rfl ⟨rfl, hP2.out⟩
  | false =>
    have hs := small_of_huge hgr
    go_wp2_with fail
    refine (twinBook_any w1 b p cap hs (HB.out.to hP1.out)).mono ?_
    rintro e w2 ⟨p', cap', rfl, hb2, hp2⟩
    have hP2 : Hid (Pure w w2) := hP1.out.trans hp2
    have H2 := Lib.hid (H1.out.pure hp2)
    have HT := Lib.hid hb2
    clear c0 c1 c2 c3 cl hp2 hP1 H1 hb2
    obtain ⟨c0, c1, c2, c3, cl⟩ := H2.out
    go_wp2_with fail
    clear c0 c1 c2 c3 cl
    obtain ⟨w3, hw3⟩ : ∃ w3, w2.alloc (.cells (bookC b p' cap') 26) = w3 := ⟨_, rfl⟩
    have hp : Pure w2 w3 := by rw [← hw3]; exact (Diff.refl w2).alloc _
    have hC : BoxB w2.heap.size b p' cap' w3 := by rw [← hw3]; exact BoxB.new w2 b p' cap' 26
    obtain ⟨g1, hg1⟩ : ∃ g, w2.heap.size = g := ⟨_, rfl⟩
    rw [hw3]
    rw [hg1] at hC ⊢
    have hP3 : Hid (Pure w w3) := hP2.out.trans hp
    have HA3 := Lib.hid (H2.out.pure hp)
    have HC3 := Lib.hid hC
    have HB3 := Lib.hid (HB.out.to hP3.out)
    have HG3 := Lib.hid (HG.out.to hP3.out)
    have HT3 := Lib.hid (HT.out.to hp)
    clear hw3 hg1 hp hC H2 HT HB HG hP2
    obtain ⟨za0, za1, za2, za3, zal⟩ := HA3.out
    obtain ⟨zc0, zc1, zc2, zc3, zcl⟩ := HC3.out
    have hn := wrL_length b
    refine (Wrong_q w3 b p' cap' hs HT3.out HG3.out).mono ?_
    rintro e w4 ⟨hq, hp⟩
    obtain ⟨p0, c0, rfl, hr0⟩ := hq
    have hP4 : Hid (Pure w w4) := hP3.out.trans hp
    have HA4 := Lib.hid (HA3.out.pure hp)
    have HC4 := Lib.hid (HC3.out.pure hp)
    have HB4 := Lib.hid (HB3.out.to hp)
    have HT4 := Lib.hid (HT3.out.to hp)
    have HG4 := Lib.hid (HG3.out.to hp)
    have R04 := Lib.hid (hr0)
    clear hp hP3 HA3 HC3 za0 za1 za2 za3 zal zc0 zc1 zc2 zc3 zcl HB3 HT3 HG3
    obtain ⟨za0, za1, za2, za3, zal⟩ := HA4.out
    obtain ⟨zc0, zc1, zc2, zc3, zcl⟩ := HC4.out
    clear hr0
    go_wp2_with fail
    refine (RWrong_any w4 b p cap hs HB4.out).mono ?_
    rintro e w5 ⟨hq, hp⟩
    obtain ⟨p1, c1, rfl, hr1⟩ := WrQ.of hq
    have hP5 : Hid (Pure w w5) := hP4.out.trans hp
    have HA5 := Lib.hid (HA4.out.pure hp)
    have HC5 := Lib.hid (HC4.out.pure hp)
    have HB5 := Lib.hid (HB4.out.to hp)
    have HT5 := Lib.hid (HT4.out.to hp)
    have HG5 := Lib.hid (HG4.out.to hp)
    have R05 := Lib.hid (R04.out.to hp)
    have R15 := Lib.hid (hr1)
    clear hp hP4 HA4 HC4 za0 za1 za2 za3 zal zc0 zc1 zc2 zc3 zcl HB4 HT4 HG4 R04
    obtain ⟨za0, za1, za2, za3, zal⟩ := HA5.out
    obtain ⟨zc0, zc1, zc2, zc3, zcl⟩ := HC5.out
    clear hr1 hq
    go_wp2_with fail
    refine (Ints_same w5 p0 p1 (wrL b).length c0 c1 _ _ (by omega) (fun k _ => rfl) R05.out R15.out).mono ?_
    rintro e w6 ⟨rfl, hp⟩
    have hP6 : Hid (Pure w w6) := hP5.out.trans hp
    have HA6 := Lib.hid (HA5.out.pure hp)
    have HC6 := Lib.hid (HC5.out.pure hp)
    have HB6 := Lib.hid (HB5.out.to hp)
    have HT6 := Lib.hid (HT5.out.to hp)
    have HG6 := Lib.hid (HG5.out.to hp)
    have R06 := Lib.hid (R05.out.to hp)
    have R16 := Lib.hid (R15.out.to hp)
    clear hp hP5 HA5 HC5 za0 za1 za2 za3 zal zc0 zc1 zc2 zc3 zcl HB5 HT5 HG5 R05 R15
    obtain ⟨za0, za1, za2, za3, zal⟩ := HA6.out
    obtain ⟨zc0, zc1, zc2, zc3, zcl⟩ := HC6.out
    go_wp2_with fail
    refine (alikeBook_any w6 b p' p cap' cap hs HT6.out HB6.out).mono ?_
    rintro e w7 ⟨rfl, hp⟩
    have hP7 : Hid (Pure w w7) := hP6.out.trans hp
    have HA7 := Lib.hid (HA6.out.pure hp)
    have HC7 := Lib.hid (HC6.out.pure hp)
    have HB7 := Lib.hid (HB6.out.to hp)
    have HT7 := Lib.hid (HT6.out.to hp)
    have HG7 := Lib.hid (HG6.out.to hp)
    have R07 := Lib.hid (R06.out.to hp)
    have R17 := Lib.hid (R16.out.to hp)
    clear hp hP6 HA6 HC6 za0 za1 za2 za3 zal zc0 zc1 zc2 zc3 zcl HB6 HT6 HG6 R06 R16
    obtain ⟨za0, za1, za2, za3, zal⟩ := HA7.out
    obtain ⟨zc0, zc1, zc2, zc3, zcl⟩ := HC7.out
    go_wp2_with fail
    refine (Works_any w7 HG7.out).mono ?_
    rintro e w8 ⟨rfl, hp⟩
    have hP8 : Hid (Pure w w8) := hP7.out.trans hp
    have HA8 := Lib.hid (HA7.out.pure hp)
    have HC8 := Lib.hid (HC7.out.pure hp)
    have HB8 := Lib.hid (HB7.out.to hp)
    have HT8 := Lib.hid (HT7.out.to hp)
    have HG8 := Lib.hid (HG7.out.to hp)
    have R08 := Lib.hid (R07.out.to hp)
    have R18 := Lib.hid (R17.out.to hp)
    clear hp hP7 HA7 HC7 za0 za1 za2 za3 zal zc0 zc1 zc2 zc3 zcl HB7 HT7 HG7 R07 R17
    obtain ⟨za0, za1, za2, za3, zal⟩ := HA8.out
    obtain ⟨zc0, zc1, zc2, zc3, zcl⟩ := HC8.out
    go_wp2_with fail
    exact bodyPost_ret (v := .bool true) (by simp [results, Tryd.results7, go_sem]) rfl ⟨rfl, hP8.out⟩
end Go.Proofs.YtmedkmbfggphdaaDoor
